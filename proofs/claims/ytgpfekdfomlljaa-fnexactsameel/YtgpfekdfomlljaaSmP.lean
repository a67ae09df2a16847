/- Plain: two elements are alike: each pair alone, and their kids. -/
import Derived.Test.YtgpfekdfomlljaaRwP
import Derived.Test.YtgpfekdfomlljaaElSame
namespace Go.Proofs.Ytgpfekdfomlljaa.Sg

/-- Alike but for their kids. -/
def aloneE : ElB → ElB → Bool
  | .mk k1 s1 n1 a1 t1 _, .mk k2 s2 n2 a2 t2 _ => decide (k1 = k2) && (decide (s1 = s2) && ((n1.toList == n2.toList) && ((t1.toList == t2.toList) && sameA a1 a2)))
def aloneEs : List ElB → List ElB → Bool
  | [], _ => true
  | _ :: _, [] => false
  | e :: es, f :: fs => aloneE e f && aloneEs es fs
theorem aloneEs_drop : ∀ (es fs : List ElB) (k : Nat) (h1 : k < es.length) (h2 : k < fs.length), aloneEs (es.drop k) (fs.drop k) = (aloneE (es[k]'h1) (fs[k]'h2) && aloneEs (es.drop (k + 1)) (fs.drop (k + 1)))
  | [], _, k, h, _ => absurd h (by simp)
  | _ :: _, [], k, _, h => absurd h (by simp)
  | e :: es, f :: fs, 0, _, _ => by simp [aloneEs]
  | e :: es, f :: fs, k + 1, h1, h2 => by
    have := aloneEs_drop es fs k (by simpa using h1) (by simpa using h2)
    simpa using this
/-- Two lists are alike. -/
def samP (p : List ElB × List ElB) : Bool := decide (p.1.length = p.2.length) && sameEs p.1 p.2
theorem sameE_alone (e f : ElB) : sameE e f = (aloneE e f && samP (kidsE e, kidsE f)) := by
  obtain ⟨k1, s1, n1, a1, t1, ks1⟩ := e
  obtain ⟨k2, s2, n2, a2, t2, ks2⟩ := f
  rw [sameE]
  show _ = ((decide (k1 = k2) && (decide (s1 = s2) && ((n1.toList == n2.toList) && ((t1.toList == t2.toList) && sameA a1 a2)))) && (decide (ks1.length = ks2.length) && sameEs ks1 ks2))
  generalize decide (k1 = k2) = x1
  generalize decide (s1 = s2) = x2
  generalize (n1.toList == n2.toList) = x3
  generalize (t1.toList == t2.toList) = x4
  generalize decide (ks1.length = ks2.length) = x5
  generalize sameA a1 a2 = x6
  generalize sameEs ks1 ks2 = x7
  cases x1 <;> cases x2 <;> cases x3 <;> cases x4 <;> cases x5 <;> cases x6 <;> cases x7 <;> rfl
/-- The pairs of kids. -/
def zk (xs ys : List ElB) : List (List ElB × List ElB) := List.zipWith (fun a b => (kidsE a, kidsE b)) xs ys
theorem zk_len {xs ys : List ElB} (h : xs.length = ys.length) : (zk xs ys).length = xs.length := by simp [zk, h]
theorem zk_step (xs ys : List ElB) (j : Nat) (h1 : j < xs.length) (h2 : j < ys.length) : (zk xs ys).take (j + 1) = (zk xs ys).take j ++ [(kidsE (xs[j]'h1), kidsE (ys[j]'h2))] := by
  have h : j < (zk xs ys).length := by simp [zk]; omega
  rw [List.take_succ_eq_append_getElem h]
  simp [zk]
theorem samP_alone : ∀ (xs ys : List ElB), xs.length = ys.length → sameEs xs ys = (aloneEs xs ys && (zk xs ys).all samP)
  | [], ys, _ => by simp [sameEs, aloneEs, zk]
  | _ :: _, [], h => by simp at h
  | a :: xs, b :: ys, h => by
    rw [sameEs, aloneEs, samP_alone xs ys (by simpa using h), sameE_alone]
    simp only [zk, List.zipWith_cons_cons, List.all_cons]
    generalize aloneE a b = x1
    generalize samP (kidsE a, kidsE b) = x2
    generalize aloneEs xs ys = x3
    generalize (List.zipWith (fun a b => (kidsE a, kidsE b)) xs ys).all samP = x4
    cases x1 <;> cases x2 <;> cases x3 <;> cases x4 <;> rfl
/-- How many rounds there are at most. -/
def wP (st : List (List ElB × List ElB)) : Nat := (st.map fun p => elsN p.1 + 1).sum
theorem wP_append (a b : List (List ElB × List ElB)) : wP (a ++ b) = wP a + wP b := by simp [wP]
theorem wP_len : ∀ st : List (List ElB × List ElB), st.length ≤ wP st
  | [] => Nat.zero_le _
  | r :: st => by
    have := wP_len st
    rw [show r :: st = [r] ++ st from rfl, wP_append]
    simp [wP] at *
    omega
theorem wP_zk : ∀ xs ys : List ElB, wP (zk xs ys) ≤ elsN xs
  | [], ys => by simp [zk, wP]
  | _ :: _, [] => by simp [zk, wP]
  | a :: xs, b :: ys => by
    have ih := wP_zk xs ys
    have hn := elN_kids a
    rw [elsN, show zk (a :: xs) (b :: ys) = [(kidsE a, kidsE b)] ++ zk xs ys from rfl, wP_append]
    have h1 : wP [(kidsE a, kidsE b)] = elsN (kidsE a) + 1 := by simp [wP]
    omega

/-- A pair as it lies. -/
structure PairX where
  a : Option Addr
  ac : Nat
  xs : List ElB
  b : Option Addr
  bc : Nat
  ys : List ElB
def PairX.p (r : PairX) : List ElB × List ElB := (r.xs, r.ys)
def pairCs (st : List PairX) : List Value := st.flatMap fun r => [.slice r.a r.xs.length r.ac, .slice r.b r.ys.length r.bc]
theorem pairCs_append (a b : List PairX) : pairCs (a ++ b) = pairCs a ++ pairCs b := by simp [pairCs]
theorem pairCs_len : ∀ st : List PairX, (pairCs st).length = st.length * 2
  | [] => rfl
  | r :: st => by
    have := pairCs_len st
    rw [show r :: st = [r] ++ st from rfl, pairCs_append, List.length_append, this]
    simp [pairCs]
    omega
theorem pairCs_last (st : List PairX) (r : PairX) : (pairCs (st ++ [r]))[st.length * 2]? = some (.slice r.a r.xs.length r.ac) ∧ (pairCs (st ++ [r]))[st.length * 2 + 1]? = some (.slice r.b r.ys.length r.bc) := by
  have h := pairCs_len st
  rw [pairCs_append, List.getElem?_append_right (by omega), List.getElem?_append_right (by omega), h]
  have e1 : st.length * 2 - st.length * 2 = 0 := by omega
  have e2 : st.length * 2 + 1 - st.length * 2 = 1 := by omega
  rw [e1, e2]
  exact ⟨rfl, rfl⟩
theorem pairCs_cut (st : List PairX) (r : PairX) : (pairCs (st ++ [r])).take (st.length * 2) = pairCs st := by
  rw [pairCs_append, ← pairCs_len st, List.take_left]

end Go.Proofs.Ytgpfekdfomlljaa.Sg
