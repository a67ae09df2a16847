/- Contracts of the program's attrNamed and firstOnes. -/
import Derived.Test.YtlaidaghmhmgbaaDoorTkAttrsQ
import Derived.Test.YtlaidaghmhmgbaaDoorRfImplNQ
import Derived.ArgAppend
namespace Go.Proofs.YtlaidaghmhmgbaaDoor.Sg
open Go.ChangeShapes Go.WideShapes Go.ChangeAt Go.RowKit

/-- The attribute of that name; the empty one where there is none. -/
def findA : List AttrB → ByteArray → AttrB
  | [], _ => (⟨#[]⟩, ⟨#[]⟩)
  | p :: l, x => if p.1.toList == x.toList then p else findA l x
theorem findA_drop (l : List AttrB) (x : ByteArray) (k : Nat) (h : k < l.length) : findA (l.drop k) x = if (l.getD k (ByteArray.empty, ByteArray.empty)).1.toList == x.toList then l.getD k (ByteArray.empty, ByteArray.empty) else findA (l.drop (k + 1)) x := by
  have e : l.getD k (ByteArray.empty, ByteArray.empty) = l[k]'h := by simp [List.getD, h]
  rw [List.drop_eq_getElem_cons h, findA, e]
theorem findA_none (l : List AttrB) (x : ByteArray) (h : hasA l x = false) : findA l x = (⟨#[]⟩, ⟨#[]⟩) := by
  induction l with
  | nil => rfl
  | cons p l ih =>
    unfold hasA at h
    rw [List.any_cons] at h
    have h1 : (p.1.toList == x.toList) = false := by
      cases hh : p.1.toList == x.toList
      · rfl
      · rw [hh] at h; cases h
    rw [h1] at h
    rw [findA, h1]
    exact ih h
theorem findA_some (l : List AttrB) (x : ByteArray) (h : hasA l x = true) : (findA l x).1.toList = x.toList := by
  induction l with
  | nil => cases h
  | cons p l ih =>
    rw [findA]
    cases hh : p.1.toList == x.toList
    · unfold hasA at h
      rw [List.any_cons, hh] at h
      exact ih h
    · exact beq_iff_eq.1 hh

set_option maxHeartbeats 1000000 in
/-- Two attributes are compared name by name, value by value. -/
theorem eq_attr (a b c d : ByteArray) (w : World) : (Op.equalIn 10000 37 (.agg #[.string a, .string b]) (.agg #[.string c, .string d])).run Tryd.prog w = .ok (a.toList == c.toList && b.toList == d.toList) w := by
  have u3 := Tryd.underlying9
  have a3 := Tryd.isAgg9
  have z3 := Tryd.sizeOf9
  have hS : Tryd.prog.underlying 37 = some (.struct (Tryd.prog.fieldsOf 37)) := by kernel_rfl
  rw [show (10000 : Nat) = 9999 + 1 from rfl, run_equalIn_agg w 9999 37 _ _ hS (by kernel_rfl)]
  simp only [Program.fieldsOf, Tryd.underlying37]
  go_simp
  by_cases h1 : a.toList = c.toList <;> by_cases h2 : b.toList = d.toList <;> simp [h1, h2]

theorem Two.get {w : World} {b : Nat} {x y : Value} (h : Two w b x y) : w.cell? ⟨b, 0, none⟩ = some x ∧ w.cell? ⟨b, 1, none⟩ = some y := ⟨h.2.1, h.2.2.1⟩

set_option maxHeartbeats 2000000 in
theorem implAttrNamed (l : List AttrB) (x : ByteArray) (a : Option Addr) (n cap : Nat) (w : World) (ha : AttrsAt w a l) (hl : l.length = n) (hn : n ≤ 17592186044416) (y z : ByteArray) (Hy : Hid (findA l x = (y, z))) :
    Calls Tryd.prog 67 #[.slice a n cap, .string x] w fun e w' => e = .returned (.agg #[.string y, .string z]) ∧ Below w.heap.size w w' := by
  have Hl : Hid (l.length = n) := hl
  have Ha : Hid (AttrsAt w a l) := ha
  clear hl ha
  go_enter Tryd.func67, Tryd.ntmps67
  go_wp2
  go_loopw [9] (fun v wr => ∃ k : Nat, k ≤ n ∧ v = .int .i64 (k : Int) ∧ Hid (findA (l.drop k) x = (y, z)) ∧ Below w.heap.size w wr ∧ Hid (Two wr w.heap.size (.string ⟨#[]⟩) (.string ⟨#[]⟩))) (fun v _ => n - (intOf v).toNat)
  case atStart => exact ⟨0, Nat.zero_le _, rfl, Hy, (Below.refl _ _).alloc (Nat.le_refl _) _, Two.new _ _ _ _⟩
  case round =>
    obtain ⟨k, hk, rfl, Hsp, hbel, HT⟩ := hrel
    obtain ⟨z0, t0, t1, f0, f1⟩ := HT.out
    by_cases hlt : k < n
    · have hkl : k < l.length := by rw [Hl.out]; exact hlt
      rcases Ha.out with h | ⟨b, rfl, hb, hc⟩
      · rw [h] at hkl
        exact absurd hkl (Nat.not_lt_zero _)
      have hd := findA_drop l x k hkl
      obtain ⟨c1, c2⟩ := hc k hkl
      clear hc hkl
      have c1' := (hbel.cell (p := ⟨b, k * 2, none⟩) hb).trans c1
      have c2' := (hbel.cell (p := ⟨b, k * 2 + 1, none⟩) hb).trans c2
      clear c1 c2
      generalize l.getD k (ByteArray.empty, ByteArray.empty) = p at *
      obtain ⟨p1, p2⟩ := p
      have k0 : (0 : Int) ≤ (k : Int) := by omega
      have k1 : (k : Int) < (n : Int) := by omega
      cases hq : p1.toList == x.toList
      · have Hn : Hid (findA (l.drop (k + 1)) x = (y, z)) := by
          show _ = _
          rw [← Hsp.out, hd]
          simp only [hq]
          rfl
        clear hd Hsp
        go_wp2_with fail
        go_roundw
        case rel => exact ⟨k + 1, by omega, by go_num, Hn, hbel.alloc hbel.size _, HT.out.alloc _⟩
        case measure => simp [intOf]; omega
      · have Hn : Hid ((p1, p2) = (y, z)) := by
          show _ = _
          rw [← Hsp.out, hd]
          simp only [hq]
          rfl
        have T := HT.out.set (.string p1) (.string p2)
        clear hd Hsp
        go_wp2_with fail
        have T2 := T.alloc (.cells #[.string p1, .string p2] 37)
        refine bodyPost_ret (v := .agg #[.string p1, .string p2]) ?_ rfl ⟨congrArg (fun q : AttrB => Ending.returned (.agg #[.string q.1, .string q.2])) Hn.out, ?_⟩
        · simp [results, Tryd.results67, go_sem, T2.2.1, T2.2.2.1]
        · exact ((hbel.setCell (Nat.le_refl _) _).setCell (Nat.le_refl _) _).alloc (by simp; omega) _
    · have Hn : Hid ((⟨#[]⟩, ⟨#[]⟩) = (y, z)) := by
        show _ = _
        rw [← Hsp.out, List.drop_eq_nil_of_le (by have := Hl.out; omega)]
        rfl
      have g0 : decide ((k : Int) < (n : Int)) = false := decide_eq_false (by omega)
      have T := HT.out.set (.string ⟨#[]⟩) (.string ⟨#[]⟩)
      clear Hsp
      go_wp2_with fail
      refine bodyPost_ret (v := .agg #[.string ⟨#[]⟩, .string ⟨#[]⟩]) ?_ rfl ⟨congrArg (fun q : AttrB => Ending.returned (.agg #[.string q.1, .string q.2])) Hn.out, ?_⟩
      · simp [results, Tryd.results67, go_sem, T.2.1, T.2.2.1]
      · exact (hbel.setCell (Nat.le_refl _) _).setCell (Nat.le_refl _) _

/-- One more attribute, where none of that name is there. -/
def keepA (out : List AttrB) (p : AttrB) : List AttrB := if hasA out p.1 then out else out ++ [p]
def firstA (l : List AttrB) : List AttrB := l.foldl keepA []
theorem keepA_len (out : List AttrB) (p : AttrB) : (keepA out p).length ≤ out.length + 1 := by
  unfold keepA
  split
  · omega
  · simp
theorem fold_drop (l out : List AttrB) (k : Nat) (h : k < l.length) : (l.drop k).foldl keepA out = (l.drop (k + 1)).foldl keepA (keepA out (l.getD k (ByteArray.empty, ByteArray.empty))) := by
  have e : l.getD k (ByteArray.empty, ByteArray.empty) = l[k]'h := by simp [List.getD, h]
  rw [List.drop_eq_getElem_cons h, List.foldl_cons, e]

theorem AttrsAt.below {w w' : World} {a : Option Addr} {l : List AttrB} (h : AttrsAt w a l) (hb : Below w.heap.size w w') : AttrsAt w' a l := by
  rcases h with h | ⟨b, h1, h2, h3⟩
  · exact .inl h
  · exact .inr ⟨b, h1, Nat.lt_of_lt_of_le h2 hb.size, fun k hk => ⟨(hb.cell h2).trans (h3 k hk).1, (hb.cell h2).trans (h3 k hk).2⟩⟩
theorem own_mono {w : World} {B B' : Nat} {e : TypeId} {z : Nat} {v : Value} {n : Nat} {xs : List Value} (h : w.ownsRow B' e z v n xs) (hB : B ≤ B') : w.ownsRow B e z v n xs := by
  obtain ⟨h1, h2⟩ := h
  refine ⟨h1, ?_⟩
  rcases h2 with h2 | ⟨g, cap, cur, h3, h4, h5⟩
  · exact .inl h2
  · exact .inr ⟨g, cap, cur, h3, Nat.le_trans hB h4, h5⟩

theorem eq_zero_yes (w : World) : (Op.equalIn 10000 37 (.agg #[.string ⟨#[]⟩, .string ⟨#[]⟩]) (.agg #[.string ⟨#[]⟩, .string ⟨#[]⟩])).run Tryd.prog w = .ok true w := by
  rw [eq_attr]
  simp
theorem eq_zero_no (y z : ByteArray) (h : y.toList ≠ []) (w : World) : (Op.equalIn 10000 37 (.agg #[.string y, .string z]) (.agg #[.string ⟨#[]⟩, .string ⟨#[]⟩])).run Tryd.prog w = .ok false w := by
  have e : (y.toList == (⟨#[]⟩ : ByteArray).toList) = false := by
    apply Bool.eq_false_iff.2
    intro h2
    apply h
    rw [beq_iff_eq.1 h2]
    exact ByteArray.toList_mk _
  rw [eq_attr, e]
  rfl

set_option maxHeartbeats 4000000 in
theorem implFirstOnes (B : Nat) (l : List AttrB) (v : Value) (w : World) (hown : w.ownsRow B 37 2 v l.length (attrCells l)) (hnil : l = [] → v = .slice none 0 0) (hne : ∀ p ∈ l, p.1.toList ≠ []) (hn : l.length ≤ 1099511627776) :
    Calls Tryd.prog 36 #[v] w fun e w' => ∃ v', e = .returned v' ∧ w'.ownsRow w.heap.size 37 2 v' (firstA l).length (attrCells (firstA l)) ∧ Below w.heap.size w w' := by
  obtain ⟨i0, hi0, hz0, hz1, hz2⟩ := info_parts info_attr
  have Hi : Hid (Tryd.prog.info? 37 = some i0) := hi0
  have Hz0 : Hid (i0.zero = some (.agg #[.string ⟨#[]⟩, .string ⟨#[]⟩])) := hz0
  have Hz1 : Hid (i0.size = 2) := hz1
  have Hz2 : Hid (i0.bytes = 32) := hz2
  clear hi0 hz0 hz1 hz2
  by_cases hl0 : l = []
  · subst hl0
    obtain rfl := hnil rfl
    go_enter Tryd.func36, Tryd.ntmps36
    go_wp2
    go_loopw [10, 3] (fun i kv wr => i = .int .i64 0 ∧ kv = .slice none 0 0 ∧ wr = w) (fun _ _ _ => 0)
    case atStart => exact ⟨rfl, rfl, rfl⟩
    case round =>
      obtain ⟨rfl, rfl, rfl⟩ := hrel
      go_wp2
      go_ret
      exact ⟨_, rfl, World.ownsRow_nil _ _ _ _, Below.refl _ _⟩
  obtain ⟨a, cap, rfl, hA⟩ := attrs_of_own hown
  rcases hA with h | ⟨g, rfl, hg, hc⟩
  · exact absurd h hl0
  have Hc : Hid (∀ k, k < l.length → w.cell? ⟨g, k * 2, none⟩ = some (.string (l.getD k (ByteArray.empty, ByteArray.empty)).1) ∧ w.cell? ⟨g, k * 2 + 1, none⟩ = some (.string (l.getD k (ByteArray.empty, ByteArray.empty)).2)) := hc
  have Hne : Hid (∀ k, k < l.length → (l.getD k (ByteArray.empty, ByteArray.empty)).1.toList ≠ []) := fun k hk => by
    apply hne
    simp [List.getD, hk]
  have hl1 : 0 < l.length := List.length_pos_iff.2 hl0
  obtain ⟨n, Hnl⟩ : ∃ n, Hid (l.length = n) := ⟨_, rfl⟩
  clear hown hnil hne hc hl0
  rw [Hnl.out] at Hc Hne hl1 hn ⊢
  go_enter Tryd.func36, Tryd.ntmps36
  go_wp2
  go_loopw [10, 3] (fun iv kv wr => ∃ (k : Nat) (out : List AttrB), k ≤ n ∧ iv = .int .i64 (k : Int) ∧ out.length ≤ k ∧ Hid ((l.drop k).foldl keepA out = firstA l) ∧ Below w.heap.size w wr ∧ ((k = 0 ∧ out = [] ∧ kv = .slice (some ⟨g, 0, none⟩) 0 0) ∨ (0 < k ∧ wr.ownsRow w.heap.size 37 2 kv out.length (attrCells out)))) (fun iv _ _ => n - (intOf iv).toNat)
  case atStart => exact ⟨0, [], Nat.zero_le _, rfl, Nat.zero_le _, rfl, Below.refl _ _, .inl ⟨rfl, rfl, rfl⟩⟩
  case round =>
    obtain ⟨k, out, hk, rfl, hol, Hf, hbel, hkv⟩ := hrel
    by_cases hlt : k < n
    · have hkl : k < l.length := by rw [Hnl.out]; exact hlt
      have hd := fold_drop l out k hkl
      obtain ⟨c1, c2⟩ := Hc.out k hlt
      have hpn := Hne.out k hlt
      have c1' := (hbel.cell (p := ⟨g, k * 2, none⟩) hg).trans c1
      have c2' := (hbel.cell (p := ⟨g, k * 2 + 1, none⟩) hg).trans c2
      clear c1 c2 hkl
      generalize l.getD k (ByteArray.empty, ByteArray.empty) = p at *
      obtain ⟨p1, p2⟩ := p
      have k0 : (0 : Int) ≤ (k : Int) := by omega
      have k1 : (k : Int) < (n : Int) := by omega
      rcases hkv with ⟨rfl, rfl, rfl⟩ | ⟨hk0, hown⟩
      · have Hn : Hid ((l.drop (0 + 1)).foldl keepA [(p1, p2)] = firstA l) := by
          show _ = _
          rw [← Hf.out, hd]
          rfl
        have HA : Hid (∀ W : World, Calls Tryd.prog 67 #[.slice (some ⟨g, 0, none⟩) 0 0, .string p1] W fun e w' => e = .returned (.agg #[.string ⟨#[]⟩, .string ⟨#[]⟩]) ∧ Below W.heap.size W w') := fun W => implAttrNamed [] p1 _ 0 0 W (.inl rfl) rfl (by decide) ⟨#[]⟩ ⟨#[]⟩ rfl
        have he := eq_zero_yes
        have T := Two.new wr (.string p1) (.string p2) 37
        have hbelA : Below w.heap.size w (wr.alloc (.cells #[.string p1, .string p2] 37)) := hbel.alloc hbel.size _
        clear hd Hf hpn
        go_wp2_with fail
        refine (HA.out _).mono ?_
        rintro e w2 ⟨rfl, b2⟩
        have T2 := T.below T.1 b2
        have hbel2 := hbelA.trans (b2.mono hbelA.size)
        obtain ⟨_, t0, t1, _, _⟩ := T2
        clear T b2 hbelA
        go_wp2_with (at_builtin; refine wpList_append_grows _ rfl (.tmp 20) (.tmp 22) 28 rfl 37 i0 (.agg #[.string ⟨#[]⟩, .string ⟨#[]⟩]) 2 32 Tryd.underlying28 Hi.out Hz0.out Hz1.out Hz2.out rfl (by decide) (some ⟨g, 0, none⟩) 0 0 [] rfl (fun h => by cases h) rfl (fun _ _ _ _ h => by cases h) ⟨_, 0, none⟩ 1 1 [.string p1, .string p2] rfl rfl (two_at _ _ _ _) (two_one _ _) (by decide) (by decide) (by decide) ?_)
        intro v' w5 hown' hgrow
        have hbel5 : Below w.heap.size w w5 := (hbel2.alloc hbel2.size _).grown hgrow (by have := hbel2.size; simp; omega) (by intro r hr; cases hr)
        have hown5 : w5.ownsRow w.heap.size 37 2 v' ([(p1, p2)] : List AttrB).length (attrCells [(p1, p2)]) := own_mono hown' (by have := hbel2.size; simp; omega)
        clear hown' hgrow
        go_wp2
        go_roundw
        case rel => exact ⟨1, [(p1, p2)], by omega, by go_num, Nat.le_refl _, Hn, hbel5, .inr ⟨by omega, hown5⟩⟩
        case measure => simp [intOf]; omega
      · obtain ⟨a, cp, rfl, hAt⟩ := attrs_of_own hown
        obtain ⟨y, z, Hyz⟩ : ∃ y z, Hid (findA out p1 = (y, z)) := ⟨_, _, rfl⟩
        have HA : Hid (∀ W : World, Below wr.heap.size wr W → Calls Tryd.prog 67 #[.slice a out.length cp, .string p1] W fun e w' => e = .returned (.agg #[.string y, .string z]) ∧ Below W.heap.size W w') := fun W hW => implAttrNamed out p1 a out.length cp W (hAt.below hW) rfl (by omega) y z Hyz
        have T := Two.new wr (.string p1) (.string p2) 37
        have hbA : Below wr.heap.size wr (wr.alloc (.cells #[.string p1, .string p2] 37)) := (Below.refl _ _).alloc (Nat.le_refl _) _
        clear hAt
        cases hh : hasA out p1
        · have Hn : Hid ((l.drop (k + 1)).foldl keepA (out ++ [(p1, p2)]) = firstA l) := by
            show _ = _
            rw [← Hf.out, hd]
            unfold keepA
            rw [hh]
            rfl
          have hyz := Hyz.out
          rw [findA_none out p1 hh] at hyz
          obtain ⟨rfl, rfl⟩ := Prod.mk.inj hyz
          have he := eq_zero_yes
          clear hd Hf hpn hh hyz Hyz
          go_wp2_with fail
          refine (HA.out _ hbA).mono ?_
          rintro e w2 ⟨rfl, b2⟩
          have T2 := T.below T.1 b2
          have hb2 : Below wr.heap.size wr w2 := hbA.trans (b2.mono hbA.size)
          have hbel2 := hbel.trans (hb2.mono hbel.size)
          have hown2 := owns_below hown (Nat.le_refl _) hb2
          obtain ⟨_, t0, t1, _, _⟩ := T2
          clear T b2 hbA hb2 hown HA
          go_wp2_with (at_builtin; refine wpList_append_own _ rfl (.tmp 20) (.tmp 22) 28 rfl w.heap.size 37 i0 (.agg #[.string ⟨#[]⟩, .string ⟨#[]⟩]) 2 32 Tryd.underlying28 Hi.out Hz0.out Hz1.out Hz2.out rfl (by decide) _ out.length (attrCells out) rfl (hown2.alloc _) ⟨_, 0, none⟩ 1 1 [.string p1, .string p2] rfl rfl (two_at _ _ _ _) (two_one _ _) ?c3 ?c4 ?c5 ?_)
          case c3 => unfold maxLen; omega
          case c4 => omega
          case c5 => have := hbel2.size; first | omega | (simp; omega)
          intro v' w5 hown' hgrow _
          have hbel5 : Below w.heap.size w w5 := own_grown2 (hown2.alloc _) (hbel2.alloc hbel2.size _) (Nat.le_refl _) hgrow (by have := hbel2.size; simp; omega)
          have hown5 : w5.ownsRow w.heap.size 37 2 v' (out ++ [(p1, p2)]).length (attrCells (out ++ [(p1, p2)])) := by
            rw [List.length_append, attrCells_more]
            exact hown'
          clear hown' hgrow hown2
          go_wp2
          go_roundw
          case rel => exact ⟨k + 1, out ++ [(p1, p2)], by omega, by go_num, by rw [List.length_append]; show out.length + 1 ≤ k + 1; omega, Hn, hbel5, .inr ⟨by omega, hown5⟩⟩
          case measure => simp [intOf]; omega
        · have Hn : Hid ((l.drop (k + 1)).foldl keepA out = firstA l) := by
            show _ = _
            rw [← Hf.out, hd]
            unfold keepA
            rw [hh]
            rfl
          have hy : y.toList ≠ [] := by
            have h := findA_some out p1 hh
            rw [Hyz.out] at h
            show y.toList ≠ []
            rw [show y.toList = p1.toList from h]
            exact hpn
          have he := eq_zero_no y z hy
          clear hd Hf hpn hh Hyz hy
          go_wp2_with fail
          refine (HA.out _ hbA).mono ?_
          rintro e w2 ⟨rfl, b2⟩
          have hb2 : Below wr.heap.size wr w2 := hbA.trans (b2.mono hbA.size)
          have hbel2 := hbel.trans (hb2.mono hbel.size)
          have hown2 := owns_below hown (Nat.le_refl _) hb2
          clear T b2 hbA hb2 hown HA
          go_wp2_with fail
          go_roundw
          case rel => exact ⟨k + 1, out, by omega, by go_num, by omega, Hn, hbel2, .inr ⟨by omega, hown2⟩⟩
          case measure => simp [intOf]; omega
    · have Hn : Hid (out = firstA l) := by
        show _ = _
        rw [← Hf.out, List.drop_eq_nil_of_le (by have := Hnl.out; omega)]
        rfl
      have g0 : decide ((k : Int) < (n : Int)) = false := decide_eq_false (by omega)
      rcases hkv with ⟨hk0, _, _⟩ | ⟨_, hown⟩
      · omega
      rw [Hn.out] at hown
      clear Hf
      go_wp2
      go_ret
      exact ⟨_, rfl, hown, hbel⟩

end Go.Proofs.YtlaidaghmhmgbaaDoor.Sg
