/- Contracts of the laws' marks of pages, and of held pages. -/
import Derived.Test.YtlnegnikedinaaaLwItHd
import Derived.Test.YtlnegnikedinaaaLwPgTo
namespace Go.Proofs.Ytlnegnikedinaaa.Sg
open Go.ChangeShapes Go.WideShapes Go.ChangeAt Go.RowKit

/-- A page that is marked from k on, and how many marks that takes. -/
def markPg (k : Nat) (p : PgB) : PgB := ⟨markIts k p.its, cntL (k + markIs p.its) p.opn.length, cntL (k + markIs p.its + p.opn.length) p.fms.length, p.hd, p.bd⟩
def markPn (p : PgB) : Nat := markIs p.its + p.opn.length + p.fms.length

/-- The blocks of a page. -/
def PgBl (iv ov fv : Value) (L : List It3) (b : Nat) : Prop := MkB iv L b ∨ ov.ownBlock = some b ∨ fv.ownBlock = some b
/-- A page is owned, each row by itself, and its blocks lie from B up to U. -/
def OwnPgU (w : World) (B U : Nat) (iv ov fv : Value) (p : PgB) : Prop :=
  ∃ L : List It3, L.map (·.1) = p.its ∧ w.ownsRow B 50 7 iv L.length (itCells L) ∧ OwnEachI w B L ∧
    w.ownsRow B 3 1 ov p.opn.length (intCellsI p.opn) ∧ w.ownsRow B 3 1 fv p.fms.length (intCellsI p.fms) ∧
    (∀ b, ov.ownBlock = some b → fv.ownBlock ≠ some b) ∧ (∀ q ∈ L, ∀ b, q.2.2.ownBlock = some b → ov.ownBlock ≠ some b ∧ fv.ownBlock ≠ some b) ∧ ∀ b, PgBl iv ov fv L b → b < U
theorem pgbl_in {w : World} {B : Nat} {iv ov fv : Value} {L : List It3} {n m k : Nat} {xs ys : List Value} (h2 : w.ownsRow B 50 7 iv n (itCells L)) (h3 : OwnEachI w B L) (h4 : w.ownsRow B 3 1 ov m xs) (h5 : w.ownsRow B 3 1 fv k ys) {b : Nat} (h : PgBl iv ov fv L b) : B ≤ b ∧ b < w.heap.size := by
  rcases h with (h | ⟨q, hq, h | h⟩) | h | h
  · exact h2.lt b h
  · exact (h3.1 q hq).1.lt b h
  · exact (h3.1 q hq).2.lt b h
  · exact h4.lt b h
  · exact h5.lt b h
theorem OwnPgU.of {w : World} {B : Nat} {iv ov fv : Value} {p : PgB} (h : OwnPg3 w B iv ov fv p) : OwnPgU w B w.heap.size iv ov fv p := by
  obtain ⟨L, h1, h2, h3, h4, h5, h6, h7⟩ := h
  exact ⟨L, h1, h2, h3, h4, h5, h6, h7, fun b hb => (pgbl_in h2 h3 h4 h5 hb).2⟩
theorem OwnPgU.own {w : World} {B U : Nat} {iv ov fv : Value} {p : PgB} (h : OwnPgU w B U iv ov fv p) : OwnPg3 w B iv ov fv p := by
  obtain ⟨L, h1, h2, h3, h4, h5, h6, h7, _⟩ := h
  exact ⟨L, h1, h2, h3, h4, h5, h6, h7⟩
theorem OwnPgU.keep {w w' : World} {B U : Nat} {iv ov fv : Value} {p : PgB} (h : OwnPgU w B U iv ov fv p) (hb : Below w.heap.size w w') : OwnPgU w' B U iv ov fv p := by
  obtain ⟨L, h1, h2, h3, h4, h5, h6⟩ := h
  exact ⟨L, h1, owns_below h2 (Nat.le_refl _) hb, h3.keep hb, owns_below h4 (Nat.le_refl _) hb, owns_below h5 (Nat.le_refl _) hb, h6⟩
/-- A page is kept where what turns lies ahead of it. -/
theorem OwnPgU.kb {w w' : World} {B U : Nat} {iv ov fv : Value} {p : PgB} (h : OwnPgU w B U iv ov fv p) {S : Nat → Prop} (hk : Kb w w' S) (hS : ∀ b, S b → b < B) : OwnPgU w' B U iv ov fv p := by
  obtain ⟨L, h1, h2, h3, h4, h5, h6⟩ := h
  have no : ∀ b, B ≤ b → ¬ S b := fun b hb hs => absurd (hS b hs) (Nat.not_lt_of_le hb)
  exact ⟨L, h1, hk.owns h2 fun b hb => no b (h2.lt b hb).1, ⟨fun q hq => ⟨hk.owns (h3.1 q hq).1 fun b hb => no b ((h3.1 q hq).1.lt b hb).1, hk.owns (h3.1 q hq).2 fun b hb => no b ((h3.1 q hq).2.lt b hb).1⟩, h3.2⟩, hk.owns h4 fun b hb => no b (h4.lt b hb).1, hk.owns h5 fun b hb => no b (h5.lt b hb).1, h6⟩
theorem OwnPgU.at {w : World} {B U : Nat} {iv ov fv : Value} {p : PgB} (h : OwnPgU w B U iv ov fv p) : PgAt w (.agg #[iv, ov, fv, .int .i64 p.hd, .int .i64 p.bd]) p := pg_of_own ⟨iv, ov, fv, rfl, h.own⟩

theorem Kb.cell {w w' : World} {S : Nat → Prop} (h : Kb w w' S) {b i : Nat} (hb : b < w.heap.size) (hS : ¬ S b) : w'.cell? ⟨b, i, none⟩ = w.cell? ⟨b, i, none⟩ := World.cell?_of_block (h.block b hb hS)

theorem vals_mem {L L1 : List It3} (h : L1.map (·.2) = L.map (·.2)) {q : It3} (hq : q ∈ L1) : ∃ r ∈ L, r.2 = q.2 := by
  have h1 : q.2 ∈ L1.map (·.2) := List.mem_map.2 ⟨q, hq, rfl⟩
  rw [h] at h1
  obtain ⟨r, hr, e⟩ := List.mem_map.1 h1
  exact ⟨r, hr, e⟩
theorem PgBl.vals {iv ov fv : Value} {L L1 : List It3} (h : L1.map (·.2) = L.map (·.2)) {b : Nat} (hb : PgBl iv ov fv L1 b) : PgBl iv ov fv L b := by
  rcases hb with (hb | ⟨q, hq, hb⟩) | hb
  · exact .inl (.inl hb)
  · obtain ⟨r, hr, e⟩ := vals_mem h hq
    exact .inl (.inr ⟨r, hr, by rw [e]; exact hb⟩)
  · exact .inr hb

set_option maxRecDepth 20000 in
set_option maxHeartbeats 8000000 in
theorem markPage_any (p : PgB) (iv ov fv : Value) (k B U : Nat) (w : World) (ho : OwnPgU w B U iv ov fv p) (hU : U ≤ w.heap.size) (hk : k ≤ 1048576) (hn : p.its.length ≤ 1048576) (hm : markIs p.its ≤ 549755813888) (hat : ∀ t ∈ p.its, t.ats.length ≤ 1048576 ∧ t.kids.length ≤ 1048576) (ho1 : p.opn.length ≤ 1048576) (hf1 : p.fms.length ≤ 1048576) :
    Calls Try.prog 10 #[.agg #[iv, ov, fv, .int .i64 p.hd, .int .i64 p.bd], .int .i64 (k : Int)] w fun e w' => e = .returned (.int .i64 ((k + markPn p : Nat) : Int)) ∧ OwnPgU w' B U iv ov fv (markPg k p) ∧ Kb w w' (fun b => B ≤ b ∧ b < U) := by
  obtain ⟨L, h1, h2, h3, h4, h5, h6, h7, h8⟩ := ho
  have hin : ∀ b, PgBl iv ov fv L b → B ≤ b ∧ b < U := fun b hb => ⟨(pgbl_in h2 h3 h4 h5 hb).1, h8 b hb⟩
  obtain ⟨ia, ic, rfl, _, _⟩ := its_of_own (l := p.its) ⟨L, h1, h2, h3⟩
  obtain ⟨oa, oc, rfl, _, _⟩ := ints_of_own h4
  obtain ⟨fa, fc, rfl, _, _⟩ := ints_of_own h5
  obtain ⟨its, opn, fms, hd, bd⟩ := p
  simp only at *
  subst h1
  rw [List.length_map] at *
  have HP : Hid (markPn ⟨L.map (·.1), opn, fms, hd, bd⟩ = markIs (L.map (·.1)) + opn.length + fms.length) := rfl
  rw [HP.out]
  obtain ⟨C, HC⟩ : ∃ C, Hid (C = (w.alloc (.cells #[.slice ia L.length ic, .slice oa opn.length oc, .slice fa fms.length fc, .int .i64 hd, .int .i64 bd] 25))) := ⟨_, rfl⟩
  have bC : Below w.heap.size w C := by rw [HC.out]; exact (Below.refl _ _).alloc (Nat.le_refl _) _
  have hsz : C.heap.size = w.heap.size + 1 := by rw [HC.out]; simp
  have q1 : C.cell? ⟨w.heap.size, 1, none⟩ = some (.slice oa opn.length oc) := by rw [HC.out, World.cell?_alloc_new]; rfl
  have q2 : C.cell? ⟨w.heap.size, 2, none⟩ = some (.slice fa fms.length fc) := by rw [HC.out, World.cell?_alloc_new]; rfl
  have nb : ∀ b, PgBl (.slice ia L.length ic) (.slice oa opn.length oc) (.slice fa fms.length fc) L b → b ≠ w.heap.size := fun b hb e => by have := (hin b hb).2; omega
  have HCall := markItemS_any L (.slice ia L.length ic) k B C (owns_below h2 (Nat.le_refl _) bC) (h3.keep bC) hk hn hm (fun q hq => hat q.1 (List.mem_map.2 ⟨q, hq, rfl⟩))
  have r4 := owns_below h4 (Nat.le_refl _) bC
  have r5 := owns_below h5 (Nat.le_refl _) bC
  have ap4 : ∀ b, (Value.slice oa opn.length oc).ownBlock = some b → ¬ MkB (.slice ia L.length ic) L b := fun b hb hM => by
    rcases hM with h | ⟨q, hq, h | h⟩
    · exact owns_apart h2 h4 it_type.2.1 b h hb
    · exact owns_apart (h3.1 q hq).1 h4 it_type.2.2 b h hb
    · exact (h7 q hq b h).1 hb
  have ap5 : ∀ b, (Value.slice fa fms.length fc).ownBlock = some b → ¬ MkB (.slice ia L.length ic) L b := fun b hb hM => by
    rcases hM with h | ⟨q, hq, h | h⟩
    · exact owns_apart h2 h5 it_type.2.1 b h hb
    · exact owns_apart (h3.1 q hq).1 h5 it_type.2.2 b h hb
    · exact (h7 q hq b h).2 hb
  have HH : Hid (Kb w C (fun b => B ≤ b ∧ b < U)) := Kb.of_below bC _
  have H4 : Hid _ := r4
  have H5 : Hid _ := r5
  have Ap4 : Hid _ := ap4
  have Ap5 : Hid _ := ap5
  have Nb : Hid _ := nb
  have Hin : Hid _ := hin
  have H6 : Hid _ := h6
  have H7 : Hid _ := h7
  clear h2 h3 h4 h5 h6 h7 h8 hin r4 r5 ap4 ap5 nb HP hat bC
  go_enter Try.func10, Try.ntmps10
  go_wp2_with fail
  rw [← HC.out]
  refine HCall.mono ?_
  rintro e w1 ⟨rfl, L1, e1, e2, t2, t3, kb1⟩
  clear HCall HC
  have c1 : w1.cell? ⟨w.heap.size, 1, none⟩ = some (.slice oa opn.length oc) := (kb1.cell (by omega) (fun h => Nb.out _ (.inl h) rfl)).trans q1
  have c2 : w1.cell? ⟨w.heap.size, 2, none⟩ = some (.slice fa fms.length fc) := (kb1.cell (by omega) (fun h => Nb.out _ (.inl h) rfl)).trans q2
  have u4 := kb1.owns H4.out Ap4.out
  have u5 := kb1.owns H5.out Ap5.out
  have HK1 : Hid (Kb w w1 (fun b => B ≤ b ∧ b < U)) := HH.out.trans (kb1.more fun b hb => Hin.out b (.inl hb))
  have hs1 : w.heap.size < w1.heap.size := by have := kb1.size; omega
  clear q1 q2 kb1 HH H4 H5
  obtain ⟨k1, Hk1⟩ : ∃ k1, Hid (k + markIs (L.map (·.1)) = k1) := ⟨_, rfl⟩
  rw [Hk1.out]
  have hk1 : k1 ≤ 549756862464 := by have := Hk1.out; omega
  have HO := markIntS_grown opn (.slice oa opn.length oc) k1 B w1 u4 (by omega) (by omega)
  have HT : Hid (w1.ownsRow B 50 7 (.slice ia L.length ic) L.length (itCells L1) ∧ OwnEachI w1 B L1 ∧ w1.ownsRow B 3 1 (.slice oa opn.length oc) opn.length (intCellsI opn) ∧ w1.ownsRow B 3 1 (.slice fa fms.length fc) fms.length (intCellsI fms)) := ⟨t2, t3, u4, u5⟩
  have E1 : Hid _ := e1
  have E2 : Hid _ := e2
  clear t2 t3 u4 u5 e1 e2
  go_wp2_with fail
  refine HO.mono ?_
  rintro e w2 ⟨rfl, o2, g2⟩
  clear HO c1
  obtain ⟨t2, t3, u4, u5⟩ := HT.out
  have n7 : ∀ q ∈ L1, ∀ b, q.2.2.ownBlock = some b → (Value.slice oa opn.length oc).ownBlock ≠ some b ∧ (Value.slice fa fms.length fc).ownBlock ≠ some b := fun q hq b hb => by
    obtain ⟨r, hr, er⟩ := vals_mem E2.out hq
    exact H7.out r hr b (by rw [er]; exact hb)
  have v2 := owns_grown t2 g2 fun b hb e => owns_apart t2 u4 it_type.2.1 b hb e
  have v3 : OwnEachI w2 B L1 := t3.grown g2 fun q hq => ⟨fun b hb e => owns_apart (t3.1 q hq).1 u4 it_type.2.2 b hb e, fun b hb e => (n7 q hq b hb).1 e⟩
  have v5 := owns_grown u5 g2 fun b hb e => H6.out b e hb
  have c3 : w2.cell? ⟨w.heap.size, 2, none⟩ = some (.slice fa fms.length fc) := g2.cell c2 fun e => Nb.out _ (.inr (.inl e.symm)) rfl
  have HK2 : Hid (Kb w w2 (fun b => B ≤ b ∧ b < U)) := HK1.out.trans (Kb.of_grown g2 fun b e => Hin.out b (.inr (.inl e)))
  have hs2 : w.heap.size < w2.heap.size := Nat.lt_of_lt_of_le hs1 g2.size
  obtain ⟨k2, Hk2⟩ : ∃ k2, Hid (k1 + opn.length = k2) := ⟨_, rfl⟩
  rw [Hk2.out]
  have hk2 : k2 ≤ 549757911040 := by have := Hk2.out; omega
  have HF := markIntS_grown fms (.slice fa fms.length fc) k2 B w2 v5 (by omega) (by omega)
  have HT2 : Hid (w2.ownsRow B 50 7 (.slice ia L.length ic) L.length (itCells L1) ∧ OwnEachI w2 B L1 ∧ w2.ownsRow B 3 1 (.slice oa opn.length oc) opn.length (intCellsI (cntL k1 opn.length)) ∧ w2.ownsRow B 3 1 (.slice fa fms.length fc) fms.length (intCellsI fms)) := ⟨v2, v3, o2, v5⟩
  have N7 : Hid _ := n7
  clear t2 t3 u4 u5 v2 v3 o2 v5 g2 HT HK1 n7 c2
  go_wp2_with fail
  refine HF.mono ?_
  rintro e w3 ⟨rfl, o3, g3⟩
  clear HF c3
  obtain ⟨v2, v3, v4, v5⟩ := HT2.out
  have x2 := owns_grown v2 g3 fun b hb e => owns_apart v2 v5 it_type.2.1 b hb e
  have x3 : OwnEachI w3 B L1 := v3.grown g3 fun q hq => ⟨fun b hb e => owns_apart (v3.1 q hq).1 v5 it_type.2.2 b hb e, fun b hb e => (N7.out q hq b hb).2 e⟩
  have x4 := owns_grown v4 g3 fun b hb e => H6.out b hb e
  have HK3 : Hid (Kb w w3 (fun b => B ≤ b ∧ b < U)) := HK2.out.trans (Kb.of_grown g3 fun b e => Hin.out b (.inr (.inr e)))
  have HR : Hid (OwnPgU w3 B U (.slice ia L.length ic) (.slice oa opn.length oc) (.slice fa fms.length fc) (markPg k ⟨L.map (·.1), opn, fms, hd, bd⟩)) := by
    have eL : L1.length = L.length := by have := congrArg List.length E2.out; simpa using this
    refine ⟨L1, E1.out, by rw [eL]; exact x2, x3, ?_, ?_, H6.out, N7.out, fun b hb => (Hin.out b (PgBl.vals E2.out hb)).2⟩
    · show World.ownsRow _ B _ 1 _ (cntL (k + markIs (L.map (·.1))) opn.length).length (intCellsI (cntL (k + markIs (L.map (·.1))) opn.length))
      rw [cntL_length, Hk1.out]
      exact x4
    · show World.ownsRow _ B _ 1 _ (cntL (k + markIs (L.map (·.1)) + opn.length) fms.length).length (intCellsI (cntL (k + markIs (L.map (·.1)) + opn.length) fms.length))
      rw [cntL_length, Hk1.out, Hk2.out]
      exact o3
  have Hend : Hid (k2 + fms.length = k + (markIs (L.map (·.1)) + opn.length + fms.length)) := by show _ = _; rw [← Hk2.out, ← Hk1.out]; omega
  rw [Hend.out]
  clear x2 x3 x4 o3 v2 v3 v4 v5 g3 HT2
  go_wp2_with fail
  go_ret
  exact ⟨rfl, HR.out, HK3.out⟩

end Go.Proofs.Ytlnegnikedinaaa.Sg
