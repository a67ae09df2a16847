/- Contract of the program's TokenText. -/
import Derived.Test.YtploagieecepfaaDoorSoTokP
namespace Go.Proofs.YtploagieecepfaaDoor.Sg
open Go.ChangeShapes Go.WideShapes Go.ChangeAt Go.RowKit

set_option maxRecDepth 20000 in
set_option maxHeartbeats 4000000 in
theorem implTokenText (kd : Int) (nm : ByteArray) (ats : List AttrB) (tx : ByteArray) (sf : Bool) (w : World) (x : Option Addr) (c : Nat) (hT : TabT w) (hb : tokW (kd, nm, ats, tx, sf) ≤ 1048576) :
    Calls Tryd.prog 8 #[.agg #[.int .i64 kd, .string nm, .slice x ats.length c, .string tx, .bool sf]] w fun e w' => e = .returned (.string (tokS (kd, nm, ats, tx, sf))) ∧ Below w.heap.size w w' := by
  have hts := tokS_size (kd, nm, ats, tx, sf)
  unfold tokW attrsW at hb
  simp only at hb
  have hn : ats.length ≤ 1048576 := by omega
  have hv : (namedS nm tx).size ≤ nm.size + tx.size := by unfold namedS; split <;> omega
  have hd := digI_size ats.length (by omega)
  have hts2 : (tokS (kd, nm, ats, tx, sf)).size ≤ 4194304 := by unfold tokW attrsW at hts; simp only at hts; omega
  have bA := (Below.refl w.heap.size w).alloc (Nat.le_refl _) (.cells #[.int .i64 kd, .string nm, .slice x ats.length c, .string tx, .bool sf] 29)
  have hs1 : (w.alloc (.cells #[.int .i64 kd, .string nm, .slice x ats.length c, .string tx, .bool sf] 29)).heap.size = w.heap.size + 1 := by simp
  have x0 : ∀ i, (w.alloc (.cells #[.int .i64 kd, .string nm, .slice x ats.length c, .string tx, .bool sf] 29)).cell? ⟨w.heap.size, i, none⟩ = (#[Value.int .i64 kd, .string nm, .slice x ats.length c, .string tx, .bool sf])[i]? := fun i => cell_in (heap_alloc_new w _) i
  have HX : Hid ((w.alloc (.cells #[.int .i64 kd, .string nm, .slice x ats.length c, .string tx, .bool sf] 29)).heap[w.heap.size]? = some (.cells #[.int .i64 kd, .string nm, .slice x ats.length c, .string tx, .bool sf] 29 (0, 0))) := heap_alloc_new w _
  have HT1 : Hid (TabT (w.alloc (.cells #[.int .i64 kd, .string nm, .slice x ats.length c, .string tx, .bool sf] 29))) := hT.on bA
  have HA : Hid (Below w.heap.size w (w.alloc (.cells #[.int .i64 kd, .string nm, .slice x ats.length c, .string tx, .bool sf] 29))) := bA
  have Hln := word_line kd nm ats tx sf ⟨#[]⟩
  rw [show (⟨#[]⟩ : ByteArray).data.toList = [] from rfl, List.append_nil] at Hln
  obtain ⟨R, HR⟩ : ∃ R, Hid (tokS (kd, nm, ats, tx, sf) = R) := ⟨_, rfl⟩
  rw [HR.out] at Hln hts2 ⊢
  clear hT bA x0 hts
  go_enter Tryd.func8, Tryd.ntmps8
  go_upto_region 1 with fail
  generalize w.alloc (.cells #[.int .i64 kd, .string nm, .slice x ats.length c, .string tx, .bool sf] 29) = w1 at *
  have x0 : w1.cell? ⟨w.heap.size, 0, none⟩ = some (.int .i64 kd) := cell_in HX.out 0
  have x1 : w1.cell? ⟨w.heap.size, 1, none⟩ = some (.string nm) := cell_in HX.out 1
  have bN := (Below.refl w1.heap.size w1).alloc (Nat.le_refl _) (.cells #[.pointer none, .slice none 0 0, .string ⟨#[]⟩, .string ⟨#[]⟩, .string ⟨#[]⟩, .string ⟨#[]⟩, .string ⟨#[]⟩, .string ⟨#[]⟩] 52)
  have HS0 : Hid (ShB w1.heap.size w1.heap.size [] noLine (w1.alloc (.cells #[.pointer none, .slice none 0 0, .string ⟨#[]⟩, .string ⟨#[]⟩, .string ⟨#[]⟩, .string ⟨#[]⟩, .string ⟨#[]⟩, .string ⟨#[]⟩] 52))) := shown_new w1
  have HT2 : Hid (TabB w1.heap.size (w1.alloc (.cells #[.pointer none, .slice none 0 0, .string ⟨#[]⟩, .string ⟨#[]⟩, .string ⟨#[]⟩, .string ⟨#[]⟩, .string ⟨#[]⟩, .string ⟨#[]⟩] 52))) := Lib.TabBelow.on (Lib.tabBelow_of_tabIs HT1.out) bN
  have HX2 := (bN.block _ (by omega)).trans HX.out
  have HA2 : Hid (Below w.heap.size w (w1.alloc (.cells #[.pointer none, .slice none 0 0, .string ⟨#[]⟩, .string ⟨#[]⟩, .string ⟨#[]⟩, .string ⟨#[]⟩, .string ⟨#[]⟩, .string ⟨#[]⟩] 52))) := HA.out.trans (bN.mono HA.out.size)
  have hbs := bN.size
  have hbw : w.heap.size ≤ w1.heap.size := by omega
  clear x0 x1 HX HT1 HA bN hs1
  go_upto_region 2 with fail
  generalize w1.alloc (.cells #[.pointer none, .slice none 0 0, .string ⟨#[]⟩, .string ⟨#[]⟩, .string ⟨#[]⟩, .string ⟨#[]⟩, .string ⟨#[]⟩, .string ⟨#[]⟩] 52) = w2 at *
  have x0 : w2.cell? ⟨w.heap.size, 0, none⟩ = some (.int .i64 kd) := cell_in HX2 0
  have x1 : w2.cell? ⟨w.heap.size, 1, none⟩ = some (.string nm) := cell_in HX2 1
  have x2 : w2.cell? ⟨w.heap.size, 2, none⟩ = some (.slice x ats.length c) := cell_in HX2 2
  have x3 : w2.cell? ⟨w.heap.size, 3, none⟩ = some (.string tx) := cell_in HX2 3
  have x4 : w2.cell? ⟨w.heap.size, 4, none⟩ = some (.bool sf) := cell_in HX2 4
  have HP := implPutWord w1.heap.size w1.heap.size [] ⟨#[]⟩ ⟨#[]⟩ ⟨#[]⟩ ⟨#[]⟩ ⟨#[]⟩ ⟨#[]⟩ kd nm x ats.length c tx sf w2 HS0.out hbs HT2.out (by omega) (by omega) (by omega)
  clear HS0 HT2 HX2
  generalize w1.heap.size = B at *
  go_wp2_with fail
  refine HP.mono ?_
  rintro e w3 ⟨rfl, hs3, hk3⟩
  have hsz3 : B ≤ w3.heap.size := Nat.le_trans hbs hk3.size
  have HL := implTell B B [] _ w3 hs3 rfl hsz3 (by rw [Hln]; have : R.data.toList.length = R.size := Array.length_toList; rw [this, List.length_nil]; omega)
  rw [List.nil_append, Hln] at HL
  have HA3 : Hid (Below w.heap.size w w3) := HA2.out.trans (hk3.bel.mono hbw)
  clear HP hs3 hk3 HA2 x0 x1 x2 x3 x4
  go_wp2_with fail
  refine HL.mono ?_
  rintro e w4 ⟨rfl, hs4, hk4⟩
  have HF := headString B B _ _ w4 hs4 (Nat.le_trans hsz3 hk4.size)
  have HA4 : Hid (Below w.heap.size w w4) := HA3.out.trans (hk4.bel.mono hbw)
  clear HL hs4 hk4 HA3
  rw [of_dat (s := R) rfl] at HF
  go_wp2_with fail
  refine HF.mono ?_
  rintro e w5 ⟨rfl, hb5⟩
  have HA5 : Hid (Below w.heap.size w w5) := HA4.out.trans (hb5.mono hbw)
  clear HF hb5 HA4
  go_wp2_with fail
  go_ret
  exact ⟨rfl, HA5.out⟩

end Go.Proofs.YtploagieecepfaaDoor.Sg
