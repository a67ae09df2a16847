/- A word's line, put together of its parts; the table of numbers. -/
import Derived.Test.YtploagieecepfaaDoorSoWord
import Derived.Test.YtploagieecepfaaDoorShToks
import Derived.Lib.ItoaMem
import Derived.Lib.ItoaLen
namespace Go.Proofs.YtploagieecepfaaDoor.Sg
open Go.ChangeShapes Go.WideShapes Go.ChangeAt Go.RowKit

theorem app_dat (a b : ByteArray) : (a ++ b).data.toList = a.data.toList ++ b.data.toList := by simp
theorem of_dat {s : ByteArray} {l : List UInt8} (h : s.data.toList = l) : (⟨l.toArray⟩ : ByteArray) = s := by
  subst h
  cases s
  rfl
theorem shF_dec : ∀ (f n : Nat) (o : List UInt8), 0 < n → n ≤ f → shF f n o = Lib.decDigits n ++ o
  | 0, n, o, h, hf => by omega
  | f + 1, n, o, h, hf => by
    rw [shF_step f n o h, Lib.decDigits]
    by_cases hn : n < 10
    · rw [dif_pos hn, show n / 10 = 0 by omega, shF_zero, show n % 10 = n by omega]
      rfl
    · rw [dif_neg hn, shF_dec f (n / 10) _ (by omega) (by omega), List.append_assoc]
      rfl
theorem digI_eq (n : Nat) : digI n = strB (shDig n) := by
  unfold digI strB shDig
  rw [Lib.itoa_nonneg]
  congr 2
  split
  · rename_i h
    subst h
    rw [Lib.decDigits, dif_pos (by omega)]
    rfl
  · rename_i h
    rw [shF_dec n n [] (by omega) (Nat.le_refl _), List.append_nil]
theorem digI_size (n : Nat) (h : n ≤ 1099511627776) : (digI n).size ≤ 21 := by
  have := Lib.itoa_length_le (n : Int) (by omega) (by omega)
  unfold digI
  simpa [ByteArray.size] using this
/-- A word's line, put together. -/
theorem word_line (kd : Int) (nm : ByteArray) (ats : List AttrB) (tx : ByteArray) (sf : Bool) (e : ByteArray) : catB [⟨#[]⟩, kindS kd tkNames, ⟨#[32]⟩ ++ namedS nm tx, ⟨#[32, 61]⟩ ++ digI ats.length, if sf then ⟨#[32, 115, 101, 108, 102]⟩ else ⟨#[]⟩, e] = (tokS (kd, nm, ats, tx, sf)).data.toList ++ e.data.toList := by
  unfold catB tokS
  rw [digI_eq]
  simp only [List.flatMap_cons, List.flatMap_nil, app_dat, List.append_assoc, List.append_nil]
  rfl
/-- The table. -/
def TabT (w : World) : Prop := Lib.TabIs Tryd.prog w "internal/strconv.uint64pow10" .u64 Lib.pow10Tab
theorem TabT.on {w w' : World} (h : TabT w) (hb : Below w.heap.size w w') : TabT w' := Lib.tabBelow_of_tabIs h w' hb

end Go.Proofs.YtploagieecepfaaDoor.Sg
