/- Texts with small letters, as plain lists of bytes; bytes that a call has laid for itself. -/
import Derived.Test.YtmambbknljgjcaaDoorSgOk
import Derived.Laws.IdiomStrings
import Derived.Laws.AppendOwn
namespace Go.Proofs.YtmambbknljgjcaaDoor.Sg
open Go.ChangeShapes Go.WideShapes Go.ChangeAt Go.RowKit

/-- A great letter becomes a small one; all else stays. -/
def lowB (b : UInt8) : UInt8 := if 65 ≤ b.toNat ∧ b.toNat ≤ 90 then b + 32 else b
def smallS (s : ByteArray) : ByteArray := ⟨(s.data.toList.map lowB).toArray⟩

theorem lowB_yes (b : UInt8) (h1 : 65 ≤ b.toNat) (h2 : b.toNat ≤ 90) : (lowB b).toNat = b.toNat + 32 := by
  unfold lowB
  rw [if_pos ⟨h1, h2⟩, UInt8.toNat_add]
  show (b.toNat + 32) % 256 = _
  omega
theorem lowB_no (b : UInt8) (h : ¬ (65 ≤ b.toNat ∧ b.toNat ≤ 90)) : lowB b = b := if_neg h
theorem lowB_lowB (b : UInt8) : lowB (lowB b) = lowB b := by
  by_cases h : 65 ≤ b.toNat ∧ b.toNat ≤ 90
  · have e := lowB_yes b h.1 h.2
    exact lowB_no _ (by omega)
  · rw [lowB_no b h, lowB_no b h]
theorem smallS_small (s : ByteArray) : smallS (smallS s) = smallS s := by
  unfold smallS
  simp only [List.map_map]
  congr 2
  apply List.map_congr_left
  intro b _
  exact lowB_lowB b

/-- Byte i of a text. -/
def byteAt (s : ByteArray) (i : Nat) : UInt8 := s.data.toList.getD i 0

/-- A block of bytes holds n bytes from its beginning, told by f. -/
def ByRow (w : World) (b n : Nat) (f : Nat → UInt8) : Prop :=
  ∃ (c : Array Value) (fr : Nat), w.heap[b]? = some (.cells c 5 (c.size, fr)) ∧ n ≤ c.size ∧ ∀ i, i < n → c[i]? = some (.int .u8 ((f i).toNat : Int))

theorem ByRow.cell {w : World} {b n : Nat} {f : Nat → UInt8} (h : ByRow w b n f) {i : Nat} (hi : i < n) : w.cell? ⟨b, i, none⟩ = some (.int .u8 ((f i).toNat : Int)) := by
  obtain ⟨c, fr, hb, hn, hc⟩ := h
  simp [World.cell?, hb, hc i hi]
theorem ByRow.frozen {w : World} {b n : Nat} {f : Nat → UInt8} (h : ByRow w b n f) {i : Nat} (hi : i < n) : w.frozen? ⟨b, i, none⟩ = false := by
  obtain ⟨c, fr, hb, hn, hc⟩ := h
  have : ¬ c.size ≤ i := by omega
  simp [World.frozen?, hb, this]
theorem ByRow.set {w : World} {b n : Nat} {f : Nat → UInt8} (h : ByRow w b n f) (i : Nat) (v : Int) (y : UInt8) (hv : v = (y.toNat : Int)) : ByRow (w.setCell ⟨b, i, none⟩ (.int .u8 v)) b n (fun j => if j = i then y else f j) := by
  subst hv
  obtain ⟨c, fr, hb, hn, hc⟩ := h
  refine ⟨c.setIfInBounds i (.int .u8 (y.toNat : Int)), fr, ?_, by simpa using hn, fun j hj => ?_⟩
  · simp [World.setCell, Array.getElem?_modify, hb]
  · rw [Array.getElem?_setIfInBounds]
    by_cases e : j = i
    · subst e
      have : j < c.size := by omega
      simp [this]
    · rw [if_neg (fun h => e h.symm)]
      simp only [e, if_false]
      exact hc j hj
theorem ByRow.congr {w : World} {b n : Nat} {f g : Nat → UInt8} (h : ByRow w b n f) (hg : ∀ i, i < n → f i = g i) : ByRow w b n g := by
  obtain ⟨c, fr, hb, hn, hc⟩ := h
  exact ⟨c, fr, hb, hn, fun i hi => by rw [hc i hi, hg i hi]⟩

/-- '[]byte(s)': a new block with the bytes. -/
theorem conv_row (w : World) (s : ByteArray) : ∃ cap W, Sem.run Tryd.prog (convert 9 43 (.string s)) w = .ok (.slice (some ⟨w.heap.size, 0, none⟩) s.size cap) W ∧
    Below w.heap.size w W ∧ W.heap.size = w.heap.size + 1 ∧ ByRow W w.heap.size s.size (byteAt s) := by
  refine ⟨_, _, run_bytes_of_string w 9 43 5 s Tryd.underlying9 Tryd.underlying43 Tryd.underlying5, (Below.refl _ _).drew.alloc (Nat.le_refl _) _, by simp, ?_⟩
  refine ⟨bytesRow s (grownCap w s.size 0 5), (bytesRow s (grownCap w s.size 0 5)).size + 1, ?_, ?_, ?_⟩
  · show (w.heap.push _)[w.heap.size]? = _
    rw [Array.getElem?_push_size]
  · simp [bytesRow]
  · intro i hi
    have hi' : i < s.data.size := hi
    rw [bytesRow_at s _ i hi']
    simp [byteAt, Array.getElem?_eq_getElem hi']

/-- 'string(b)' of such bytes. -/
theorem back_row {w : World} {b n cap : Nat} {f : Nat → UInt8} (h : ByRow w b n f) (l : List UInt8) (hl : l.length = n) (hf : ∀ i (hi : i < l.length), l[i] = f i) :
    Sem.run Tryd.prog (convert 43 9 (.slice (some ⟨b, 0, none⟩) n cap)) w = .ok (.string ⟨l.toArray⟩) w := by
  subst hl
  refine run_convert_bytes_back w 43 9 5 ⟨b, 0, none⟩ cap l Tryd.underlying43 Tryd.underlying5 Tryd.underlying9 fun j hj => ?_
  have e : (⟨b, 0, none⟩ : Addr).add j = ⟨b, j, none⟩ := by unfold Addr.add; split <;> simp_all
  rw [e, h.cell hj, hf j hj]

/-- How the bytes lie behind k steps. -/
def lowTo (s : ByteArray) (k i : Nat) : UInt8 := if i < k then lowB (byteAt s i) else byteAt s i

theorem lowTo_step (s : ByteArray) (k i : Nat) : (if i = k then lowB (byteAt s k) else lowTo s k i) = lowTo s (k + 1) i := by
  unfold lowTo
  by_cases e : i = k
  · subst e
    rw [if_pos rfl, if_pos (by omega)]
  · by_cases e2 : i < k
    · rw [if_neg e, if_pos e2, if_pos (by omega)]
    · rw [if_neg e, if_neg e2, if_neg (by omega)]
theorem lowTo_stay (s : ByteArray) (k : Nat) (h : lowB (byteAt s k) = byteAt s k) (i : Nat) : lowTo s k i = lowTo s (k + 1) i := by
  rw [← lowTo_step]
  by_cases e : i = k
  · subst e
    rw [if_pos rfl, h]
    unfold lowTo
    rw [if_neg (Nat.lt_irrefl _)]
  · rw [if_neg e]
theorem lowTo_self (s : ByteArray) (k : Nat) : lowTo s k k = byteAt s k := if_neg (Nat.lt_irrefl _)

/-- All is done. -/
theorem lowTo_back {w : World} {b cap : Nat} {s : ByteArray} (h : ByRow w b s.size (lowTo s s.size)) :
    Sem.run Tryd.prog (convert 43 9 (.slice (some ⟨b, 0, none⟩) s.size cap)) w = .ok (.string (smallS s)) w := by
  refine back_row h (s.data.toList.map lowB) (by simp) ?_
  intro i hi
  have hi' : i < s.data.size := by simpa using hi
  have hi2 : i < s.size := hi'
  simp [lowTo, hi2, byteAt]

end Go.Proofs.YtmambbknljgjcaaDoor.Sg
