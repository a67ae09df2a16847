/- A text made large, in plain lists. No program in it. -/
import Derived.Test.YtlghkbcdaoijhaaDoorStFmtP
namespace Go.Proofs.YtlghkbcdaoijhaaDoor.Sg
/-- A small letter. -/
def lowQ (b : UInt8) : Bool := decide (97 ≤ b.toNat ∧ b.toNat ≤ 122)
theorem up_not {b : UInt8} (h : lowQ b = false) : upD b = b := by
  unfold lowQ at h
  unfold upD
  rw [if_neg (of_decide_eq_false h)]
theorem up_yes {b : UInt8} (h : lowQ b = true) : upD b = UInt8.ofNat (b.toNat - 32) := by
  unfold lowQ at h
  unfold upD
  rw [if_pos (of_decide_eq_true h)]
theorem up_num {b : UInt8} (h : lowQ b = true) : ((upD b).toNat : Int) = (b.toNat : Int) - 32 := by
  have h1 := up_yes h
  unfold lowQ at h
  have h2 := of_decide_eq_true h
  rw [h1, UInt8.toNat_ofNat']
  have := b.toNat_lt
  omega
/-- The byte at a place. -/
def atB (s : ByteArray) (k : Nat) : UInt8 := s.data.toList.getD k 0
theorem atB_get (s : ByteArray) (k : Nat) (h : k < s.size) : s[k]'h = atB s k := by
  unfold atB
  have h1 : s.data.toList[k]? = some (s[k]'h) := by rw [Array.getElem?_toList]; exact Array.getElem?_eq_getElem h
  rw [List.getD_eq_getElem?_getD, h1]
  rfl
theorem atB_list (s : ByteArray) (k : Nat) (h : k < s.data.toList.length) : s.data.toList[k]'h = atB s k := by
  unfold atB
  rw [List.getD_eq_getElem?_getD, List.getElem?_eq_getElem h]
  rfl
/-- A text made large, up to a place. -/
def upTo (s : ByteArray) (k : Nat) : List UInt8 := (s.data.toList.take k).map upD
theorem len_list (s : ByteArray) : s.data.toList.length = s.size := Array.length_toList
theorem upTo_succ (s : ByteArray) (k : Nat) (h : k < s.size) : upTo s (k + 1) = upTo s k ++ [upD (atB s k)] := by
  unfold upTo
  have hl : k < s.data.toList.length := by rw [len_list]; exact h
  rw [List.take_succ_eq_append_getElem hl, List.map_append, atB_list]
  rfl
theorem extract_list (s : ByteArray) (p k : Nat) : (s.extract p k).data.toList = (s.data.toList.take k).drop p := by
  rw [ByteArray.data_extract, Array.toList_extract, List.extract_eq_drop_take', List.drop_take]
theorem upTo_run (s : ByteArray) (p k : Nat) (hp : p ≤ k) (hk : k ≤ s.size) (h : ∀ j, p ≤ j → j < k → lowQ (atB s j) = false) : upTo s k = upTo s p ++ (s.extract p k).data.toList := by
  obtain ⟨d, rfl⟩ : ∃ d, k = p + d := ⟨k - p, by omega⟩
  clear hp
  induction d with
  | zero =>
    rw [extract_list]
    simp
  | succ d ih =>
    have hlt : p + d < s.size := by omega
    have hl : p + d < s.data.toList.length := by rw [len_list]; exact hlt
    rw [show p + (d + 1) = p + d + 1 by omega, upTo_succ s (p + d) hlt, ih (by omega) fun j h1 h2 => h j h1 (by omega), up_not (h (p + d) (by omega) (by omega)), extract_list, extract_list, List.take_succ_eq_append_getElem hl, List.drop_append_of_le_length (by rw [List.length_take]; omega), List.append_assoc, atB_list]
theorem upTo_all (s : ByteArray) : upTo s s.size = s.data.toList.map upD := by
  unfold upTo
  rw [List.take_of_length_le (by rw [len_list]; exact Nat.le_refl _)]
theorem up_none (s : ByteArray) (h : ∀ j, j < s.size → lowQ (atB s j) = false) : s.data.toList.map upD = s.data.toList := by
  rw [← upTo_all, upTo_run s 0 s.size (Nat.zero_le _) (Nat.le_refl _) fun j _ hj => h j hj, extract_list]
  unfold upTo
  rw [List.take_zero, List.map_nil, List.nil_append, List.drop_zero, List.take_of_length_le (by rw [len_list]; exact Nat.le_refl _)]
theorem mk_list (s : ByteArray) : (⟨s.data.toList.toArray⟩ : ByteArray) = s := rfl
end Go.Proofs.YtlghkbcdaoijhaaDoor.Sg
