/- Digits of 16 in plain lists: small, as many as are wanted; large, six of them. No program in it. A text made large, in plain lists. No program in it. -/
import Derived.Test.YtdpjmngodbgacaaGreatDoorM13
namespace Go.Proofs.YtdpjmngodbgacaaGreatDoor.Sg

/-- A small digit of 16. -/
def lowD (d : Nat) : UInt8 := if d < 10 then UInt8.ofNat (48 + d) else UInt8.ofNat (87 + d)
/-- A number's digits of 16, small, at most so many. -/
def hexL : Nat → Nat → List UInt8
  | 0, _ => []
  | f + 1, n => if n < 16 then [lowD n] else hexL f (n / 16) ++ [lowD (n % 16)]
theorem hexL_last {f n : Nat} (h : n < 16) : hexL (f + 1) n = [lowD n] := by unfold hexL; rw [if_pos h]
theorem hexL_more {f n : Nat} (h : ¬ n < 16) : hexL (f + 1) n = hexL f (n / 16) ++ [lowD (n % 16)] := by
  conv => lhs; unfold hexL
  rw [if_neg h]
theorem hexL_len : ∀ f n, (hexL f n).length ≤ f
  | 0, n => by simp [hexL]
  | f + 1, n => by
    by_cases h : n < 16
    · rw [hexL_last h]; simp
    · rw [hexL_more h]
      have := hexL_len f (n / 16)
      simp
      omega
/-- A letter or digit, made large. -/
def upD (b : UInt8) : UInt8 := if 97 ≤ b.toNat ∧ b.toNat ≤ 122 then UInt8.ofNat (b.toNat - 32) else b
theorem up_low : ∀ d, d < 16 → [upD (lowD d)] = (putS (hexZ d)).data.toList := by
  intro d hd
  have h : ∀ d, d < 16 → upD (lowD d) = UInt8.ofNat (hexZ d).toNat ∧ 0 ≤ hexZ d ∧ hexZ d ≤ 127 := by decide +kernel
  obtain ⟨h1, h2, h3⟩ := h d hd
  rw [putS_one h2 h3, h1]
theorem low_ascii : ∀ d, d < 16 → (lowD d).toNat < 128 := by decide +kernel
/-- Digits of 16, large: the last so many. -/
def lastZ : Nat → Nat → List Int
  | 0, _ => []
  | f + 1, n => lastZ f (n / 16) ++ [hexZ (n % 16)]
theorem six_last (n : Nat) : sixZ n = lastZ 6 n := by
  unfold sixZ lastZ
  simp only [lastZ, Nat.div_div_eq_div_mul]
  rfl
theorem hexZ_zero : (putS (hexZ 0)).data.toList = [48] := by rw [putS_one (by decide) (by decide)]; rfl
/-- Noughts ahead, and the digits made large: so many digits. -/
theorem hex_six : ∀ f n, n < 16 ^ f → sgBytes (lastZ f n) = List.replicate (f - (hexL f n).length) 48 ++ (hexL f n).map upD
  | 0, n, _ => by simp [lastZ, hexL, sgBytes]
  | f + 1, n, h => by
    have hz : ∀ f, sgBytes (lastZ f 0) = List.replicate f 48 := by
      intro f
      induction f with
      | zero => rfl
      | succ f ih =>
        unfold lastZ
        rw [sgBytes_append, Nat.zero_div, ih, sgBytes_cons, sgBytes_nil, List.append_nil, Nat.zero_mod, hexZ_zero, List.replicate_succ']
    by_cases hn : n < 16
    · rw [hexL_last hn]
      unfold lastZ
      rw [Nat.div_eq_of_lt hn, Nat.mod_eq_of_lt hn, sgBytes_append, hz, sgBytes_cons, sgBytes_nil, List.append_nil, ← up_low n hn]
      simp
    · rw [hexL_more hn]
      unfold lastZ
      have hlt : n / 16 < 16 ^ f := by
        rw [Nat.pow_succ] at h
        exact Nat.div_lt_of_lt_mul (by rw [Nat.mul_comm]; exact h)
      rw [sgBytes_append, hex_six f (n / 16) hlt, sgBytes_cons, sgBytes_nil, List.append_nil, ← up_low (n % 16) (Nat.mod_lt _ (by decide))]
      have hl := hexL_len f (n / 16)
      rw [List.length_append, List.length_singleton, show f + 1 - ((hexL f (n / 16)).length + 1) = f - (hexL f (n / 16)).length by omega, List.map_append, List.append_assoc]
      rfl
theorem hexL_ascii : ∀ f n, ∀ b ∈ hexL f n, b.toNat < 128
  | 0, n => by intro b hb; cases hb
  | f + 1, n => by
    intro b hb
    by_cases h : n < 16
    · rw [hexL_last h] at hb
      obtain rfl := List.mem_singleton.1 hb
      exact low_ascii n h
    · rw [hexL_more h] at hb
      rcases List.mem_append.1 hb with hb | hb
      · exact hexL_ascii f _ b hb
      · obtain rfl := List.mem_singleton.1 hb
        exact low_ascii _ (Nat.mod_lt _ (by decide))
end Go.Proofs.YtdpjmngodbgacaaGreatDoor.Sg

namespace Go.Proofs.YtdpjmngodbgacaaGreatDoor.Sg
/-- A small letter. -/
def lowQ (b : UInt8) : Bool := decide (97 ≤ b.toNat ∧ b.toNat ≤ 122)
theorem up_not {b : UInt8} (h : lowQ b = false) : upD b = b := by
  unfold lowQ at h
  unfold upD
  rw [if_neg (of_decide_eq_false h)]
theorem up_yes {b : UInt8} (h : lowQ b = true) : upD b = UInt8.ofNat (b.toNat - 32) := by
  unfold lowQ at h
  unfold upD
  rw [if_pos (of_decide_eq_true h)]
theorem up_num {b : UInt8} (h : lowQ b = true) : ((upD b).toNat : Int) = (b.toNat : Int) - 32 := by
  have h1 := up_yes h
  unfold lowQ at h
  have h2 := of_decide_eq_true h
  rw [h1, UInt8.toNat_ofNat']
  have := b.toNat_lt
  omega
/-- The byte at a place. -/
def atB (s : ByteArray) (k : Nat) : UInt8 := s.data.toList.getD k 0
theorem atB_get (s : ByteArray) (k : Nat) (h : k < s.size) : s[k]'h = atB s k := by
  unfold atB
  have h1 : s.data.toList[k]? = some (s[k]'h) := by rw [Array.getElem?_toList]; exact Array.getElem?_eq_getElem h
  rw [List.getD_eq_getElem?_getD, h1]
  rfl
theorem atB_list (s : ByteArray) (k : Nat) (h : k < s.data.toList.length) : s.data.toList[k]'h = atB s k := by
  unfold atB
  rw [List.getD_eq_getElem?_getD, List.getElem?_eq_getElem h]
  rfl
/-- A text made large, up to a place. -/
def upTo (s : ByteArray) (k : Nat) : List UInt8 := (s.data.toList.take k).map upD
theorem len_list (s : ByteArray) : s.data.toList.length = s.size := Array.length_toList
theorem upTo_succ (s : ByteArray) (k : Nat) (h : k < s.size) : upTo s (k + 1) = upTo s k ++ [upD (atB s k)] := by
  unfold upTo
  have hl : k < s.data.toList.length := by rw [len_list]; exact h
  rw [List.take_succ_eq_append_getElem hl, List.map_append, atB_list]
  rfl
theorem extract_list (s : ByteArray) (p k : Nat) : (s.extract p k).data.toList = (s.data.toList.take k).drop p := by
  rw [ByteArray.data_extract, Array.toList_extract, List.extract_eq_drop_take', List.drop_take]
theorem upTo_run (s : ByteArray) (p k : Nat) (hp : p ≤ k) (hk : k ≤ s.size) (h : ∀ j, p ≤ j → j < k → lowQ (atB s j) = false) : upTo s k = upTo s p ++ (s.extract p k).data.toList := by
  obtain ⟨d, rfl⟩ : ∃ d, k = p + d := ⟨k - p, by omega⟩
  clear hp
  induction d with
  | zero =>
    rw [extract_list]
    simp
  | succ d ih =>
    have hlt : p + d < s.size := by omega
    have hl : p + d < s.data.toList.length := by rw [len_list]; exact hlt
    rw [show p + (d + 1) = p + d + 1 by omega, upTo_succ s (p + d) hlt, ih (by omega) fun j h1 h2 => h j h1 (by omega), up_not (h (p + d) (by omega) (by omega)), extract_list, extract_list, List.take_succ_eq_append_getElem hl, List.drop_append_of_le_length (by rw [List.length_take]; omega), List.append_assoc, atB_list]
theorem upTo_all (s : ByteArray) : upTo s s.size = s.data.toList.map upD := by
  unfold upTo
  rw [List.take_of_length_le (by rw [len_list]; exact Nat.le_refl _)]
theorem up_none (s : ByteArray) (h : ∀ j, j < s.size → lowQ (atB s j) = false) : s.data.toList.map upD = s.data.toList := by
  rw [← upTo_all, upTo_run s 0 s.size (Nat.zero_le _) (Nat.le_refl _) fun j _ hj => h j hj, extract_list]
  unfold upTo
  rw [List.take_zero, List.map_nil, List.nil_append, List.drop_zero, List.take_of_length_le (by rw [len_list]; exact Nat.le_refl _)]
theorem mk_list (s : ByteArray) : (⟨s.data.toList.toArray⟩ : ByteArray) = s := rfl
end Go.Proofs.YtdpjmngodbgacaaGreatDoor.Sg
