/- Texts with small letters, as plain lists of bytes; bytes that a call has laid for itself. Contracts of Small, of the program and of the model. Contracts of the model's Raw and RawEnd. Contract of the program's Raw. -/
import Derived.Test.YtmambbknljgjcaaDoorSgOk
import Derived.Laws.IdiomStrings
import Derived.Laws.AppendOwn
import Derived.Test.YtmambbknljgjcaaDoorM12
import Derived.Laws.DeepStrings4
namespace Go.Proofs.YtmambbknljgjcaaDoor.Sg
open Go.ChangeShapes Go.WideShapes Go.ChangeAt Go.RowKit

/-- A great letter becomes a small one; all else stays. -/
def lowB (b : UInt8) : UInt8 := if 65 ≤ b.toNat ∧ b.toNat ≤ 90 then b + 32 else b
def smallS (s : ByteArray) : ByteArray := ⟨(s.data.toList.map lowB).toArray⟩

theorem lowB_yes (b : UInt8) (h1 : 65 ≤ b.toNat) (h2 : b.toNat ≤ 90) : (lowB b).toNat = b.toNat + 32 := by
  unfold lowB
  rw [if_pos ⟨h1, h2⟩, UInt8.toNat_add]
  show (b.toNat + 32) % 256 = _
  omega
theorem lowB_no (b : UInt8) (h : ¬ (65 ≤ b.toNat ∧ b.toNat ≤ 90)) : lowB b = b := if_neg h
theorem lowB_lowB (b : UInt8) : lowB (lowB b) = lowB b := by
  by_cases h : 65 ≤ b.toNat ∧ b.toNat ≤ 90
  · have e := lowB_yes b h.1 h.2
    exact lowB_no _ (by omega)
  · rw [lowB_no b h, lowB_no b h]
theorem smallS_small (s : ByteArray) : smallS (smallS s) = smallS s := by
  unfold smallS
  simp only [List.map_map]
  congr 2
  apply List.map_congr_left
  intro b _
  exact lowB_lowB b

/-- Byte i of a text. -/
def byteAt (s : ByteArray) (i : Nat) : UInt8 := s.data.toList.getD i 0

/-- A block of bytes holds n bytes from its beginning, told by f. -/
def ByRow (w : World) (b n : Nat) (f : Nat → UInt8) : Prop :=
  ∃ (c : Array Value) (fr : Nat), w.heap[b]? = some (.cells c 5 (c.size, fr)) ∧ n ≤ c.size ∧ ∀ i, i < n → c[i]? = some (.int .u8 ((f i).toNat : Int))

theorem ByRow.cell {w : World} {b n : Nat} {f : Nat → UInt8} (h : ByRow w b n f) {i : Nat} (hi : i < n) : w.cell? ⟨b, i, none⟩ = some (.int .u8 ((f i).toNat : Int)) := by
  obtain ⟨c, fr, hb, hn, hc⟩ := h
  simp [World.cell?, hb, hc i hi]
theorem ByRow.frozen {w : World} {b n : Nat} {f : Nat → UInt8} (h : ByRow w b n f) {i : Nat} (hi : i < n) : w.frozen? ⟨b, i, none⟩ = false := by
  obtain ⟨c, fr, hb, hn, hc⟩ := h
  have : ¬ c.size ≤ i := by omega
  simp [World.frozen?, hb, this]
theorem ByRow.set {w : World} {b n : Nat} {f : Nat → UInt8} (h : ByRow w b n f) (i : Nat) (v : Int) (y : UInt8) (hv : v = (y.toNat : Int)) : ByRow (w.setCell ⟨b, i, none⟩ (.int .u8 v)) b n (fun j => if j = i then y else f j) := by
  subst hv
  obtain ⟨c, fr, hb, hn, hc⟩ := h
  refine ⟨c.setIfInBounds i (.int .u8 (y.toNat : Int)), fr, ?_, by simpa using hn, fun j hj => ?_⟩
  · simp [World.setCell, Array.getElem?_modify, hb]
  · rw [Array.getElem?_setIfInBounds]
    by_cases e : j = i
    · subst e
      have : j < c.size := by omega
      simp [this]
    · rw [if_neg (fun h => e h.symm)]
      simp only [e, if_false]
      exact hc j hj
theorem ByRow.congr {w : World} {b n : Nat} {f g : Nat → UInt8} (h : ByRow w b n f) (hg : ∀ i, i < n → f i = g i) : ByRow w b n g := by
  obtain ⟨c, fr, hb, hn, hc⟩ := h
  exact ⟨c, fr, hb, hn, fun i hi => by rw [hc i hi, hg i hi]⟩

/-- '[]byte(s)': a new block with the bytes. -/
theorem conv_row (w : World) (s : ByteArray) : ∃ cap W, Sem.run Tryd.prog (convert 9 43 (.string s)) w = .ok (.slice (some ⟨w.heap.size, 0, none⟩) s.size cap) W ∧
    Below w.heap.size w W ∧ W.heap.size = w.heap.size + 1 ∧ ByRow W w.heap.size s.size (byteAt s) := by
  refine ⟨_, _, run_bytes_of_string w 9 43 5 s Tryd.underlying9 Tryd.underlying43 Tryd.underlying5, (Below.refl _ _).drew.alloc (Nat.le_refl _) _, by simp, ?_⟩
  refine ⟨bytesRow s (grownCap w s.size 0 5), (bytesRow s (grownCap w s.size 0 5)).size + 1, ?_, ?_, ?_⟩
  · show (w.heap.push _)[w.heap.size]? = _
    rw [Array.getElem?_push_size]
  · simp [bytesRow]
  · intro i hi
    have hi' : i < s.data.size := hi
    rw [bytesRow_at s _ i hi']
    simp [byteAt, Array.getElem?_eq_getElem hi']

/-- 'string(b)' of such bytes. -/
theorem back_row {w : World} {b n cap : Nat} {f : Nat → UInt8} (h : ByRow w b n f) (l : List UInt8) (hl : l.length = n) (hf : ∀ i (hi : i < l.length), l[i] = f i) :
    Sem.run Tryd.prog (convert 43 9 (.slice (some ⟨b, 0, none⟩) n cap)) w = .ok (.string ⟨l.toArray⟩) w := by
  subst hl
  refine run_convert_bytes_back w 43 9 5 ⟨b, 0, none⟩ cap l Tryd.underlying43 Tryd.underlying5 Tryd.underlying9 fun j hj => ?_
  have e : (⟨b, 0, none⟩ : Addr).add j = ⟨b, j, none⟩ := by unfold Addr.add; split <;> simp_all
  rw [e, h.cell hj, hf j hj]

/-- How the bytes lie behind k steps. -/
def lowTo (s : ByteArray) (k i : Nat) : UInt8 := if i < k then lowB (byteAt s i) else byteAt s i

theorem lowTo_step (s : ByteArray) (k i : Nat) : (if i = k then lowB (byteAt s k) else lowTo s k i) = lowTo s (k + 1) i := by
  unfold lowTo
  by_cases e : i = k
  · subst e
    rw [if_pos rfl, if_pos (by omega)]
  · by_cases e2 : i < k
    · rw [if_neg e, if_pos e2, if_pos (by omega)]
    · rw [if_neg e, if_neg e2, if_neg (by omega)]
theorem lowTo_stay (s : ByteArray) (k : Nat) (h : lowB (byteAt s k) = byteAt s k) (i : Nat) : lowTo s k i = lowTo s (k + 1) i := by
  rw [← lowTo_step]
  by_cases e : i = k
  · subst e
    rw [if_pos rfl, h]
    unfold lowTo
    rw [if_neg (Nat.lt_irrefl _)]
  · rw [if_neg e]
theorem lowTo_self (s : ByteArray) (k : Nat) : lowTo s k k = byteAt s k := if_neg (Nat.lt_irrefl _)

/-- All is done. -/
theorem lowTo_back {w : World} {b cap : Nat} {s : ByteArray} (h : ByRow w b s.size (lowTo s s.size)) :
    Sem.run Tryd.prog (convert 43 9 (.slice (some ⟨b, 0, none⟩) s.size cap)) w = .ok (.string (smallS s)) w := by
  refine back_row h (s.data.toList.map lowB) (by simp) ?_
  intro i hi
  have hi' : i < s.data.size := by simpa using hi
  have hi2 : i < s.size := hi'
  simp [lowTo, hi2, byteAt]

end Go.Proofs.YtmambbknljgjcaaDoor.Sg

namespace Go.Proofs.YtmambbknljgjcaaDoor.Sg
open Go.ChangeShapes Go.WideShapes Go.ChangeAt Go.RowKit

set_option maxHeartbeats 1000000 in
theorem implSmall (s : ByteArray) (w : World) (hs : s.size ≤ 4611686018427387904) :
    Calls Tryd.prog 68 #[.string s] w fun e w' => e = .returned (.string (smallS s)) ∧ Below w.heap.size w w' := by
  obtain ⟨cap, W, hrun, hbW, hszW, hrW⟩ := conv_row w s
  have HrW : Hid (ByRow W w.heap.size s.size (byteAt s)) := hrW
  have HbW : Hid (Below w.heap.size w W) := hbW
  have HszW : Hid (W.heap.size = w.heap.size + 1) := hszW
  clear hrW hbW hszW
  generalize hn : s.size = n at *
  have Hn : Hid (s.size = n) := hn
  clear hn
  go_enter Tryd.func68, Tryd.ntmps68
  go_wp2
  go_loopw [10] (fun i wr => ∃ k : Nat, k ≤ n ∧ i = .int .i64 k ∧ Hid (ByRow wr w.heap.size n (lowTo s k)) ∧ Hid (Below w.heap.size w wr)) (fun i _ => n - (intOf i).toNat)
  case atStart =>
    refine ⟨0, Nat.zero_le _, rfl, ?_, HbW⟩
    exact HrW.out.congr fun i _ => (if_neg (Nat.not_lt_zero _)).symm
  case round =>
    obtain ⟨k, hk, rfl, Hr, Hb⟩ := hrel
    clear HrW HbW HszW hrun
    by_cases hlt : k < n
    · have h1 := Hr.out.cell hlt
      have h2 := Hr.out.frozen hlt
      rw [lowTo_self] at h1
      have hx : (byteAt s k).toNat < 256 := UInt8.toNat_lt _
      by_cases g1 : 65 ≤ (byteAt s k).toNat
      · by_cases g2 : (byteAt s k).toNat ≤ 90
        · have hlow := lowB_yes (byteAt s k) g1 g2
          have Hnx : Hid (∀ v : Int, v = ((byteAt s k).toNat : Int) + 32 → ByRow (wr.setCell ⟨w.heap.size, k, none⟩ (.int .u8 v)) w.heap.size n (lowTo s (k + 1))) :=
            fun v hv => (Hr.out.set k v (lowB (byteAt s k)) (by rw [hlow]; omega)).congr fun i _ => lowTo_step s k i
          clear hlow
          generalize (byteAt s k).toNat = x at *
          go_wp2
          go_roundw
          case rel => exact ⟨k + 1, by omega, by go_num, Hnx.out _ (by omega), Hb.out.setCell (Nat.le_refl _) _⟩
          case measure => simp [intOf]; omega
        · have Hnx : Hid (ByRow wr w.heap.size n (lowTo s (k + 1))) := Hr.out.congr (fun i _ => lowTo_stay s k (lowB_no _ (fun h => g2 h.2)) i)
          generalize (byteAt s k).toNat = x at *
          go_wp2
          go_roundw
          case rel => exact ⟨k + 1, by omega, by go_num, Hnx, Hb⟩
          case measure => simp [intOf]; omega
      · have Hnx : Hid (ByRow wr w.heap.size n (lowTo s (k + 1))) := Hr.out.congr (fun i _ => lowTo_stay s k (lowB_no _ (fun h => g1 h.1)) i)
        generalize (byteAt s k).toNat = x at *
        go_wp2
        go_roundw
        case rel => exact ⟨k + 1, by omega, by go_num, Hnx, Hb⟩
        case measure => simp [intOf]; omega
    · have hkn : k = n := by omega
      subst hkn
      have hbk : Sem.run Tryd.prog (convert 43 9 (.slice (some ⟨w.heap.size, 0, none⟩) k cap)) wr = .ok (.string (smallS s)) wr := by
        have h := Hr.out
        rw [← Hn.out] at h ⊢
        exact lowTo_back h
      go_wp2
      go_ret
      exact ⟨rfl, Hb.out⟩

set_option maxHeartbeats 1000000 in
theorem specSmall (s : ByteArray) (w : World) (hs : s.size ≤ 4611686018427387904) :
    Calls Tryd.prog 42 #[.string s] w fun e w' => e = .returned (.string (smallS s)) ∧ Below w.heap.size w w' := by
  obtain ⟨cap, W, hrun, hbW, hszW, hrW⟩ := conv_row w s
  have HrW : Hid (ByRow W w.heap.size s.size (byteAt s)) := hrW
  have HbW : Hid (Below w.heap.size w W) := hbW
  have HszW : Hid (W.heap.size = w.heap.size + 1) := hszW
  clear hrW hbW hszW
  generalize hn : s.size = n at *
  have Hn : Hid (s.size = n) := hn
  clear hn
  go_enter Tryd.func42, Tryd.ntmps42
  go_wp2
  go_loopw [4] (fun i wr => ∃ k : Nat, k ≤ n ∧ i = .int .i64 k ∧ Hid (ByRow wr w.heap.size n (lowTo s k)) ∧ Hid (Below w.heap.size w wr)) (fun i _ => n - (intOf i).toNat)
  case atStart =>
    refine ⟨0, Nat.zero_le _, rfl, ?_, HbW⟩
    exact HrW.out.congr fun i _ => (if_neg (Nat.not_lt_zero _)).symm
  case round =>
    obtain ⟨k, hk, rfl, Hr, Hb⟩ := hrel
    clear HrW HbW HszW hrun
    by_cases hlt : k < n
    · have h1 := Hr.out.cell hlt
      have h2 := Hr.out.frozen hlt
      rw [lowTo_self] at h1
      have hx : (byteAt s k).toNat < 256 := UInt8.toNat_lt _
      by_cases g1 : 65 ≤ (byteAt s k).toNat
      · by_cases g2 : (byteAt s k).toNat ≤ 90
        · have hlow := lowB_yes (byteAt s k) g1 g2
          have Hnx : Hid (∀ v : Int, v = ((byteAt s k).toNat : Int) + 32 → ByRow (wr.setCell ⟨w.heap.size, k, none⟩ (.int .u8 v)) w.heap.size n (lowTo s (k + 1))) :=
            fun v hv => (Hr.out.set k v (lowB (byteAt s k)) (by rw [hlow]; omega)).congr fun i _ => lowTo_step s k i
          clear hlow
          generalize (byteAt s k).toNat = x at *
          go_wp2
          go_roundw
          case rel => exact ⟨k + 1, by omega, by go_num, Hnx.out _ (by omega), Hb.out.setCell (Nat.le_refl _) _⟩
          case measure => simp [intOf]; omega
        · have Hnx : Hid (ByRow wr w.heap.size n (lowTo s (k + 1))) := Hr.out.congr (fun i _ => lowTo_stay s k (lowB_no _ (fun h => g2 h.2)) i)
          generalize (byteAt s k).toNat = x at *
          go_wp2
          go_roundw
          case rel => exact ⟨k + 1, by omega, by go_num, Hnx, Hb⟩
          case measure => simp [intOf]; omega
      · have Hnx : Hid (ByRow wr w.heap.size n (lowTo s (k + 1))) := Hr.out.congr (fun i _ => lowTo_stay s k (lowB_no _ (fun h => g1 h.1)) i)
        generalize (byteAt s k).toNat = x at *
        go_wp2
        go_roundw
        case rel => exact ⟨k + 1, by omega, by go_num, Hnx, Hb⟩
        case measure => simp [intOf]; omega
    · have hkn : k = n := by omega
      subst hkn
      have hbk : Sem.run Tryd.prog (convert 43 9 (.slice (some ⟨w.heap.size, 0, none⟩) k cap)) wr = .ok (.string (smallS s)) wr := by
        have h := Hr.out
        rw [← Hn.out] at h ⊢
        exact lowTo_back h
      go_wp2
      go_ret
      exact ⟨rfl, Hb.out⟩

end Go.Proofs.YtmambbknljgjcaaDoor.Sg

namespace Go.Proofs.YtmambbknljgjcaaDoor.Sg
open Go.ChangeShapes Go.WideShapes Go.ChangeAt Go.RowKit

/-- A tag whose text is taken as it comes. -/
def rawB (s : ByteArray) : Bool := s.toList == [115, 99, 114, 105, 112, 116] || (s.toList == [115, 116, 121, 108, 101] || (s.toList == [116, 105, 116, 108, 101] || s.toList == [116, 101, 120, 116, 97, 114, 101, 97]))

theorem ret_bool' {a b : Bool} (h : a = b) : Ending.returned (.bool a) = .returned (.bool b) := by rw [h]

set_option maxHeartbeats 1000000 in
theorem specRaw (s : ByteArray) (w : World) :
    Calls Tryd.prog 44 #[.string s] w fun e w' => e = .returned (.bool (rawB s)) ∧ w' = w := by
  have e1 : (⟨#[115, 99, 114, 105, 112, 116]⟩ : ByteArray).toList = [115, 99, 114, 105, 112, 116] := ByteArray.toList_mk _
  have e2 : (⟨#[115, 116, 121, 108, 101]⟩ : ByteArray).toList = [115, 116, 121, 108, 101] := ByteArray.toList_mk _
  have e3 : (⟨#[116, 105, 116, 108, 101]⟩ : ByteArray).toList = [116, 105, 116, 108, 101] := ByteArray.toList_mk _
  have e4 : (⟨#[116, 101, 120, 116, 97, 114, 101, 97]⟩ : ByteArray).toList = [116, 101, 120, 116, 97, 114, 101, 97] := ByteArray.toList_mk _
  have Hn : Hid (rawB s = (s.toList == [115, 99, 114, 105, 112, 116] || (s.toList == [115, 116, 121, 108, 101] || (s.toList == [116, 105, 116, 108, 101] || s.toList == [116, 101, 120, 116, 97, 114, 101, 97])))) := rfl
  cases h1 : s.toList == [115, 99, 114, 105, 112, 116]
  · cases h2 : s.toList == [115, 116, 121, 108, 101]
    · cases h3 : s.toList == [116, 105, 116, 108, 101]
      · rw [h1, h2, h3] at Hn
        go_enter Tryd.func44, Tryd.ntmps44
        go_wp2
        go_ret
        exact ⟨ret_bool' (by rw [Hn.out]; rfl), rfl⟩
      · rw [h1, h2, h3] at Hn
        go_enter Tryd.func44, Tryd.ntmps44
        go_wp2
        go_ret
        exact ⟨ret_bool' (by rw [Hn.out]; rfl), rfl⟩
    · rw [h1, h2] at Hn
      go_enter Tryd.func44, Tryd.ntmps44
      go_wp2
      go_ret
      exact ⟨ret_bool' (by rw [Hn.out]; rfl), rfl⟩
  · rw [h1] at Hn
    go_enter Tryd.func44, Tryd.ntmps44
    go_wp2
    go_ret
    exact ⟨ret_bool' (by rw [Hn.out]; rfl), rfl⟩

/-- What may stand behind a name that ends a text. -/
def endU (b : UInt8) : Bool := blankU b || (decide (b.toNat = 47) || decide (b.toNat = 62))
/-- An end of that name stands at a place. -/
def rawAt (s name : ByteArray) (k : Nat) (h : k + 2 + name.size < s.size) : Bool :=
  decide ((s[k]'(by omega)).toNat = 60) && (decide ((s[k + 1]'(by omega)).toNat = 47) && (((smallS (s.extract (k + 2) (k + 2 + name.size))).toList == (smallS name).toList) && endU (s[k + 2 + name.size]'h)))
/-- The first such place from one on; the text's size where there is none. -/
def rawE (s name : ByteArray) (k : Nat) : Nat :=
  if h : k + 2 + name.size < s.size then if rawAt s name k h then k else rawE s name (k + 1) else s.size
  termination_by s.size - k
theorem rawE_yes {s name : ByteArray} {k : Nat} (h : k + 2 + name.size < s.size) (hr : rawAt s name k h = true) : rawE s name k = k := by
  rw [rawE, dif_pos h, if_pos hr]
theorem rawE_no {s name : ByteArray} {k : Nat} (h : k + 2 + name.size < s.size) (hr : rawAt s name k h = false) : rawE s name k = rawE s name (k + 1) := by
  rw [rawE, dif_pos h, if_neg (by rw [hr]; simp)]
theorem rawE_end {s name : ByteArray} {k : Nat} (h : ¬ k + 2 + name.size < s.size) : rawE s name k = s.size := by
  rw [rawE, dif_neg h]
def rawEndE (s : ByteArray) (p : Int) (name : ByteArray) : Nat := if (s.size : Int) ≤ p then s.size else rawE s name p.toNat

set_option maxHeartbeats 1000000 in
theorem l1Max_any (a b : Int) (w : World) :
    Calls Tryd.prog 61 #[.int .i64 a, .int .i64 b] w fun e w' => e = .returned (.int .i64 (max a b)) ∧ w' = w := by
  by_cases h : a < b
  · have Hn : Hid (max a b = b) := by show _ = _; omega
    have g : ¬ b < a := by omega
    have g1 : ¬ b ≤ a := by omega
    go_enter Tryd.func61, Tryd.ntmps61
    go_wp2
    go_ret
    exact ⟨ret_i64' Hn.out.symm, rfl⟩
  · have Hn : Hid (max a b = a) := by show _ = _; omega
    by_cases h2 : b < a
    · go_enter Tryd.func61, Tryd.ntmps61
      go_wp2
      go_ret
      exact ⟨ret_i64' Hn.out.symm, rfl⟩
    · have he : a = b := by omega
      subst he
      go_enter Tryd.func61, Tryd.ntmps61
      go_wp2
      go_ret
      exact ⟨by first | exact ret_i64' Hn.out.symm | rfl, rfl⟩

set_option maxRecDepth 20000 in
set_option maxHeartbeats 4000000 in
theorem specRawEnd (s : ByteArray) (p : Int) (name : ByteArray) (w : World) (hs : s.size ≤ 17592186044416) (hn : name.size ≤ 17592186044416) :
    Calls Tryd.prog 45 #[.string s, .int .i64 p, .string name] w fun e w' => e = .returned (.int .i64 (rawEndE s p name : Int)) ∧ Below w.heap.size w w' := by
  by_cases h0 : (s.size : Int) ≤ p
  · have Hn : Hid (rawEndE s p name = s.size) := if_pos h0
    go_enter Tryd.func45, Tryd.ntmps45
    go_wp2
    go_ret
    exact ⟨ret_i64' (by rw [Hn.out]), Below.refl _ _⟩
  have Ho : Hid (rawEndE s p name = rawE s name p.toNat) := if_neg h0
  have hi : p.toNat ≤ s.size := by omega
  have Hm : Hid (∀ w : World, Calls Tryd.prog 61 #[.int .i64 p, .int .i64 0] w fun e w' => e = .returned (.int .i64 (p.toNat : Int)) ∧ w' = w) := fun w => by
    have h := l1Max_any p 0 w
    rw [show max p 0 = (p.toNat : Int) by omega] at h
    exact h
  have g0 : ¬ (s.size : Int) ≤ p := h0
  clear h0
  generalize p.toNat = i at *
  have Hs2 : Hid (∀ w : World, Calls Tryd.prog 42 #[.string name] w fun e w' => e = .returned (.string (smallS name)) ∧ Below w.heap.size w w') := fun w => specSmall name w (by omega)
  go_enter Tryd.func45, Tryd.ntmps45
  go_wp2_with fail
  refine (Hm.out _).mono ?_
  rintro e w0 ⟨rfl, rfl⟩
  clear Hm
  go_wp2_with fail
  go_loopw [8] (fun v wr => ∃ k : Nat, k ≤ s.size ∧ v = .int .i64 (k : Int) ∧ Hid (rawE s name i = rawE s name k) ∧ Below w0.heap.size w0 wr) (fun v _ => s.size - (intOf v).toNat)
  case atStart => exact ⟨i, hi, rfl, rfl, Below.refl _ _⟩
  case round =>
    obtain ⟨k, hk, rfl, Hsp, hbel⟩ := hrel
    by_cases hlt : k + 2 + name.size < s.size
    · have hk0 : k < s.size := by omega
      have hk1 : k + 1 < s.size := by omega
      have g1 : (k : Int) + 2 + (name.size : Int) < (s.size : Int) := by omega
      have hra : ∀ b, rawAt s name k hlt = b → (decide ((s[k]'hk0).toNat = 60) && (decide ((s[k + 1]'hk1).toNat = 47) && (((smallS (s.extract (k + 2) (k + 2 + name.size))).toList == (smallS name).toList) && endU (s[k + 2 + name.size]'hlt)))) = b := fun b h => h
      have hro : ∀ b, (decide ((s[k]'hk0).toNat = 60) && (decide ((s[k + 1]'hk1).toNat = 47) && (((smallS (s.extract (k + 2) (k + 2 + name.size))).toList == (smallS name).toList) && endU (s[k + 2 + name.size]'hlt)))) = b → rawAt s name k hlt = b := fun b h => h
      clear hra
      by_cases q60 : (s[k]'hk0).toNat = 60
      case neg =>
        have gq60 : (((s[k]'hk0).toNat : Int) == 60) = false := by simp; omega
        have Hn : Hid (rawE s name i = rawE s name (k + 1)) := Hsp.out.trans (rawE_no hlt (by exact hro _ (by rw [decide_eq_false q60]; rfl)))
        clear Hsp hro q60
        go_wp2
        go_roundw
        case rel => exact ⟨k + 1, by omega, by go_num, Hn, hbel⟩
        case measure => simp [intOf]; omega
      by_cases q47 : (s[k + 1]'hk1).toNat = 47
      case neg =>
        have gq60 : (((s[k]'hk0).toNat : Int) == 60) = true := by simp [q60]
        have gq47 : (((s[k + 1]'hk1).toNat : Int) == 47) = false := by simp; omega
        have g2 : (k : Int) + 1 < (s.size : Int) := by omega
        have Hn : Hid (rawE s name i = rawE s name (k + 1)) := Hsp.out.trans (rawE_no hlt (by exact hro _ (by rw [decide_eq_true q60, decide_eq_false q47]; rfl)))
        clear Hsp hro q60 q47
        go_wp2
        go_roundw
        case rel => exact ⟨k + 1, by omega, by go_num, Hn, hbel⟩
        case measure => simp [intOf]; omega
      have gq60 : (((s[k]'hk0).toNat : Int) == 60) = true := by simp [q60]
      have gq47 : (((s[k + 1]'hk1).toNat : Int) == 47) = true := by simp [q47]
      have g2 : (k : Int) + 1 < (s.size : Int) := by omega
      have g3 : (k : Int) + 2 ≤ (k : Int) + 2 + (name.size : Int) := by omega
      have g4 : (k : Int) + 2 + (name.size : Int) ≤ (s.size : Int) := by omega
      have g5 : ((k : Int) + 2 + (name.size : Int)).toNat = k + 2 + name.size := by omega
      have g6 : ((k : Int) + 2).toNat = k + 2 := by omega
      have Hs1 : Hid (∀ w : World, Calls Tryd.prog 42 #[.string (s.extract (k + 2) (k + 2 + name.size))] w fun e w' => e = .returned (.string (smallS (s.extract (k + 2) (k + 2 + name.size)))) ∧ Below w.heap.size w w') := fun w => specSmall _ w (by simp only [ByteArray.size_extract]; omega)
      have hro2 : ∀ b, (((smallS (s.extract (k + 2) (k + 2 + name.size))).toList == (smallS name).toList) && endU (s[k + 2 + name.size]'hlt)) = b → rawAt s name k hlt = b := fun b h => hro b (by rw [decide_eq_true q60, decide_eq_true q47, Bool.true_and, Bool.true_and]; exact h)
      clear hro q60 q47
      generalize smallS (s.extract (k + 2) (k + 2 + name.size)) = sa at *
      generalize smallS name = sb at *
      cases hq : sa.toList == sb.toList
      · have Hr : Hid (rawAt s name k hlt = false) := hro2 _ (by rw [hq]; rfl)
        have Hn : Hid (rawE s name i = rawE s name (k + 1)) := Hsp.out.trans (rawE_no hlt (by exact Hr.out))
        clear Hsp Hr hro2
        go_wp2_with fail
        refine (Hs1.out _).mono ?_
        rintro e w1 ⟨rfl, b1⟩
        go_wp2_with fail
        refine (Hs2.out _).mono ?_
        rintro e w2 ⟨rfl, b2⟩
        have b12 := hbel.trans ((b1.trans (b2.mono b1.size)).mono hbel.size)
        clear b1 b2 hbel
        go_wp2
        go_roundw
        case rel => exact ⟨k + 1, by omega, by go_num, Hn, b12⟩
        case measure => simp [intOf]; omega
      · have hro3 : ∀ b, endU (s[k + 2 + name.size]'hlt) = b → rawAt s name k hlt = b := fun b h => hro2 b (by rw [hq]; exact h)
        clear hro2
        have hb256 : (s[k + 2 + name.size]'hlt).toNat < 256 := UInt8.toNat_lt _
        cases hbl : blankU (s[k + 2 + name.size]'hlt)
        · by_cases q47 : (s[k + 2 + name.size]'hlt).toNat = 47
          · have Hb : Hid (∀ w : World, Calls Tryd.prog 58 #[.int .u8 ((s[k + 2 + name.size]'hlt).toNat : Int)] w fun e w' => e = .returned (.bool false) ∧ w' = w) := fun w => hbl ▸ specBlankU (s[k + 2 + name.size]'hlt) w
            have gq47 : (((s[k + 2 + name.size]'hlt).toNat : Int) == 47) = true := by simp [q47]
            have Hr : Hid (rawAt s name k hlt = true) := hro3 _ (by unfold endU; rw [hbl, decide_eq_true q47]; rfl)
            have Hn : Hid (rawE s name i = k) := Hsp.out.trans (rawE_yes hlt (by exact Hr.out))
            clear Hsp Hr hro3 hbl q47
            go_wp2_with fail
            refine (Hs1.out _).mono ?_
            rintro e w1 ⟨rfl, b1⟩
            go_wp2_with fail
            refine (Hs2.out _).mono ?_
            rintro e w2 ⟨rfl, b2⟩
            have b12 := hbel.trans ((b1.trans (b2.mono b1.size)).mono hbel.size)
            clear b1 b2 hbel
            go_wp2_with fail
            refine (Hb.out _).mono ?_
            rintro e w3 ⟨rfl, rfl⟩
            go_wp2
            go_ret
            exact ⟨ret_i64' (by rw [Ho.out, Hn.out]), b12⟩
          · by_cases q62 : (s[k + 2 + name.size]'hlt).toNat = 62
            · have Hb : Hid (∀ w : World, Calls Tryd.prog 58 #[.int .u8 ((s[k + 2 + name.size]'hlt).toNat : Int)] w fun e w' => e = .returned (.bool false) ∧ w' = w) := fun w => hbl ▸ specBlankU (s[k + 2 + name.size]'hlt) w
              have gq47 : (((s[k + 2 + name.size]'hlt).toNat : Int) == 47) = false := by simp; omega
              have gq62 : (((s[k + 2 + name.size]'hlt).toNat : Int) == 62) = true := by simp [q62]
              have Hr : Hid (rawAt s name k hlt = true) := hro3 _ (by unfold endU; rw [hbl, decide_eq_false q47, decide_eq_true q62]; rfl)
              have Hn : Hid (rawE s name i = k) := Hsp.out.trans (rawE_yes hlt (by exact Hr.out))
              clear Hsp Hr hro3 hbl q47 q62
              go_wp2_with fail
              refine (Hs1.out _).mono ?_
              rintro e w1 ⟨rfl, b1⟩
              go_wp2_with fail
              refine (Hs2.out _).mono ?_
              rintro e w2 ⟨rfl, b2⟩
              have b12 := hbel.trans ((b1.trans (b2.mono b1.size)).mono hbel.size)
              clear b1 b2 hbel
              go_wp2_with fail
              refine (Hb.out _).mono ?_
              rintro e w3 ⟨rfl, rfl⟩
              go_wp2
              go_ret
              exact ⟨ret_i64' (by rw [Ho.out, Hn.out]), b12⟩
            · have Hb : Hid (∀ w : World, Calls Tryd.prog 58 #[.int .u8 ((s[k + 2 + name.size]'hlt).toNat : Int)] w fun e w' => e = .returned (.bool false) ∧ w' = w) := fun w => hbl ▸ specBlankU (s[k + 2 + name.size]'hlt) w
              have gq47 : (((s[k + 2 + name.size]'hlt).toNat : Int) == 47) = false := by simp; omega
              have gq62 : (((s[k + 2 + name.size]'hlt).toNat : Int) == 62) = false := by simp; omega
              have Hr : Hid (rawAt s name k hlt = false) := hro3 _ (by unfold endU; rw [hbl, decide_eq_false q47, decide_eq_false q62]; rfl)
              have Hn : Hid (rawE s name i = rawE s name (k + 1)) := Hsp.out.trans (rawE_no hlt (by exact Hr.out))
              clear Hsp Hr hro3 hbl q47 q62
              go_wp2_with fail
              refine (Hs1.out _).mono ?_
              rintro e w1 ⟨rfl, b1⟩
              go_wp2_with fail
              refine (Hs2.out _).mono ?_
              rintro e w2 ⟨rfl, b2⟩
              have b12 := hbel.trans ((b1.trans (b2.mono b1.size)).mono hbel.size)
              clear b1 b2 hbel
              go_wp2_with fail
              refine (Hb.out _).mono ?_
              rintro e w3 ⟨rfl, rfl⟩
              go_wp2
              go_roundw
              case rel => exact ⟨k + 1, by omega, by go_num, Hn, b12⟩
              case measure => simp [intOf]; omega
        · have Hb : Hid (∀ w : World, Calls Tryd.prog 58 #[.int .u8 ((s[k + 2 + name.size]'hlt).toNat : Int)] w fun e w' => e = .returned (.bool true) ∧ w' = w) := fun w => hbl ▸ specBlankU (s[k + 2 + name.size]'hlt) w
          have Hr : Hid (rawAt s name k hlt = true) := hro3 _ (by unfold endU; rw [hbl]; rfl)
          have Hn : Hid (rawE s name i = k) := Hsp.out.trans (rawE_yes hlt (by exact Hr.out))
          clear Hsp Hr hro3 hbl
          go_wp2_with fail
          refine (Hs1.out _).mono ?_
          rintro e w1 ⟨rfl, b1⟩
          go_wp2_with fail
          refine (Hs2.out _).mono ?_
          rintro e w2 ⟨rfl, b2⟩
          have b12 := hbel.trans ((b1.trans (b2.mono b1.size)).mono hbel.size)
          clear b1 b2 hbel
          go_wp2_with fail
          refine (Hb.out _).mono ?_
          rintro e w3 ⟨rfl, rfl⟩
          go_wp2
          go_ret
          exact ⟨ret_i64' (by rw [Ho.out, Hn.out]), b12⟩
    · have Hn : Hid (rawE s name i = s.size) := Hsp.out.trans (rawE_end hlt)
      have g1 : decide ((k : Int) + 2 + (name.size : Int) < (s.size : Int)) = false := decide_eq_false (by omega)
      clear Hsp
      go_wp2
      go_ret
      exact ⟨ret_i64' (by rw [Ho.out, Hn.out]), hbel⟩

end Go.Proofs.YtmambbknljgjcaaDoor.Sg

namespace Go.Proofs.YtmambbknljgjcaaDoor.Sg
open Go.ChangeShapes Go.WideShapes Go.ChangeAt Go.RowKit

set_option maxHeartbeats 1000000 in
theorem implRaw (s : ByteArray) (w : World) :
    Calls Tryd.prog 34 #[.string s] w fun e w' => e = .returned (.bool (rawB s)) ∧ w' = w := by
  have e1 : (⟨#[115, 99, 114, 105, 112, 116]⟩ : ByteArray).toList = [115, 99, 114, 105, 112, 116] := ByteArray.toList_mk _
  have e2 : (⟨#[115, 116, 121, 108, 101]⟩ : ByteArray).toList = [115, 116, 121, 108, 101] := ByteArray.toList_mk _
  have e3 : (⟨#[116, 105, 116, 108, 101]⟩ : ByteArray).toList = [116, 105, 116, 108, 101] := ByteArray.toList_mk _
  have e4 : (⟨#[116, 101, 120, 116, 97, 114, 101, 97]⟩ : ByteArray).toList = [116, 101, 120, 116, 97, 114, 101, 97] := ByteArray.toList_mk _
  have Hn : Hid (rawB s = (s.toList == [115, 99, 114, 105, 112, 116] || (s.toList == [115, 116, 121, 108, 101] || (s.toList == [116, 105, 116, 108, 101] || s.toList == [116, 101, 120, 116, 97, 114, 101, 97])))) := rfl
  cases h1 : s.toList == [115, 99, 114, 105, 112, 116]
  · cases h2 : s.toList == [115, 116, 121, 108, 101]
    · cases h3 : s.toList == [116, 105, 116, 108, 101]
      · cases h4 : s.toList == [116, 101, 120, 116, 97, 114, 101, 97]
        · rw [h1, h2, h3, h4] at Hn
          go_enter Tryd.func34, Tryd.ntmps34
          go_wp2
          go_ret
          exact ⟨ret_bool' (by rw [Hn.out]; rfl), rfl⟩
        · rw [h1, h2, h3, h4] at Hn
          go_enter Tryd.func34, Tryd.ntmps34
          go_wp2
          go_ret
          exact ⟨ret_bool' (by rw [Hn.out]; rfl), rfl⟩
      · rw [h1, h2, h3] at Hn
        go_enter Tryd.func34, Tryd.ntmps34
        go_wp2
        go_ret
        exact ⟨ret_bool' (by rw [Hn.out]; rfl), rfl⟩
    · rw [h1, h2] at Hn
      go_enter Tryd.func34, Tryd.ntmps34
      go_wp2
      go_ret
      exact ⟨ret_bool' (by rw [Hn.out]; rfl), rfl⟩
  · rw [h1] at Hn
    go_enter Tryd.func34, Tryd.ntmps34
    go_wp2
    go_ret
    exact ⟨ret_bool' (by rw [Hn.out]; rfl), rfl⟩

end Go.Proofs.YtmambbknljgjcaaDoor.Sg
