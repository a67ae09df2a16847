/- Contract of the program's Write. Written by mk_ewdoc.py. -/
import Derived.Test.YtkngdlbedelgnaaGreatDoorEwWrite
namespace Go.Proofs.YtkngdlbedelgnaaGreatDoor.Sg
open Go.ChangeShapes Go.WideShapes Go.ChangeAt Go.RowKit

theorem strB_bL (s : ByteArray) : strB (bL s) = s := by simp [strB, bL]
theorem docF_ok {l : List ElB} (h : docF 0 0 l = true) : ∀ e ∈ l, okE e = true := fun e he => by
  rw [docF_parts, Bool.and_eq_true, Bool.and_eq_true, List.all_eq_true] at h
  have := h.2.2 e he
  unfold strictE at this
  rw [Bool.and_eq_true] at this
  exact this.2
theorem box2 {W : World} {k : Nat} {t : TypeId} {f : Nat × Nat} {a0 a1 : Value} (h : W.heap[k]? = some (.cells #[a0, a1] t f)) : W.cell? ⟨k, 0, none⟩ = some a0 ∧ W.cell? ⟨k, 1, none⟩ = some a1 := ⟨cell_in h 0, cell_in h 1⟩

set_option maxRecDepth 20000 in
set_option maxHeartbeats 8000000 in
theorem implWrite (l : List ElB) (lo : Nat) (a : Option Addr) (cap : Nat) (w : World) (hk : KidsIn (QA lo) (lo ≤ ·) w a l) (hs : ElsSmall l) (hw : l.length + elsW l ≤ 16777216) (hT : StLib w) :
    Calls Tryz.prog 9 #[.slice a l.length cap] w fun r w' => r = .returned (.string (writeB l)) ∧ Below w.heap.size w w' := by
  have hN := elsN_le l
  have HD := implDocOk l lo a cap w hk hs (by omega) hT
  have Hk : Hid (KidsIn (QA lo) (lo ≤ ·) w a l) := hk
  have Hs : Hid (ElsSmall l) := hs
  have hlen : l.length ≤ 16777216 := by omega
  clear hT hN hs
  cases hd : docF 0 0 l
  · have Hr : Hid (writeB l = ⟨#[]⟩) := by show _ = _; unfold writeB; rw [hd]; rfl
    rw [hd] at HD
    clear hk hw
    go_enter Tryz.func9, Tryz.ntmps9
    go_wp2_with fail
    refine HD.mono ?_
    rintro e w1 ⟨rfl, b1⟩
    have HB : Hid (Below w.heap.size w w1) := b1
    clear HD b1
    go_wp2_with fail
    go_ret
    exact ⟨by rw [Hr.out]; rfl, HB.out⟩
  have Hok : Hid (∀ e ∈ l, okE e = true) := docF_ok hd
  have Hwr : Hid (writeB l = strB (bL ⟨#[60, 63, 120, 109, 108, 32, 118, 101, 114, 115, 105, 111, 110, 61, 34, 49, 46, 48, 34, 63, 62, 10]⟩ ++ l.flatMap (fun e => bL (saidE e (-1)) ++ bL ⟨#[10]⟩))) := by
    show _ = _
    have h1 : writeB l = linesE xmlHead l := by unfold writeB; rw [if_pos hd]
    rw [h1, ← strB_bL (linesE xmlHead l), linesE_L]
    rfl
  have hle : (bL ⟨#[60, 63, 120, 109, 108, 32, 118, 101, 114, 115, 105, 111, 110, 61, 34, 49, 46, 48, 34, 63, 62, 10]⟩).length + (l.flatMap (fun e => bL (saidE e (-1)) ++ bL ⟨#[10]⟩)).length ≤ 1099511000000 := by
    have h1 := linesE_le l xmlHead
    have h2 := congrArg List.length (linesE_L l xmlHead)
    rw [bL_len, List.length_append] at h2
    have h3 : xmlHead.size = 22 := rfl
    have h4 : (bL xmlHead).length = (bL ⟨#[60, 63, 120, 109, 108, 32, 118, 101, 114, 115, 105, 111, 110, 61, 34, 49, 46, 48, 34, 63, 62, 10]⟩).length := rfl
    omega
  rw [hd] at HD
  clear hk hd hw
  go_enter Tryz.func9, Tryz.ntmps9
  go_wp2_with fail
  refine HD.mono ?_
  rintro e w1 ⟨rfl, b1⟩
  have b2 := (Below.refl w1.heap.size w1).alloc (Nat.le_refl _) (.cells #[.pointer none, .slice none 0 0] 51)
  have b3 := b2.alloc b2.size (.cells #[.pointer (some ⟨w1.heap.size, 0, none⟩), .int .i64 (-1)] 53)
  have HB0 : Hid (Below w.heap.size w w1) := b1
  have HB3 : Hid (Bl w1.heap.size w1.heap.size [] ((w1.alloc (.cells #[.pointer none, .slice none 0 0] 51)).alloc (.cells #[.pointer (some ⟨w1.heap.size, 0, none⟩), .int .i64 (-1)] 53))) := Bl.below (Lib.IsBuilderF.of (Lib.fresh_isBuilder 51 5 w1)) ((Below.refl _ _).alloc (Nat.le_refl _) _)
  have HX : Hid (((w1.alloc (.cells #[.pointer none, .slice none 0 0] 51)).alloc (.cells #[.pointer (some ⟨w1.heap.size, 0, none⟩), .int .i64 (-1)] 53)).heap[w1.heap.size + 1]? = some (.cells #[.pointer (some ⟨w1.heap.size, 0, none⟩), .int .i64 (-1)] 53 (0, 0))) := by
    have h := news_obj (w1.alloc (.cells #[.pointer none, .slice none 0 0] 51)) #[.pointer (some ⟨w1.heap.size, 0, none⟩), .int .i64 (-1)] 53
    have e : (w1.alloc (.cells #[.pointer none, .slice none 0 0] 51)).heap.size = w1.heap.size + 1 := by simp
    rw [e] at h
    exact h
  have HKi : Hid (KidsIn (QB w1.heap.size) (· < w1.heap.size) ((w1.alloc (.cells #[.pointer none, .slice none 0 0] 51)).alloc (.cells #[.pointer (some ⟨w1.heap.size, 0, none⟩), .int .i64 (-1)] 53)) a l) := (kids_first (Hk.out.keep (QA.lies _) b1)).kp (Kp.of (b := w1.heap.size) b3 (Nat.le_refl _))
  have HK0 : Hid (Below w1.heap.size w1 ((w1.alloc (.cells #[.pointer none, .slice none 0 0] 51)).alloc (.cells #[.pointer (some ⟨w1.heap.size, 0, none⟩), .int .i64 (-1)] 53))) := b3
  have hB3 : w1.heap.size ≤ ((w1.alloc (.cells #[.pointer none, .slice none 0 0] 51)).alloc (.cells #[.pointer (some ⟨w1.heap.size, 0, none⟩), .int .i64 (-1)] 53)).heap.size := b3.size
  have c0 : ((w1.alloc (.cells #[.pointer none, .slice none 0 0] 51)).alloc (.cells #[.pointer (some ⟨w1.heap.size, 0, none⟩), .int .i64 (-1)] 53)).cell? ⟨w1.heap.size + 1, 0, none⟩ = some (.pointer (some ⟨w1.heap.size, 0, none⟩)) := cell_in HX.out 0
  have c1 : ((w1.alloc (.cells #[.pointer none, .slice none 0 0] 51)).alloc (.cells #[.pointer (some ⟨w1.heap.size, 0, none⟩), .int .i64 (-1)] 53)).cell? ⟨w1.heap.size + 1, 1, none⟩ = some (.int .i64 (-1)) := cell_in HX.out 1
  clear HD b1 b2 b3 Hk
  go_upto_region 5 with fail
  generalize ((w1.alloc (.cells #[.pointer none, .slice none 0 0] 51)).alloc (.cells #[.pointer (some ⟨w1.heap.size, 0, none⟩), .int .i64 (-1)] 53)) = w3 at *
  obtain ⟨B, HBe⟩ : ∃ B, Hid (w1.heap.size = B) := ⟨_, rfl⟩
  rw [HBe.out] at HB3 HX HKi HK0 hB3 c0 c1 ⊢
  have hxb : B + 1 ≠ B := by omega
  have hc1 : catB [⟨#[60, 63, 120, 109, 108, 32, 118, 101, 114, 115, 105, 111, 110, 61, 34, 49, 46, 48, 34, 63, 62, 10]⟩] = bL ⟨#[60, 63, 120, 109, 108, 32, 118, 101, 114, 115, 105, 111, 110, 61, 34, 49, 46, 48, 34, 63, 62, 10]⟩ := by simp [catB, bL]
  have bN := (Below.refl w3.heap.size w3).alloc (Nat.le_refl _) (.cells #[.string ⟨#[60, 63, 120, 109, 108, 32, 118, 101, 114, 115, 105, 111, 110, 61, 34, 49, 46, 48, 34, 63, 62, 10]⟩] 9)
  have HP := implPut B B w3.heap.size 1 [] [⟨#[60, 63, 120, 109, 108, 32, 118, 101, 114, 115, 105, 111, 110, 61, 34, 49, 46, 48, 34, 63, 62, 10]⟩] (-1) _ (HB3.out.below bN) (Nat.le_trans hB3 bN.size) (news_obj w3 _ _) (by rw [hc1, List.length_nil]; omega) (by simp)
  rw [hc1, List.nil_append] at HP
  have HKn := (Kp.refl B B w3).news hB3 (.cells #[.string ⟨#[60, 63, 120, 109, 108, 32, 118, 101, 114, 115, 105, 111, 110, 61, 34, 49, 46, 48, 34, 63, 62, 10]⟩] 9)
  clear bN HB3 hc1
  go_wp2_with fail
  refine HP.mono ?_
  rintro e w4 ⟨rfl, hb4, hk4⟩
  generalize bL ⟨#[60, 63, 120, 109, 108, 32, 118, 101, 114, 115, 105, 111, 110, 61, 34, 49, 46, 48, 34, 63, 62, 10]⟩ = A1 at *
  have HB4 : Hid (Bl B B A1 w4) := hb4
  have HK4 : Hid (Kp B B w3 w4) := HKn.trans hk4
  clear HP hb4 hk4 HKn c0 c1
  go_wp2_with fail
  go_loopw [16] (fun iv wr => ∃ k : Nat, k ≤ l.length ∧ iv = .int .i64 (k : Int) ∧ Hid (Bl B B (A1 ++ (l.take k).flatMap (fun e => bL (saidE e (-1)) ++ bL ⟨#[10]⟩)) wr) ∧ Hid (Kp B B w3 wr)) (fun iv _ => l.length - (intOf iv).toNat)
  case atStart =>
    refine ⟨0, Nat.zero_le _, rfl, ?_, HK4.out⟩
    show Bl _ _ _ _
    rw [List.take_zero, List.flatMap_nil, List.append_nil]
    exact HB4.out
  case round =>
    clear HB4 HK4
    obtain ⟨k, hk, rfl, HBk, HKk⟩ := hrel
    have hBr := Nat.le_trans hB3 HKk.out.size
    obtain ⟨x0, x1⟩ := box2 (HKk.out.obj HX.out (by decide) hxb)
    by_cases hlt : k < l.length
    · rcases HKi.out.kp HKk.out with h | ⟨kb, ko, ek, _, hc⟩
      · omega
      cases ek
      obtain ⟨ekd, esp, enm, exa, en, exc, etx, eka, em, ekc, c0, c1, c2, c3, c4, c5, hV⟩ := (hc.get k hlt).parts3
      have hfl := fm_at (fun e => bL (saidE e (-1)) ++ bL ⟨#[10]⟩) l k hlt
      simp only [List.length_append] at hfl
      have Hst : Hid (A1 ++ ((l.take (k + 1)).flatMap (fun e => bL (saidE e (-1)) ++ bL ⟨#[10]⟩)) = A1 ++ ((l.take k).flatMap (fun e => bL (saidE e (-1)) ++ bL ⟨#[10]⟩)) ++ bL (saidE (l[k]'hlt) (-1)) ++ bL ⟨#[10]⟩) := by
        show _ = _
        rw [fm_take (fun e => bL (saidE e (-1)) ++ bL ⟨#[10]⟩) l k hlt]
        simp only [List.append_assoc]
      have HS := implSay (l[k]'hlt) B B (A1 ++ ((l.take k).flatMap (fun e => bL (saidE e (-1)) ++ bL ⟨#[10]⟩))) (-1) (.int .i64 ekd) (.int .i64 esp) (.string enm) (.slice exa en exc) (.string etx) (.slice eka em ekc) (wr.alloc (.cells #[.int .i64 ekd, .int .i64 esp, .string enm, .slice exa en exc, .string etx, .slice eka em ekc] 39)) (HBk.out.below ((Below.refl _ _).alloc (Nat.le_refl _) _)) (Nat.le_trans hBr ((Below.refl wr.heap.size wr).alloc (Nat.le_refl _) (.cells #[.int .i64 ekd, .int .i64 esp, .string enm, .slice exa en exc, .string etx, .slice eka em ekc] 39)).size) (hV.kp (Kp.of (b := B) ((Below.refl wr.heap.size wr).alloc (Nat.le_refl _) _) hBr)) (Hok.out _ (List.getElem_mem hlt)) (Hs.out.get _ (List.getElem_mem hlt)) (by rw [List.length_append]; omega)
      generalize bL (saidE (l[k]'hlt) (-1)) = SL at *
      have k0 : (0 : Int) ≤ (k : Int) := by omega
      have k1 : (k : Int) < (l.length : Int) := by omega
      have hk1 : k + 1 ≤ l.length := hlt
      have hn10 : (bL ⟨#[10]⟩).length = 1 := rfl
      have HK5 : Hid (Kp B B w3 (wr.alloc (.cells #[.int .i64 ekd, .int .i64 esp, .string enm, .slice exa en exc, .string etx, .slice eka em ekc] 39))) := HKk.out.news hB3 _
      have y0 := alC (x := .cells #[.int .i64 ekd, .int .i64 esp, .string enm, .slice exa en exc, .string etx, .slice eka em ekc] 39) x0
      have y1 := alC (x := .cells #[.int .i64 ekd, .int .i64 esp, .string enm, .slice exa en exc, .string etx, .slice eka em ekc] 39) x1
      clear hV hc HBk HKk
      go_wp2_with fail
      refine HS.mono ?_
      rintro e w6 ⟨rfl, hb6, hk6⟩
      have HK6 : Hid (Kp B B w3 w6) := HK5.out.trans hk6
      have hB6 := Nat.le_trans hB3 HK6.out.size
      have hc10 : catB [⟨#[10]⟩] = bL ⟨#[10]⟩ := by simp [catB, bL]
      have bN := (Below.refl w6.heap.size w6).alloc (Nat.le_refl _) (.cells #[.string ⟨#[10]⟩] 9)
      have HP := implPut B B w6.heap.size 1 _ [⟨#[10]⟩] (-1) _ (hb6.below bN) (Nat.le_trans hB6 bN.size) (news_obj w6 _ _) (by rw [hc10, List.length_append, List.length_append]; omega) (by simp)
      rw [hc10, ← Hst.out] at HP
      have HKn := HK6.out.news hB3 (.cells #[.string ⟨#[10]⟩] 9)
      obtain ⟨z0, z1⟩ := box2 (HK6.out.obj HX.out (by decide) hxb)
      clear HS hb6 hk6 HK5 HK6 bN x0 x1 y0 y1 c0 c1 c2 c3 c4 c5 Hst hc10
      go_wp2_with fail
      refine HP.mono ?_
      rintro e w7 ⟨rfl, hb7, hk7⟩
      have HB7 : Hid (Bl B B (A1 ++ (l.take (k + 1)).flatMap (fun e => bL (saidE e (-1)) ++ bL ⟨#[10]⟩)) w7) := hb7
      have HK7 : Hid (Kp B B w3 w7) := HKn.trans hk7
      clear HP hb7 hk7 HKn z0 z1
      go_wp2_with fail
      go_roundw
      case rel => exact ⟨k + 1, hk1, by go_num, HB7, HK7⟩
      case measure => simp [intOf]; omega
    · have g0 : decide ((k : Int) < (l.length : Int)) = false := decide_eq_false (by omega)
      have hI := HBk.out
      rw [List.take_of_length_le (by omega)] at hI
      have HW : Hid (∀ X, Below B wr X → Below w.heap.size w X) := fun X hX => HB0.out.trans ((HK0.out.trans (HKk.out.bel.trans hX)).mono (by rw [← HBe.out]; exact HB0.out.size))
      clear HBk x0 x1 HK0
      go_wp2_with fail
      refine (Tryz.Builder_String_any_k B B _ _ hI hBr).mono ?_
      rintro e w2 ⟨rfl, _, hb2, _⟩
      have HB2 := HW.out _ hb2
      have HBh : Hid (Below w.heap.size w w2) := HB2
      clear hI HB2 HW hb2
      go_wp2_with fail
      go_ret
      exact ⟨congrArg (fun x => Ending.returned (.string x)) Hwr.out.symm, HBh.out⟩

end Go.Proofs.YtkngdlbedelgnaaGreatDoor.Sg
