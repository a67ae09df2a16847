/- Contract of the model's DocText. -/
import Derived.Test.YtploagieecepfaaShSpec
import Derived.Test.YtploagieecepfaaElSpec
import Derived.Deep.RegionHeld3
import Derived.Deep.Cut
import Derived.Deep.CutRange
import Derived.Deep.DeepCutAuto
namespace Go.Proofs.Ytploagieecepfaa.Sg
open Go.ChangeShapes Go.WideShapes Go.ChangeAt Go.RowKit

def blankS (d : Nat) : ByteArray := strB (List.replicate d 32)
theorem blankS_size (d : Nat) : (blankS d).size = d := by rw [blankS, strB_size, List.length_replicate]
theorem blankS_more (d : Nat) : blankS d ++ ⟨#[32]⟩ = blankS (d + 1) := by
  have ext : ∀ a b : ByteArray, a.data.toList = b.data.toList → a = b := by
    intro a b h
    cases a
    cases b
    simpa using h
  apply ext
  simp [ByteArray.data_append, blankS, strB, List.replicate_succ']
def elNames : List (List UInt8) := [[116, 97, 103], [116, 101, 120, 116], [110, 111, 116, 101]]
mutual
/-- An element shown, and elements, a line each, so deep. -/
def showE : ElB → Nat → ByteArray
  | .mk kd _ nm _ tx ks, d => blankS d ++ kindS kd elNames ++ ⟨#[32]⟩ ++ namedS nm tx ++ ⟨#[10]⟩ ++ showL ks (d + 1)
def showL : List ElB → Nat → ByteArray
  | [], _ => ⟨#[]⟩
  | e :: es, d => showE e d ++ showL es d
end
theorem showL_drop : ∀ (es : List ElB) (d k : Nat) (h : k < es.length), showL (es.drop k) d = showE (es[k]'h) d ++ showL (es.drop (k + 1)) d
  | [], d, k, h => absurd h (by simp)
  | e :: es, d, 0, _ => by simp [showL]
  | e :: es, d, k + 1, h => by
    have := showL_drop es d k (by simpa using h)
    simpa using this
mutual
theorem showE_le : ∀ (e : ElB) (d m : Nat), d + elN e ≤ m → (showE e d).size ≤ elN e * (m + 18) + elW e
  | .mk kd sp nm ats tx ks, d, m, h => by
    have h1 := kindS_size kd elNames (by decide)
    have h2 := showL_le ks (d + 1) m (by unfold elN at h; omega)
    have h3 : (namedS nm tx).size ≤ nm.size + tx.size := by unfold namedS; split <;> omega
    have h4 := blankS_size d
    have u1 : (⟨#[32]⟩ : ByteArray).size = 1 := rfl
    have u2 : (⟨#[10]⟩ : ByteArray).size = 1 := rfl
    unfold elN at h ⊢
    unfold showE elW
    simp only [ByteArray.size_append]
    rw [Nat.add_mul]
    omega
theorem showL_le : ∀ (es : List ElB) (d m : Nat), d + elsN es ≤ m → (showL es d).size ≤ elsN es * (m + 18) + (es.length + elsW es)
  | [], d, m, _ => Nat.zero_le _
  | e :: es, d, m, h => by
    unfold elsN at h ⊢
    have h1 := showE_le e d m (by omega)
    have h2 := showL_le es d m (by omega)
    unfold showL elsW
    rw [ByteArray.size_append, List.length_cons, Nat.add_mul]
    omega
end

theorem elsD_get (es : List ElB) (k : Nat) (h : k < es.length) : elD (es[k]'h) ≤ elsD es := by
  induction es generalizing k with
  | nil => exact absurd h (by simp)
  | cons e es ih =>
    unfold elsD
    cases k with
    | zero => simp; omega
    | succ k =>
      have := ih k (by simpa using h)
      simp only [List.getElem_cons_succ]
      omega

set_option maxHeartbeats 2000000 in
theorem specBlanks (d : Nat) (w : World) (hd : d ≤ 1099511627776) : Calls Try.prog 28 #[.int .i64 (d : Int)] w fun r w' => r = .returned (.string (blankS d)) ∧ w' = w := by
  go_enter Try.func28, Try.ntmps28
  go_wp2_with fail
  go_loopw [3, 4] (fun ov iv wr => ∃ k : Nat, k ≤ d ∧ iv = .int .i64 (k : Int) ∧ ov = .string (blankS k) ∧ wr = w) (fun _ iv _ => d - (intOf iv).toNat)
  case atStart => exact ⟨0, Nat.zero_le _, rfl, rfl, rfl⟩
  case round =>
    obtain ⟨k, hk, rfl, rfl, rfl⟩ := hrel
    by_cases hlt : k < d
    · have g1 : (k : Int) < (d : Int) := by omega
      have s1 : ¬ 9223372036854775807 < (blankS k).size + 1 := by rw [blankS_size]; omega
      have HM : Hid (blankS k ++ ⟨#[32]⟩ = blankS (k + 1)) := blankS_more k
      generalize blankS k = t at *
      go_wp2_with fail
      rw [HM.out]
      go_roundw
      case rel => exact ⟨k + 1, by omega, by go_num, rfl, by first | trivial | rfl⟩
      case measure => simp [intOf]; omega
    · have hkd : k = d := by omega
      subst hkd
      have g1 : decide ((k : Int) < (k : Int)) = false := by simp
      go_wp2_with fail
      go_ret
      exact ⟨rfl, rfl⟩

/-- The contract at a list of elements. -/
def SpShow (l : List ElB) : Prop := ∀ (lo : Nat) (a : Option Addr) (n cap d : Nat) (w : World), KidsIn (QA lo) (lo ≤ ·) w a l → l.length = n → d + elsD l ≤ 1099511627776 → elsN l ≤ 1099511627776 → (showL l d).size ≤ 1125899906842624 → Calls Try.prog 18 #[.slice a n cap, .int .i64 (d : Int)] w fun r w' => r = .returned (.string (showL l d)) ∧ Below w.heap.size w w'
def SpShowE : ElB → Prop
  | .mk _ _ _ _ _ ks => SpShow ks

set_option maxRecDepth 20000 in
set_option maxHeartbeats 8000000 in
theorem show_of (l : List ElB) (hA : ∀ e ∈ l, SpShowE e) : SpShow l := by
  intro lo a n cap d w hk hl hd hN hs
  have HK : Hid (KidsIn (QA lo) (lo ≤ ·) w a l) := hk
  have HA : Hid (∀ e ∈ l, SpShowE e) := hA
  have Hl : Hid (l.length = n) := hl
  have HD : Hid (d + elsD l ≤ 1099511627776) := hd
  have hn : n ≤ 1099511627776 := by have := elsN_len l; omega
  have hd0 : d ≤ 1099511627776 := by omega
  have HN : Hid (elsN l ≤ 1099511627776) := hN
  obtain ⟨R, HR⟩ : ∃ R, Hid (showL l d = R) := ⟨_, rfl⟩
  have HR0 : Hid ((⟨#[]⟩ : ByteArray) ++ showL (l.drop 0) d = R) := by
    show _ = _
    rw [← HR.out, List.drop_zero]
    exact ByteArray.empty_append
  rw [HR.out] at hs ⊢
  have HBl : Hid (∀ W, Calls Try.prog 28 #[.int .i64 (d : Int)] W fun r w' => r = .returned (.string (blankS d)) ∧ w' = W) := fun W => specBlanks d W hd0
  clear hk hA hl hd hN HR
  go_enter Try.func18, Try.ntmps18
  go_wp2_with fail
  go_loopw [5, 6] (fun ov iv wr => ∃ (k : Nat) (o : ByteArray), k ≤ n ∧ iv = .int .i64 (k : Int) ∧ ov = .string o ∧ Hid (o ++ showL (l.drop k) d = R) ∧ Hid (Below w.heap.size w wr)) (fun _ iv _ => n - (intOf iv).toNat)
  case atStart => exact ⟨0, ⟨#[]⟩, Nat.zero_le _, rfl, rfl, HR0, Below.refl _ _⟩
  case round =>
    clear HR0
    obtain ⟨k, o, hk, rfl, rfl, HRk, HB⟩ := hrel
    by_cases hlt : k < n
    · have hkl : k < l.length := by rw [Hl.out]; exact hlt
      rcases HK.out.keep (QA.lies _) HB.out with h | ⟨b, off, rfl, _, hc⟩
      · omega
      obtain ⟨v0, v1, v2, v3, v4, v5, c0, c1, c2, c3, c4, c5, hV⟩ := (hc.get k hkl).cells
      have hE := HA.out _ (List.getElem_mem hkl)
      have hNk := elsN_get l k hkl
      have hDk := elsD_get l k hkl
      have hRk := HRk.out
      rw [showL_drop l d k hkl] at hRk
      generalize l[k]'hkl = e at *
      obtain ⟨kd, sp, nm, ats, tx, ks⟩ := e
      obtain ⟨av, ka, kc, ev, _, hkk⟩ := hV
      cases ev
      unfold showE at hRk
      unfold elN at hNk
      unfold elD at hDk
      have hRs := congrArg ByteArray.size hRk
      have u1 : (⟨#[32]⟩ : ByteArray).size = 1 := rfl
      have u2 : (⟨#[10]⟩ : ByteArray).size = 1 := rfl
      simp only [ByteArray.size_append] at hRs
      have HC : Hid (∀ W, Below wr.heap.size wr W → Calls Try.prog 18 #[.slice ka ks.length kc, .int .i64 ((d + 1 : Nat) : Int)] W fun r w' => r = .returned (.string (showL ks (d + 1))) ∧ Below W.heap.size W w') := fun W hW => hE lo ka ks.length kc (d + 1) W (hkk.keep (QA.lies _) hW) rfl (by have := HD.out; omega) (by have := HN.out; omega) (by omega)
      have HKd : Hid (∀ W b, Texts W b elNames → Calls Try.prog 29 #[.int .i64 kd, .slice (some ⟨b, 0, none⟩) 3 3] W fun r w' => r = .returned (.string (kindS kd elNames)) ∧ w' = W) := fun W b h => specKind kd b 3 3 elNames W h rfl (by decide)
      have HNm : Hid (∀ W, Calls Try.prog 30 #[.string nm, .string tx] W fun r w' => r = .returned (.string (namedS nm tx)) ∧ w' = W) := fun W => specNamed2 nm tx W
      have HBl2 := HBl
      generalize showL ks (d + 1) = t at *
      generalize kindS kd elNames = K at *
      generalize namedS nm tx = N at *
      generalize blankS d = Bl at *
      have HR2 : Hid (o ++ Bl ++ K ++ ⟨#[32]⟩ ++ N ++ ⟨#[10]⟩ ++ t ++ showL (l.drop (k + 1)) d = R) := by show _ = _; rw [← hRk]; simp only [ByteArray.append_assoc]
      have k0 : (0 : Int) ≤ (k : Int) := by omega
      have k1 : (k : Int) < (n : Int) := by omega
      have s1 : ¬ 9223372036854775807 < o.size + Bl.size := by omega
      have s2 : ¬ 9223372036854775807 < o.size + Bl.size + K.size := by omega
      have s3 : ¬ 9223372036854775807 < o.size + Bl.size + K.size + 1 := by omega
      have s4 : ¬ 9223372036854775807 < o.size + Bl.size + K.size + 1 + N.size := by omega
      have s5 : ¬ 9223372036854775807 < o.size + Bl.size + K.size + 1 + N.size + 1 := by omega
      have s6 : ¬ 9223372036854775807 < o.size + Bl.size + K.size + 1 + N.size + 1 + t.size := by omega
      have HT : Texts (wr.alloc (.cells #[.string ⟨#[116, 97, 103]⟩, .string ⟨#[116, 101, 120, 116]⟩, .string ⟨#[110, 111, 116, 101]⟩] 9)).drew wr.heap.size elNames := (Texts.laid wr elNames _ _ rfl).below (B := wr.heap.size + 1) (Nat.lt_succ_self _) ((Below.refl _ _).drew)
      clear hc HRk hRk hRs hkk hE hNk hDk
      go_upto_region 5 with fail
      go_cut [5] (fun r wx => r = .string (o ++ Bl ++ K ++ ⟨#[32]⟩ ++ N ++ ⟨#[10]⟩) ∧ ∃ W : World, W = wx ∧ Below wr.heap.size wr W)
      case first =>
        go_region_held3 (fun w' => w'.cell? ⟨b, off + k * 6, none⟩ = some (.int .i64 kd) ∧ w'.cell? ⟨b, off + k * 6 + 2, none⟩ = some (.string nm) ∧ w'.cell? ⟨b, off + k * 6 + 4, none⟩ = some (.string tx)) (first | exact ⟨c0, c2, c4⟩ | go_keep) (first | (go_at_call 29; refine (HKd.out _ _ (by exact HT)).mono ?_; rintro r w' ⟨rfl, rfl⟩) | (go_at_call 30; refine (HNm.out _).mono ?_; rintro r w' ⟨rfl, rfl⟩) | (go_at_call 28; refine (HBl2.out _).mono ?_; rintro r w' ⟨rfl, rfl⟩))
        all_goals
          go_wp2_with fail
          go_meet
          case rel => exact ⟨rfl, _, rfl, by first | exact ((Below.refl wr.heap.size wr).alloc (Nat.le_refl _) _).drew | exact ((Below.refl wr.heap.size wr).drew).alloc (Nat.le_refl _) _⟩
      case rest =>
        obtain ⟨rfl, w1, rfl, bx⟩ := hcut
        have d5 := keep_cell bx c5
        have HC2 := HC.out _ bx
        have HB2 : Hid (Below w.heap.size w w1) := HB.out.trans (bx.mono HB.out.size)
        have qd : IntKind.i64.wrap ((d : Int) + 1) = (d : Int) + 1 := IntWalk.i64_in _ (by omega)
        have qd2 : ((d + 1 : Nat) : Int) = (d : Int) + 1 := by omega
        rw [qd2] at HC2
        have s6' : ¬ 9223372036854775807 < (o ++ Bl ++ K ++ ⟨#[32]⟩ ++ N ++ ⟨#[10]⟩).size + t.size := by simp only [ByteArray.size_append]; omega
        clear HT HC HKd HNm HBl2 c0 c1 c2 c3 c4 c5 bx HB
        generalize o ++ Bl ++ K ++ ⟨#[32]⟩ ++ N ++ ⟨#[10]⟩ = O2 at *
        go_wp2_with fail
        refine HC2.mono ?_
        rintro r w2 ⟨rfl, b2⟩
        have HB3 : Hid (Below w.heap.size w w2) := HB2.out.trans (b2.mono HB2.out.size)
        clear HC2 b2 HB2 d5
        go_wp2_with fail
        go_roundw
        case rel => exact ⟨k + 1, O2 ++ t, by omega, by go_num, rfl, HR2, HB3⟩
        case measure => simp [intOf]; omega
    · have g1 : decide ((k : Int) < (n : Int)) = false := decide_eq_false (by omega)
      have Hf : Hid (o = R) := by
        have := HRk.out
        rw [List.drop_eq_nil_of_le (by rw [Hl.out]; omega), showL] at this
        exact (ByteArray.append_empty (b := o)).symm.trans this
      clear HRk
      go_wp2_with fail
      go_ret
      exact ⟨ret_sh Hf.out, HB.out⟩

mutual
theorem show_kids : ∀ e : ElB, SpShowE e
  | .mk _ _ _ _ _ ks => show_of ks (show_all ks)
theorem show_all : ∀ es : List ElB, ∀ e ∈ es, SpShowE e
  | [], _, h => nomatch h
  | x :: xs, e, h => (List.mem_cons.1 h).elim (fun he => he ▸ show_kids x) (fun hm => show_all xs e hm)
end

set_option maxHeartbeats 2000000 in
theorem specDocText (l : List ElB) (lo : Nat) (a : Option Addr) (n cap : Nat) (w : World) (hk : KidsIn (QA lo) (lo ≤ ·) w a l) (hl : l.length = n) (hw : l.length + elsW l ≤ 1048576) :
    Calls Try.prog 10 #[.slice a n cap] w fun r w' => r = .returned (.string (showL l 0)) ∧ Below w.heap.size w w' := by
  have h1 := elsN_le l
  have h2 := elsD_le l
  have h3 := showL_le l 0 1048576 (by omega)
  have h4 : elsN l * (1048576 + 18) ≤ 1048576 * (1048576 + 18) := Nat.mul_le_mul (by omega) (Nat.le_refl _)
  have HC := show_of l (show_all l) lo a n cap 0 w hk hl (by omega) (by omega) (by omega)
  generalize showL l 0 = R at *
  clear h1 h2 h3 h4 hk hl hw
  go_enter Try.func10, Try.ntmps10
  go_wp2_with fail
  refine HC.mono ?_
  rintro r w1 ⟨rfl, b1⟩
  clear HC
  go_wp2_with fail
  go_ret
  exact ⟨rfl, b1⟩

end Go.Proofs.Ytploagieecepfaa.Sg
