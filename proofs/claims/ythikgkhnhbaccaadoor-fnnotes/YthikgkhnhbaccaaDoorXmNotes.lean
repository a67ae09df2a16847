/- The law FnNotes, out of the program's contracts. Written by mk_xmtop.py. -/
import Derived.Test.YthikgkhnhbaccaaDoorMO07
import Derived.Test.YthikgkhnhbaccaaDoorXmBack3
import Derived.Test.YthikgkhnhbaccaaDoorStNoteOf
import Derived.Test.YthikgkhnhbaccaaDoorStDraws
import Derived.Test.YthikgkhnhbaccaaDoorMO08
namespace Go.Proofs.YthikgkhnhbaccaaDoor.Sg
open Go.ChangeShapes Go.WideShapes Go.ChangeAt Go.RowKit

/-- What the program's XmlNote tells of a strict note between its marks. -/
theorem xo_again {t : ByteArray} (h : stNoteB t = true) : xoS ((⟨#[60, 33, 45, 45]⟩ ++ t) ++ ⟨#[45, 45, 62, 120]⟩) 0 = t ∧ xoI ((⟨#[60, 33, 45, 45]⟩ ++ t) ++ ⟨#[45, 45, 62, 120]⟩) 0 = (t.size : Int) + 7 := by
  obtain ⟨h1, h2⟩ := note_again h
  have hsz : ((openNoteB ++ t) ++ shutxB).size = t.size + 8 := by
    rw [ByteArray.size_append, ByteArray.size_append]
    show 4 + t.size + 4 = _
    omega
  have ho : xoO ((openNoteB ++ t) ++ shutxB) 0 = some (t.size + 4) := by
    unfold xoO
    rw [if_pos (by rw [hsz]; omega)]
    exact h1
  refine ⟨?_, ?_⟩
  · show xoS ((openNoteB ++ t) ++ shutxB) 0 = t
    unfold xoS
    rw [ho]
    exact h2
  · show xoI ((openNoteB ++ t) ++ shutxB) 0 = (t.size : Int) + 7
    unfold xoI
    rw [ho]
    show (((t.size + 4 + 3 : Nat)) : Int) = _
    omega

set_option maxHeartbeats 16000000 in
set_option maxRecDepth 100000 in
theorem lawNotes (T : World → Prop) (keep : ∀ W W', T W → Below W.heap.size W W' → T W') (hNoteOf : ∀ (s : ByteArray) (W : World), s.size ≤ 1048576 → T W → Calls Tryd.prog 6 #[.string s] W fun e w' => e = .returned (.string (stNoteS s)) ∧ Below W.heap.size W w') (hXmlNote : ∀ (s : ByteArray) (i : Int) (W : World), s.size ≤ 1048576 → T W → Calls Tryd.prog 8 #[.string s, .int .i64 i] W fun e w' => e = .returned (.tuple #[.string (xoS s i), .int .i64 (xoI s i)]) ∧ Below W.heap.size W w') (w : World) (n : Nat) (a : Option Addr) (cap : Nat) (hcode : Code w.heap.size w a n) (_hm : n ≤ 9223372036854775807) (hT : T w) :
    Calls Tryd.prog 3 #[.slice a n cap] w fun e w' => e = .returned (.bool true) ∧ Below w.heap.size w w' := by
  have Hk : Hid (∀ W W', T W → Below W.heap.size W W' → T W') := keep
  have HNoteOf : Hid (∀ (s : ByteArray) (W : World), s.size ≤ 1048576 → T W → Calls Tryd.prog 6 #[.string s] W fun e w' => e = .returned (.string (stNoteS s)) ∧ Below W.heap.size W w') := hNoteOf
  have HXmlNote : Hid (∀ (s : ByteArray) (i : Int) (W : World), s.size ≤ 1048576 → T W → Calls Tryd.prog 8 #[.string s, .int .i64 i] W fun e w' => e = .returned (.tuple #[.string (xoS s i), .int .i64 (xoI s i)]) ∧ Below W.heap.size W w') := hXmlNote
  clear keep hNoteOf hXmlNote
  have K0 : CKeep T w a n [] w := ⟨⟨Below.refl _ _, hcode, hT⟩, fun c hc => nomatch hc⟩
  clear hcode hT
  by_cases hbig : (1048576 : Int) < (n : Int)
  · have Hd : Hid (decide ((1048576 : Int) < (n : Int)) = true) := by show _ = _; simpa using hbig
    go_enter Tryd.func3, Tryd.ntmps3
    go_wp2_with fail
    refine (big_any a n cap _).mono ?_
    rintro e w1 ⟨rfl, rfl⟩
    rw [Hd.out]
    go_wp2_with fail
    go_ret
    exact ⟨rfl, Below.refl _ _⟩
  have hn : n ≤ 1048576 := by omega
  have Hd : Hid (decide ((1048576 : Int) < (n : Int)) = false) := by show _ = _; simpa using hbig
  clear hbig
  go_enter Tryd.func3, Tryd.ntmps3
  go_wp2_with fail
  refine (big_any a n cap _).mono ?_
  rintro e w0 ⟨rfl, hw0⟩
  have K : CKeep T w a n [] w0 := hw0 ▸ K0
  clear hw0 K0
  rw [Hd.out]
  clear Hd
  go_wp2_with fail
  refine (drawNoteOf a n cap _ K.1.2.1 hn).mono ?_
  rintro e w1 ⟨s, hs, rfl, b1⟩
  have K1 := K.step Hk.out b1
  clear b1
  clear K
  rename CKeep _ _ _ _ _ _ => K
  have hsz := st_note_size s
  have Hmade : Hid (stNoteB (stNoteS s) = true) := noteOk_made s
  go_wp2_with fail
  refine (HNoteOf.out s _ (by omega) K.1.2.2).mono ?_
  rintro e w1 ⟨rfl, b1⟩
  have K1 := K.step Hk.out b1
  clear b1
  clear K
  rename CKeep _ _ _ _ _ _ => K
  go_wp2_with fail
  refine (specNoteOf s _ (by omega)).mono ?_
  rintro e w1 ⟨rfl, b1⟩
  have K1 := K.step Hk.out b1
  clear b1
  clear K
  rename CKeep _ _ _ _ _ _ => K
  have q1 : ((stNoteS s).toList == (stNoteS s).toList) = true := by simp
  obtain ⟨xa, xb⟩ := xo_again Hmade.out
  have HX : Hid (∀ W, T W → Calls Tryd.prog 8 #[.string ((⟨#[60, 33, 45, 45]⟩ ++ stNoteS s) ++ ⟨#[45, 45, 62, 120]⟩), .int .i64 0] W fun e w' => e = .returned (.tuple #[.string (stNoteS s), .int .i64 ((stNoteS s).size + 7)]) ∧ Below W.heap.size W w') := by
    intro W hW
    have h := HXmlNote.out ((⟨#[60, 33, 45, 45]⟩ ++ stNoteS s) ++ ⟨#[45, 45, 62, 120]⟩) 0 W (by rw [ByteArray.size_append, ByteArray.size_append]; show 4 + _ + 4 ≤ _; omega) hW
    rw [xa, xb] at h
    exact h
  clear xa xb Hmade HXmlNote HNoteOf
  generalize stNoteS s = t at *
  have q2 : IntKind.i64.wrap ((t.size : Int) + 7) = (t.size : Int) + 7 := IntWalk.i64_in _ (by omega)
  go_wp2_with fail
  refine (HX.out _ K.1.2.2).mono ?_
  rintro e w1 ⟨rfl, b1⟩
  have K1 := K.step Hk.out b1
  clear b1
  clear K
  rename CKeep _ _ _ _ _ _ => K
  go_wp2_with fail
  go_ret
  exact ⟨rfl, K.1.1⟩

end Go.Proofs.YthikgkhnhbaccaaDoor.Sg
