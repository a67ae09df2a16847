/- The law FnPieces, out of the program's contracts. Written by mk_xmtop.py. -/
import Derived.Test.YthikgkhnhbaccaaGreatDoorMP03
import Derived.Test.YthikgkhnhbaccaaGreatDoorMP19
import Derived.Test.YthikgkhnhbaccaaGreatDoorMP20
import Derived.Test.YthikgkhnhbaccaaGreatDoorMP18
import Derived.Test.YthikgkhnhbaccaaGreatDoorMP08
import Derived.Test.YthikgkhnhbaccaaGreatDoorMP10
import Derived.Test.YthikgkhnhbaccaaGreatDoorMP24
import Derived.Test.YthikgkhnhbaccaaGreatDoorXmDraws
import Derived.Test.YthikgkhnhbaccaaGreatDoorMP02
namespace Go.Proofs.YthikgkhnhbaccaaGreatDoor.Sg
open Go.ChangeShapes Go.WideShapes Go.ChangeAt Go.RowKit

/-- What the program's XmlText tells of a strict text that is escaped. -/
theorem xt_again {s : ByteArray} (h : stTextB s = true) (v : Bool) : xtS (escS s v ++ ⟨#[60]⟩) 0 ⟨#[60]⟩ = s ∧ xtI (escS s v ++ ⟨#[60]⟩) 0 ⟨#[60]⟩ = ((escS s v).size : Int) := by
  have ho : xtO (escS s v ++ ⟨#[60]⟩) 0 ⟨#[60]⟩ = some (s.data.toList, (escS s v).size) := by
    unfold xtO
    rw [if_pos (by omega)]
    exact text_again h v
  refine ⟨?_, ?_⟩
  · unfold xtS
    rw [ho]
    exact strB_of s
  · unfold xtI
    rw [ho]
    rfl
/-- What the program's XmlAttr tells of a strict value that is escaped. -/
theorem xa_again {s : ByteArray} (h : stTextB s = true) : xaV ((⟨#[107, 61, 34]⟩ ++ escS s true) ++ ⟨#[34, 32]⟩) 0 = s ∧ xaI ((⟨#[107, 61, 34]⟩ ++ escS s true) ++ ⟨#[34, 32]⟩) 0 = ((escS s true).size : Int) + 4 := by
  have ho : xaO ((kB ++ escS s true) ++ quB) 0 = some (1, s.data.toList, (escS s true).size + 3) := by
    unfold xaO
    rw [if_pos (by omega)]
    exact attr_again h
  refine ⟨?_, ?_⟩
  · show xaV ((kB ++ escS s true) ++ quB) 0 = s
    unfold xaV
    rw [ho]
    exact strB_of s
  · show xaI ((kB ++ escS s true) ++ quB) 0 = _
    unfold xaI
    rw [ho]
    show (((escS s true).size + 3 + 1 : Nat) : Int) = _
    omega

set_option maxHeartbeats 16000000 in
set_option maxRecDepth 100000 in
theorem lawPieces (T : World → Prop) (keep : ∀ W W', T W → Below W.heap.size W W' → T W') (hEscape : ∀ (s : ByteArray) (v : Bool) (W : World), s.size ≤ 1048576 → T W → Calls Tryz.prog 6 #[.string s, .bool v] W fun e w' => e = .returned (.string (escS s v)) ∧ Below W.heap.size W w') (hSpaceName : ∀ (n : Int) (W : World), True → T W → Calls Tryz.prog 9 #[.int .i64 n] W fun e w' => e = .returned (.string (spaceS n)) ∧ Below W.heap.size W w') (hXmlName : ∀ (s : ByteArray) (i : Int) (W : World), s.size ≤ 1048576 → T W → Calls Tryz.prog 12 #[.string s, .int .i64 i] W fun e w' => e = .returned (.tuple #[.string (xnS s i), .int .i64 (xnI s i)]) ∧ Below W.heap.size W w') (hXmlRef : ∀ (s : ByteArray) (i : Int) (W : World), s.size ≤ 1048576 → T W → Calls Tryz.prog 15 #[.string s, .int .i64 i] W fun e w' => e = .returned (.tuple #[.string (xrS s i), .int .i64 (xrI s i)]) ∧ Below W.heap.size W w') (hXmlText : ∀ (s : ByteArray) (i : Int) (e0 : ByteArray) (W : World), s.size ≤ 1048576 → (e0.size ≤ 1048576 ∧ ∀ b ∈ e0.data.toList, b = 34 ∨ b = 60) → T W → Calls Tryz.prog 18 #[.string s, .int .i64 i, .string e0] W fun e w' => e = .returned (.tuple #[.string (xtS s i e0), .int .i64 (xtI s i e0)]) ∧ Below W.heap.size W w') (hXmlAttr : ∀ (s : ByteArray) (i : Int) (W : World), s.size ≤ 1048576 → T W → Calls Tryz.prog 21 #[.string s, .int .i64 i] W fun e w' => e = .returned (.tuple #[.agg #[.string (xaN s i), .string (xaV s i)], .int .i64 (xaI s i)]) ∧ Below W.heap.size W w') (hXmlNote : ∀ (s : ByteArray) (i : Int) (W : World), s.size ≤ 1048576 → T W → Calls Tryz.prog 24 #[.string s, .int .i64 i] W fun e w' => e = .returned (.tuple #[.string (xoS s i), .int .i64 (xoI s i)]) ∧ Below W.heap.size W w') (hTextOk : ∀ (s : ByteArray) (W : World), s.size ≤ 1048576 → T W → Calls Tryz.prog 26 #[.string s] W fun e w' => e = .returned (.bool (stTextB s)) ∧ Below W.heap.size W w') (w : World) (n : Nat) (a : Option Addr) (cap : Nat) (hcode : Code w.heap.size w a n) (_hm : n ≤ 9223372036854775807) (hT : T w) :
    Calls Tryz.prog 3 #[.slice a n cap] w fun e w' => e = .returned (.bool true) ∧ Below w.heap.size w w' := by
  have Hk : Hid (∀ W W', T W → Below W.heap.size W W' → T W') := keep
  have HEscape : Hid (∀ (s : ByteArray) (v : Bool) (W : World), s.size ≤ 1048576 → T W → Calls Tryz.prog 6 #[.string s, .bool v] W fun e w' => e = .returned (.string (escS s v)) ∧ Below W.heap.size W w') := hEscape
  have HSpaceName : Hid (∀ (n : Int) (W : World), True → T W → Calls Tryz.prog 9 #[.int .i64 n] W fun e w' => e = .returned (.string (spaceS n)) ∧ Below W.heap.size W w') := hSpaceName
  have HXmlName : Hid (∀ (s : ByteArray) (i : Int) (W : World), s.size ≤ 1048576 → T W → Calls Tryz.prog 12 #[.string s, .int .i64 i] W fun e w' => e = .returned (.tuple #[.string (xnS s i), .int .i64 (xnI s i)]) ∧ Below W.heap.size W w') := hXmlName
  have HXmlRef : Hid (∀ (s : ByteArray) (i : Int) (W : World), s.size ≤ 1048576 → T W → Calls Tryz.prog 15 #[.string s, .int .i64 i] W fun e w' => e = .returned (.tuple #[.string (xrS s i), .int .i64 (xrI s i)]) ∧ Below W.heap.size W w') := hXmlRef
  have HXmlText : Hid (∀ (s : ByteArray) (i : Int) (e0 : ByteArray) (W : World), s.size ≤ 1048576 → (e0.size ≤ 1048576 ∧ ∀ b ∈ e0.data.toList, b = 34 ∨ b = 60) → T W → Calls Tryz.prog 18 #[.string s, .int .i64 i, .string e0] W fun e w' => e = .returned (.tuple #[.string (xtS s i e0), .int .i64 (xtI s i e0)]) ∧ Below W.heap.size W w') := hXmlText
  have HXmlAttr : Hid (∀ (s : ByteArray) (i : Int) (W : World), s.size ≤ 1048576 → T W → Calls Tryz.prog 21 #[.string s, .int .i64 i] W fun e w' => e = .returned (.tuple #[.agg #[.string (xaN s i), .string (xaV s i)], .int .i64 (xaI s i)]) ∧ Below W.heap.size W w') := hXmlAttr
  have HXmlNote : Hid (∀ (s : ByteArray) (i : Int) (W : World), s.size ≤ 1048576 → T W → Calls Tryz.prog 24 #[.string s, .int .i64 i] W fun e w' => e = .returned (.tuple #[.string (xoS s i), .int .i64 (xoI s i)]) ∧ Below W.heap.size W w') := hXmlNote
  have HTextOk : Hid (∀ (s : ByteArray) (W : World), s.size ≤ 1048576 → T W → Calls Tryz.prog 26 #[.string s] W fun e w' => e = .returned (.bool (stTextB s)) ∧ Below W.heap.size W w') := hTextOk
  clear keep hEscape hSpaceName hXmlName hXmlRef hXmlText hXmlAttr hXmlNote hTextOk
  have K0 : CKeep T w a n [] w := ⟨⟨Below.refl _ _, hcode, hT⟩, fun c hc => nomatch hc⟩
  clear hcode hT
  by_cases hbig : (1048576 : Int) < (n : Int)
  · have Hd : Hid (decide ((1048576 : Int) < (n : Int)) = true) := by show _ = _; simpa using hbig
    go_enter Tryz.func3, Tryz.ntmps3
    go_wp2_with fail
    refine (big_any a n cap _).mono ?_
    rintro e w1 ⟨rfl, rfl⟩
    rw [Hd.out]
    go_wp2_with fail
    go_ret
    exact ⟨rfl, Below.refl _ _⟩
  have hn : n ≤ 1048576 := by omega
  have Hd : Hid (decide ((1048576 : Int) < (n : Int)) = false) := by show _ = _; simpa using hbig
  clear hbig
  go_enter Tryz.func3, Tryz.ntmps3
  go_wp2_with fail
  refine (big_any a n cap _).mono ?_
  rintro e w0 ⟨rfl, hw0⟩
  have K : CKeep T w a n [] w0 := hw0 ▸ K0
  clear hw0 K0
  rw [Hd.out]
  clear Hd
  go_wp2_with fail
  refine (drawEscape a n cap _ K.1.2.1 hn).mono ?_
  rintro e w1 ⟨s, v, hs, rfl, b1⟩
  have K1 := K.step Hk.out b1
  clear b1
  clear K
  rename CKeep _ _ _ _ _ _ => K
  have hes := escS_size s v
  have hest := escS_size s true
  have HXT : Hid (stTextB s = true → ∀ W, T W → Calls Tryz.prog 18 #[.string (escS s v ++ ⟨#[60]⟩), .int .i64 0, .string ⟨#[60]⟩] W fun e w' => e = .returned (.tuple #[.string s, .int .i64 (escS s v).size]) ∧ Below W.heap.size W w') := by
    intro h W hW
    obtain ⟨xa, xb⟩ := xt_again h v
    have h := HXmlText.out (escS s v ++ ⟨#[60]⟩) 0 ⟨#[60]⟩ W (by rw [ByteArray.size_append]; show _ + 1 ≤ _; omega) ⟨by decide, by decide⟩ hW
    rw [xa, xb] at h
    exact h
  have HXA : Hid (stTextB s = true → ∀ W, T W → Calls Tryz.prog 21 #[.string ((⟨#[107, 61, 34]⟩ ++ escS s true) ++ ⟨#[34, 32]⟩), .int .i64 0] W fun e w' => e = .returned (.tuple #[.agg #[.string (xaN ((⟨#[107, 61, 34]⟩ ++ escS s true) ++ ⟨#[34, 32]⟩) 0), .string s], .int .i64 ((escS s true).size + 4)]) ∧ Below W.heap.size W w') := by
    intro h W hW
    obtain ⟨xa, xb⟩ := xa_again h
    have h := HXmlAttr.out ((⟨#[107, 61, 34]⟩ ++ escS s true) ++ ⟨#[34, 32]⟩) 0 W (by rw [ByteArray.size_append, ByteArray.size_append]; show 3 + _ + 2 ≤ _; omega) hW
    rw [xa, xb] at h
    exact h
  have HEV : Hid (∀ W, T W → Calls Tryz.prog 6 #[.string s, .bool v] W fun e w' => e = .returned (.string (escS s v)) ∧ Below W.heap.size W w') := fun W h => HEscape.out s v W (by omega) h
  have HET : Hid (∀ W, T W → Calls Tryz.prog 6 #[.string s, .bool true] W fun e w' => e = .returned (.string (escS s true)) ∧ Below W.heap.size W w') := fun W h => HEscape.out s true W (by omega) h
  have HES : Hid (∀ W, Calls Tryz.prog 8 #[.string s, .bool v] W fun e w' => e = .returned (.string (escS s v)) ∧ Below W.heap.size W w') := fun W => specEscape s v W (by omega)
  have HTK : Hid (∀ W, T W → Calls Tryz.prog 26 #[.string s] W fun e w' => e = .returned (.bool (stTextB s)) ∧ Below W.heap.size W w') := fun W h => HTextOk.out s W (by omega) h
  clear HEscape HTextOk
  generalize hev : escS s v = ev at *
  clear hev
  generalize hxn : xaN ((⟨#[107, 61, 34]⟩ ++ escS s true) ++ ⟨#[34, 32]⟩) 0 = an at *
  clear hxn
  generalize escS s true = et at *
  generalize stTextB s = tk at *
  have q0 : ((ev).toList == (ev).toList) = true := by simp
  have q9 : ((s).toList == (s).toList) = true := by simp
  go_wp2_with fail
  refine (HEV.out _ K.1.2.2).mono ?_
  rintro e w1 ⟨rfl, b1⟩
  have K1 := K.step Hk.out b1
  clear b1
  clear K
  rename CKeep _ _ _ _ _ _ => K
  go_wp2_with fail
  refine (drawSpaceName a n cap _ K.1.2.1 hn).mono ?_
  rintro e w1 ⟨i0, rfl, b1⟩
  have K1 := K.step Hk.out b1
  clear b1
  clear K
  rename CKeep _ _ _ _ _ _ => K
  go_wp2_with fail
  refine (HES.out _).mono ?_
  rintro e w1 ⟨rfl, b1⟩
  have K1 := K.step Hk.out b1
  clear b1
  clear K
  rename CKeep _ _ _ _ _ _ => K
  go_wp2_with fail
  refine (HSpaceName.out i0 _ trivial K.1.2.2).mono ?_
  rintro e w1 ⟨rfl, b1⟩
  have K1 := K.step Hk.out b1
  clear b1
  clear K
  rename CKeep _ _ _ _ _ _ => K
  go_wp2_with fail
  refine (specSpaceName i0 _).mono ?_
  rintro e w1 ⟨rfl, rfl⟩
  generalize spaceS i0 = sp at *
  have q8 : ((sp).toList == (sp).toList) = true := by simp
  go_wp2_with fail
  refine (drawXmlName a n cap _ K.1.2.1 hn).mono ?_
  rintro e w1 ⟨s1, i1, h1, rfl, b1⟩
  have K1 := K.step Hk.out b1
  clear b1
  clear K
  rename CKeep _ _ _ _ _ _ => K
  go_wp2_with fail
  refine (HXmlName.out s1 i1 _ (by omega) K.1.2.2).mono ?_
  rintro e w1 ⟨rfl, b1⟩
  have K1 := K.step Hk.out b1
  clear b1
  clear K
  rename CKeep _ _ _ _ _ _ => K
  go_wp2_with fail
  refine (specXmlName s1 i1 _ (by omega)).mono ?_
  rintro e w1 ⟨rfl, b1⟩
  have K1 := K.step Hk.out b1
  clear b1
  clear K
  rename CKeep _ _ _ _ _ _ => K
  generalize xnS s1 i1 = x1 at *
  generalize xnI s1 i1 = y1 at *
  have q1 : ((x1).toList == (x1).toList) = true := by simp
  go_wp2_with fail
  refine (drawXmlRef a n cap _ K.1.2.1 hn).mono ?_
  rintro e w1 ⟨s2, i2, h2, rfl, b1⟩
  have K1 := K.step Hk.out b1
  clear b1
  clear K
  rename CKeep _ _ _ _ _ _ => K
  go_wp2_with fail
  refine (HXmlRef.out s2 i2 _ (by omega) K.1.2.2).mono ?_
  rintro e w1 ⟨rfl, b1⟩
  have K1 := K.step Hk.out b1
  clear b1
  clear K
  rename CKeep _ _ _ _ _ _ => K
  go_wp2_with fail
  refine (specXmlRef s2 i2 _ (by omega)).mono ?_
  rintro e w1 ⟨rfl, b1⟩
  have K1 := K.step Hk.out b1
  clear b1
  clear K
  rename CKeep _ _ _ _ _ _ => K
  generalize xrS s2 i2 = x2 at *
  generalize xrI s2 i2 = y2 at *
  have q2 : ((x2).toList == (x2).toList) = true := by simp
  go_wp2_with fail
  refine (drawXmlText a n cap _ K.1.2.1 hn).mono ?_
  rintro e w1 ⟨s3, i3, t3, h3, ⟨h3t, h3e⟩, rfl, b1⟩
  have K1 := K.step Hk.out b1
  clear b1
  clear K
  rename CKeep _ _ _ _ _ _ => K
  go_wp2_with fail
  refine (HXmlText.out s3 i3 t3 _ (by omega) ⟨by omega, h3e⟩ K.1.2.2).mono ?_
  rintro e w1 ⟨rfl, b1⟩
  have K1 := K.step Hk.out b1
  clear b1
  clear K
  rename CKeep _ _ _ _ _ _ => K
  go_wp2_with fail
  refine (specXmlText s3 i3 t3 _ (by omega) (by omega)).mono ?_
  rintro e w1 ⟨rfl, b1⟩
  have K1 := K.step Hk.out b1
  clear b1
  clear K
  rename CKeep _ _ _ _ _ _ => K
  generalize xtS s3 i3 t3 = x3 at *
  generalize xtI s3 i3 t3 = y3 at *
  have q3 : ((x3).toList == (x3).toList) = true := by simp
  go_wp2_with fail
  refine (drawXmlAttr a n cap _ K.1.2.1 hn).mono ?_
  rintro e w1 ⟨s4, i4, h4, rfl, b1⟩
  have K1 := K.step Hk.out b1
  clear b1
  clear K
  rename CKeep _ _ _ _ _ _ => K
  go_wp2_with fail
  refine (HXmlAttr.out s4 i4 _ (by omega) K.1.2.2).mono ?_
  rintro e w1 ⟨rfl, b1⟩
  have K1 := K.step Hk.out b1
  clear b1
  clear K
  rename CKeep _ _ _ _ _ _ => K
  generalize hxa : xaN s4 i4 = xn at *
  generalize hxv : xaV s4 i4 = xv at *
  generalize hxi : xaI s4 i4 = xi at *
  have K1 := K.box Hk.out (.string xn) (.string xv) 36
  clear K
  rename CKeep _ _ _ _ _ _ => K
  have HSA := fun W => specXmlAttr s4 i4 W (by omega)
  rw [hxa, hxv, hxi] at HSA
  clear hxa hxv hxi
  go_wp2_with fail
  refine (HSA _).mono ?_
  rintro e w1 ⟨rfl, b1⟩
  have K1 := K.step Hk.out b1
  clear b1
  clear K
  rename CKeep _ _ _ _ _ _ => K
  clear HSA
  have K1 := K.box Hk.out (.string xn) (.string xv) 36
  clear K
  rename CKeep _ _ _ _ _ _ => K
  have q4 : ((xn).toList == (xn).toList) = true := by simp
  have q5 : ((xv).toList == (xv).toList) = true := by simp
  go_wp2_with fail
  refine (drawXmlNote a n cap _ K.1.2.1 hn).mono ?_
  rintro e w1 ⟨s5, i5, h5, rfl, b1⟩
  have K1 := K.step Hk.out b1
  clear b1
  clear K
  rename CKeep _ _ _ _ _ _ => K
  go_wp2_with fail
  refine (HXmlNote.out s5 i5 _ (by omega) K.1.2.2).mono ?_
  rintro e w1 ⟨rfl, b1⟩
  have K1 := K.step Hk.out b1
  clear b1
  clear K
  rename CKeep _ _ _ _ _ _ => K
  go_wp2_with fail
  refine (specXmlNote s5 i5 _ (by omega)).mono ?_
  rintro e w1 ⟨rfl, b1⟩
  have K1 := K.step Hk.out b1
  clear b1
  clear K
  rename CKeep _ _ _ _ _ _ => K
  generalize xoS s5 i5 = x6 at *
  generalize xoI s5 i5 = y6 at *
  have q6 : ((x6).toList == (x6).toList) = true := by simp
  have z0 := (K.2 _ (List.mem_cons_self)).1
  have z1 := (K.2 _ (List.mem_cons_of_mem _ List.mem_cons_self)).1
  have z2 := (K.2 _ (List.mem_cons_of_mem _ (List.mem_cons_of_mem _ List.mem_cons_self))).1
  have z3 := (K.2 _ (List.mem_cons_of_mem _ (List.mem_cons_of_mem _ (List.mem_cons_of_mem _ List.mem_cons_self)))).1
  simp only at z0 z1 z2 z3
  go_wp2_with fail
  refine (HTK.out _ K.1.2.2).mono ?_
  rintro e w1 ⟨rfl, b1⟩
  have K1 := K.step Hk.out b1
  clear b1
  clear K
  rename CKeep _ _ _ _ _ _ => K
  clear z0 z1 z2 z3
  cases htk : tk
  · go_wp2_with fail
    go_ret
    exact ⟨rfl, K.1.1⟩
  · have HXT2 := HXT.out htk
    have HXA2 := HXA.out htk
    clear htk HXT HXA
    have q20 : IntKind.i64.wrap ((et.size : Int) + 4) = (et.size : Int) + 4 := IntWalk.i64_in _ (by omega)
    go_wp2_with fail
    refine (HXT2 _ K.1.2.2).mono ?_
    rintro e w1 ⟨rfl, b1⟩
    have K1 := K.step Hk.out b1
    clear b1
    clear K
    rename CKeep _ _ _ _ _ _ => K
    go_wp2_with fail
    refine (HET.out _ K.1.2.2).mono ?_
    rintro e w1 ⟨rfl, b1⟩
    have K1 := K.step Hk.out b1
    clear b1
    clear K
    rename CKeep _ _ _ _ _ _ => K
    go_wp2_with fail
    refine (HXA2 _ K.1.2.2).mono ?_
    rintro e w1 ⟨rfl, b1⟩
    have K1 := K.step Hk.out b1
    clear b1
    clear K
    rename CKeep _ _ _ _ _ _ => K
    have K1 := K.box Hk.out (.string an) (.string s) 36
    clear K
    rename CKeep _ _ _ _ _ _ => K
    have z1 := (K.2 _ (List.mem_cons_of_mem _ List.mem_cons_self)).1
    simp only at z1
    go_wp2_with fail
    refine (HET.out _ K.1.2.2).mono ?_
    rintro e w1 ⟨rfl, b1⟩
    have K1 := K.step Hk.out b1
    clear b1
    clear K
    rename CKeep _ _ _ _ _ _ => K
    go_wp2_with fail
    go_ret
    exact ⟨rfl, K.1.1⟩

end Go.Proofs.YthikgkhnhbaccaaGreatDoor.Sg
