/- Contract of the program's attrAt. -/
import Derived.Test.YtlaidaghmhmgbaaDoorM08
namespace Go.Proofs.YtlaidaghmhmgbaaDoor.Sg
open Go.ChangeShapes Go.WideShapes Go.ChangeAt Go.RowKit

def plVal (p : Pl) : Value := .agg #[.int .i64 (p.1 : Int), .int .i64 (p.2.1 : Int), .int .i64 (p.2.2.1 : Int), .int .i64 (p.2.2.2 : Int)]

set_option maxRecDepth 20000 in
set_option maxHeartbeats 2000000 in
theorem implAttrAt (angle : Bool) (en : ByteArray) (hen : EndOk en angle) (s : ByteArray) (m : Nat) (w : World) (hm : m < s.size) (hs : s.size ≤ 17592186044416) :
    Calls Tryd.prog 34 #[.string s, .int .i64 (m : Int), .string en] w fun e w' => e = .returned (plVal (plE angle s m)) ∧ Below w.heap.size w w' := by
  obtain ⟨hen1, hen2, hen3⟩ := hen
  have Hp : Hid (plE angle s m = plQ angle s (runE (nameU angle) s (m + 1)) (runE blankU s (runE (nameU angle) s (m + 1)))) := rfl
  have U1 : Hid (∀ w, Calls Tryd.prog 66 #[.string s, .int .i64 ((m : Int) + 1), .string (⟨#[9, 10, 12, 13, 32, 47, 61]⟩ ++ en)] w fun e w' => e = .returned (.int .i64 (runE (nameU angle) s (m + 1) : Int)) ∧ w' = w) := fun w => by
    have h := implUpTo s (m + 1) (⟨#[9, 10, 12, 13, 32, 47, 61]⟩ ++ en) w hs
    rw [hen2] at h
    exact h
  have h1 := runE_le (p := nameU angle) (s := s) (k := m + 1) hm
  have h2 := runE_le (p := blankU) h1.2
  have U2 : Hid (∀ w, Calls Tryd.prog 33 #[.string s, .int .i64 (runE (nameU angle) s (m + 1) : Int), .string ⟨#[9, 10, 12, 13, 32]⟩] w fun e w' => e = .returned (.int .i64 (runE blankU s (runE (nameU angle) s (m + 1)) : Int)) ∧ w' = w) := fun w => by
    have h := implPast s (runE (nameU angle) s (m + 1)) ⟨#[9, 10, 12, 13, 32]⟩ w hs
    rw [one_blank] at h
    exact h
  generalize runE (nameU angle) s (m + 1) = e at *
  generalize runE blankU s e = q at *
  by_cases hq : q < s.size
  case neg =>
    have Hn : Hid (plE angle s m = (e, e, e, e)) := Hp.out.trans (plQ_end hq)
    have g1 : (s.size : Int) ≤ (q : Int) := by omega
    clear Hp hen2 hen3
    go_enter Tryd.func34, Tryd.ntmps34
    go_wp2_with fail
    refine (U1.out _).mono ?_
    rintro e' w1 ⟨rfl, rfl⟩
    go_wp2_with fail
    refine (U2.out _).mono ?_
    rintro e' w1 ⟨rfl, rfl⟩
    go_wp2_with fail
    refine bodyPost_ret (v := plVal (e, e, e, e)) ?_ rfl ⟨by rw [Hn.out], (Below.refl _ _).alloc (Nat.le_refl _) _⟩
    simp [results, Tryd.results34, go_sem, plVal]
  have g1 : ¬ (s.size : Int) ≤ (q : Int) := by omega
  have gz1 : (q : Int) < (s.size : Int) := by omega
  by_cases h61 : (s[q]'hq).toNat = 61
  case neg =>
    have Hn : Hid (plE angle s m = (e, e, e, e)) := Hp.out.trans (plQ_no hq h61)
    have g2 : (((s[q]'hq).toNat : Int) != 61) = true := by simp; omega
    clear Hp hen2 hen3 h61
    go_enter Tryd.func34, Tryd.ntmps34
    go_wp2_with fail
    refine (U1.out _).mono ?_
    rintro e' w1 ⟨rfl, rfl⟩
    go_wp2_with fail
    refine (U2.out _).mono ?_
    rintro e' w1 ⟨rfl, rfl⟩
    go_wp2_with fail
    refine bodyPost_ret (v := plVal (e, e, e, e)) ?_ rfl ⟨by rw [Hn.out], (Below.refl _ _).alloc (Nat.le_refl _) _⟩
    simp [results, Tryd.results34, go_sem, plVal]
  have Hp2 : Hid (plE angle s m = plV angle s e (runE blankU s (q + 1))) := Hp.out.trans (plQ_yes hq h61)
  have g2 : (((s[q]'hq).toNat : Int) != 61) = false := by simp [h61]
  clear Hp h61
  have h3 := runE_le (p := blankU) (s := s) (k := q + 1) hq
  have U3 : Hid (∀ w, Calls Tryd.prog 33 #[.string s, .int .i64 ((q : Int) + 1), .string ⟨#[9, 10, 12, 13, 32]⟩] w fun e w' => e = .returned (.int .i64 (runE blankU s (q + 1) : Int)) ∧ w' = w) := fun w => by
    have h := implPast s (q + 1) ⟨#[9, 10, 12, 13, 32]⟩ w hs
    rw [one_blank] at h
    exact h
  generalize runE blankU s (q + 1) = v at *
  have U4 : Hid (∀ w, Calls Tryd.prog 66 #[.string s, .int .i64 (v : Int), .string (⟨#[9, 10, 12, 13, 32]⟩ ++ en)] w fun e w' => e = .returned (.int .i64 (runE (plainU angle) s v : Int)) ∧ w' = w) := fun w => by
    have h := implUpTo s v (⟨#[9, 10, 12, 13, 32]⟩ ++ en) w hs
    rw [hen3] at h
    exact h
  have U3b : Hid (∀ w, Calls Tryd.prog 33 #[.string s, .int .i64 ((q : Int) + 1), .string ⟨#[9, 10, 12, 13, 32]⟩] w fun e w' => e = .returned (.int .i64 (v : Int)) ∧ w' = w) := U3
  clear U3 hen2 hen3
  by_cases hv : v < s.size
  case neg =>
    have Hn : Hid (plE angle s m = (e, v, runE (plainU angle) s v, runE (plainU angle) s v)) := Hp2.out.trans (plV_end hv)
    have g3 : decide ((v : Int) < (s.size : Int)) = false := decide_eq_false (by omega)
    generalize runE (plainU angle) s v = x at *
    clear Hp2
    go_enter Tryd.func34, Tryd.ntmps34
    go_wp2_with fail
    refine (U1.out _).mono ?_
    rintro e' w1 ⟨rfl, rfl⟩
    go_wp2_with fail
    refine (U2.out _).mono ?_
    rintro e' w1 ⟨rfl, rfl⟩
    go_wp2_with fail
    refine (U3b.out _).mono ?_
    rintro e' w1 ⟨rfl, rfl⟩
    go_wp2_with fail
    refine (U4.out _).mono ?_
    rintro e' w1 ⟨rfl, rfl⟩
    go_wp2_with fail
    refine bodyPost_ret (v := plVal (e, v, x, x)) ?_ rfl ⟨by rw [Hn.out], (Below.refl _ _).alloc (Nat.le_refl _) _⟩
    simp [results, Tryd.results34, go_sem, plVal]
  have Hone := implIsOne (s[v]'hv) ⟨#[34, 39]⟩
  rw [show oneU ⟨#[34, 39]⟩ (s[v]'hv) = decide ((s[v]'hv).toNat = 34 ∨ (s[v]'hv).toNat = 39) from congrFun one_quote _] at Hone
  by_cases hqt : (s[v]'hv).toNat = 34 ∨ (s[v]'hv).toNat = 39
  case neg =>
    have Hn : Hid (plE angle s m = (e, v, runE (plainU angle) s v, runE (plainU angle) s v)) := Hp2.out.trans (plV_plain hv hqt)
    rw [decide_eq_false hqt] at Hone
    generalize runE (plainU angle) s v = x at *
    clear Hp2 hqt
    go_enter Tryd.func34, Tryd.ntmps34
    go_wp2_with fail
    refine (U1.out _).mono ?_
    rintro e' w1 ⟨rfl, rfl⟩
    go_wp2_with fail
    refine (U2.out _).mono ?_
    rintro e' w1 ⟨rfl, rfl⟩
    go_wp2_with fail
    refine (U3b.out _).mono ?_
    rintro e' w1 ⟨rfl, rfl⟩
    go_wp2_with fail
    refine (Hone _).mono ?_
    rintro e' w1 ⟨rfl, rfl⟩
    go_wp2_with fail
    refine (U4.out _).mono ?_
    rintro e' w1 ⟨rfl, rfl⟩
    go_wp2_with fail
    refine bodyPost_ret (v := plVal (e, v, x, x)) ?_ rfl ⟨by rw [Hn.out], (Below.refl _ _).alloc (Nat.le_refl _) _⟩
    simp [results, Tryd.results34, go_sem, plVal]
  have Hn : Hid (plE angle s m = (e, v + 1, runE (quoteU (s[v]'hv)) s (v + 1), min (runE (quoteU (s[v]'hv)) s (v + 1) + 1) s.size)) := Hp2.out.trans (plV_quote hv hqt)
  rw [decide_eq_true hqt] at Hone
  have h5 := runE_le (p := quoteU (s[v]'hv)) (s := s) (k := v + 1) hv
  have U5 : Hid (∀ w, Calls Tryd.prog 66 #[.string s, .int .i64 ((v : Int) + 1), .string (s.extract v (v + 1))] w fun e w' => e = .returned (.int .i64 (runE (quoteU (s[v]'hv)) s (v + 1) : Int)) ∧ w' = w) := fun w => by
    have h := implUpTo s (v + 1) (s.extract v (v + 1)) w hs
    rw [not_cut hv] at h
    exact h
  generalize runE (quoteU (s[v]'hv)) s (v + 1) = x at *
  have q1 : (v : Int) + 1 ≤ (s.size : Int) := by omega
  have q2 : (v : Int) ≤ (v : Int) + 1 := by omega
  have q3 : ((v : Int) + 1).toNat = v + 1 := by omega
  have q4 : (0 : Int) ≤ (v : Int) + 1 := by omega
  clear Hp2 hqt U4
  by_cases hx : x < s.size
  · have Hn2 : Hid (plE angle s m = (e, v + 1, x, x + 1)) := by
      show _ = _
      rw [Hn.out, Nat.min_eq_left (by omega)]
    have g5 : ¬ (s.size : Int) < (x : Int) + 1 := by omega
    clear Hn
    have Hn : Hid (plE angle s m = (e, v + 1, x, x + 1)) := Hn2
    go_enter Tryd.func34, Tryd.ntmps34
    go_wp2_with fail
    refine (U1.out _).mono ?_
    rintro e' w1 ⟨rfl, rfl⟩
    go_wp2_with fail
    refine (U2.out _).mono ?_
    rintro e' w1 ⟨rfl, rfl⟩
    go_wp2_with fail
    refine (U3b.out _).mono ?_
    rintro e' w1 ⟨rfl, rfl⟩
    go_wp2_with fail
    refine (Hone _).mono ?_
    rintro e' w1 ⟨rfl, rfl⟩
    go_wp2_with fail
    refine (U5.out _).mono ?_
    rintro e' w1 ⟨rfl, rfl⟩
    go_wp2_with fail
    refine bodyPost_ret (v := plVal (e, v + 1, x, x + 1)) ?_ rfl ⟨by rw [Hn.out], (Below.refl _ _).alloc (Nat.le_refl _) _⟩
    simp [results, Tryd.results34, go_sem, plVal]
    omega
  · have Hn2 : Hid (plE angle s m = (e, v + 1, x, s.size)) := by
      show _ = _
      rw [Hn.out, Nat.min_eq_right (by omega)]
    have g5 : (s.size : Int) < (x : Int) + 1 := by omega
    clear Hn
    have Hn : Hid (plE angle s m = (e, v + 1, x, s.size)) := Hn2
    go_enter Tryd.func34, Tryd.ntmps34
    go_wp2_with fail
    refine (U1.out _).mono ?_
    rintro e' w1 ⟨rfl, rfl⟩
    go_wp2_with fail
    refine (U2.out _).mono ?_
    rintro e' w1 ⟨rfl, rfl⟩
    go_wp2_with fail
    refine (U3b.out _).mono ?_
    rintro e' w1 ⟨rfl, rfl⟩
    go_wp2_with fail
    refine (Hone _).mono ?_
    rintro e' w1 ⟨rfl, rfl⟩
    go_wp2_with fail
    refine (U5.out _).mono ?_
    rintro e' w1 ⟨rfl, rfl⟩
    go_wp2_with fail
    refine bodyPost_ret (v := plVal (e, v + 1, x, s.size)) ?_ rfl ⟨by rw [Hn.out], (Below.refl _ _).alloc (Nat.le_refl _) _⟩
    simp [results, Tryd.results34, go_sem, plVal]
    omega

end Go.Proofs.YtlaidaghmhmgbaaDoor.Sg
