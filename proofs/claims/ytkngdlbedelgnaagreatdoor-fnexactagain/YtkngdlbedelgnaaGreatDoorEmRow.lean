/- Contract of the program's strictRow: elements beside each other, each asked through the interface. -/
import Derived.Test.YtkngdlbedelgnaaGreatDoorMAG14
import Derived.Test.YtkngdlbedelgnaaGreatDoorQbMem
namespace Go.Proofs.YtkngdlbedelgnaaGreatDoor.Sg
open Go.ChangeShapes Go.WideShapes Go.ChangeAt Go.RowKit

theorem em_tag (x : Value) (w : World) : (invoke (.fn (.method "loop.example/g00325/impl.strict") #[]) #[.iface 106 x]).run Tryz.prog w = .ok (.enter 195 #[x]) w := by kernel_rfl
theorem em_text (x : Value) (w : World) : (invoke (.fn (.method "loop.example/g00325/impl.strict") #[]) #[.iface 129 x]).run Tryz.prog w = .ok (.enter 202 #[x]) w := by kernel_rfl
theorem em_note (x : Value) (w : World) : (invoke (.fn (.method "loop.example/g00325/impl.strict") #[]) #[.iface 108 x]).run Tryz.prog w = .ok (.enter 201 #[x]) w := by kernel_rfl
theorem em_none (x : Value) (w : World) : (invoke (.fn (.method "loop.example/g00325/impl.strict") #[]) #[.iface 131 x]).run Tryz.prog w = .ok (.enter 203 #[x]) w := by kernel_rfl
theorem em_as_tag (v : Value) (W : World) : (Instr.typeAssert (.iface 106 v) 103 129 true).run Tryz.prog W = .ok (.tuple #[.agg #[.string ⟨#[]⟩], .bool false]) W := by kernel_rfl
theorem em_as_text (v : Value) (W : World) : (Instr.typeAssert (.iface 129 v) 103 129 true).run Tryz.prog W = .ok (.tuple #[v, .bool true]) W := by kernel_rfl
theorem em_as_note (v : Value) (W : World) : (Instr.typeAssert (.iface 108 v) 103 129 true).run Tryz.prog W = .ok (.tuple #[.agg #[.string ⟨#[]⟩], .bool false]) W := by kernel_rfl

/-- What an element is behind the interface, and what it is asked for. -/
theorem elI_cases (kd sp : Int) (nm : ByteArray) (xa : Option Addr) (ats : List AttrB) (xc : Nat) (tx : ByteArray) (kn : Nat) :
    (elI kd sp nm xa ats.length xc tx kn = .iface 106 (.agg #[.int .i64 sp, .string nm, .slice xa ats.length xc]) ∧ kd = 1 ∧ okSelf kd sp nm ats tx kn = tagSelf sp nm ats) ∨
    (elI kd sp nm xa ats.length xc tx kn = .iface 129 (.agg #[.string tx]) ∧ kd = 2 ∧ okSelf kd sp nm ats tx kn = (decide (tx.size ≠ 0) && stTextB tx)) ∨
    (elI kd sp nm xa ats.length xc tx kn = .iface 108 (.agg #[.string tx]) ∧ kd = 3 ∧ okSelf kd sp nm ats tx kn = stNoteB tx) ∨
    (elI kd sp nm xa ats.length xc tx kn = .iface 131 (.agg #[]) ∧ okSelf kd sp nm ats tx kn = false) := by
  unfold elI okSelf
  by_cases k1 : kd = 1
  · subst k1
    by_cases t0 : tx.size = 0
    · refine .inl ⟨if_pos ⟨rfl, t0⟩, rfl, ?_⟩
      rw [if_pos rfl, attrsSt_eq, decide_eq_true t0, Bool.and_true]
      rfl
    · refine .inr (.inr (.inr ⟨?_, ?_⟩))
      · rw [if_neg (fun h => t0 h.2), if_neg (fun h => absurd h.1 (by decide)), if_neg (fun h => absurd h.1 (by decide))]
      · rw [if_pos rfl, decide_eq_false t0]
        simp
  rw [if_neg (fun h => k1 h.1), if_neg k1]
  have hp : ∀ b : Bool, (sp = 0 ∧ nm.size = 0 ∧ ats.length = 0 ∧ kn = 0) → (plainE sp nm ats kn && b) = b := fun b h => by
    unfold plainE
    rw [decide_eq_true h.1, decide_eq_true h.2.1, decide_eq_true h.2.2.1, decide_eq_true h.2.2.2]
    rfl
  have hq : ∀ b : Bool, ¬ (sp = 0 ∧ nm.size = 0 ∧ ats.length = 0 ∧ kn = 0) → (plainE sp nm ats kn && b) = false := fun b h => by
    have : plainE sp nm ats kn = false := by
      rw [Bool.eq_false_iff]
      intro hh
      unfold plainE at hh
      simp only [Bool.and_eq_true, decide_eq_true_iff] at hh
      exact h hh
    rw [this]
    rfl
  by_cases k2 : kd = 2
  · subst k2
    rw [if_pos rfl]
    by_cases hpl : sp = 0 ∧ nm.size = 0 ∧ ats.length = 0 ∧ kn = 0
    · exact .inr (.inl ⟨if_pos ⟨rfl, hpl⟩, rfl, hp _ hpl⟩)
    · refine .inr (.inr (.inr ⟨?_, hq _ hpl⟩))
      rw [if_neg (fun h => hpl h.2), if_neg (fun h => absurd h.1 (by decide))]
  rw [if_neg (fun h => k2 h.1), if_neg k2]
  by_cases k3 : kd = 3
  · subst k3
    rw [if_pos rfl]
    by_cases hpl : sp = 0 ∧ nm.size = 0 ∧ ats.length = 0 ∧ kn = 0
    · exact .inr (.inr (.inl ⟨if_pos ⟨rfl, hpl⟩, rfl, hp _ hpl⟩))
    · exact .inr (.inr (.inr ⟨if_neg (fun h => hpl h.2), hq _ hpl⟩))
  exact .inr (.inr (.inr ⟨if_neg (fun h => k3 h.1), if_neg k3⟩))

set_option maxRecDepth 20000 in
set_option maxHeartbeats 8000000 in
theorem implStrictRow (n : Nat) (els : List ElB) (a : Option Addr) (cap : Nat) (w : World) (hK : KidsIn (QB n) (· < n) w a els) (hsm : ElsSmall els) (hlen : els.length ≤ 16777216) (hT : StLib w) (hnw : n ≤ w.heap.size) :
    Calls Tryz.prog 72 #[.slice a els.length cap] w fun e w' => e = .returned (.bool (rowOk false els)) ∧ Below w.heap.size w w' := by
  have HK : Hid (KidsIn (QB n) (· < n) w a els) := hK
  have HS : Hid (ElsSmall els) := hsm
  have HT : Hid (StLib w) := hT
  obtain ⟨R, HR⟩ : ∃ R, Hid (rowOk false (els.drop 0) = R) := ⟨_, rfl⟩
  have HR0 : rowOk false els = R := HR.out
  rw [HR0]
  have i1 := em_tag
  have i2 := em_text
  have i3 := em_note
  have i4 := em_none
  have s1 := em_as_tag
  have s2 := em_as_text
  have s3 := em_as_note
  clear hK hsm hT HR0
  go_enter Tryz.func72, Tryz.ntmps72
  go_wp2_with fail
  go_loopw [3, 5, 6, 9] (fun bv _ _ iv wr => ∃ (k : Nat) (bt : Bool), k ≤ els.length ∧ iv = .int .i64 (k : Int) ∧ bv = .bool bt ∧ Hid (rowOk bt (els.drop k) = R) ∧ Hid (Below w.heap.size w wr)) (fun _ _ _ iv _ => els.length - (intOf iv).toNat)
  case atStart => exact ⟨0, false, Nat.zero_le _, rfl, rfl, HR, Below.refl _ _⟩
  case round =>
    clear HR
    obtain ⟨k, bt, hk, rfl, rfl, HR, HB⟩ := hrel
    have k0 : (0 : Int) ≤ (k : Int) := by omega
    by_cases hlt : k < els.length
    · have k1 : (k : Int) < (els.length : Int) := by omega
      rcases HK.out.agree (QB.liesP _) (fun b hb => HB.out.block b (by omega)) HB.out.size with h | ⟨b, off, rfl, _, hc⟩
      · omega
      have hE := hc.get k hlt
      have hSm := HS.out.get _ (List.getElem_mem hlt)
      have hst := rowOk_drop els k hlt bt
      rw [HR.out] at hst
      generalize els[k]'hlt = e at *
      obtain ⟨kd, sp, nm, ats, tx, ks⟩ := e
      unfold ElIn at hE
      obtain ⟨c0, c1, c2, ⟨av, c3, hQ⟩, c4, ka, kc, c5, _⟩ := hE
      obtain ⟨⟨xa, xc, rfl, _, _, A0, _⟩, _⟩ := hQ
      unfold ElSmall at hSm
      obtain ⟨hnm, htx, han, hap, _, _⟩ := hSm
      rw [aloneK, kindE] at hst
      have hbx : Below wr.heap.size wr (wr.alloc (.cells #[.int .i64 kd, .int .i64 sp, .string nm, .slice xa ats.length xc, .string tx, .slice ka ks.length kc] 39)) := (Below.refl _ wr).alloc (Nat.le_refl _) _
      have HE := implElementOf kd sp nm xa ats.length xc tx ka ks.length kc (wr.alloc (.cells #[.int .i64 kd, .int .i64 sp, .string nm, .slice xa ats.length xc, .string tx, .slice ka ks.length kc] 39))
      have HTr : StLib wr := HT.out.below HB.out
      have HAt : Hid (AttrsAt wr xa ats) := A0
      have Hap : Hid (∀ p ∈ ats, p.1.size ≤ 16777216 ∧ p.2.size ≤ 16777216) := hap
      clear A0 hap hc HR
      go_wp2_with fail
      refine HE.mono ?_
      rintro e w1 ⟨rfl, b1⟩
      have hb1 : Below wr.heap.size wr w1 := hbx.trans (b1.mono hbx.size)
      have B1 : Hid (Below w.heap.size w w1) := HB.out.trans (hb1.mono HB.out.size)
      clear HE b1 hbx c0 c1 c2 c3 c4 c5
      rcases elI_cases kd sp nm xa ats xc tx ks.length with ⟨ev, hkd, hok⟩ | ⟨ev, hkd, hok⟩ | ⟨ev, hkd, hok⟩ | ⟨ev, hok⟩
      · have HM := implStrictTag sp nm ats xa xc w1 (HAt.out.below hb1) hnm han Hap.out (HTr.below hb1)
        rw [ev]
        rw [hok, hkd] at hst
        generalize tagSelf sp nm ats = r at *
        clear ev hok HAt Hap
        cases r
        · have Hf : Hid (R = false) := by show _ = _; rw [hst]; rfl
          clear hst
          go_wp2_with fail
          refine HM.mono ?_
          rintro e w2 ⟨rfl, b2⟩
          have B2 : Hid (Below w.heap.size w w2) := B1.out.trans (b2.mono B1.out.size)
          clear HM b2 B1 hb1
          go_wp2_with fail
          go_ret
          exact ⟨ret_bool Hf.out.symm, B2.out⟩
        · have HR2 : Hid (rowOk false (els.drop (k + 1)) = R) := by show _ = _; rw [hst]; simp
          clear hst
          go_wp2_with fail
          refine HM.mono ?_
          rintro e w2 ⟨rfl, b2⟩
          have B2 : Hid (Below w.heap.size w w2) := B1.out.trans (b2.mono B1.out.size)
          clear HM b2 B1 hb1
          go_wp2_with fail
          go_roundw
          case rel => exact ⟨k + 1, false, by omega, by go_num, rfl, HR2, B2⟩
          case measure => simp [intOf]; omega
      · have HM := implStrictText tx w1 htx (HTr.below hb1)
        rw [ev]
        rw [hok, hkd] at hst
        generalize (decide (tx.size ≠ 0) && stTextB tx) = r at *
        clear ev hok HAt Hap
        cases r
        · have Hf : Hid (R = false) := by show _ = _; rw [hst]; rfl
          clear hst
          go_wp2_with fail
          refine HM.mono ?_
          rintro e w2 ⟨rfl, b2⟩
          have B2 : Hid (Below w.heap.size w w2) := B1.out.trans (b2.mono B1.out.size)
          clear HM b2 B1 hb1
          go_wp2_with fail
          go_ret
          exact ⟨ret_bool Hf.out.symm, B2.out⟩
        · cases bt
          · have HR2 : Hid (rowOk true (els.drop (k + 1)) = R) := by show _ = _; rw [hst]; simp
            clear hst
            go_wp2_with fail
            refine HM.mono ?_
            rintro e w2 ⟨rfl, b2⟩
            have B2 : Hid (Below w.heap.size w w2) := B1.out.trans (b2.mono B1.out.size)
            clear HM b2 B1 hb1
            go_wp2_with fail
            go_roundw
            case rel => exact ⟨k + 1, true, by omega, by go_num, rfl, HR2, B2⟩
            case measure => simp [intOf]; omega
          · have Hf : Hid (R = false) := by show _ = _; rw [hst]; simp
            clear hst
            go_wp2_with fail
            refine HM.mono ?_
            rintro e w2 ⟨rfl, b2⟩
            have B2 : Hid (Below w.heap.size w w2) := B1.out.trans (b2.mono B1.out.size)
            clear HM b2 B1 hb1
            go_wp2_with fail
            go_ret
            exact ⟨ret_bool Hf.out.symm, B2.out⟩
      · have HM := implStrictNote tx w1 htx (HTr.below hb1)
        rw [ev]
        rw [hok, hkd] at hst
        generalize stNoteB tx = r at *
        clear ev hok HAt Hap
        cases r
        · have Hf : Hid (R = false) := by show _ = _; rw [hst]; rfl
          clear hst
          go_wp2_with fail
          refine HM.mono ?_
          rintro e w2 ⟨rfl, b2⟩
          have B2 : Hid (Below w.heap.size w w2) := B1.out.trans (b2.mono B1.out.size)
          clear HM b2 B1 hb1
          go_wp2_with fail
          go_ret
          exact ⟨ret_bool Hf.out.symm, B2.out⟩
        · have HR2 : Hid (rowOk false (els.drop (k + 1)) = R) := by show _ = _; rw [hst]; simp
          clear hst
          go_wp2_with fail
          refine HM.mono ?_
          rintro e w2 ⟨rfl, b2⟩
          have B2 : Hid (Below w.heap.size w w2) := B1.out.trans (b2.mono B1.out.size)
          clear HM b2 B1 hb1
          go_wp2_with fail
          go_roundw
          case rel => exact ⟨k + 1, false, by omega, by go_num, rfl, HR2, B2⟩
          case measure => simp [intOf]; omega
      · have HM := implStrictNone w1
        rw [ev]
        rw [hok] at hst
        have Hf : Hid (R = false) := by show _ = _; rw [hst]; rfl
        clear ev hok HAt Hap hst
        go_wp2_with fail
        refine HM.mono ?_
        rintro e w2 ⟨rfl, b2⟩
        have B2 : Hid (Below w.heap.size w w2) := B1.out.trans (b2.mono B1.out.size)
        clear HM b2 B1 hb1
        go_wp2_with fail
        go_ret
        exact ⟨ret_bool Hf.out.symm, B2.out⟩
    · have hkl : k = els.length := by omega
      subst hkl
      have g1 : decide ((els.length : Int) < (els.length : Int)) = false := by simp
      have Hf : Hid (R = true) := by
        show _ = _
        rw [← HR.out, List.drop_length, rowOk]
      clear HR
      go_wp2_with fail
      go_ret
      exact ⟨ret_bool Hf.out.symm, HB.out⟩

end Go.Proofs.YtkngdlbedelgnaaGreatDoor.Sg
