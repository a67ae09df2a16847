/- Elements all of whose lists lie ahead of a block. (Out of SmEl.) Contract of the program's strictRow: elements beside each other, each asked through the interface. Contract of the program's ElSize. Contract of the program's ElOk. Contract of the program's fewEls. Contract of the program's isTagAmongNotes; plain: when elements are a document. Contract of the program's DocOk. Contracts of the laws' marks of attributes: a slice that the call owns is marked, and the marks are found. Contract of the laws' marks of elements. -/
import Derived.Test.YthipdkagkdnaiaaGreatDoorRwRows
import Derived.Test.YthipdkagkdnaiaaGreatDoorMRD14
import Derived.Test.YthipdkagkdnaiaaGreatDoorMRD15
import Derived.Test.YthipdkagkdnaiaaGreatDoorMRD02
namespace Go.Proofs.YthipdkagkdnaiaaGreatDoor.Sg
open Go.ChangeShapes Go.WideShapes Go.ChangeAt Go.RowKit Go.Shelf

/-- Attributes in blocks ahead of one. -/
def QB (n : Nat) (w : World) (v : Value) (l : List AttrB) : Prop := QA 0 w v l ∧ ∀ b o m k c, v = .slice (some ⟨b, o, m⟩) k c → b < n
theorem QB.slice {n : Nat} {w : World} {v : Value} {l : List AttrB} (h : QB n w v l) : ∃ a c, v = .slice a l.length c := by
  obtain ⟨⟨x, c, e, _⟩, _⟩ := h
  exact ⟨x, c, e⟩
theorem QB.liesP (n : Nat) : LiesP (QB n) (· < n) := ⟨fun {w w' v l} h hb hs => by
  obtain ⟨⟨x, c, rfl, h1, h2, h3, h6⟩, h7⟩ := h
  refine ⟨⟨x, c, rfl, h1, fun b o m h => Nat.lt_of_lt_of_le (h2 b o m h) hs, ?_, h6⟩, h7⟩
  rcases h3 with h3 | ⟨b', e', h4, h5⟩
  · exact .inl h3
  · subst e'
    have hc := hb b' (h7 _ _ _ _ _ rfl)
    exact .inr ⟨b', rfl, Nat.lt_of_lt_of_le h4 hs, fun k hk => ⟨(cell_agree hc).trans (h5 k hk).1, (cell_agree hc).trans (h5 k hk).2⟩⟩⟩
theorem elV_first {lo : Nat} {w : World} {v : Value} {e : ElB} (h : ElV (QA lo) (lo ≤ ·) w v e) : ElV (QB w.heap.size) (· < w.heap.size) w v e :=
  h.lts.wider (fun v l h => by
    obtain ⟨x, c, rfl, h1, h2, h3⟩ := h
    exact ⟨⟨x, c, rfl, fun _ _ _ _ => Nat.zero_le _, h2, h3⟩, fun b o m k c e => by cases e; exact h2 b o m rfl⟩) (fun b hb => hb.2)
theorem ElV.widen {n n' : Nat} {w : World} {v : Value} {e : ElB} (h : ElV (QB n) (· < n) w v e) (hn : n ≤ n') : ElV (QB n') (· < n') w v e :=
  h.wider (fun _ _ h => ⟨h.1, fun b o m k c e => Nat.lt_of_lt_of_le (h.2 b o m k c e) hn⟩) (fun _ hb => Nat.lt_of_lt_of_le hb hn)
/-- One element in a slice of its own. -/
theorem kids_oneB {n : Nat} {W : World} {z : ElB} {v : Value} {b : Nat} (hV : ElV (QB n) (· < n) W v z) (hb : b < n) (hc : ∃ v0 v1 v2 v3 v4 v5, v = .agg #[v0, v1, v2, v3, v4, v5] ∧ W.heap[b]? = some (.cells #[v0, v1, v2, v3, v4, v5] 25 (0, 0))) : KidsIn (QB n) (· < n) W (some ⟨b, 0, none⟩) [z] := by
  obtain ⟨v0, v1, v2, v3, v4, v5, rfl, hh⟩ := hc
  refine .inr ⟨b, 0, rfl, hb, ?_⟩
  unfold ElsIn
  refine ⟨hV.cells ?_ ?_ ?_ ?_ ?_ ?_, by unfold ElsIn; trivial⟩ <;> simp [World.cell?, hh]

end Go.Proofs.YthipdkagkdnaiaaGreatDoor.Sg

namespace Go.Proofs.YthipdkagkdnaiaaGreatDoor.Sg
open Go.ChangeShapes Go.WideShapes Go.ChangeAt Go.RowKit

theorem em_tag (x : Value) (w : World) : (invoke (.fn (.method "loop.example/g00325/impl.strict") #[]) #[.iface 105 x]).run Tryz.prog w = .ok (.enter 198 #[x]) w := by kernel_rfl
theorem em_text (x : Value) (w : World) : (invoke (.fn (.method "loop.example/g00325/impl.strict") #[]) #[.iface 98 x]).run Tryz.prog w = .ok (.enter 197 #[x]) w := by kernel_rfl
theorem em_note (x : Value) (w : World) : (invoke (.fn (.method "loop.example/g00325/impl.strict") #[]) #[.iface 106 x]).run Tryz.prog w = .ok (.enter 204 #[x]) w := by kernel_rfl
theorem em_none (x : Value) (w : World) : (invoke (.fn (.method "loop.example/g00325/impl.strict") #[]) #[.iface 123 x]).run Tryz.prog w = .ok (.enter 205 #[x]) w := by kernel_rfl
theorem em_as_tag (v : Value) (W : World) : (Instr.typeAssert (.iface 105 v) 94 98 true).run Tryz.prog W = .ok (.tuple #[.agg #[.string ⟨#[]⟩], .bool false]) W := by kernel_rfl
theorem em_as_text (v : Value) (W : World) : (Instr.typeAssert (.iface 98 v) 94 98 true).run Tryz.prog W = .ok (.tuple #[v, .bool true]) W := by kernel_rfl
theorem em_as_note (v : Value) (W : World) : (Instr.typeAssert (.iface 106 v) 94 98 true).run Tryz.prog W = .ok (.tuple #[.agg #[.string ⟨#[]⟩], .bool false]) W := by kernel_rfl

/-- What an element is behind the interface, and what it is asked for. -/
theorem elI_cases (kd sp : Int) (nm : ByteArray) (xa : Option Addr) (ats : List AttrB) (xc : Nat) (tx : ByteArray) (kn : Nat) :
    (elI kd sp nm xa ats.length xc tx kn = .iface 105 (.agg #[.int .i64 sp, .string nm, .slice xa ats.length xc]) ∧ kd = 1 ∧ okSelf kd sp nm ats tx kn = tagSelf sp nm ats) ∨
    (elI kd sp nm xa ats.length xc tx kn = .iface 98 (.agg #[.string tx]) ∧ kd = 2 ∧ okSelf kd sp nm ats tx kn = (decide (tx.size ≠ 0) && stTextB tx)) ∨
    (elI kd sp nm xa ats.length xc tx kn = .iface 106 (.agg #[.string tx]) ∧ kd = 3 ∧ okSelf kd sp nm ats tx kn = stNoteB tx) ∨
    (elI kd sp nm xa ats.length xc tx kn = .iface 123 (.agg #[]) ∧ okSelf kd sp nm ats tx kn = false) := by
  unfold elI okSelf
  by_cases k1 : kd = 1
  · subst k1
    by_cases t0 : tx.size = 0
    · refine .inl ⟨if_pos ⟨rfl, t0⟩, rfl, ?_⟩
      rw [if_pos rfl, attrsSt_eq, decide_eq_true t0, Bool.and_true]
      rfl
    · refine .inr (.inr (.inr ⟨?_, ?_⟩))
      · rw [if_neg (fun h => t0 h.2), if_neg (fun h => absurd h.1 (by decide)), if_neg (fun h => absurd h.1 (by decide))]
      · rw [if_pos rfl, decide_eq_false t0]
        simp
  rw [if_neg (fun h => k1 h.1), if_neg k1]
  have hp : ∀ b : Bool, (sp = 0 ∧ nm.size = 0 ∧ ats.length = 0 ∧ kn = 0) → (plainE sp nm ats kn && b) = b := fun b h => by
    unfold plainE
    rw [decide_eq_true h.1, decide_eq_true h.2.1, decide_eq_true h.2.2.1, decide_eq_true h.2.2.2]
    rfl
  have hq : ∀ b : Bool, ¬ (sp = 0 ∧ nm.size = 0 ∧ ats.length = 0 ∧ kn = 0) → (plainE sp nm ats kn && b) = false := fun b h => by
    have : plainE sp nm ats kn = false := by
      rw [Bool.eq_false_iff]
      intro hh
      unfold plainE at hh
      simp only [Bool.and_eq_true, decide_eq_true_iff] at hh
      exact h hh
    rw [this]
    rfl
  by_cases k2 : kd = 2
  · subst k2
    rw [if_pos rfl]
    by_cases hpl : sp = 0 ∧ nm.size = 0 ∧ ats.length = 0 ∧ kn = 0
    · exact .inr (.inl ⟨if_pos ⟨rfl, hpl⟩, rfl, hp _ hpl⟩)
    · refine .inr (.inr (.inr ⟨?_, hq _ hpl⟩))
      rw [if_neg (fun h => hpl h.2), if_neg (fun h => absurd h.1 (by decide))]
  rw [if_neg (fun h => k2 h.1), if_neg k2]
  by_cases k3 : kd = 3
  · subst k3
    rw [if_pos rfl]
    by_cases hpl : sp = 0 ∧ nm.size = 0 ∧ ats.length = 0 ∧ kn = 0
    · exact .inr (.inr (.inl ⟨if_pos ⟨rfl, hpl⟩, rfl, hp _ hpl⟩))
    · exact .inr (.inr (.inr ⟨if_neg (fun h => hpl h.2), hq _ hpl⟩))
  exact .inr (.inr (.inr ⟨if_neg (fun h => k3 h.1), if_neg k3⟩))

set_option maxRecDepth 20000 in
set_option maxHeartbeats 8000000 in
theorem implStrictRow (n : Nat) (els : List ElB) (a : Option Addr) (cap : Nat) (w : World) (hK : KidsIn (QB n) (· < n) w a els) (hsm : ElsSmall els) (hlen : els.length ≤ 16777216) (hT : StLib w) (hnw : n ≤ w.heap.size) :
    Calls Tryz.prog 49 #[.slice a els.length cap] w fun e w' => e = .returned (.bool (rowOk false els)) ∧ Below w.heap.size w w' := by
  have HK : Hid (KidsIn (QB n) (· < n) w a els) := hK
  have HS : Hid (ElsSmall els) := hsm
  have HT : Hid (StLib w) := hT
  obtain ⟨R, HR⟩ : ∃ R, Hid (rowOk false (els.drop 0) = R) := ⟨_, rfl⟩
  have HR0 : rowOk false els = R := HR.out
  rw [HR0]
  have i1 := em_tag
  have i2 := em_text
  have i3 := em_note
  have i4 := em_none
  have s1 := em_as_tag
  have s2 := em_as_text
  have s3 := em_as_note
  clear hK hsm hT HR0
  go_enter Tryz.func49, Tryz.ntmps49
  go_wp2_with fail
  go_loopw [3, 5, 6, 9] (fun bv _ _ iv wr => ∃ (k : Nat) (bt : Bool), k ≤ els.length ∧ iv = .int .i64 (k : Int) ∧ bv = .bool bt ∧ Hid (rowOk bt (els.drop k) = R) ∧ Hid (Below w.heap.size w wr)) (fun _ _ _ iv _ => els.length - (intOf iv).toNat)
  case atStart => exact ⟨0, false, Nat.zero_le _, rfl, rfl, HR, Below.refl _ _⟩
  case round =>
    clear HR
    obtain ⟨k, bt, hk, rfl, rfl, HR, HB⟩ := hrel
    have k0 : (0 : Int) ≤ (k : Int) := by omega
    by_cases hlt : k < els.length
    · have k1 : (k : Int) < (els.length : Int) := by omega
      rcases HK.out.agree (QB.liesP _) (fun b hb => HB.out.block b (by omega)) HB.out.size with h | ⟨b, off, rfl, _, hc⟩
      · omega
      have hE := hc.get k hlt
      have hSm := HS.out.get _ (List.getElem_mem hlt)
      have hst := rowOk_drop els k hlt bt
      rw [HR.out] at hst
      generalize els[k]'hlt = e at *
      obtain ⟨kd, sp, nm, ats, tx, ks⟩ := e
      unfold ElIn at hE
      obtain ⟨c0, c1, c2, ⟨av, c3, hQ⟩, c4, ka, kc, c5, _⟩ := hE
      obtain ⟨⟨xa, xc, rfl, _, _, A0, _⟩, _⟩ := hQ
      unfold ElSmall at hSm
      obtain ⟨hnm, htx, han, hap, _, _⟩ := hSm
      rw [aloneK, kindE] at hst
      have hbx : Below wr.heap.size wr (wr.alloc (.cells #[.int .i64 kd, .int .i64 sp, .string nm, .slice xa ats.length xc, .string tx, .slice ka ks.length kc] 25)) := (Below.refl _ wr).alloc (Nat.le_refl _) _
      have HE := implElementOf kd sp nm xa ats.length xc tx ka ks.length kc (wr.alloc (.cells #[.int .i64 kd, .int .i64 sp, .string nm, .slice xa ats.length xc, .string tx, .slice ka ks.length kc] 25))
      have HTr : StLib wr := HT.out.below HB.out
      have HAt : Hid (AttrsAt wr xa ats) := A0
      have Hap : Hid (∀ p ∈ ats, p.1.size ≤ 16777216 ∧ p.2.size ≤ 16777216) := hap
      clear A0 hap hc HR
      go_wp2_with fail
      refine HE.mono ?_
      rintro e w1 ⟨rfl, b1⟩
      have hb1 : Below wr.heap.size wr w1 := hbx.trans (b1.mono hbx.size)
      have B1 : Hid (Below w.heap.size w w1) := HB.out.trans (hb1.mono HB.out.size)
      clear HE b1 hbx c0 c1 c2 c3 c4 c5
      rcases elI_cases kd sp nm xa ats xc tx ks.length with ⟨ev, hkd, hok⟩ | ⟨ev, hkd, hok⟩ | ⟨ev, hkd, hok⟩ | ⟨ev, hok⟩
      · have HM := implStrictTag sp nm ats xa xc w1 (HAt.out.below hb1) hnm han Hap.out (HTr.below hb1)
        rw [ev]
        rw [hok, hkd] at hst
        generalize tagSelf sp nm ats = r at *
        clear ev hok HAt Hap
        cases r
        · have Hf : Hid (R = false) := by show _ = _; rw [hst]; rfl
          clear hst
          go_wp2_with fail
          refine HM.mono ?_
          rintro e w2 ⟨rfl, b2⟩
          have B2 : Hid (Below w.heap.size w w2) := B1.out.trans (b2.mono B1.out.size)
          clear HM b2 B1 hb1
          go_wp2_with fail
          go_ret
          exact ⟨ret_bool Hf.out.symm, B2.out⟩
        · have HR2 : Hid (rowOk false (els.drop (k + 1)) = R) := by show _ = _; rw [hst]; simp
          clear hst
          go_wp2_with fail
          refine HM.mono ?_
          rintro e w2 ⟨rfl, b2⟩
          have B2 : Hid (Below w.heap.size w w2) := B1.out.trans (b2.mono B1.out.size)
          clear HM b2 B1 hb1
          go_wp2_with fail
          go_roundw
          case rel => exact ⟨k + 1, false, by omega, by go_num, rfl, HR2, B2⟩
          case measure => simp [intOf]; omega
      · have HM := implStrictText tx w1 htx (HTr.below hb1)
        rw [ev]
        rw [hok, hkd] at hst
        generalize (decide (tx.size ≠ 0) && stTextB tx) = r at *
        clear ev hok HAt Hap
        cases r
        · have Hf : Hid (R = false) := by show _ = _; rw [hst]; rfl
          clear hst
          go_wp2_with fail
          refine HM.mono ?_
          rintro e w2 ⟨rfl, b2⟩
          have B2 : Hid (Below w.heap.size w w2) := B1.out.trans (b2.mono B1.out.size)
          clear HM b2 B1 hb1
          go_wp2_with fail
          go_ret
          exact ⟨ret_bool Hf.out.symm, B2.out⟩
        · cases bt
          · have HR2 : Hid (rowOk true (els.drop (k + 1)) = R) := by show _ = _; rw [hst]; simp
            clear hst
            go_wp2_with fail
            refine HM.mono ?_
            rintro e w2 ⟨rfl, b2⟩
            have B2 : Hid (Below w.heap.size w w2) := B1.out.trans (b2.mono B1.out.size)
            clear HM b2 B1 hb1
            go_wp2_with fail
            go_roundw
            case rel => exact ⟨k + 1, true, by omega, by go_num, rfl, HR2, B2⟩
            case measure => simp [intOf]; omega
          · have Hf : Hid (R = false) := by show _ = _; rw [hst]; simp
            clear hst
            go_wp2_with fail
            refine HM.mono ?_
            rintro e w2 ⟨rfl, b2⟩
            have B2 : Hid (Below w.heap.size w w2) := B1.out.trans (b2.mono B1.out.size)
            clear HM b2 B1 hb1
            go_wp2_with fail
            go_ret
            exact ⟨ret_bool Hf.out.symm, B2.out⟩
      · have HM := implStrictNote tx w1 htx (HTr.below hb1)
        rw [ev]
        rw [hok, hkd] at hst
        generalize stNoteB tx = r at *
        clear ev hok HAt Hap
        cases r
        · have Hf : Hid (R = false) := by show _ = _; rw [hst]; rfl
          clear hst
          go_wp2_with fail
          refine HM.mono ?_
          rintro e w2 ⟨rfl, b2⟩
          have B2 : Hid (Below w.heap.size w w2) := B1.out.trans (b2.mono B1.out.size)
          clear HM b2 B1 hb1
          go_wp2_with fail
          go_ret
          exact ⟨ret_bool Hf.out.symm, B2.out⟩
        · have HR2 : Hid (rowOk false (els.drop (k + 1)) = R) := by show _ = _; rw [hst]; simp
          clear hst
          go_wp2_with fail
          refine HM.mono ?_
          rintro e w2 ⟨rfl, b2⟩
          have B2 : Hid (Below w.heap.size w w2) := B1.out.trans (b2.mono B1.out.size)
          clear HM b2 B1 hb1
          go_wp2_with fail
          go_roundw
          case rel => exact ⟨k + 1, false, by omega, by go_num, rfl, HR2, B2⟩
          case measure => simp [intOf]; omega
      · have HM := implStrictNone w1
        rw [ev]
        rw [hok] at hst
        have Hf : Hid (R = false) := by show _ = _; rw [hst]; rfl
        clear ev hok HAt Hap hst
        go_wp2_with fail
        refine HM.mono ?_
        rintro e w2 ⟨rfl, b2⟩
        have B2 : Hid (Below w.heap.size w w2) := B1.out.trans (b2.mono B1.out.size)
        clear HM b2 B1 hb1
        go_wp2_with fail
        go_ret
        exact ⟨ret_bool Hf.out.symm, B2.out⟩
    · have hkl : k = els.length := by omega
      subst hkl
      have g1 : decide ((els.length : Int) < (els.length : Int)) = false := by simp
      have Hf : Hid (R = true) := by
        show _ = _
        rw [← HR.out, List.drop_length, rowOk]
      clear HR
      go_wp2_with fail
      go_ret
      exact ⟨ret_bool Hf.out.symm, HB.out⟩

end Go.Proofs.YthipdkagkdnaiaaGreatDoor.Sg

namespace Go.Proofs.YthipdkagkdnaiaaGreatDoor.Sg
open Go.ChangeShapes Go.WideShapes Go.ChangeAt Go.RowKit Go.Shelf

attribute [local go_sem] Oper.semAt_some

theorem lenR_le {els0 : List ElB} {pre rest : List (List ElB × Nat)} (h : Vis [(els0, 1)] (pre ++ rest)) : lenR pre ≤ elsN els0 := by
  have h1 := vis_len h
  have h2 : lenR (pre ++ rest) = lenR pre + lenR rest := by simp [lenR]
  have h3 : wN [(els0, 1)] = elsN els0 := by simp [wN]
  omega

/-- Four blocks, one behind the other. -/
theorem four_blocks (w : World) (o0 o1 o2 o3 : Obj) : ((((w.alloc o0).alloc o1).alloc o2).alloc o3).heap.size = w.heap.size + 4 ∧ Below w.heap.size w ((((w.alloc o0).alloc o1).alloc o2).alloc o3) ∧ ((((w.alloc o0).alloc o1).alloc o2).alloc o3).heap[w.heap.size + 1]? = some o1 ∧ ((((w.alloc o0).alloc o1).alloc o2).alloc o3).heap[w.heap.size + 2]? = some o2 ∧ ((((w.alloc o0).alloc o1).alloc o2).alloc o3).heap[w.heap.size + 3]? = some o3 := by
  refine ⟨by simp, ((((Below.refl _ w).alloc (Nat.le_refl _) _).alloc (by simp) _).alloc (by simp; omega) _).alloc (by simp; omega) _, ?_, ?_, ?_⟩
  · have := World.alloc_heap_new (w.alloc o0) o1
    rw [World.size_alloc] at this
    exact (Below.heap_alloc _ _ _ (by simp)).trans ((Below.heap_alloc _ _ _ (by simp)).trans this)
  · have := World.alloc_heap_new ((w.alloc o0).alloc o1) o2
    rw [World.size_alloc, World.size_alloc] at this
    exact (Below.heap_alloc _ _ _ (by simp)).trans this
  · have := World.alloc_heap_new (((w.alloc o0).alloc o1).alloc o2) o3
    rw [World.size_alloc, World.size_alloc, World.size_alloc] at this
    exact this

end Go.Proofs.YthipdkagkdnaiaaGreatDoor.Sg

namespace Go.Proofs.YthipdkagkdnaiaaGreatDoor.Sg
open Go.ChangeShapes Go.WideShapes Go.ChangeAt Go.RowKit Go.Shelf

attribute [local go_sem] Oper.semAt_some

/-- A row that may be asked for. -/
def SmallR (r : List ElB × Nat) : Prop := ElsSmall r.1 ∧ r.1.length ≤ 16777216
theorem small_kids : ∀ {e : ElB}, ElSmall e → ElsSmall (kidsE e) ∧ (kidsE e).length ≤ 16777216
  | .mk kd sp nm ats tx ks, h => by
    unfold ElSmall at h
    exact ⟨h.2.2.2.2.2, h.2.2.2.2.1⟩
theorem push_small (d : Nat) : ∀ (els : List ElB), ElsSmall els → ∀ r ∈ pushP d els, SmallR r
  | [], _, r, h => nomatch h
  | e :: es, hs, r, h => by
    unfold ElsSmall at hs
    rw [pushP] at h
    split at h
    · exact push_small d es hs.2 r h
    · rcases List.mem_cons.1 h with rfl | h
      · exact small_kids hs.1
      · exact push_small d es hs.2 r h
theorem vis_small {st ys : List (List ElB × Nat)} (h : Vis st ys) : (∀ r ∈ st, SmallR r) → ∀ r ∈ ys, SmallR r := by
  induction h with
  | nil => intro _ r hr; cases hr
  | pop st r ys _ ih =>
    intro hs x hx
    have hr := hs r (by simp)
    rcases List.mem_cons.1 hx with rfl | hx
    · exact hr
    · exact ih (fun q hq => by
        rcases List.mem_append.1 hq with hq | hq
        · exact hs q (by simp [hq])
        · exact push_small _ _ hr.1 q hq) x hx
theorem keeps_below {B : Nat} {A C : World} (h : Below A.heap.size A C) : KeepsFrom B A C := ⟨h.size, fun k _ _ hk _ => (h.block k (Array.getElem?_eq_some_iff.1 hk).1).trans hk⟩
theorem good_snoc (pre : List RowX) (x : RowX) : ((pre ++ [x]).map RowX.p).all goodR = ((pre.map RowX.p).all goodR && (decide (x.deep ≤ 60) && rowOk false x.els)) := by
  rw [List.map_append, List.all_append]
  simp [goodR, RowX.p]

set_option maxRecDepth 100000 in
set_option maxHeartbeats 4000000 in
theorem implElOk (z : ElB) (lo : Nat) (v : Value) (w : World) (hx : ElV (QA lo) (lo ≤ ·) w v z) (hsm : ElSmall z) (hN : elN z ≤ 1099511627776) (hT : StLib w) :
    Calls Tryz.prog 23 #[v] w fun r w' => r = .returned (.bool (decide (elD z ≤ 60) && okE z)) ∧ Below w.heap.size w w' := by
  refine (callsIn_wide (n := 4)).1 ?_
  obtain ⟨c0, c1, c2, c3a, c3n, c3c, c4, c5a, c5n, c5c, rfl⟩ : ∃ c0 c1 c2 c3a c3n c3c c4 c5a c5n c5c, v = .agg #[.int .i64 c0, .int .i64 c1, .string c2, .slice c3a c3n c3c, .string c4, .slice c5a c5n c5c] := by
    obtain ⟨kd, sp, nm, ats, tx, ks⟩ := z
    obtain ⟨av, ka, kc, e, ⟨xa, xc, rfl, _⟩, _⟩ := hx
    exact ⟨_, _, _, _, _, _, _, _, _, _, e⟩
  have HV : Hid (ElV (QB (w.heap.size + 3)) (· < w.heap.size + 3) w (.agg #[.int .i64 c0, .int .i64 c1, .string c2, .slice c3a c3n c3c, .string c4, .slice c5a c5n c5c]) z) := (elV_first hx).widen (by omega)
  have HT : Hid (StLib w) := hT
  have HS : Hid (∀ r ∈ [([z], 1)], SmallR r) := fun r hr => by
    simp only [List.mem_singleton] at hr
    subst hr
    exact ⟨by unfold ElsSmall; exact ⟨hsm, by unfold ElsSmall; trivial⟩, by simp⟩
  have hVb := elV_first hx
  clear hx hT hsm
  refine callsIn_of_wp_marks Tryz.func23 rfl trivial ?_ rfl
  simp only [Tryz.ntmps23, List.size_toArray, List.length_cons, List.length_nil, Nat.reduceAdd, Nat.reduceSub, Array.replicate_succ, Array.replicate_zero, List.push_toArray, List.append_toArray, List.nil_append, List.cons_append]
  gi_wp2_with (refine ⟨trivial, ?_⟩; gi_at_call 48; refine (implRowsOf _ _ _ _ _).mono ?_; rintro e w' ⟨rfl, rfl⟩)
  obtain ⟨hsz, hB0, hm0, hlit, hbx⟩ := four_blocks w (.cells #[.int .i64 c0, .int .i64 c1, .string c2, .slice c3a c3n c3c, .string c4, .slice c5a c5n c5c] 25) (.cells #[.bool false] 4) (.cells #[.int .i64 c0, .int .i64 c1, .string c2, .slice c3a c3n c3c, .string c4, .slice c5a c5n c5c] 25) (.cells #[.slice (some ⟨w.heap.size + 2, 0, none⟩) 1 1] 23)
  simp only [show w.heap.size + 1 + 1 + 1 = w.heap.size + 3 from rfl, show w.heap.size + 1 + 1 = w.heap.size + 2 from rfl]
  generalize ((((w.alloc (.cells #[.int .i64 c0, .int .i64 c1, .string c2, .slice c3a c3n c3c, .string c4, .slice c5a c5n c5c] 25)).alloc (.cells #[.bool false] 4)).alloc (.cells #[.int .i64 c0, .int .i64 c1, .string c2, .slice c3a c3n c3c, .string c4, .slice c5a c5n c5c] 25)).alloc (.cells #[.slice (some ⟨w.heap.size + 2, 0, none⟩) 1 1] 23)) = W0 at *
  have HK : KidsIn (QB (w.heap.size + 3)) (· < w.heap.size + 3) W0 (some ⟨w.heap.size + 2, 0, none⟩) [z] :=
    kids_oneB ((hVb.agree (QB.liesP _) (fun b hb => hB0.block b hb) hB0.size).widen (by omega)) (by omega) ⟨_, _, _, _, _, _, rfl, hlit⟩
  have hNz : elsN [z] ≤ 1099511627776 := by simp only [elsN]; omega
  clear hVb
  refine range_own (α := RowX) rfl (by decide) (gf := 79) (lb := #[.pointer (some ⟨w.heap.size + 3, 0, none⟩)]) rfl trivial (enters_of Tryz.func79 (by kernel_rfl) rfl)
    (rows_seq 3 (by decide) (QB (w.heap.size + 3)) (· < w.heap.size + 3) (QB.liesP _) (fun h => h.slice) (fun b => b = w.heap.size + 5) (w.heap.size + 3) [z] hNz (some ⟨w.heap.size + 2, 0, none⟩) 1 W0 (fun b hb => by omega) (fun b hb => by omega) (by simp [World.cell?, hbx]) HK)
    (fun h k => h.trans k) (fun W o' => Kb.of_grown (grownBy_putObj' W _ o') (fun k e => by cases e; omega)) (fun _ => rfl)
    (fun pre W => Hid ((pre.map RowX.p).all goodR = true) ∧ Boxed W (w.heap.size + 1) 4 (.bool false) ∧ Below w.heap.size w W)
    (fun c pre W => c = .ret ∧ Hid ((pre.map RowX.p).all goodR = false) ∧ Boxed W (w.heap.size + 1) 4 (.bool false) ∧ Below w.heap.size w W)
    (fun s A B h hb => ⟨h.1, (hb.block _ (by omega)).trans h.2.1, h.2.2.trans (hb.mono (by omega))⟩) (fun _ s A B h hb => ⟨h.1, h.2.1, (hb.block _ (by omega)).trans h.2.2.1, h.2.2.2.trans (hb.mono (by omega))⟩)
    ⟨rfl, hm0, hB0⟩
    (fun pre x a' W => ∃ Bx, W0.heap.size + 2 ≤ Bx ∧ W.heap[Bx]? = some (.cells #[.slice x.a x.els.length x.cap, .int .i64 (x.deep : Int)] 70 (0, 0)) ∧ Hid (KidsIn (QB (w.heap.size + 3)) (· < w.heap.size + 3) W x.a x.els) ∧ Hid (∃ rest, Vis [([z], 1)] ((pre ++ [x]).map RowX.p ++ rest)) ∧ a' = { tmps := #[(.agg #[.int .i64 c0, .int .i64 c1, .string c2, .slice c3a c3n c3c, .string c4, .slice c5a c5n c5c]), .pointer (some ⟨w.heap.size, 0, none⟩), .pointer (some ⟨w.heap.size + 1, 0, none⟩), .pointer (some ⟨Bx, 0, none⟩), (.agg #[.int .i64 c0, .int .i64 c1, .string c2, .slice c3a c3n c3c, .string c4, .slice c5a c5n c5c]), .slice (some ⟨w.heap.size + 2, 0, none⟩) 1 1, .func (.func 79) #[] #[.pointer (some ⟨w.heap.size + 3, 0, none⟩)], .agg #[.slice x.a x.els.length x.cap, .int .i64 (x.deep : Int)], undef, undef, undef, undef, undef, undef, undef, undef, undef], defers := [] })
    (fun pre x a' W o' h => by
      obtain ⟨Bx, h1, h2, h3, h4, h5⟩ := h
      exact ⟨Bx, h1, (World.putObj_heap_other (by omega)).trans h2, h3.out.agree (QB.liesP _) (fun b hb => World.putObj_heap_other (by omega)) (by simp), h4, h5⟩)
    ?assign ?body ?done ?stop
  case assign =>
    intro l pre x W K hi hok hs2 hK
    simp only [encR]
    gi_wp2
    have hb : Below W.heap.size W (W.alloc (.cells #[.slice x.a x.els.length x.cap, .int .i64 (x.deep : Int)] 70)) := (Below.refl _ W).alloc (Nat.le_refl _) _
    exact hK _ _ ((KeepsOthers.alloc _ _).from _) (Kb.of_below hb _) ⟨hi.1, hi.2.1.alloc _, hi.2.2.trans (hb.mono hi.2.2.size)⟩ ⟨W.heap.size, hs2, World.alloc_heap_new _ _, hok.1.agree (QB.liesP _) (fun b hb' => hb.block b (by omega)) hb.size, hok.2, rfl⟩
  case body =>
    rintro l pre x a' W ⟨hg, hm, hB⟩ ⟨Bx, hBx, hx, hk, hvis, rfl⟩ hs2
    have hvs : SmallR (x.els, x.deep) := by
      obtain ⟨rest, hv⟩ := hvis.out
      exact vis_small hv HS.out _ (by simp [RowX.p])
    have HL : Hid (((pre ++ [x]).map RowX.p).all goodR = (decide (x.deep ≤ 60) && rowOk false x.els)) := by show _ = _; rw [good_snoc, hg.out, Bool.true_and]
    have m0 := hm.cell
    have m1 := hm.frozen
    have x0 : W.cell? ⟨Bx, 0, none⟩ = some (.slice x.a x.els.length x.cap) := by simp [World.cell?, hx]
    have x1 : W.cell? ⟨Bx, 1, none⟩ = some (.int .i64 (x.deep : Int)) := by simp [World.cell?, hx]
    have HR := implStrictRow (w.heap.size + 3) x.els x.a x.cap W hk.out hvs.1 hvs.2 (HT.out.below hB) (by omega)
    have HB : Hid (Below w.heap.size w W) := hB
    clear hvis hg hvs hk
    generalize rowOk false x.els = r at *
    by_cases hd : x.deep ≤ 60
    · have g1 : decide ((x.deep : Int) > 60) = false := decide_eq_false (by omega)
      have g2 : decide ((60 : Int) < (x.deep : Int)) = false := decide_eq_false (by omega)
      cases r
      · have HF : Hid (((pre ++ [x]).map RowX.p).all goodR = false) := by show _ = _; rw [HL.out]; simp
        clear HL
        gi_wp2_with (refine ⟨trivial, ?_⟩; gi_at_call 49; refine (((callsIn_wide (n := _)).2 HR).inRound _).mono ?_; rintro e w1 ⟨rfl, b1⟩; have m2 := (b1.cell (p := ⟨w.heap.size + 1, 0, none⟩) hm.lt).trans m0; have m3 : w1.frozen? ⟨w.heap.size + 1, 0, none⟩ = false := Boxed.frozen (t := 4) (v := .bool false) ((b1.block _ hm.lt).trans hm))
        have hb3 : Boxed w1 (w.heap.size + 1) 4 (.bool false) := (b1.block _ hm.lt).trans hm
        refine ⟨(keeps_below b1).trans ((KeepsOthers.setCell _ _ _).from _), rfl, HF, hb3.set _, (HB.out.trans (b1.mono HB.out.size)).setCell (p := ⟨w.heap.size + 1, 0, none⟩) (by simp) _⟩
      · have HF : Hid (((pre ++ [x]).map RowX.p).all goodR = true) := by show _ = _; rw [HL.out, decide_eq_true hd]; rfl
        clear HL
        gi_wp2_with (refine ⟨trivial, ?_⟩; gi_at_call 49; refine (((callsIn_wide (n := _)).2 HR).inRound _).mono ?_; rintro e w1 ⟨rfl, b1⟩; have m2 := (b1.cell (p := ⟨w.heap.size + 1, 0, none⟩) hm.lt).trans m0; have m3 : w1.frozen? ⟨w.heap.size + 1, 0, none⟩ = false := Boxed.frozen (t := 4) (v := .bool false) ((b1.block _ hm.lt).trans hm))
        have hb3 : Boxed w1 (w.heap.size + 1) 4 (.bool false) := (b1.block _ hm.lt).trans hm
        exact ⟨keeps_below b1, Kb.of_below b1 _, HF, hb3, HB.out.trans (b1.mono HB.out.size)⟩
    · have g1 : decide ((x.deep : Int) > 60) = true := decide_eq_true (by omega)
      have g2 : decide ((60 : Int) < (x.deep : Int)) = true := decide_eq_true (by omega)
      have HF : Hid (((pre ++ [x]).map RowX.p).all goodR = false) := by show _ = _; rw [HL.out, decide_eq_false hd]; rfl
      clear HL HR
      gi_wp2
      refine ⟨trivial, ?_⟩
      gi_wp2
      exact ⟨(KeepsOthers.setCell _ _ _).from _, rfl, HF, hm.set _, HB.out.setCell (p := ⟨w.heap.size + 1, 0, none⟩) (by simp) _⟩
  case done =>
    rintro D ys W hD hS ⟨hg, hm, hB⟩ hK
    have Hl : Hid ((decide (elD z ≤ 60) && okE z) = true) := by show _ = _; rw [strict_rows hS, hg.out]
    have m0 := hm.cell
    have m1 := hm.frozen
    gi_wp2
    have hK' := (KeepsOthers.setCell W ⟨w.heap.size + 1, 0, none⟩ (.bool true)).same D _ hK rfl
    refine ⟨by simp, .inl ⟨_, _, rfl, run_takeDeferred hK', ?_⟩⟩
    have hc5 := cell_kept (World.cell?_setCell_same' W ⟨w.heap.size + 1, 0, none⟩ (.bool true) (by rw [m0]; rfl)) (grownBy_putObj' _ D (.deferred none)) (fun r e => by cases e; exact ⟨_, hK', rfl⟩)
    refine ⟨.bool true, ?_, by rw [Hl.out], (hB.setCell (p := ⟨w.heap.size + 1, 0, none⟩) (by simp) _).trans (belowK_b (w := w) (Nat.le_refl _) _ D _ _ (by omega) hK' rfl rfl)⟩
    simp [results, Tryz.f23, go_sem, hc5]
  case stop =>
    rintro D c pre W hD ⟨rest, hS⟩ ⟨rfl, hg, hm, hB⟩ hK
    have Hl : Hid ((decide (elD z ≤ 60) && okE z) = false) := by
      show _ = _
      rw [strict_rows hS, List.all_append, hg.out, Bool.false_and]
    have m0 := hm.cell
    gi_wp2
    refine ⟨by simp, .inl ⟨_, _, rfl, run_takeDeferred hK, ?_⟩⟩
    have hc5 := cell_kept m0 (grownBy_putObj' _ D (.deferred none)) (fun r e => by cases e; exact ⟨_, hK, rfl⟩)
    refine ⟨.bool false, ?_, by rw [Hl.out], hB.trans (belowK_b (w := w) (Nat.le_refl _) W D _ _ (by omega) hK rfl rfl)⟩
    simp [results, Tryz.f23, go_sem, hc5]

end Go.Proofs.YthipdkagkdnaiaaGreatDoor.Sg

namespace Go.Proofs.YthipdkagkdnaiaaGreatDoor.Sg
open Go.ChangeShapes Go.WideShapes Go.ChangeAt Go.RowKit Go.Shelf

attribute [local go_sem] Oper.semAt_some

/-- Three blocks, one behind the other. -/
theorem three_blocks (w : World) (o0 o1 o2 : Obj) : (((w.alloc o0).alloc o1).alloc o2).heap.size = w.heap.size + 3 ∧ Below w.heap.size w (((w.alloc o0).alloc o1).alloc o2) ∧ (((w.alloc o0).alloc o1).alloc o2).heap[w.heap.size]? = some o0 ∧ (((w.alloc o0).alloc o1).alloc o2).heap[w.heap.size + 1]? = some o1 ∧ (((w.alloc o0).alloc o1).alloc o2).heap[w.heap.size + 2]? = some o2 := by
  refine ⟨by simp, (((Below.refl _ w).alloc (Nat.le_refl _) _).alloc (by simp) _).alloc (by simp; omega) _, ?_, ?_, ?_⟩
  · exact (Below.heap_alloc _ _ _ (by simp; omega)).trans ((Below.heap_alloc _ _ _ (by simp)).trans (World.alloc_heap_new w o0))
  · have := World.alloc_heap_new (w.alloc o0) o1
    rw [World.size_alloc] at this
    exact (Below.heap_alloc _ _ _ (by simp)).trans this
  · have := World.alloc_heap_new ((w.alloc o0).alloc o1) o2
    rw [World.size_alloc, World.size_alloc] at this
    exact this

set_option maxRecDepth 100000 in
set_option maxHeartbeats 4000000 in
theorem implFewEls (l : List ElB) (lo : Nat) (a : Option Addr) (cap : Nat) (w : World) (hx : KidsIn (QA lo) (lo ≤ ·) w a l) (hN : elsN l ≤ 1099511627776) :
    Calls Tryz.prog 59 #[.slice a l.length cap] w fun r w' => r = .returned (.bool (decide (elsN l ≤ 3000))) ∧ Below w.heap.size w w' := by
  refine (callsIn_wide (n := 4)).1 ?_
  have HV : Hid (KidsIn QSh (· < w.heap.size) w a l) := by
    rcases hx with h | ⟨kb, ko, e, hp, h⟩
    · exact .inl h
    · by_cases hz : l.length = 0
      · exact .inl hz
      · exact .inr ⟨kb, ko, e, ElsIn.lt hz h, ElsIn.wider (fun v l h => by obtain ⟨x, c, e, _⟩ := h; exact ⟨x, c, e⟩) (fun b hb => hb.2) l kb ko (ElsIn.lts l kb ko h)⟩
  clear hx
  refine callsIn_of_wp_marks Tryz.func59 rfl trivial ?_ rfl
  simp only [Tryz.ntmps59, List.size_toArray, List.length_cons, List.length_nil, Nat.reduceAdd, Nat.reduceSub, Array.replicate_succ, Array.replicate_zero, List.push_toArray, List.append_toArray, List.nil_append, List.cons_append]
  gi_wp2_with (refine ⟨trivial, ?_⟩; gi_at_call 48; refine (implRowsOf _ _ _ _ _).mono ?_; rintro e w' ⟨rfl, rfl⟩)
  obtain ⟨hsz, hB0, hr0, hm0, hbx⟩ := three_blocks w (.cells #[.bool false] 4) (.cells #[.int .i64 0] 3) (.cells #[.slice a l.length cap] 23)
  simp only [show w.heap.size + 1 + 1 = w.heap.size + 2 from rfl]
  generalize (((w.alloc (.cells #[.bool false] 4)).alloc (.cells #[.int .i64 0] 3)).alloc (.cells #[.slice a l.length cap] 23)) = W0 at *
  have HK : KidsIn QSh (· < w.heap.size) W0 a l := HV.out.agree (QSh.liesP _) (fun b hb => hB0.block b hb) hB0.size
  refine range_own (α := RowX) rfl (by decide) (gf := 79) (lb := #[.pointer (some ⟨w.heap.size + 2, 0, none⟩)]) rfl trivial (enters_of Tryz.func79 (by kernel_rfl) rfl)
    (rows_seq 3 (by decide) QSh (· < w.heap.size) (QSh.liesP _) (fun h => h) (fun b => b = w.heap.size + 1 ∨ b = w.heap.size + 4) (w.heap.size + 2) l hN a cap W0 (fun b hb => by omega) (fun b hb => by omega) (by simp [World.cell?, hbx]) HK)
    (fun h k => h.trans k) (fun W o' => Kb.of_grown (grownBy_putObj' W _ o') (fun k e => by cases e; exact .inr (by omega))) (fun _ => rfl)
    (fun pre W => Boxed W (w.heap.size + 1) 3 (.int .i64 (lenR (pre.map RowX.p) : Int)) ∧ Boxed W w.heap.size 4 (.bool false) ∧ Hid (lenR (pre.map RowX.p) ≤ 3000) ∧ Below w.heap.size w W)
    (fun c pre W => c = .ret ∧ Hid (3000 < lenR (pre.map RowX.p)) ∧ Boxed W w.heap.size 4 (.bool false) ∧ Below w.heap.size w W)
    (fun s A B h hb => ⟨(hb.block _ (by omega)).trans h.1, (hb.block _ (by omega)).trans h.2.1, h.2.2.1, h.2.2.2.trans (hb.mono (by omega))⟩) (fun _ s A B h hb => ⟨h.1, h.2.1, (hb.block _ (by omega)).trans h.2.2.1, h.2.2.2.trans (hb.mono (by omega))⟩)
    ⟨hm0, hr0, Nat.zero_le _, hB0⟩
    (fun pre x a' W => ∃ Bx, W0.heap.size + 2 ≤ Bx ∧ W.heap[Bx]? = some (.cells #[.slice x.a x.els.length x.cap, .int .i64 (x.deep : Int)] 70 (0, 0)) ∧ (∃ rest, Vis [(l, 1)] ((pre ++ [x]).map RowX.p ++ rest)) ∧ a' = { tmps := #[.slice a l.length cap, undef, .pointer (some ⟨w.heap.size, 0, none⟩), .pointer (some ⟨w.heap.size + 1, 0, none⟩), .pointer (some ⟨Bx, 0, none⟩), .slice a l.length cap, .func (.func 79) #[] #[.pointer (some ⟨w.heap.size + 2, 0, none⟩)], .agg #[.slice x.a x.els.length x.cap, .int .i64 (x.deep : Int)], undef, undef, undef, undef, undef, undef, undef], defers := [] })
    (fun pre x a' W o' h => by
      obtain ⟨Bx, h1, h2, h3, h4⟩ := h
      exact ⟨Bx, h1, (World.putObj_heap_other (by omega)).trans h2, h3, h4⟩)
    ?assign ?body ?done ?stop
  case assign =>
    intro l' pre x W K hi hok hs2 hK
    simp only [encR]
    gi_wp2
    have hb : Below W.heap.size W (W.alloc (.cells #[.slice x.a x.els.length x.cap, .int .i64 (x.deep : Int)] 70)) := (Below.refl _ W).alloc (Nat.le_refl _) _
    exact hK _ _ ((KeepsOthers.alloc _ _).from _) (Kb.of_below hb _) ⟨hi.1.alloc _, hi.2.1.alloc _, hi.2.2.1, hi.2.2.2.trans (hb.mono hi.2.2.2.size)⟩ ⟨W.heap.size, hs2, World.alloc_heap_new _ _, hok.2, rfl⟩
  case body =>
    rintro l' pre x a' W ⟨hm, hr, h3, hB⟩ ⟨Bx, hBx, hx, hvis, rfl⟩ hs2
    obtain ⟨rest, hvis⟩ := hvis
    have hle := lenR_le hvis
    rw [List.map_append, List.map_singleton, lenR_snoc] at hle
    have HL : Hid (lenR ((pre ++ [x]).map RowX.p) = lenR (pre.map RowX.p) + x.els.length) := by show _ = _; rw [List.map_append, List.map_singleton, lenR_snoc]; rfl
    have hle2 : lenR (pre.map RowX.p) + x.els.length ≤ 1099511627776 := Nat.le_trans hle hN
    obtain ⟨o, Ho⟩ : ∃ o, Hid (lenR (pre.map RowX.p) = o) := ⟨_, rfl⟩
    rw [Ho.out] at HL hle2 hm h3
    have m0 := hm.cell
    have m1 := hm.frozen
    have m2 := hr.cell
    have m3 := hr.frozen
    have x0 : W.cell? ⟨Bx, 0, none⟩ = some (.slice x.a x.els.length x.cap) := by simp [World.cell?, hx]
    have q1 : IntKind.i64.wrap ((o : Int) + (x.els.length : Int)) = (o : Int) + (x.els.length : Int) := IntWalk.i64_in _ (by omega)
    have hm' : Boxed (W.setCell ⟨w.heap.size + 1, 0, none⟩ (.int .i64 ((o : Int) + (x.els.length : Int)))) (w.heap.size + 1) 3 (.int .i64 ((o : Int) + (x.els.length : Int))) := hm.set _
    have hr' : Boxed (W.setCell ⟨w.heap.size + 1, 0, none⟩ (.int .i64 ((o : Int) + (x.els.length : Int)))) w.heap.size 4 (.bool false) := hr.other (by omega) _
    have n0 := hm'.cell
    have n2 := hr'.cell
    have n3 := hr'.frozen
    have hks : KeepsOthers W (W.setCell ⟨w.heap.size + 1, 0, none⟩ (.int .i64 ((o : Int) + (x.els.length : Int)))) := KeepsOthers.setCell _ _ _
    have hkb : Kb W (W.setCell ⟨w.heap.size + 1, 0, none⟩ (.int .i64 ((o : Int) + (x.els.length : Int)))) (fun b => b = w.heap.size + 1 ∨ b = w.heap.size + 4) := Kb.of_grown (grownBy_setCell' W _ _) (fun k e => by cases e; exact .inl rfl)
    have hB' : Below w.heap.size w (W.setCell ⟨w.heap.size + 1, 0, none⟩ (.int .i64 ((o : Int) + (x.els.length : Int)))) := hB.setCell (p := ⟨w.heap.size + 1, 0, none⟩) (by simp) _
    have Hk1 : Hid _ := hks
    have Hk2 : Hid _ := hkb
    clear hvis hle hks hkb
    by_cases hd : o + x.els.length ≤ 3000
    · have g1 : decide ((o : Int) + (x.els.length : Int) > 3000) = false := decide_eq_false (by omega)
      have g2 : decide ((3000 : Int) < (o : Int) + (x.els.length : Int)) = false := decide_eq_false (by omega)
      gi_wp2
      refine ⟨Hk1.out.from _, Hk2.out, ?_, hr', ?_, hB'⟩
      · rw [HL.out]
        simpa using hm'
      · show _ ≤ _
        rw [HL.out]
        exact hd
    · have g1 : decide ((o : Int) + (x.els.length : Int) > 3000) = true := decide_eq_true (by omega)
      have g2 : decide ((3000 : Int) < (o : Int) + (x.els.length : Int)) = true := decide_eq_true (by omega)
      gi_wp2
      refine ⟨(Hk1.out.from _).trans ((KeepsOthers.setCell _ _ _).from _), rfl, ?_, hr'.set _, hB'.setCell (p := ⟨w.heap.size, 0, none⟩) (by simp) _⟩
      show _ < _
      rw [HL.out]
      omega
  case done =>
    rintro D ys W hD hS ⟨hm, hr, h3, hB⟩ hK
    have hl := vis_len hS
    have h4 : wN [(l, 1)] = elsN l := by simp [wN]
    have Hl : Hid (decide (elsN l ≤ 3000) = true) := decide_eq_true (by rw [← h4, ← hl]; exact h3.out)
    have m0 := hr.cell
    have m1 := hr.frozen
    gi_wp2
    have hK' := (KeepsOthers.setCell W ⟨w.heap.size, 0, none⟩ (.bool true)).same D _ hK rfl
    refine ⟨by simp, .inl ⟨_, _, rfl, run_takeDeferred hK', ?_⟩⟩
    have hc5 := cell_kept (World.cell?_setCell_same' W ⟨w.heap.size, 0, none⟩ (.bool true) (by rw [m0]; rfl)) (grownBy_putObj' _ D (.deferred none)) (fun r e => by cases e; exact ⟨_, hK', rfl⟩)
    refine ⟨.bool true, ?_, by rw [Hl.out], (hB.setCell (p := ⟨w.heap.size, 0, none⟩) (by simp) _).trans (belowK_b (w := w) (Nat.le_refl _) _ D _ _ (by omega) hK' rfl rfl)⟩
    simp [results, Tryz.f59, go_sem, hc5]
  case stop =>
    rintro D c pre W hD ⟨rest, hS⟩ ⟨rfl, hg, hr, hB⟩ hK
    have hl := lenR_le hS
    have Hl : Hid (decide (elsN l ≤ 3000) = false) := decide_eq_false (by have := hg.out; omega)
    have m0 := hr.cell
    gi_wp2
    refine ⟨by simp, .inl ⟨_, _, rfl, run_takeDeferred hK, ?_⟩⟩
    have hc5 := cell_kept m0 (grownBy_putObj' _ D (.deferred none)) (fun r e => by cases e; exact ⟨_, hK, rfl⟩)
    refine ⟨.bool false, ?_, by rw [Hl.out], hB.trans (belowK_b (w := w) (Nat.le_refl _) W D _ _ (by omega) hK rfl rfl)⟩
    simp [results, Tryz.f59, go_sem, hc5]

end Go.Proofs.YthipdkagkdnaiaaGreatDoor.Sg

namespace Go.Proofs.YthipdkagkdnaiaaGreatDoor.Sg
open Go.ChangeShapes Go.WideShapes Go.ChangeAt Go.RowKit

/-- What an element is behind the interface: 1 a tag, 2 a text, 3 a note, 0 none. -/
def kI : ElB → Nat
  | .mk kd sp nm ats tx ks => if kd = 1 ∧ tx.size = 0 then 1 else if kd = 2 ∧ (sp = 0 ∧ nm.size = 0 ∧ ats.length = 0 ∧ ks.length = 0) then 2 else if kd = 3 ∧ (sp = 0 ∧ nm.size = 0 ∧ ats.length = 0 ∧ ks.length = 0) then 3 else 0
theorem kI_mk (kd sp : Int) (nm : ByteArray) (ats : List AttrB) (tx : ByteArray) (ks : List ElB) : kI (.mk kd sp nm ats tx ks) = if kd = 1 ∧ tx.size = 0 then 1 else if kd = 2 ∧ (sp = 0 ∧ nm.size = 0 ∧ ats.length = 0 ∧ ks.length = 0) then 2 else if kd = 3 ∧ (sp = 0 ∧ nm.size = 0 ∧ ats.length = 0 ∧ ks.length = 0) then 3 else 0 := rfl
theorem kI_cases (kd sp : Int) (nm : ByteArray) (xa : Option Addr) (ats : List AttrB) (xc : Nat) (tx : ByteArray) (ks : List ElB) :
    (elI kd sp nm xa ats.length xc tx ks.length = .iface 105 (.agg #[.int .i64 sp, .string nm, .slice xa ats.length xc]) ∧ kI (.mk kd sp nm ats tx ks) = 1) ∨
    (elI kd sp nm xa ats.length xc tx ks.length = .iface 98 (.agg #[.string tx]) ∧ kI (.mk kd sp nm ats tx ks) = 2) ∨
    (elI kd sp nm xa ats.length xc tx ks.length = .iface 106 (.agg #[.string tx]) ∧ kI (.mk kd sp nm ats tx ks) = 3) ∨
    (elI kd sp nm xa ats.length xc tx ks.length = .iface 123 (.agg #[]) ∧ kI (.mk kd sp nm ats tx ks) = 0) := by
  rw [kI_mk]
  unfold elI
  split
  · exact .inl ⟨rfl, rfl⟩
  split
  · exact .inr (.inl ⟨rfl, rfl⟩)
  split
  · exact .inr (.inr (.inl ⟨rfl, rfl⟩))
  · exact .inr (.inr (.inr ⟨rfl, rfl⟩))
/-- What is strict alone is of its kind. -/
theorem kI_alone : ∀ {e : ElB}, aloneK e = true → (kindE e = 1 ∧ kI e = 1) ∨ (kindE e = 2 ∧ kI e = 2) ∨ (kindE e = 3 ∧ kI e = 3)
  | .mk kd sp nm ats tx ks, h => by
    rw [aloneK] at h
    rw [kindE]
    unfold okSelf at h
    rw [kI_mk]
    have hp : plainE sp nm ats ks.length = true → (sp = 0 ∧ nm.size = 0 ∧ ats.length = 0 ∧ ks.length = 0) := fun h => by
      unfold plainE at h
      simp only [Bool.and_eq_true, decide_eq_true_iff] at h
      exact h
    by_cases k1 : kd = 1
    · rw [if_pos k1] at h
      simp only [Bool.and_eq_true, decide_eq_true_iff] at h
      rw [if_pos ⟨k1, h.2.2.2⟩]
      exact .inl ⟨k1, rfl⟩
    rw [if_neg k1] at h
    rw [if_neg (fun h => k1 h.1)]
    by_cases k2 : kd = 2
    · rw [if_pos k2, Bool.and_eq_true] at h
      rw [if_pos ⟨k2, hp h.1⟩]
      exact .inr (.inl ⟨k2, rfl⟩)
    rw [if_neg k2] at h
    rw [if_neg (fun h => k2 h.1)]
    by_cases k3 : kd = 3
    · rw [if_pos k3, Bool.and_eq_true] at h
      rw [if_pos ⟨k3, hp h.1⟩]
      exact .inr (.inr ⟨k3, rfl⟩)
    rw [if_neg k3] at h
    cases h
/-- One tag among notes, behind so many tags. -/
def tagsF : Nat → List ElB → Bool
  | t, [] => decide (t = 1)
  | t, e :: es => if kI e = 1 then tagsF (t + 1) es else if kI e = 3 then tagsF t es else false
theorem tagsF_drop {es : List ElB} {k : Nat} (h : k < es.length) (t : Nat) : tagsF t (es.drop k) = if kI (es[k]'h) = 1 then tagsF (t + 1) (es.drop (k + 1)) else if kI (es[k]'h) = 3 then tagsF t (es.drop (k + 1)) else false := by
  rw [List.drop_eq_getElem_cons h, tagsF]
theorem docF_parts : ∀ (es : List ElB) (t s : Nat), docF t s es = (decide (s + elsN es ≤ 3000) && (tagsF t es && es.all strictE))
  | [], t, s => by
    rw [docF, tagsF, elsN, List.all_nil, Nat.add_zero, Bool.and_true, Bool.and_comm]
  | e :: es, t, s => by
    rw [docF, docF_parts es, tagsF, elsN, List.all_cons]
    cases hs : strictE e
    · rw [if_neg (by simp)]
      simp
    · have ha : aloneK e = true := by
        unfold strictE at hs
        rw [okE_alone] at hs
        simp only [Bool.and_eq_true] at hs
        exact hs.2.2
      rcases kI_alone ha with ⟨h1, h2⟩ | ⟨h1, h2⟩ | ⟨h1, h2⟩
      · rw [if_pos ⟨rfl, by rw [h1]; decide⟩, if_pos h1, if_pos h2, Nat.add_assoc, Bool.true_and]
      · rw [if_neg (fun h => h.2 h1), if_neg (by rw [h2]; decide), if_neg (by rw [h2]; decide)]
        simp
      · rw [if_pos ⟨rfl, by rw [h1]; decide⟩, if_neg (by rw [h1]; decide), if_neg (by rw [h2]; decide), if_pos h2, Nat.add_assoc, Bool.true_and]
        rfl

theorem em_to_tag (v : Value) (W : World) : (Instr.typeAssert (.iface 105 v) 94 105 true).run Tryz.prog W = .ok (.tuple #[v, .bool true]) W := by kernel_rfl
theorem em_text_tag (v : Value) (W : World) : (Instr.typeAssert (.iface 98 v) 94 105 true).run Tryz.prog W = .ok (.tuple #[.agg #[.int .i64 0, .string ⟨#[]⟩, .slice none 0 0], .bool false]) W := by kernel_rfl
theorem em_note_tag (v : Value) (W : World) : (Instr.typeAssert (.iface 106 v) 94 105 true).run Tryz.prog W = .ok (.tuple #[.agg #[.int .i64 0, .string ⟨#[]⟩, .slice none 0 0], .bool false]) W := by kernel_rfl
theorem em_none_tag (v : Value) (W : World) : (Instr.typeAssert (.iface 123 v) 94 105 true).run Tryz.prog W = .ok (.tuple #[.agg #[.int .i64 0, .string ⟨#[]⟩, .slice none 0 0], .bool false]) W := by kernel_rfl
theorem em_to_note (v : Value) (W : World) : (Instr.typeAssert (.iface 106 v) 94 106 true).run Tryz.prog W = .ok (.tuple #[v, .bool true]) W := by kernel_rfl
theorem em_text_note (v : Value) (W : World) : (Instr.typeAssert (.iface 98 v) 94 106 true).run Tryz.prog W = .ok (.tuple #[.agg #[.string ⟨#[]⟩], .bool false]) W := by kernel_rfl
theorem em_none_note (v : Value) (W : World) : (Instr.typeAssert (.iface 123 v) 94 106 true).run Tryz.prog W = .ok (.tuple #[.agg #[.string ⟨#[]⟩], .bool false]) W := by kernel_rfl

set_option maxRecDepth 20000 in
set_option maxHeartbeats 8000000 in
theorem implTagAmongNotes (els : List ElB) (lo : Nat) (a : Option Addr) (cap : Nat) (w : World) (hK : KidsIn (QA lo) (lo ≤ ·) w a els) (hlen : els.length ≤ 1099511627776) :
    Calls Tryz.prog 60 #[.slice a els.length cap] w fun e w' => e = .returned (.bool (tagsF 0 els)) ∧ Below w.heap.size w w' := by
  have HK : Hid (KidsIn (QA lo) (lo ≤ ·) w a els) := hK
  obtain ⟨R, HR⟩ : ∃ R, Hid (tagsF 0 (els.drop 0) = R) := ⟨_, rfl⟩
  have HR0 : tagsF 0 els = R := HR.out
  rw [HR0]
  have i1 := em_to_tag
  have i2 := em_text_tag
  have i3 := em_note_tag
  have i4 := em_none_tag
  have s1 := em_to_note
  have s2 := em_text_note
  have s3 := em_none_note
  clear hK HR0
  go_enter Tryz.func60, Tryz.ntmps60
  go_wp2_with fail
  go_loopw [3, 5, 8] (fun tv _ iv wr => ∃ (k t : Nat), k ≤ els.length ∧ t ≤ k ∧ iv = .int .i64 (k : Int) ∧ tv = .int .i64 (t : Int) ∧ Hid (tagsF t (els.drop k) = R) ∧ Hid (Below w.heap.size w wr)) (fun _ _ iv _ => els.length - (intOf iv).toNat)
  case atStart => exact ⟨0, 0, Nat.zero_le _, Nat.le_refl _, rfl, rfl, HR, Below.refl _ _⟩
  case round =>
    clear HR
    obtain ⟨k, t, hk, ht, rfl, rfl, HR, HB⟩ := hrel
    have k0 : (0 : Int) ≤ (k : Int) := by omega
    by_cases hlt : k < els.length
    · have k1 : (k : Int) < (els.length : Int) := by omega
      rcases HK.out.keep (QA.lies _) HB.out with h | ⟨b, off, rfl, _, hc⟩
      · omega
      have hE := hc.get k hlt
      have hst := tagsF_drop hlt t
      rw [HR.out] at hst
      generalize els[k]'hlt = e at *
      obtain ⟨kd, sp, nm, ats, tx, ks⟩ := e
      unfold ElIn at hE
      obtain ⟨c0, c1, c2, ⟨av, c3, hQ⟩, c4, ka, kc, c5, _⟩ := hE
      obtain ⟨xa, xc, rfl, _⟩ := hQ
      have hbx : Below wr.heap.size wr (wr.alloc (.cells #[.int .i64 kd, .int .i64 sp, .string nm, .slice xa ats.length xc, .string tx, .slice ka ks.length kc] 25)) := (Below.refl _ wr).alloc (Nat.le_refl _) _
      have HE := implElementOf kd sp nm xa ats.length xc tx ka ks.length kc (wr.alloc (.cells #[.int .i64 kd, .int .i64 sp, .string nm, .slice xa ats.length xc, .string tx, .slice ka ks.length kc] 25))
      clear hc HR
      go_wp2_with fail
      refine HE.mono ?_
      rintro e w1 ⟨rfl, b1⟩
      have hb1 : Below wr.heap.size wr w1 := hbx.trans (b1.mono hbx.size)
      have B1 : Hid (Below w.heap.size w w1) := HB.out.trans (hb1.mono HB.out.size)
      clear HE b1 hbx c0 c1 c2 c3 c4 c5
      rcases kI_cases kd sp nm xa ats xc tx ks with ⟨ev, hki⟩ | ⟨ev, hki⟩ | ⟨ev, hki⟩ | ⟨ev, hki⟩
      · rw [hki, if_pos rfl] at hst
        have HR2 : Hid (tagsF (t + 1) (els.drop (k + 1)) = R) := hst.symm
        have q1 : IntKind.i64.wrap ((t : Int) + 1) = (t : Int) + 1 := IntWalk.i64_in _ (by omega)
        rw [ev]
        clear hst ev hki hb1
        go_wp2_with fail
        go_roundw
        case rel => exact ⟨k + 1, t + 1, by omega, by omega, by go_num, by go_num, HR2, B1⟩
        case measure => simp [intOf]; omega
      · rw [hki, if_neg (by decide), if_neg (by decide)] at hst
        have Hf : Hid (R = false) := hst
        rw [ev]
        clear hst ev hki hb1
        go_wp2_with fail
        go_ret
        exact ⟨ret_bool Hf.out.symm, B1.out⟩
      · rw [hki, if_neg (by decide), if_pos rfl] at hst
        have HR2 : Hid (tagsF t (els.drop (k + 1)) = R) := hst.symm
        rw [ev]
        clear hst ev hki hb1
        go_wp2_with fail
        go_roundw
        case rel => exact ⟨k + 1, t, by omega, by omega, by go_num, rfl, HR2, B1⟩
        case measure => simp [intOf]; omega
      · rw [hki, if_neg (by decide), if_neg (by decide)] at hst
        have Hf : Hid (R = false) := hst
        rw [ev]
        clear hst ev hki hb1
        go_wp2_with fail
        go_ret
        exact ⟨ret_bool Hf.out.symm, B1.out⟩
    · have hkl : k = els.length := by omega
      subst hkl
      have g1 : decide ((els.length : Int) < (els.length : Int)) = false := by simp
      have hR := HR.out
      rw [List.drop_length, tagsF] at hR
      clear HR
      by_cases h1 : t = 1
      · subst h1
        have Hf : Hid (R = true) := by show _ = _; rw [← hR]; rfl
        clear hR
        go_wp2_with fail
        go_ret
        exact ⟨ret_bool Hf.out.symm, HB.out⟩
      · have Hf : Hid (R = false) := by show _ = _; rw [← hR]; exact decide_eq_false h1
        have g2 : ((t : Int) == 1) = false := by rw [beq_eq_false_iff_ne]; omega
        clear hR
        go_wp2_with fail
        go_ret
        exact ⟨ret_bool Hf.out.symm, HB.out⟩

end Go.Proofs.YthipdkagkdnaiaaGreatDoor.Sg

namespace Go.Proofs.YthipdkagkdnaiaaGreatDoor.Sg
open Go.ChangeShapes Go.WideShapes Go.ChangeAt Go.RowKit

set_option maxHeartbeats 2000000 in
theorem implNotOk (z : ElB) (lo : Nat) (v : Value) (w : World) (hx : ElV (QA lo) (lo ≤ ·) w v z) (hsm : ElSmall z) (hN : elN z ≤ 1099511627776) (hT : StLib w) :
    Calls Tryz.prog 58 #[v] w fun r w' => r = .returned (.bool (!strictE z)) ∧ Below w.heap.size w w' := by
  have HX := fun W (hW : Below w.heap.size w W) => implElOk z lo v W (hx.keep (QA.lies _) hW) hsm hN (hT.below hW)
  have es : (decide (elD z ≤ 60) && okE z) = strictE z := rfl
  rw [es] at HX
  obtain ⟨c0, c1, c2, c3a, c3n, c3c, c4, c5a, c5n, c5c, rfl⟩ : ∃ c0 c1 c2 c3a c3n c3c c4 c5a c5n c5c, v = .agg #[.int .i64 c0, .int .i64 c1, .string c2, .slice c3a c3n c3c, .string c4, .slice c5a c5n c5c] := by
    obtain ⟨kd, sp, nm, ats, tx, ks⟩ := z
    obtain ⟨av, ka, kc, e, ⟨xa, xc, rfl, _⟩, _⟩ := hx
    exact ⟨_, _, _, _, _, _, _, _, _, _, e⟩
  have hb0 : Below w.heap.size w (w.alloc (.cells #[.int .i64 c0, .int .i64 c1, .string c2, .slice c3a c3n c3c, .string c4, .slice c5a c5n c5c] 25)) := (Below.refl w.heap.size w).alloc (Nat.le_refl _) _
  have H0 := HX _ hb0
  generalize strictE z = s at *
  clear hx hsm hT HX es
  go_enter Tryz.func58, Tryz.ntmps58
  go_wp2_with fail
  refine H0.mono ?_
  rintro e w1 ⟨rfl, b1⟩
  have B1 : Hid (Below w.heap.size w w1) := hb0.trans (b1.mono hb0.size)
  clear H0 b1 hb0
  go_wp2_with fail
  go_ret
  exact ⟨rfl, B1.out⟩

theorem all_step (l : List ElB) (k : Nat) (h : k < l.length) : (l.drop k).all strictE = (strictE (l[k]'h) && (l.drop (k + 1)).all strictE) := by
  rw [List.drop_eq_getElem_cons h, List.all_cons]

set_option maxRecDepth 20000 in
set_option maxHeartbeats 4000000 in
theorem implElIndex (l : List ElB) (lo : Nat) (a : Option Addr) (cap : Nat) (w : World) (hk : KidsIn (QA lo) (lo ≤ ·) w a l) (hs : ElsSmall l) (hN : elsN l ≤ 1099511627776) (hT : StLib w) :
    Calls Tryz.prog 86 #[.slice a l.length cap, .func (.func 58) #[] #[]] w fun e w' => (∃ z : Int, e = .returned (.int .i64 z) ∧ decide (0 ≤ z) = !l.all strictE) ∧ Below w.heap.size w w' := by
  have HK : Hid (KidsIn (QA lo) (lo ≤ ·) w a l) := hk
  have HS : Hid (ElsSmall l) := hs
  have HT : Hid (StLib w) := hT
  have hlen : l.length ≤ 1099511627776 := by have := elsN_len l; omega
  obtain ⟨R, HR⟩ : ∃ R, Hid ((l.drop 0).all strictE = R) := ⟨_, rfl⟩
  have HR0 : l.all strictE = R := HR.out
  rw [HR0]
  clear hk hs hT HR0
  go_enter Tryz.func86, Tryz.ntmps86
  go_wp2_with fail
  go_loopw [5, 8] (fun _ iv wr => ∃ k : Nat, k ≤ l.length ∧ iv = .int .i64 (k : Int) ∧ Hid ((l.drop k).all strictE = R) ∧ Hid (Below w.heap.size w wr)) (fun _ iv _ => l.length - (intOf iv).toNat)
  case atStart => exact ⟨0, Nat.zero_le _, rfl, HR, Below.refl _ _⟩
  case round =>
    clear HR
    obtain ⟨k, hk, rfl, HR, HB⟩ := hrel
    have k0 : (0 : Int) ≤ (k : Int) := by omega
    by_cases hlt : k < l.length
    · have k1 : (k : Int) < (l.length : Int) := by omega
      rcases HK.out.keep (QA.lies _) HB.out with h | ⟨b, off, rfl, _, hc⟩
      · omega
      obtain ⟨v1, v2, v3, v4, v5, c0, c1, c2, c3, c4, c5, hV⟩ := (hc.get k hlt).cellsK
      have hNk := elsN_get l k hlt
      have HI := implNotOk _ lo _ wr hV (HS.out.get _ (List.getElem_mem hlt)) (by omega) (HT.out.below HB.out)
      have Hs := all_step l k hlt
      rw [HR.out] at Hs
      clear hc hV hNk
      generalize strictE (l[k]'hlt) = s at *
      generalize kindE (l[k]'hlt) = kk at *
      cases s
      · have Hf : Hid (R = false) := by show _ = _; rw [Hs]; rfl
        clear Hs HR
        go_wp2_with fail
        refine HI.mono ?_
        rintro e w1 ⟨rfl, b1⟩
        have B1 : Hid (Below w.heap.size w w1) := HB.out.trans (b1.mono HB.out.size)
        clear HI b1 HB c0 c1 c2 c3 c4 c5
        go_wp2_with fail
        go_ret
        exact ⟨⟨_, rfl, by rw [Hf.out]; simp⟩, B1.out⟩
      · have HR2 : Hid ((l.drop (k + 1)).all strictE = R) := by show _ = _; rw [Hs]; rfl
        clear Hs HR
        go_wp2_with fail
        refine HI.mono ?_
        rintro e w1 ⟨rfl, b1⟩
        have B1 : Hid (Below w.heap.size w w1) := HB.out.trans (b1.mono HB.out.size)
        clear HI b1 HB c0 c1 c2 c3 c4 c5
        go_wp2_with fail
        go_roundw
        case rel => exact ⟨k + 1, by omega, by go_num, HR2, B1⟩
        case measure => simp [intOf]; omega
    · have hkl : k = l.length := by omega
      subst hkl
      have g1 : decide ((l.length : Int) < (l.length : Int)) = false := by simp
      have Hf : Hid (R = true) := by show _ = _; rw [← HR.out, List.drop_length]; rfl
      clear HR
      go_wp2_with fail
      go_ret
      exact ⟨⟨_, rfl, by rw [Hf.out]; simp⟩, HB.out⟩

set_option maxHeartbeats 1000000 in
theorem implElContains (l : List ElB) (lo : Nat) (a : Option Addr) (cap : Nat) (w : World) (hk : KidsIn (QA lo) (lo ≤ ·) w a l) (hs : ElsSmall l) (hN : elsN l ≤ 1099511627776) (hT : StLib w) :
    Calls Tryz.prog 61 #[.slice a l.length cap, .func (.func 58) #[] #[]] w fun e w' => e = .returned (.bool (!l.all strictE)) ∧ Below w.heap.size w w' := by
  have HI := implElIndex l lo a cap w hk hs hN hT
  generalize (!l.all strictE) = R at *
  clear hk hs hT
  go_enter Tryz.func61, Tryz.ntmps61
  go_wp2_with fail
  refine HI.mono ?_
  rintro e w1 ⟨⟨z, rfl, hz⟩, b1⟩
  clear HI
  go_wp2_with fail
  go_ret
  exact ⟨rfl, b1⟩

set_option maxRecDepth 20000 in
set_option maxHeartbeats 4000000 in
theorem implDocOk (l : List ElB) (lo : Nat) (a : Option Addr) (cap : Nat) (w : World) (hk : KidsIn (QA lo) (lo ≤ ·) w a l) (hs : ElsSmall l) (hN : elsN l ≤ 1099511627776) (hT : StLib w) :
    Calls Tryz.prog 35 #[.slice a l.length cap] w fun r w' => r = .returned (.bool (docF 0 0 l)) ∧ Below w.heap.size w w' := by
  have hlen : l.length ≤ 1099511627776 := by have := elsN_len l; omega
  have H1 := implFewEls l lo a cap w hk hN
  have H2 : Hid (∀ W, Below w.heap.size w W → Calls Tryz.prog 60 #[.slice a l.length cap] W fun e w' => e = .returned (.bool (tagsF 0 l)) ∧ Below W.heap.size W w') := fun W hW => implTagAmongNotes l lo a cap W (hk.keep (QA.lies _) hW) hlen
  have H3 : Hid (∀ W, Below w.heap.size w W → Calls Tryz.prog 61 #[.slice a l.length cap, .func (.func 58) #[] #[]] W fun e w' => e = .returned (.bool (!l.all strictE)) ∧ Below W.heap.size W w') := fun W hW => implElContains l lo a cap W (hk.keep (QA.lies _) hW) hs hN (hT.below hW)
  have Hd : Hid (docF 0 0 l = (decide (elsN l ≤ 3000) && (tagsF 0 l && l.all strictE))) := by show _ = _; rw [docF_parts, Nat.zero_add]
  generalize docF 0 0 l = R at *
  generalize decide (elsN l ≤ 3000) = d1 at *
  generalize tagsF 0 l = d2 at *
  generalize l.all strictE = d3 at *
  clear hk hs hT
  cases d1
  · have Hf : Hid (R = false) := Hd.out
    clear Hd H2 H3
    go_enter Tryz.func35, Tryz.ntmps35
    go_wp2_with fail
    refine H1.mono ?_
    rintro e w1 ⟨rfl, b1⟩
    clear H1
    go_wp2_with fail
    go_ret
    exact ⟨ret_bool Hf.out.symm, b1⟩
  cases d2
  · have Hf : Hid (R = false) := Hd.out
    clear Hd H3
    go_enter Tryz.func35, Tryz.ntmps35
    go_wp2_with fail
    refine H1.mono ?_
    rintro e w1 ⟨rfl, b1⟩
    have K2 := H2.out w1 b1
    clear H1 H2
    go_wp2_with fail
    refine K2.mono ?_
    rintro e w2 ⟨rfl, b2⟩
    clear K2
    go_wp2_with fail
    go_ret
    exact ⟨ret_bool Hf.out.symm, b1.trans (b2.mono b1.size)⟩
  · have Hf : Hid (R = d3) := Hd.out
    clear Hd
    go_enter Tryz.func35, Tryz.ntmps35
    go_wp2_with fail
    refine H1.mono ?_
    rintro e w1 ⟨rfl, b1⟩
    have K2 := H2.out w1 b1
    clear H1 H2
    go_wp2_with fail
    refine K2.mono ?_
    rintro e w2 ⟨rfl, b2⟩
    have b12 := b1.trans (b2.mono b1.size)
    have K3 := H3.out w2 b12
    clear K2 H3
    go_wp2_with fail
    refine K3.mono ?_
    rintro e w3 ⟨rfl, b3⟩
    clear K3
    go_wp2_with fail
    go_ret
    exact ⟨by rw [Hf.out]; cases d3 <;> rfl, b12.trans (b3.mono b12.size)⟩

end Go.Proofs.YthipdkagkdnaiaaGreatDoor.Sg

namespace Go.Proofs.YthipdkagkdnaiaaGreatDoor.Sg
open Go.ChangeShapes Go.WideShapes Go.ChangeAt Go.RowKit

set_option maxHeartbeats 4000000 in
theorem markAttrS_grown (l : List AttrB) (v : Value) (k B : Nat) (w : World) (ho : w.ownsRow B 73 2 v l.length (attrCells l)) (hk : k ≤ 1099511627776) (hn : l.length ≤ 1099511627776) :
    Calls Tryz.prog 25 #[v, .int .i64 (k : Int)] w fun e w' => e = .returned (.int .i64 ((k + 2 * l.length : Nat) : Int)) ∧ w'.ownsRow B 73 2 v l.length (attrCells (markL k l.length)) ∧ w.grownBy w' v.ownBlock := by
  obtain ⟨hlc, ho⟩ := ho
  rcases ho with ⟨rfl, h0⟩ | ⟨g, cap, cur, rfl, hB, hg, hl, hm, hc, ht⟩
  · rw [h0]
    go_enter Tryz.func25, Tryz.ntmps25
    go_wp2
    refine wp_loop_rounds 1 ?_
    rw [rounds_succ]
    go_wp2
    go_ret
    exact ⟨rfl, ⟨rfl, .inl ⟨rfl, rfl⟩⟩, grown_refl _ _⟩
  clear hlc ht
  generalize hlen : l.length = n at *
  clear hlen
  have Hm : Hid (cap ≤ maxLen) := hm
  clear hm
  have hrow0 : w.rowIs g 73 (cap * 2) (fun i => (cur[i]?).getD (.int .i64 0)) := by
    refine ⟨cur, hg, hc, fun i hi => ?_⟩
    have hlt : i < cur.size := by omega
    simp [hlt]
  clear hg
  go_enter Tryz.func25, Tryz.ntmps25
  go_wp2
  go_loopw [1, 5] (fun kv iv wr => ∃ i : Nat, i ≤ n ∧ iv = .int .i64 (i : Int) ∧ kv = .int .i64 ((k + 2 * i : Nat) : Int) ∧ Hid (wr.rowIs g 73 (cap * 2) (fun j => if j < 2 * i then .string (markB (k + j)) else (cur[j]?).getD (.int .i64 0))) ∧ w.grownBy wr (some g)) (fun _ iv _ => n - (intOf iv).toNat)
  case atStart =>
    refine ⟨0, Nat.zero_le _, rfl, rfl, ?_, grown_refl _ _⟩
    show w.rowIs _ _ _ _
    simpa using hrow0
  case round =>
    obtain ⟨i, hi, rfl, rfl, Hrow, hbel⟩ := hrel
    clear hrow0
    by_cases hlt : i < n
    · have Hk1 := fun w : World => markText_any (k + 2 * i) w (by omega)
      have Hk2 : Hid (∀ w : World, Calls Tryz.prog 36 #[.int .i64 (((k + 2 * i : Nat) : Int) + 1)] w fun e w' => e = .returned (.string (markB (k + 2 * i + 1))) ∧ Below w.heap.size w w') := fun w => markText_any (k + 2 * i + 1) w (by omega)
      have hsz := hbel.size
      go_wp2_with fail
      refine (Hk1 _).mono ?_
      rintro e w1 ⟨rfl, b1⟩
      have hr1 := rowIs_below Hrow.out b1
      have c1 := hr1.cell (i := i * 2) (by omega)
      have f1 := hr1.frozen (i * 2)
      generalize hold : (if i * 2 < 2 * i then Value.string (markB (k + i * 2)) else (cur[i * 2]?).getD (.int .i64 0)) = old at c1
      clear hold
      have hr2 := hr1.set (i * 2) (.string (markB (k + 2 * i)))
      have Hr2 : Hid (World.rowIs _ g 73 (cap * 2) _) := hr2
      have b1' : w.grownBy w1 (some g) := grown_trans hbel (grown_of_below b1 _)
      have b2' : w.grownBy (w1.setCell ⟨g, i * 2, none⟩ (.string (markB (k + 2 * i)))) (some g) := grown_trans b1' (grown_set _ _ _ _)
      clear hr1 hr2 Hk1 b1
      go_wp2_with fail
      refine (Hk2.out _).mono ?_
      rintro e w3 ⟨rfl, b3⟩
      have hr3 := rowIs_below Hr2.out b3
      have c3 := hr3.cell (i := i * 2 + 1) (by omega)
      have f3 := hr3.frozen (i * 2 + 1)
      generalize hold : (if i * 2 + 1 = i * 2 then Value.string (markB (k + 2 * i)) else if i * 2 + 1 < 2 * i then Value.string (markB (k + (i * 2 + 1))) else (cur[i * 2 + 1]?).getD (.int .i64 0)) = old2 at c3
      clear hold
      have hr4 := hr3.set (i * 2 + 1) (.string (markB (k + 2 * i + 1)))
      have Hr4 : Hid (World.rowIs _ g 73 (cap * 2) _) := hr4
      have b4' : w.grownBy (w3.setCell ⟨g, i * 2 + 1, none⟩ (.string (markB (k + 2 * i + 1)))) (some g) := grown_trans (grown_trans b2' (grown_of_below b3 _)) (grown_set _ _ _ _)
      clear hr3 hr4 Hr2 Hk2 b3 b1' b2'
      go_wp2_with fail
      go_roundw
      case rel =>
        refine ⟨i + 1, by omega, by go_num, by go_num, ?_, b4'⟩
        refine Hr4.out.congr fun j hj => ?_
        by_cases e1 : j = i * 2 + 1
        · subst e1
          rw [if_pos rfl, if_pos (by omega)]
          congr 2
          omega
        · by_cases e0 : j = i * 2
          · subst e0
            rw [if_neg (by omega), if_pos rfl, if_pos (by omega)]
            congr 2
            omega
          · by_cases e2 : j < 2 * i
            · rw [if_neg e1, if_neg e0, if_pos e2, if_pos (by omega)]
            · rw [if_neg e1, if_neg e0, if_neg e2, if_neg (by omega)]
      case measure => simp [intOf]; omega
    · have hin : i = n := by omega
      subst hin
      go_wp2
      go_ret
      exact ⟨rfl, own_of_rowIs hB hl Hm.out Hrow.out (fun j hj => by rw [if_pos (by omega)]), hbel⟩

set_option maxHeartbeats 4000000 in
theorem heldAttrS_any (n k : Nat) (a : Option Addr) (cap : Nat) (w : World) (ha : AttrsAt w a (markL k n)) (hk : k ≤ 1099511627776) (hn : n ≤ 1099511627776) :
    Calls Tryz.prog 26 #[.slice a n cap, .int .i64 (k : Int)] w fun e w' => e = .returned (.int .i64 ((k + 2 * n : Nat) : Int)) ∧ Below w.heap.size w w' := by
  have Ha : Hid (AttrsAt w a (markL k n)) := ha
  clear ha
  go_enter Tryz.func26, Tryz.ntmps26
  go_wp2
  go_loopw [1, 5] (fun kv iv wr => ∃ i : Nat, i ≤ n ∧ iv = .int .i64 (i : Int) ∧ kv = .int .i64 ((k + 2 * i : Nat) : Int) ∧ Below w.heap.size w wr) (fun _ iv _ => n - (intOf iv).toNat)
  case atStart => exact ⟨0, Nat.zero_le _, rfl, rfl, Below.refl _ _⟩
  case round =>
    obtain ⟨i, hi, rfl, rfl, hbel⟩ := hrel
    by_cases hlt : i < n
    · rcases Ha.out with h | ⟨b, rfl, hb, hc⟩
      · have := markL_length k n
        rw [h] at this
        simp at this
        omega
      obtain ⟨c1, c2⟩ := hc i (by rw [markL_length]; exact hlt)
      have e : (markL k n).getD i (ByteArray.empty, ByteArray.empty) = (markB (k + 2 * i), markB (k + 2 * i + 1)) := by simp [markL, hlt]
      rw [e] at c1 c2
      have d1 : wr.cell? ⟨b, i * 2, none⟩ = some (.string (markB (k + 2 * i))) := (hbel.cell (by exact hb)).trans c1
      have d2 : wr.cell? ⟨b, i * 2 + 1, none⟩ = some (.string (markB (k + 2 * i + 1))) := (hbel.cell (by exact hb)).trans c2
      have Hk1 := fun w : World => markText_any (k + 2 * i) w (by omega)
      have Hk2 : Hid (∀ w : World, Calls Tryz.prog 36 #[.int .i64 (((k + 2 * i : Nat) : Int) + 1)] w fun e w' => e = .returned (.string (markB (k + 2 * i + 1))) ∧ Below w.heap.size w w') := fun w => markText_any (k + 2 * i + 1) w (by omega)
      clear hc c1 c2 e Ha
      generalize markB (k + 2 * i) = x at *
      generalize markB (k + 2 * i + 1) = y at *
      have gx : (x.toList == x.toList) = true := by simp
      have gy : (y.toList == y.toList) = true := by simp
      have k0 : (0 : Int) ≤ (i : Int) := by omega
      have k1 : (i : Int) < (n : Int) := by omega
      have HB : Hid (∀ wx : World, Below wr.heap.size wr wx → Below w.heap.size w wx) := fun wx h => hbel.trans (h.mono hbel.size)
      go_upto_region 4 with fail
      go_cut [19] from 6 to 31 (fun r wx => r = .bool false ∧ Below wr.heap.size wr wx)
      case first =>
        go_region_held3 (fun w' => w'.cell? ⟨b, i * 2, none⟩ = some (.string x) ∧ w'.cell? ⟨b, i * 2 + 1, none⟩ = some (.string y)) (first | go_keep | (go_split_ands; exact ⟨keep_cell hb' (by assumption), keep_cell hb' (by assumption)⟩)) (first | (go_at_call 36; refine (Hk1 _).mono ?_; rintro e w' ⟨rfl, hb'⟩))
        go_wp2_with fail
        go_meet
        case rel => exact ⟨rfl, ((Below.refl _ _).drew).trans hb'⟩
      case rest =>
        obtain ⟨rfl, hbx⟩ := hcut
        have d2' : wc.cell? ⟨b, i * 2 + 1, none⟩ = some (.string y) := keep_cell hbx d2
        have HB2 : Hid (∀ wx : World, Below wc.heap.size wc wx → Below w.heap.size w wx) := fun wx h => HB.out _ (hbx.trans (h.mono hbx.size))
        clear d1 d2 hbx HB Hk1
        go_upto_region 7 with fail
        go_cut [29] from 6 to 31 (fun r wx => r = .bool false ∧ Below wc.heap.size wc wx)
        case first =>
          go_region_held3 (fun w' => w'.cell? ⟨b, i * 2 + 1, none⟩ = some (.string y)) (first | go_keep | exact keep_cell hb' (by assumption)) (first | (go_at_call 36; refine (Hk2.out _).mono ?_; rintro e w' ⟨rfl, hb'⟩))
          go_wp2_with fail
          go_meet
          case rel => exact ⟨rfl, ((Below.refl _ _).drew).trans hb'⟩
        case rest =>
          obtain ⟨rfl, hby⟩ := hcut
          have hbel2 := HB2.out _ hby
          go_wp2_with fail
          go_roundw
          case rel => exact ⟨i + 1, by omega, by go_num, by go_num, hbel2⟩
          case measure => simp [intOf]; omega
    · have hin : i = n := by omega
      subst hin
      go_wp2
      go_ret
      exact ⟨rfl, hbel⟩

end Go.Proofs.YthipdkagkdnaiaaGreatDoor.Sg

namespace Go.Proofs.YthipdkagkdnaiaaGreatDoor.Sg
open Go.ChangeShapes Go.WideShapes Go.ChangeAt Go.RowKit

theorem six_get {C : List Value} {i N : Nat} (hC : C.length = N * 6) (hi : i < N) {v0 v1 v2 v3 v4 v5 : Value} (h : sixV C i = .agg #[v0, v1, v2, v3, v4, v5]) : C[i * 6]? = some v0 ∧ C[i * 6 + 1]? = some v1 ∧ C[i * 6 + 2]? = some v2 ∧ C[i * 6 + 3]? = some v3 ∧ C[i * 6 + 4]? = some v4 ∧ C[i * 6 + 5]? = some v5 := by
  have g : ∀ j, j < 6 → C[i * 6 + j]? = some (C.getD (i * 6 + j) undef) := fun j hj => by
    rw [List.getD_eq_getElem?_getD, List.getElem?_eq_getElem (by omega)]
    rfl
  unfold sixV at h
  injection h with h
  simp at h
  obtain ⟨h0, h1, h2, h3, h4, h5⟩ := h
  refine ⟨?_, ?_, ?_, ?_, ?_, ?_⟩
  · have := g 0 (by omega)
    rw [Nat.add_zero] at this
    rw [this, List.getD_eq_getElem?_getD, h0]
  · rw [g 1 (by omega), List.getD_eq_getElem?_getD, h1]
  · rw [g 2 (by omega), List.getD_eq_getElem?_getD, h2]
  · rw [g 3 (by omega), List.getD_eq_getElem?_getD, h3]
  · rw [g 4 (by omega), List.getD_eq_getElem?_getD, h4]
  · rw [g 5 (by omega), List.getD_eq_getElem?_getD, h5]
theorem six_same {C D : List Value} {i : Nat} (h : ∀ j, j < 6 → D[i * 6 + j]? = C[i * 6 + j]?) : sixV D i = sixV C i := by
  have h0 := h 0 (by omega)
  rw [Nat.add_zero] at h0
  unfold sixV
  simp only [List.getD_eq_getElem?_getD]
  rw [h0, h 1 (by omega), h 2 (by omega), h 3 (by omega), h 4 (by omega), h 5 (by omega)]
/-- Four cells of element i are written. -/
def set4 (C : List Value) (i : Nat) (a b c d : Value) : List Value := (((C.set (i * 6) a).set (i * 6 + 1) b).set (i * 6 + 2) c).set (i * 6 + 4) d
theorem set4_other {C : List Value} {i j : Nat} (h : j ≠ i) (a b c d : Value) : sixV (set4 C i a b c d) j = sixV C j := by
  refine six_same fun k hk => ?_
  unfold set4
  rw [List.getElem?_set_ne (by omega), List.getElem?_set_ne (by omega), List.getElem?_set_ne (by omega), List.getElem?_set_ne (by omega)]
theorem set4_self {C : List Value} {i N : Nat} (hC : C.length = N * 6) (hi : i < N) {v0 v1 v2 v3 v4 v5 : Value} (h : sixV C i = .agg #[v0, v1, v2, v3, v4, v5]) (a b c d : Value) : sixV (set4 C i a b c d) i = .agg #[a, b, c, v3, d, v5] := by
  obtain ⟨_, _, _, h3, _, h5⟩ := six_get hC hi h
  have e0 : (set4 C i a b c d)[i * 6]? = some a := by
    unfold set4
    rw [List.getElem?_set_ne (by omega), List.getElem?_set_ne (by omega), List.getElem?_set_ne (by omega), List.getElem?_set_self (by omega)]
  have e1 : (set4 C i a b c d)[i * 6 + 1]? = some b := by
    unfold set4
    rw [List.getElem?_set_ne (by omega), List.getElem?_set_ne (by omega), List.getElem?_set_self (by simp; omega)]
  have e2 : (set4 C i a b c d)[i * 6 + 2]? = some c := by
    unfold set4
    rw [List.getElem?_set_ne (by omega), List.getElem?_set_self (by simp; omega)]
  have e3 : (set4 C i a b c d)[i * 6 + 3]? = some v3 := by
    unfold set4
    rw [List.getElem?_set_ne (by omega), List.getElem?_set_ne (by omega), List.getElem?_set_ne (by omega), List.getElem?_set_ne (by omega), h3]
  have e4 : (set4 C i a b c d)[i * 6 + 4]? = some d := by
    unfold set4
    rw [List.getElem?_set_self (by simp; omega)]
  have e5 : (set4 C i a b c d)[i * 6 + 5]? = some v5 := by
    unfold set4
    rw [List.getElem?_set_ne (by omega), List.getElem?_set_ne (by omega), List.getElem?_set_ne (by omega), List.getElem?_set_ne (by omega), h5]
  unfold sixV
  simp only [List.getD_eq_getElem?_getD]
  rw [e0, e1, e2, e3, e4, e5]
  rfl

/-- While a row of elements is marked: those ahead of i are. -/
structure MkW (B g cap n k : Nat) (l : List ElB) (Fs : Nat → Foot) (F : Foot) (w wr : World) (i : Nat) (C : List Value) : Prop where
  row : wr.ownsRow B 25 6 (.slice (some ⟨g, 0, none⟩) l.length cap) l.length C
  each : ∀ j (hj : j < l.length), ElOwn (OwnS wr B n) wr B (if j < i then mkE (l[j]'hj) (k + cntEs (l.take j)) else l[j]'hj) (sixV C j) (Fs j)
  kb : Kb w wr F

theorem Kb.row {a b : World} {g : Nat} (h : a.grownBy b (some g)) : Kb a b (fun k => k = g) := Kb.of_grown h fun _ e => (Option.some.inj e).symm

set_option maxRecDepth 20000 in
set_option maxHeartbeats 8000000 in
theorem markElS_step (n : Nat) (IH : ∀ (l : List ElB) (v : Value) (k B : Nat) (F : Foot) (w : World), OwnS w B n l v F → k + cntEs l ≤ 549755813888 → Calls Tryz.prog 14 #[v, .int .i64 (k : Int)] w fun e w' => e = .returned (.int .i64 ((k + cntEs l : Nat) : Int)) ∧ OwnS w' B n (mkEs l k) v F ∧ Kb w w' F)
    (l : List ElB) (N g cap k B : Nat) (F : Foot) (Fs : Nat → Foot) (C : List Value) (w : World) (hrow : w.ownsRow B 25 6 (.slice (some ⟨g, 0, none⟩) N cap) N C) (hN : l.length = N)
    (hF : F g) (hFs : ∀ i, i < l.length → ∀ b, Fs i b → F b ∧ b ≠ g) (hpw : ∀ i j, i < l.length → j < l.length → i ≠ j → ∀ b, Fs i b → ¬ Fs j b) (heach : ∀ i (hi : i < l.length), ElOwn (OwnS w B n) w B (l[i]'hi) (sixV C i) (Fs i)) (hk : k + cntEs l ≤ 549755813888) (hlen : N ≤ 549755813888) :
    Calls Tryz.prog 14 #[.slice (some ⟨g, 0, none⟩) N cap, .int .i64 (k : Int)] w fun e w' => e = .returned (.int .i64 ((k + cntEs l : Nat) : Int)) ∧ Kb w w' F ∧ ∃ C', w'.ownsRow B 25 6 (.slice (some ⟨g, 0, none⟩) N cap) N C' ∧ ∀ i (hi : i < l.length), ElOwn (OwnS w' B n) w' B (mkE (l[i]'hi) (k + cntEs (l.take i))) (sixV C' i) (Fs i) := by
  have HS : Hid (MkW B g cap n k l Fs F w w 0 C) := ⟨by rw [hN]; exact hrow, fun j hj => by rw [if_neg (Nat.not_lt_zero _)]; exact heach j hj, Kb.refl _ _⟩
  have HF : Hid (F g ∧ ∀ i, i < l.length → ∀ b, Fs i b → F b ∧ b ≠ g) := ⟨hF, hFs⟩
  have HP : Hid (∀ i j, i < l.length → j < l.length → i ≠ j → ∀ b, Fs i b → ¬ Fs j b) := hpw
  have HI : Hid (∀ (l : List ElB) (v : Value) (k B : Nat) (F : Foot) (w : World), OwnS w B n l v F → k + cntEs l ≤ 549755813888 → Calls Tryz.prog 14 #[v, .int .i64 (k : Int)] w fun e w' => e = .returned (.int .i64 ((k + cntEs l : Nat) : Int)) ∧ OwnS w' B n (mkEs l k) v F ∧ Kb w w' F) := IH
  have HN : Hid (l.length = N) := hN
  clear hrow hF hFs hpw heach IH hN
  go_enter Tryz.func14, Tryz.ntmps14
  go_wp2_with fail
  go_loopw [1, 5] (fun kv iv wr => ∃ (i : Nat) (C : List Value), i ≤ N ∧ iv = .int .i64 (i : Int) ∧ kv = .int .i64 ((k + cntEs (l.take i) : Nat) : Int) ∧ Hid (MkW B g cap n k l Fs F w wr i C)) (fun _ iv _ => N - (intOf iv).toNat)
  case atStart => exact ⟨0, C, Nat.zero_le _, rfl, rfl, HS⟩
  case round =>
    clear HS
    obtain ⟨i, C, hi, rfl, rfl, HS⟩ := hrel
    by_cases hlt : i < N
    · have hil : i < l.length := by rw [HN.out]; exact hlt
      obtain ⟨hc1, hc2⟩ := cntEs_take l i hil
      have hE := HS.out.each i hil
      rw [if_neg (Nat.lt_irrefl _)] at hE
      have hC6 : C.length = l.length * 6 := HS.out.row.1
      obtain ⟨K, HK⟩ : ∃ K, Hid (k + cntEs (l.take i) = K) := ⟨_, rfl⟩
      rw [HK.out]
      have hmkE : mkE (l[i]'hil) (k + cntEs (l.take i)) = mkE (l[i]'hil) K := by rw [HK.out]
      have Hmk : Hid (mkE (l[i]'hil) (k + cntEs (l.take i)) = mkE (l[i]'hil) K) := hmkE
      generalize hel : l[i]'hil = el at hE hc1 hc2 Hmk
      have Hel : Hid (l[i]'hil = el) := hel
      clear hel hmkE
      obtain ⟨kd, sp, nm, ats, tx, ks⟩ := el
      obtain ⟨av, kv, Fk, eV, hat, hab, hks, hkf⟩ := hE
      rw [cntE_ats] at hc1 hc2
      have eK := HK.out
      have hKb : K + (4 + 2 * ats.length + cntEs ks) ≤ 549755813888 := by omega
      have HEnd : Hid (k + cntEs (l.take (i + 1)) = K + 4 + 2 * ats.length + cntEs ks) := by show _ = _; omega
      clear hc1 hc2 eK
      obtain ⟨sa, sc, rfl, _⟩ := attrs_of_own hat
      obtain ⟨ka, kc, rfl, _⟩ := OwnS.kids n hks
      obtain ⟨q0, q1, q2, q3, q4, q5⟩ := six_get hC6 hil eV
      have HeV : Hid (sixV C i = _) := eV
      have Hat : Hid (wr.ownsRow B 73 2 (.slice sa ats.length sc) ats.length (attrCells ats)) := hat
      have Hab : Hid (∀ b, (Value.slice sa ats.length sc).ownBlock = some b → Fs i b ∧ ¬ Fk b) := hab
      have Hks : Hid (OwnS wr B n ks (.slice ka ks.length kc) Fk) := hks
      have Hkf : Hid (∀ b, Fk b → Fs i b) := hkf
      have hga : ∀ b, (Value.slice sa ats.length sc).ownBlock = some b → b ≠ g := fun b hb => (HF.out.2 i hil b (hab b hb).1).2
      have Hga : Hid (∀ b, (Value.slice sa ats.length sc).ownBlock = some b → b ≠ g) := hga
      have R0 := HS.out.row
      rw [HN.out] at R0
      have cell : ∀ {W : World} {D : List Value}, W.ownsRow B 25 6 (.slice (some ⟨g, 0, none⟩) N cap) N D → ∀ c, c < 6 → W.cell? ⟨g, i * 6 + c, none⟩ = D[i * 6 + c]? ∧ W.frozen? ⟨g, i * 6 + c, none⟩ = false := fun h c hc => own_cell h (by omega)
      have Hcell : Hid (∀ {W : World} {D : List Value}, W.ownsRow B 25 6 (.slice (some ⟨g, 0, none⟩) N cap) N D → ∀ c, c < 6 → W.cell? ⟨g, i * 6 + c, none⟩ = D[i * 6 + c]? ∧ W.frozen? ⟨g, i * 6 + c, none⟩ = false) := cell
      have c0 : wr.cell? ⟨g, i * 6, none⟩ = some (.int .i64 kd) := (cell R0 0 (by omega)).1.trans q0
      have f0 : wr.frozen? ⟨g, i * 6, none⟩ = false := (cell R0 0 (by omega)).2
      have c1 : wr.cell? ⟨g, i * 6 + 1, none⟩ = some (.int .i64 sp) := (cell R0 1 (by omega)).1.trans q1
      have f1 : wr.frozen? ⟨g, i * 6 + 1, none⟩ = false := (cell R0 1 (by omega)).2
      have HQ : Hid (C[i * 6 + 2]? = some (.string nm) ∧ C[i * 6 + 3]? = some (.slice sa ats.length sc) ∧ C[i * 6 + 4]? = some (.string tx) ∧ C[i * 6 + 5]? = some (.slice ka ks.length kc)) := ⟨q2, q3, q4, q5⟩
      clear q0 q1 q2 q3 q4 q5 eV hat hab hks hkf hga cell hC6
      have R2 : Hid (((wr.setCell ⟨g, i * 6, none⟩ (.int .i64 (K : Int))).setCell ⟨g, i * 6 + 1, none⟩ (.int .i64 ((K : Int) + 1))).ownsRow B 25 6 (.slice (some ⟨g, 0, none⟩) N cap) N ((C.set (i * 6) (.int .i64 (K : Int))).set (i * 6 + 1) (.int .i64 ((K : Int) + 1)))) := owns_set (owns_set R0 _ _) _ _
      have K2 : Hid (Kb wr ((wr.setCell ⟨g, i * 6, none⟩ (.int .i64 (K : Int))).setCell ⟨g, i * 6 + 1, none⟩ (.int .i64 ((K : Int) + 1))) (fun b => b = g)) := (Kb.row (grown_set _ _ _ _)).trans (Kb.row (grown_set _ _ _ _))
      clear R0
      have k0 : (0 : Int) ≤ (i : Int) := by omega
      have k1 : (i : Int) < (N : Int) := by omega
      have Hk1 : Hid (∀ W : World, Calls Tryz.prog 36 #[.int .i64 ((K : Int) + 1 + 1)] W fun e w' => e = .returned (.string (markB (K + 2))) ∧ Below W.heap.size W w') := fun W => markText_any (K + 2) W (by omega)
      go_wp2_with fail
      refine (Hk1.out _).mono ?_
      rintro e w3 ⟨rfl, b3⟩
      have R3 := owns_below R2.out (Nat.le_refl _) b3
      have K3 := K2.out.trans (Kb.of_below b3 _)
      clear b3 R2 K2 c0 f0 c1 f1 Hk1
      have c2 : w3.cell? ⟨g, i * 6 + 2, none⟩ = some (.string nm) := (Hcell.out R3 2 (by omega)).1.trans (by rw [List.getElem?_set_ne (by omega), List.getElem?_set_ne (by omega)]; exact HQ.out.1)
      have f2 : w3.frozen? ⟨g, i * 6 + 2, none⟩ = false := (Hcell.out R3 2 (by omega)).2
      have c3 : w3.cell? ⟨g, i * 6 + 3, none⟩ = some (.slice sa ats.length sc) := (Hcell.out R3 3 (by omega)).1.trans (by rw [List.getElem?_set_ne (by omega), List.getElem?_set_ne (by omega)]; exact HQ.out.2.1)
      have R4 : Hid ((w3.setCell ⟨g, i * 6 + 2, none⟩ (.string (markB (K + 2)))).ownsRow B 25 6 (.slice (some ⟨g, 0, none⟩) N cap) N (((C.set (i * 6) (.int .i64 (K : Int))).set (i * 6 + 1) (.int .i64 ((K : Int) + 1))).set (i * 6 + 2) (.string (markB (K + 2))))) := owns_set R3 _ _
      have K4 : Hid (Kb wr (w3.setCell ⟨g, i * 6 + 2, none⟩ (.string (markB (K + 2)))) (fun b => b = g)) := K3.trans (Kb.row (grown_set _ _ _ _))
      clear R3 K3
      obtain ⟨K1, HK1⟩ : ∃ K1, Hid (K + 3 + 2 * ats.length = K1) := ⟨_, rfl⟩
      have hK1b : K1 + 1 + cntEs ks ≤ 549755813888 := by have := HK1.out; omega
      have HA : Hid (∀ W, W = w3.setCell ⟨g, i * 6 + 2, none⟩ (.string (markB (K + 2))) → Calls Tryz.prog 25 #[.slice sa ats.length sc, .int .i64 ((K : Int) + 1 + 1 + 1)] W fun e w' => e = .returned (.int .i64 (K1 : Int)) ∧ w'.ownsRow B 73 2 (.slice sa ats.length sc) ats.length (attrCells (markL (K + 3) ats.length)) ∧ W.grownBy w' (Value.slice sa ats.length sc).ownBlock) := fun W hW => by
        subst hW
        have h := markAttrS_grown ats (.slice sa ats.length sc) (K + 3) B _ (K4.out.owns Hat.out Hga.out) (by omega) (by omega)
        rw [HK1.out] at h
        exact h
      go_wp2_with fail
      refine (HA.out _ rfl).mono ?_
      rintro e w5 ⟨rfl, o5, g5⟩
      have R5 := owns_grown R4.out g5 (fun b hb e => Hga.out b e (by cases hb; rfl))
      have K5 : Hid (Kb wr w5 (fun b => b = g ∨ (Value.slice sa ats.length sc).ownBlock = some b)) := (K4.out.more (fun b hb => .inl hb)).trans (Kb.of_grown g5 (fun b hb => .inr hb))
      clear g5 R4 K4 c2 f2 c3 HA
      have Hk3 : Hid (∀ W : World, Calls Tryz.prog 36 #[.int .i64 (K1 : Int)] W fun e w' => e = .returned (.string (markB K1)) ∧ Below W.heap.size W w') := fun W => markText_any K1 W (by omega)
      go_wp2_with fail
      refine (Hk3.out _).mono ?_
      rintro e w6 ⟨rfl, b6⟩
      have R6 := owns_below R5 (Nat.le_refl _) b6
      have o6 := owns_below o5 (Nat.le_refl _) b6
      have K6 := K5.out.trans (Kb.of_below b6 _)
      clear R5 o5 K5 b6 Hk3
      have c4 : w6.cell? ⟨g, i * 6 + 4, none⟩ = some (.string tx) := (Hcell.out R6 4 (by omega)).1.trans (by rw [List.getElem?_set_ne (by omega), List.getElem?_set_ne (by omega), List.getElem?_set_ne (by omega)]; exact HQ.out.2.2.1)
      have f4 : w6.frozen? ⟨g, i * 6 + 4, none⟩ = false := (Hcell.out R6 4 (by omega)).2
      have c5 : w6.cell? ⟨g, i * 6 + 5, none⟩ = some (.slice ka ks.length kc) := (Hcell.out R6 5 (by omega)).1.trans (by rw [List.getElem?_set_ne (by omega), List.getElem?_set_ne (by omega), List.getElem?_set_ne (by omega)]; exact HQ.out.2.2.2)
      have R7 : Hid ((w6.setCell ⟨g, i * 6 + 4, none⟩ (.string (markB K1))).ownsRow B 25 6 (.slice (some ⟨g, 0, none⟩) N cap) N (set4 C i (.int .i64 (K : Int)) (.int .i64 ((K : Int) + 1)) (.string (markB (K + 2))) (.string (markB K1)))) := owns_set R6 _ _
      have O7 : Hid ((w6.setCell ⟨g, i * 6 + 4, none⟩ (.string (markB K1))).ownsRow B 73 2 (.slice sa ats.length sc) ats.length (attrCells (markL (K + 3) ats.length))) := owns_grown o6 (grown_set _ _ _ _) (fun b hb e => Hga.out b hb (Option.some.inj e).symm)
      have K7 : Hid (Kb wr (w6.setCell ⟨g, i * 6 + 4, none⟩ (.string (markB K1))) (fun b => b = g ∨ (Value.slice sa ats.length sc).ownBlock = some b)) := K6.trans ((Kb.row (grown_set _ _ _ _)).more (fun b hb => .inl hb))
      clear R6 o6 K6
      have HM : Hid (∀ W, W = w6.setCell ⟨g, i * 6 + 4, none⟩ (.string (markB K1)) → Calls Tryz.prog 14 #[.slice ka ks.length kc, .int .i64 ((K1 : Int) + 1)] W fun e w' => e = .returned (.int .i64 ((K1 + 1 + cntEs ks : Nat) : Int)) ∧ OwnS w' B n (mkEs ks (K1 + 1)) (.slice ka ks.length kc) Fk ∧ Kb W w' Fk) := fun W hW => by
        subst hW
        exact HI.out ks (.slice ka ks.length kc) (K1 + 1) B Fk _ (OwnS.stay n Hks.out (fun b hb hb2 => K7.out.block b hb2 (fun h => h.elim (fun h => (HF.out.2 i hil b (Hkf.out b hb)).2 h) (fun h => (Hab.out b h).2 hb)))) (by omega)
      go_wp2_with fail
      refine (HM.out _ rfl).mono ?_
      rintro e w8 ⟨rfl, o8, k8⟩
      have hgk : ∀ b, Fk b → b ≠ g := fun b hb => (HF.out.2 i hil b (Hkf.out b hb)).2
      have R8 := k8.owns R7.out (fun b hb h => hgk b h (by cases hb; rfl))
      have O8 := k8.owns O7.out (fun b hb h => (Hab.out b hb).2 h)
      have K8 : Kb wr w8 (fun b => b = g ∨ Fs i b) := (K7.out.more (fun b hb => hb.imp id (fun h => (Hab.out b h).1))).trans (k8.more (fun b hb => .inr (Hkf.out b hb)))
      have HN8 : Hid (MkW B g cap n k l Fs F w w8 (i + 1) (set4 C i (.int .i64 (K : Int)) (.int .i64 ((K : Int) + 1)) (.string (markB (K + 2))) (.string (markB K1)))) := by
        refine ⟨by rw [HN.out]; exact R8, fun j hj => ?_, HS.out.kb.trans (K8.more (fun b hb => hb.elim (fun h => h ▸ HF.out.1) (fun h => (HF.out.2 i hil b h).1)))⟩
        by_cases hji : j = i
        · subst hji
          rw [if_pos (Nat.lt_succ_self _), Hel.out, HK.out, mkE, set4_self HS.out.row.1 hil HeV.out]
          have e1 := HK1.out
          refine ⟨.slice sa ats.length sc, .slice ka ks.length kc, Fk, ?_, ?_, Hab.out, ?_, Hkf.out⟩
          · rw [e1]
          · rw [markL_length]
            exact O8
          · have e2 : K + 4 + 2 * ats.length = K1 + 1 := by omega
            rw [e2]
            exact o8
        · rw [set4_other hji]
          have e : (if j < i + 1 then mkE (l[j]'hj) (k + cntEs (l.take j)) else l[j]'hj) = (if j < i then mkE (l[j]'hj) (k + cntEs (l.take j)) else l[j]'hj) := by
            by_cases h : j < i
            · rw [if_pos h, if_pos (by omega)]
            · rw [if_neg h, if_neg (by omega)]
          rw [e]
          have st : ∀ b, Fs j b → b < wr.heap.size → w8.heap[b]? = wr.heap[b]? := fun b hb hb2 => K8.block b hb2 (fun h => h.elim (fun h => (HF.out.2 j hj b hb).2 h) (fun h => HP.out j i hj hil hji b hb h))
          exact (HS.out.each j hj).stay (fun _ _ _ hF' hs => OwnS.stay n hs (fun b hb hb2 => st b (hF' b hb) hb2)) st
      have HKK : Hid ((K1 + 1 + cntEs ks : Nat) = k + cntEs (l.take (i + 1))) := by
        show _ = _
        rw [HEnd.out, ← HK1.out]
        omega
      clear o8 k8 R8 O8 K8 hgk R7 O7 K7 HS Hks Hat Hab Hkf Hga HQ HeV Hcell c4 f4 c5 HM
      rw [HKK.out]
      go_wp2_with fail
      go_roundw
      case rel => exact ⟨i + 1, _, by omega, by go_num, rfl, HN8⟩
      case measure => simp [intOf]; omega
    · have hin : i = N := by omega
      have hfull : l.take i = l := List.take_of_length_le (by rw [HN.out]; omega)
      rw [hfull]
      have g2 : decide ((i : Int) < (N : Int)) = false := decide_eq_false (by omega)
      go_wp2_with fail
      go_ret
      refine ⟨rfl, HS.out.kb, C, by have h := HS.out.row; rw [HN.out] at h; exact h, fun j hj => ?_⟩
      have h := HS.out.each j hj
      rw [if_pos (by have := HN.out; omega)] at h
      exact h

theorem cntEs_len : ∀ es : List ElB, es.length ≤ cntEs es
  | [] => by simp [cntEs]
  | .mk kd sp nm ats tx ks :: es => by
    have := cntEs_len es
    rw [cntEs, cntE, List.length_cons]
    omega
set_option maxHeartbeats 1000000 in
theorem markElS_none (a : Option Addr) (c : Nat) (k : Nat) (w : World) : Calls Tryz.prog 14 #[.slice a 0 c, .int .i64 (k : Int)] w fun e w' => e = .returned (.int .i64 (k : Int)) ∧ w' = w := by
  go_enter Tryz.func14, Tryz.ntmps14
  go_wp2
  refine wp_loop_rounds 1 ?_
  rw [rounds_succ]
  go_wp2
  go_ret
  exact ⟨rfl, rfl⟩
theorem markElS_any : ∀ (n : Nat) (l : List ElB) (v : Value) (k B : Nat) (F : Foot) (w : World), OwnS w B n l v F → k + cntEs l ≤ 549755813888 → Calls Tryz.prog 14 #[v, .int .i64 (k : Int)] w fun e w' => e = .returned (.int .i64 ((k + cntEs l : Nat) : Int)) ∧ OwnS w' B n (mkEs l k) v F ∧ Kb w w' F
  | 0, l, v, k, B, F, w, h, _ => by
    obtain ⟨a, c, rfl, _⟩ := OwnS.kids 0 h
    have hl : l = [] := h.1
    subst hl
    refine (markElS_none a c k w).mono ?_
    rintro e w' ⟨rfl, rfl⟩
    refine ⟨by rw [cntEs]; rfl, ?_, Kb.refl _ _⟩
    rw [mkEs]
    exact h
  | n + 1, l, v, k, B, F, w, h, hk => by
    have hlen := cntEs_len l
    have h' := h
    obtain ⟨C, Fs, ho, h2, h3, h4, h5⟩ := h'
    rcases ho.2 with ⟨rfl, h0⟩ | ⟨g, cap, cur, rfl, _⟩
    · have hl : l = [] := List.eq_nil_of_length_eq_zero h0
      subst hl
      refine (markElS_none none 0 k w).mono ?_
      rintro e w' ⟨rfl, rfl⟩
      refine ⟨by rw [cntEs]; rfl, ?_, Kb.refl _ _⟩
      rw [mkEs]
      exact h
    · refine (markElS_step n (markElS_any n) l l.length g cap k B F Fs C w ho rfl (h2 g rfl) (fun i hi b hb => ⟨(h3 i hi b hb).1, fun e => (h3 i hi b hb).2 (by rw [e]; rfl)⟩) h4 h5 hk (by omega)).mono ?_
      rintro e w' ⟨rfl, hkb, C', ho', he'⟩
      refine ⟨rfl, ⟨C', Fs, by rw [mkEs_length]; exact ho', h2, fun i hi => h3 i (by rwa [mkEs_length] at hi), fun i j hi hj => h4 i j (by rwa [mkEs_length] at hi) (by rwa [mkEs_length] at hj), fun i hi => ?_⟩, hkb⟩
      have hi' : i < l.length := by rwa [mkEs_length] at hi
      rw [mkEs_get l k i hi' hi]
      exact he' i hi'

end Go.Proofs.YthipdkagkdnaiaaGreatDoor.Sg
