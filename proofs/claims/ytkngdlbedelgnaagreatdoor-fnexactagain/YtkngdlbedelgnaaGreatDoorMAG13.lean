/- The program's reader in memory, what it reads of the world besides, and rows of elements that it makes: each owned, in blocks that were not there before. Contracts of the program's must, pass, takes and want. Contract of the model's l5Swap. Contract of the model's XmlText. Contracts of the model's IsLetter, IsFirst and IsNext. Contract of the model's XmlName. The contract of the model's l13Hex: a number in six digits of 16. Contracts of the model's NameOk and NameOf. Contract of the model's XmlAttr. -/
import Derived.Test.YtkngdlbedelgnaaGreatDoorRdWork
import Derived.Test.YtkngdlbedelgnaaGreatDoorRdRow
import Derived.Test.YtkngdlbedelgnaaGreatDoorMAG01
import Derived.Test.YtkngdlbedelgnaaGreatDoorMAG09
import Derived.Test.YtkngdlbedelgnaaGreatDoorMAG05
import Derived.Test.YtkngdlbedelgnaaGreatDoorShelf
import Derived.Deep.QuietTactic
import Derived.Test.YtkngdlbedelgnaaGreatDoorMAG06
import Derived.Test.YtkngdlbedelgnaaGreatDoorMAG03
import Derived.Test.YtkngdlbedelgnaaGreatDoorXmP
import Derived.Test.YtkngdlbedelgnaaGreatDoorSgGetS
import Derived.Deep.Cut
import Derived.Deep.CutRange
import Derived.Lib.QuietBelow
import Derived.BigQuiet
import Derived.Laws.DeepStrings4
namespace Go.Proofs.YtkngdlbedelgnaaGreatDoor.Sg
open Go.ChangeShapes Go.WideShapes Go.ChangeAt Go.RowKit

/-- The reader's block. -/
def RqAt (w : World) (p : Nat) (s : ByteArray) (k : Int) : Prop :=
  w.heap[p]? = some (.cells #[.string s, .int .i64 k] 45 (0, 0))
theorem RqAt.lt {w : World} {p : Nat} {s : ByteArray} {k : Int} (h : RqAt w p s k) : p < w.heap.size := (Array.getElem?_eq_some_iff.1 h).1
theorem RqAt.c0 {w : World} {p : Nat} {s : ByteArray} {k : Int} (h : RqAt w p s k) : w.cell? ⟨p, 0, none⟩ = some (.string s) := by unfold RqAt at h; simp [World.cell?, h]
theorem RqAt.c1 {w : World} {p : Nat} {s : ByteArray} {k : Int} (h : RqAt w p s k) : w.cell? ⟨p, 1, none⟩ = some (.int .i64 k) := by unfold RqAt at h; simp [World.cell?, h]
theorem RqAt.fz {w : World} {p : Nat} {s : ByteArray} {k : Int} (h : RqAt w p s k) (i : Nat) : w.frozen? ⟨p, i, none⟩ = false := by unfold RqAt at h; simp [World.frozen?, h]
theorem RqAt.set1 {w : World} {p : Nat} {s : ByteArray} {k : Int} (h : RqAt w p s k) (k' : Int) : RqAt (w.setCell ⟨p, 1, none⟩ (.int .i64 k')) p s k' := by
  unfold RqAt at *
  simp [World.setCell, Array.getElem?_modify, h]
theorem RqAt.keep {w w' : World} {p : Nat} {s : ByteArray} {k : Int} (h : RqAt w p s k) (hb : Below w.heap.size w w') : RqAt w' p s k := (hb.block p h.lt).trans h

/-- What is read of the world, laid before the reader was. -/
def PcP (a : Addr) (p : Nat) (w : World) : Prop := ∃ W0, PcX a W0 ∧ W0.heap.size ≤ p ∧ Below W0.heap.size W0 w
theorem PcP.x {a : Addr} {p : Nat} {w : World} (h : PcP a p w) : PcX a w := by obtain ⟨W0, h1, _, h3⟩ := h; exact h1.below h3
theorem PcP.fr {a : Addr} {p : Nat} {w w' : World} (h : PcP a p w) (hf : Fr p w w') : PcP a p w' := by
  obtain ⟨W0, h1, h2, h3⟩ := h
  exact ⟨W0, h1, h2, h3.trans (hf.below h2 h3.size)⟩
/-- The reader as it stands at a place. -/
def Rq (a : Addr) (p : Nat) (s : ByteArray) (k : Int) (w : World) : Prop := RqAt w p s k ∧ PcP a p w
theorem Rq.keep {a : Addr} {p : Nat} {s : ByteArray} {k : Int} {w w' : World} (h : Rq a p s k w) (hb : Below w.heap.size w w') : Rq a p s k w' := ⟨h.1.keep hb, h.2.fr (Fr.of_below hb)⟩
theorem Rq.set {a : Addr} {p : Nat} {s : ByteArray} {k : Int} {w : World} (h : Rq a p s k w) (k' : Int) : Rq a p s k' (w.setCell ⟨p, 1, none⟩ (.int .i64 k')) := ⟨h.1.set1 k', h.2.fr (Fr.set _ _ _)⟩
theorem Rq.facts {a : Addr} {p : Nat} {s : ByteArray} {k : Int} {w : World} (h : Rq a p s k w) : w.cell? ⟨p, 0, none⟩ = some (.string s) ∧ w.cell? ⟨p, 1, none⟩ = some (.int .i64 k) ∧ (∀ i, w.frozen? ⟨p, i, none⟩ = false) ∧ p < w.heap.size := ⟨h.1.c0, h.1.c1, h.1.fz, h.1.lt⟩

/-- What is refused is a panic with that error. -/
abbrev PanE (a : Addr) : Ending := .panicked [{ v := errV a, recovered := false }]

theorem ElOwn.low {S S' : List ElB → Value → Foot → Prop} {w : World} {B B' : Nat} {e : ElB} {v : Value} {F : Foot} (h : ElOwn S w B e v F) (hB : B' ≤ B) (hS : ∀ l v F', S l v F' → S' l v F') : ElOwn S' w B' e v F := by
  obtain ⟨kd, sp, nm, ats, tx, ks⟩ := e
  obtain ⟨av, kv, Fk, rfl, ha, hab, hk, hkf⟩ := h
  exact ⟨av, kv, Fk, rfl, own_mono ha hB, hab, hS _ _ _ hk, hkf⟩
theorem OwnS.low {B B' : Nat} (hB : B' ≤ B) : ∀ (n : Nat) {w : World} {l : List ElB} {v : Value} {F : Foot}, OwnS w B n l v F → OwnS w B' n l v F
  | 0, _, _, _, _, ⟨h1, h2, h3⟩ => ⟨h1, own_mono h2 hB, h3⟩
  | n + 1, _, _, _, _, ⟨C, Fs, h1, h2, h3, h4, h5⟩ => ⟨C, Fs, own_mono h1 hB, h2, h3, h4, fun i hi => (h5 i hi).low hB (fun _ _ _ hs => OwnS.low hB n hs)⟩
theorem ElOwn.wideF {S : List ElB → Value → Foot → Prop} {w : World} {B : Nat} {e : ElB} {v : Value} {F F' : Foot} (h : ElOwn S w B e v F) (hF : ∀ b, F b → F' b) : ElOwn S w B e v F' := by
  obtain ⟨kd, sp, nm, ats, tx, ks⟩ := e
  obtain ⟨av, kv, Fk, rfl, ha, hab, hk, hkf⟩ := h
  exact ⟨av, kv, Fk, rfl, ha, fun b hb => ⟨hF b (hab b hb).1, (hab b hb).2⟩, hk, fun b hb => hF b (hkf b hb)⟩

/-- All blocks from some block on that are there. -/
abbrev Since (N : Nat) (w : World) : Foot := fun b => N ≤ b ∧ b < w.heap.size
/-- An element that was made since N. -/
def ElNew (w : World) (N n : Nat) (e : ElB) (v : Value) : Prop := ElOwn (OwnS w N n) w N e v (Since N w)
/-- A row of elements that was made since N: in its cells, and in blocks of its own. -/
def RowO (w : World) (N n : Nat) (v : Value) (l : List ElB) (C : List Value) (Fs : Nat → Foot) : Prop :=
  w.ownsRow N 39 6 v l.length C ∧ (∀ i, i < l.length → ∀ b, Fs i b → Since N w b ∧ v.ownBlock ≠ some b) ∧ (∀ i j, i < l.length → j < l.length → i ≠ j → ∀ b, Fs i b → ¬ Fs j b) ∧ ∀ i (hi : i < l.length), ElOwn (OwnS w N n) w N (l[i]'hi) (sixV C i) (Fs i)
theorem own_since {w : World} {base : Nat} {e : TypeId} {size : Nat} {v : Value} {n : Nat} {xs : List Value} (ho : w.ownsRow base e size v n xs) {b : Nat} (hb : v.ownBlock = some b) : Since base w b := by
  rcases ho.2 with ⟨rfl, h0⟩ | ⟨g', cap', cur, rfl, h3, h4, h5⟩
  · cases hb
  · cases hb
    exact ⟨h3, (Array.getElem?_eq_some_iff.1 h4).1⟩
theorem RowO.own {w : World} {N n : Nat} {v : Value} {l : List ElB} {C : List Value} {Fs : Nat → Foot} (h : RowO w N n v l C Fs) : OwnS w N (n + 1) l v (Since N w) :=
  ⟨C, Fs, h.1, fun _ hb => own_since h.1 hb, h.2.1, h.2.2.1, h.2.2.2⟩
theorem RowO.nil (w : World) (N n : Nat) : RowO w N n (.slice none 0 0) [] [] (fun _ _ => False) :=
  ⟨⟨rfl, .inl ⟨rfl, rfl⟩⟩, fun _ hi => absurd hi (Nat.not_lt_zero _), fun _ _ hi => absurd hi (Nat.not_lt_zero _), fun _ hi => absurd hi (Nat.not_lt_zero _)⟩
theorem RowO.keep {w w' : World} {N n : Nat} {v : Value} {l : List ElB} {C : List Value} {Fs : Nat → Foot} (h : RowO w N n v l C Fs) (hs : w.heap.size ≤ w'.heap.size) (hb : ∀ b, Since N w b → w'.heap[b]? = w.heap[b]?) : RowO w' N n v l C Fs := by
  obtain ⟨h1, h2, h3, h4⟩ := h
  refine ⟨owns_stay h1 (fun b h5 _ => hb b (own_since h1 h5)), fun i hi b hF => ⟨⟨(h2 i hi b hF).1.1, Nat.lt_of_lt_of_le (h2 i hi b hF).1.2 hs⟩, (h2 i hi b hF).2⟩, h3, fun i hi => ?_⟩
  exact (h4 i hi).stay (fun _ _ _ hF hS => OwnS.stay n hS (fun b hb1 _ => hb b (h2 i hi b (hF b hb1)).1)) (fun b hF _ => hb b (h2 i hi b hF).1)
theorem RowO.below {w w' : World} {N n : Nat} {v : Value} {l : List ElB} {C : List Value} {Fs : Nat → Foot} (h : RowO w N n v l C Fs) (hb : Below w.heap.size w w') : RowO w' N n v l C Fs := h.keep hb.size (fun b h1 => hb.block b h1.2)
theorem RowO.fr {p : Nat} {w w' : World} {N n : Nat} {v : Value} {l : List ElB} {C : List Value} {Fs : Nat → Foot} (h : RowO w N n v l C Fs) (hf : Fr p w w') (hp : p < N) : RowO w' N n v l C Fs := h.keep hf.size (fun b h1 => hf.block b h1.2 (by have := h1.1; omega))
theorem ElNew.keep {w w' : World} {N n : Nat} {e : ElB} {v : Value} (h : ElNew w N n e v) (hs : w.heap.size ≤ w'.heap.size) (hb : ∀ b, Since N w b → w'.heap[b]? = w.heap[b]?) : ElNew w' N n e v := by
  have h1 : ElOwn (OwnS w' N n) w' N e v (Since N w) := ElOwn.stay h (fun _ _ _ hF hS => OwnS.stay n hS (fun b hb1 _ => hb b (hF b hb1))) (fun b hF _ => hb b hF)
  exact h1.wideF (fun b hb => ⟨hb.1, Nat.lt_of_lt_of_le hb.2 hs⟩)
theorem ElNew.below {w w' : World} {N n : Nat} {e : ElB} {v : Value} (h : ElNew w N n e v) (hb : Below w.heap.size w w') : ElNew w' N n e v := h.keep hb.size (fun b h1 => hb.block b h1.2)
theorem ElNew.low {w : World} {N N' n : Nat} {e : ElB} {v : Value} (h : ElNew w N n e v) (hN : N' ≤ N) : ElNew w N' n e v :=
  (ElOwn.low h hN (fun _ _ _ hS => OwnS.low hN n hS)).wideF (fun _ hb => ⟨Nat.le_trans hN hb.1, hb.2⟩)
/-- An element of a text alone. -/
theorem ElNew.bare (w : World) (N n : Nat) (k : Int) (t : ByteArray) : ElNew w N n (.mk k 0 ⟨#[]⟩ [] t []) (.agg #[.int .i64 k, .int .i64 0, .string ⟨#[]⟩, .slice none 0 0, .string t, .slice none 0 0]) :=
  ⟨.slice none 0 0, .slice none 0 0, fun _ => False, rfl, ⟨rfl, .inl ⟨rfl, rfl⟩⟩, fun _ hb => by (cases hb), OwnS.nil _ _ _ _, fun _ h => h.elim⟩
/-- What an element that was made is as a value. -/
theorem ElNew.form {w : World} {N n : Nat} {kd sp : Int} {nm tx : ByteArray} {ats : List AttrB} {ks : List ElB} {v : Value} (h : ElNew w N n (.mk kd sp nm ats tx ks) v) : ∃ xa xc ka kc, v = .agg #[.int .i64 kd, .int .i64 sp, .string nm, .slice xa ats.length xc, .string tx, .slice ka ks.length kc] := by
  obtain ⟨av, kv, _, rfl, hat, _, hks, _⟩ := h
  obtain ⟨xa, xc, eav, _⟩ := attrs_of_own hat
  obtain ⟨ka, kc, ekv, _⟩ := OwnS.kids n hks
  exact ⟨xa, xc, ka, kc, by rw [eav, ekv]⟩

/-- One more is appended, that was made since. -/
theorem RowO.more {w w' : World} {lo N n : Nat} {v v' : Value} {l : List ElB} {C : List Value} {Fs : Nat → Foot} {a0 a1 a2 a3 a4 a5 : Value} {e : ElB}
    (h : RowO w lo n v l C Fs) (hv : ∀ b, v.ownBlock = some b → b < N) (hFs : ∀ i, i < l.length → ∀ b, Fs i b → b < N) (hlo : lo ≤ N) (he : ElNew w N n e (.agg #[a0, a1, a2, a3, a4, a5]))
    (ho : w'.ownsRow lo 39 6 v' (l.length + 1) (C ++ [a0, a1, a2, a3, a4, a5])) (hg : w.grownBy w' v.ownBlock) (hb : ∀ b, v'.ownBlock = some b → v.ownBlock = some b ∨ w.heap.size ≤ b) :
    RowO w' lo n v' (l ++ [e]) (C ++ [a0, a1, a2, a3, a4, a5]) (fun i => if i = l.length then Since N w else Fs i) := by
  obtain ⟨h1, h2, h3, h4⟩ := h
  have hC : C.length = l.length * 6 := h1.1
  have hlen : (l ++ [e]).length = l.length + 1 := by simp
  have kept : ∀ b, b < w.heap.size → v.ownBlock ≠ some b → w'.heap[b]? = w.heap[b]? := fun b h5 h6 => hg.block b h5 (Ne.symm h6)
  have newV : ∀ b, v.ownBlock ≠ some b → b < w.heap.size → v'.ownBlock ≠ some b := fun b h5 h6 e => by
    rcases hb b e with h | h
    · exact h5 h
    · omega
  have hvN : ∀ b, N ≤ b → v.ownBlock ≠ some b := fun b h5 e => by have := hv b e; omega
  have e1 : ∀ j, j < C.length → (C ++ [a0, a1, a2, a3, a4, a5]).getD j undef = C.getD j undef := fun j hj => getD_old hj
  refine ⟨by rw [hlen]; exact ho, ?_, ?_, ?_⟩
  · intro i hi b hF
    rw [hlen] at hi
    by_cases hie : i = l.length
    · rw [if_pos hie] at hF
      exact ⟨⟨Nat.le_trans hlo hF.1, Nat.lt_of_lt_of_le hF.2 hg.size⟩, newV b (hvN b hF.1) hF.2⟩
    · rw [if_neg hie] at hF
      have := h2 i (by omega) b hF
      exact ⟨⟨this.1.1, Nat.lt_of_lt_of_le this.1.2 hg.size⟩, newV b this.2 this.1.2⟩
  · intro i j hi hj hij b hF hG
    rw [hlen] at hi hj
    by_cases hie : i = l.length
    · rw [if_pos hie] at hF
      rw [if_neg (by omega)] at hG
      have := hFs j (by omega) b hG
      have := hF.1
      omega
    · rw [if_neg hie] at hF
      by_cases hje : j = l.length
      · rw [if_pos hje] at hG
        have := hFs i (by omega) b hF
        have := hG.1
        omega
      · rw [if_neg hje] at hG
        exact h3 i j (by omega) (by omega) hij b hF hG
  · intro i hi
    by_cases hil : i < l.length
    · have eS : sixV (C ++ [a0, a1, a2, a3, a4, a5]) i = sixV C i := by
        unfold sixV
        rw [e1 _ (by omega), e1 _ (by omega), e1 _ (by omega), e1 _ (by omega), e1 _ (by omega), e1 _ (by omega)]
      have eL : (l ++ [e])[i]'hi = l[i]'hil := List.getElem_append_left hil
      rw [eS, eL]
      show ElOwn _ _ _ _ _ (if i = l.length then _ else _)
      rw [if_neg (by omega)]
      exact (h4 i hil).stay (fun _ _ _ hF hS => OwnS.stay n hS (fun b hb1 hb2 => kept b hb2 (h2 i hil b (hF b hb1)).2)) (fun b hF hb2 => kept b hb2 (h2 i hil b hF).2)
    · have hie : i = l.length := by rw [hlen] at hi; omega
      subst hie
      have e2 : ∀ j, (C ++ [a0, a1, a2, a3, a4, a5]).getD (l.length * 6 + j) undef = [a0, a1, a2, a3, a4, a5].getD j undef := fun j => by rw [← hC]; exact getD_new
      have eS : sixV (C ++ [a0, a1, a2, a3, a4, a5]) l.length = .agg #[a0, a1, a2, a3, a4, a5] := by
        have e20 := e2 0
        rw [Nat.add_zero] at e20
        unfold sixV
        rw [e20, e2 1, e2 2, e2 3, e2 4, e2 5]
        rfl
      have eL : (l ++ [e])[l.length]'hi = e := by simp
      rw [eS, eL]
      show ElOwn _ _ _ _ _ (if l.length = l.length then _ else _)
      rw [if_pos rfl]
      have hk : ElOwn (OwnS w' N n) w' N e (.agg #[a0, a1, a2, a3, a4, a5]) (Since N w) := ElOwn.stay he (fun _ _ _ hF hS => OwnS.stay n hS (fun b hb1 hb2 => kept b hb2 (hvN b (hF b hb1).1))) (fun b hF hb2 => kept b hb2 (hvN b hF.1))
      exact hk.low hlo (fun _ _ _ hS => OwnS.low hlo n hS)

end Go.Proofs.YtkngdlbedelgnaaGreatDoor.Sg

namespace Go.Proofs.YtkngdlbedelgnaaGreatDoor.Sg
open Go.ChangeShapes Go.WideShapes Go.ChangeAt Go.RowKit

theorem stands_tailT {s : ByteArray} (t : ByteArray) {k : Nat} (h : k ≤ s.size) : standsB s k t = Lib.hasPrefix (tailL s k) t.data.toList := by
  obtain ⟨e, hl⟩ := ptail_all s k h
  have h1 := stands_pre (s.data.toList.take k) (tailL s k) t.data.toList
  have e2 : strB t.data.toList = t := by unfold strB; simp
  rw [hl, ← e, e2] at h1
  exact h1
theorem prefixAt (s t : ByteArray) (k : Nat) (h : k ≤ s.size) (W : World) : Calls Tryz.prog 36 #[.string (s.extract k s.size), .string t] W fun e w' => e = .returned (.bool (standsB s k t)) ∧ w' = W := by
  have := Tryz.strings_HasPrefix (s.extract k s.size) t W
  rw [tail_bytes, ← stands_tailT t h] at this
  exact this

theorem must_yes (w : World) : Calls Tryz.prog 18 #[.bool true] w fun e w' => e = .returned (.tuple #[]) ∧ w' = w := by
  go_enter Tryz.func18, Tryz.ntmps18
  go_wp2_with fail
  exact bodyPost_end (results_none rfl _ _ _) rfl ⟨rfl, rfl⟩
theorem must_no (a : Addr) (w : World) (h : ErrA a w) : Calls Tryz.prog 18 #[.bool false] w fun e w' => e = PanE a ∧ w' = w := by
  unfold ErrA at h
  go_enter Tryz.func18, Tryz.ntmps18
  go_wp2_with fail
  exact ⟨rfl, rfl, rfl⟩

theorem pass_yes (a : Addr) (p : Nat) (s : ByteArray) (k j : Int) (w : World) (h : Rq a p s k w) :
    Calls Tryz.prog 64 #[.pointer (some ⟨p, 0, none⟩), .int .i64 j, .nilIface] w fun e w' => e = .returned (.tuple #[]) ∧ Rq a p s j w' ∧ Fr p w w' := by
  obtain ⟨c0, c1, z, hp⟩ := h.facts
  have z1 := z 1
  have H : Hid (Rq a p s j (w.setCell ⟨p, 1, none⟩ (.int .i64 j)) ∧ Fr p w (w.setCell ⟨p, 1, none⟩ (.int .i64 j))) := ⟨h.set j, Fr.set _ _ _⟩
  clear h
  go_enter Tryz.func64, Tryz.ntmps64
  go_wp2_with fail
  exact bodyPost_end (results_none rfl _ _ _) rfl ⟨rfl, H.out⟩
theorem pass_no (a : Addr) (p : Nat) (j : Int) (w : World) :
    Calls Tryz.prog 64 #[.pointer (some ⟨p, 0, none⟩), .int .i64 j, errV a] w fun e w' => e = PanE a ∧ w' = w := by
  go_enter Tryz.func64, Tryz.ntmps64
  go_wp2_with fail
  exact ⟨rfl, rfl, rfl⟩

set_option maxHeartbeats 1000000 in
theorem takes_yes (a : Addr) (p : Nat) (s t : ByteArray) (k : Nat) (w : World) (h : Rq a p s (k : Int) w) (hk : k ≤ s.size) (hs : s.size ≤ 1073741824) (ht : t.size ≤ 1073741824) (hst : standsB s k t = true) :
    Calls Tryz.prog 35 #[.pointer (some ⟨p, 0, none⟩), .string t] w fun e w' => e = .returned (.bool true) ∧ Rq a p s ((k + t.size : Nat) : Int) w' ∧ Fr p w w' := by
  have HP := fun W => prefixAt s t k hk W
  rw [hst] at HP
  have H : Hid (Rq a p s (k : Int) w) := h
  obtain ⟨c0, c1, z, hp⟩ := h.facts
  clear h hst
  have q1 : (k : Int) ≤ (s.size : Int) := by omega
  have q2 : IntKind.i64.wrap ((k : Int) + (t.size : Int)) = (k : Int) + (t.size : Int) := IntWalk.i64_in _ (by omega)
  go_enter Tryz.func35, Tryz.ntmps35
  go_upto_region 1 with fail
  go_quiet ((go_at_call 36; exact Calls.quiet_of_same (HP _)))
  have bn := drew_kd (Below.refl w.heap.size w) nq
  have H1 : Hid (Rq a p s (k : Int) (w.drewN nq)) := H.out.keep bn
  have HF : Hid (Fr p w (w.drewN nq)) := Fr.of_below bn
  clear bn c0 c1 z H HP
  generalize w.drewN nq = w1 at *
  obtain ⟨c0, c1, z, hp1⟩ := H1.out.facts
  have z1 := z 1
  have H2 : Hid (Rq a p s ((k : Int) + (t.size : Int)) (w1.setCell ⟨p, 1, none⟩ (.int .i64 ((k : Int) + (t.size : Int)))) ∧ Fr p w (w1.setCell ⟨p, 1, none⟩ (.int .i64 ((k : Int) + (t.size : Int))))) := ⟨H1.out.set _, HF.out.trans (Fr.set _ _ _)⟩
  go_wp2_with fail
  go_ret
  exact ⟨rfl, by rw [Int.natCast_add]; exact H2.out.1, H2.out.2⟩
set_option maxHeartbeats 1000000 in
theorem takes_no (a : Addr) (p : Nat) (s t : ByteArray) (k : Nat) (w : World) (h : Rq a p s (k : Int) w) (hk : k ≤ s.size) (hst : standsB s k t = false) :
    Calls Tryz.prog 35 #[.pointer (some ⟨p, 0, none⟩), .string t] w fun e w' => e = .returned (.bool false) ∧ Rq a p s (k : Int) w' ∧ Fr p w w' := by
  have HP := fun W => prefixAt s t k hk W
  rw [hst] at HP
  have H : Hid (Rq a p s (k : Int) w) := h
  obtain ⟨c0, c1, z, hp⟩ := h.facts
  clear h hst
  have q1 : (k : Int) ≤ (s.size : Int) := by omega
  go_enter Tryz.func35, Tryz.ntmps35
  go_upto_region 1 with fail
  go_quiet ((go_at_call 36; exact Calls.quiet_of_same (HP _)))
  have bn := drew_kd (Below.refl w.heap.size w) nq
  have H1 : Hid (Rq a p s (k : Int) (w.drewN nq)) := H.out.keep bn
  have HF : Hid (Fr p w (w.drewN nq)) := Fr.of_below bn
  clear bn c0 c1 z H HP
  generalize w.drewN nq = w1 at *
  go_wp2_with fail
  go_ret
  exact ⟨rfl, H1.out, HF.out⟩

set_option maxHeartbeats 1000000 in
theorem want_yes (a : Addr) (p : Nat) (s t : ByteArray) (k : Nat) (w : World) (h : Rq a p s (k : Int) w) (hk : k ≤ s.size) (hs : s.size ≤ 1073741824) (ht : t.size ≤ 1073741824) (hst : standsB s k t = true) :
    Calls Tryz.prog 19 #[.pointer (some ⟨p, 0, none⟩), .string t] w fun e w' => e = .returned (.tuple #[]) ∧ Rq a p s ((k + t.size : Nat) : Int) w' ∧ Fr p w w' := by
  have HT := takes_yes a p s t k w h hk hs ht hst
  clear h hst
  go_enter Tryz.func19, Tryz.ntmps19
  go_wp2_with fail
  refine HT.mono ?_
  rintro e w1 ⟨rfl, H1, F1⟩
  have HH : Hid (Rq a p s ((k + t.size : Nat) : Int) w1 ∧ Fr p w w1) := ⟨H1, F1⟩
  clear HT H1 F1
  go_wp2_with fail
  refine (must_yes _).mono ?_
  rintro e w2 ⟨rfl, rfl⟩
  go_wp2_with fail
  exact bodyPost_end (results_none rfl _ _ _) rfl ⟨rfl, HH.out⟩
set_option maxHeartbeats 1000000 in
theorem want_no (a : Addr) (p : Nat) (s t : ByteArray) (k : Nat) (w : World) (h : Rq a p s (k : Int) w) (hk : k ≤ s.size) (hst : standsB s k t = false) :
    Calls Tryz.prog 19 #[.pointer (some ⟨p, 0, none⟩), .string t] w fun e w' => e = PanE a ∧ Fr p w w' := by
  have HT := takes_no a p s t k w h hk hst
  clear h hst
  go_enter Tryz.func19, Tryz.ntmps19
  go_wp2_with fail
  refine HT.mono ?_
  rintro e w1 ⟨rfl, H1, F1⟩
  have hE := H1.2.x.1.2
  have HH : Hid (Fr p w w1) := F1
  clear HT H1 F1
  go_wp2_with fail
  refine (must_no a _ hE).mono ?_
  rintro e w2 ⟨rfl, rfl⟩
  go_wp2_with fail
  exact ⟨rfl, rfl, HH.out⟩

end Go.Proofs.YtkngdlbedelgnaaGreatDoor.Sg

namespace Go.Proofs.YtkngdlbedelgnaaGreatDoor.Sg
open Go.ChangeShapes Go.WideShapes Go.ChangeAt Go.RowKit

set_option maxHeartbeats 2000000 in
theorem specSwap (s which : ByteArray) (ws : List (List UInt8)) (b : Nat) (n cap : Nat) (w : World) (hs : s.size ≤ 1099511627776) (hw : which.size ≤ 100) (hT : Texts w b ws) (hn : ws.length = n) (hn2 : which.size = n) (hlen : ∀ t ∈ ws, t.length ≤ 100) :
    Calls Tryz.prog 61 #[.string s, .string which, .slice (some ⟨b, 0, none⟩) n cap] w fun e w' => e = .returned (.string (strB (swapL which.data.toList ws s.data.toList))) ∧ Below w.heap.size w w' := by
  obtain ⟨i0, hi0, hz0, hz1, hz2⟩ := info_parts info_byte
  have Hi : Hid (Tryz.prog.info? 5 = some i0) := hi0
  have Hz0 : Hid (i0.zero = some (.int .u8 0)) := hz0
  have Hz1 : Hid (i0.size = 1) := hz1
  have Hz2 : Hid (i0.bytes = 1) := hz2
  have HT : Hid (Texts w b ws) := hT
  have Hn : Hid (ws.length = n ∧ which.size = n) := ⟨hn, hn2⟩
  have Hlen : Hid (∀ t ∈ ws, t.length ≤ 100) := hlen
  clear hi0 hz0 hz1 hz2 hT hn hn2 hlen
  go_enter Tryz.func61, Tryz.ntmps61
  go_wp2
  go_loopw [7, 8] (fun v i wr => ∃ (k : Nat) (acc : List UInt8), k ≤ s.size ∧ acc.length ≤ 100 * k ∧ i = .int .i64 k ∧ wr.ownsRow w.heap.size 5 1 v acc.length (Lib.byteCells acc) ∧ Below w.heap.size w wr ∧ Hid (acc ++ swapL which.data.toList ws (tailL s k) = swapL which.data.toList ws s.data.toList)) (fun _ i _ => s.size - (intOf i).toNat)
  case atStart =>
    refine ⟨0, [], Nat.zero_le _, Nat.zero_le _, rfl, ⟨rfl, .inr ⟨w.heap.size, 0, #[], rfl, Nat.le_refl _, ?_, Nat.le_refl _, Nat.zero_le _, rfl, rfl⟩⟩, (Below.refl _ _).alloc (Nat.le_refl _) _, rfl⟩
    show (w.heap.push _)[w.heap.size]? = _
    simp
  case round =>
    obtain ⟨k, acc, hk, hal, rfl, hown, hbel, Hacc⟩ := hrel
    by_cases hlt : k < s.size
    · have hst := swapL_step which.data.toList ws s k hlt
      have Hc := fun w => specFind which 0 (s[k]'hlt) w (Nat.zero_le _) (by omega)
      rw [findE_zero] at Hc
      cases hr : findL (s[k]'hlt) which.data.toList with
      | none =>
        have Hst : Hid ((acc ++ [s[k]'hlt]) ++ swapL which.data.toList ws (tailL s (k + 1)) = swapL which.data.toList ws s.data.toList) := by
          show _ = _
          rw [← Hacc.out, hst]
          unfold swap1
          rw [hr]
          simp
        rw [hr] at Hc
        clear hst Hacc hr
        go_wp2_with fail
        refine (Hc _).mono ?_
        rintro e w1 ⟨rfl, rfl⟩
        simp only [findV]
        go_wp2_with (at_builtin; refine wpList_append_own _ rfl (.tmp 24) (.tmp 28) 49 rfl w.heap.size 5 i0 (.int .u8 0) 1 1 Tryz.underlying49 Hi.out Hz0.out Hz1.out Hz2.out rfl (by decide) _ acc.length (Lib.byteCells acc) rfl (hown.alloc _) ⟨_, 0, none⟩ 1 1 [.int .u8 ((s[k]'hlt).toNat : Int)] rfl rfl (one_byte_at _ _ _) (one_byte_one _) ?c3 ?c4 ?c5 ?_)
        case c3 => unfold maxLen; omega
        case c4 => omega
        case c5 => have := hbel.size; first | omega | (simp; omega)
        intro v' w2 hown' hgrow _
        have hbel2 : Below w.heap.size w w2 := own_grown (hown.alloc _) (hbel.alloc hbel.size _) (Nat.le_refl _) hgrow (by have := hbel.size; simp; omega)
        have hown2 : w2.ownsRow w.heap.size 5 1 v' (acc ++ [s[k]'hlt]).length (Lib.byteCells (acc ++ [s[k]'hlt])) := by
          rw [List.length_append, byteCells_more]
          exact hown'
        clear hown' hgrow hown hbel
        go_wp2
        go_roundw
        case rel => exact ⟨k + 1, acc ++ [s[k]'hlt], by omega, by simp; omega, by go_num, hown2, hbel2, Hst⟩
        case measure => simp [intOf]; omega
      | some q =>
        have hq : q < n := by
          have h1 : findE which 0 (s[k]'hlt) = some q := by rw [findE_zero, hr]
          have := (findE_le h1).2
          have := Hn.out.2
          omega
        have hcell := (hbel.cell (p := ⟨b, q, none⟩) HT.out.1).trans (HT.out.2 q (by rw [Hn.out.1]; exact hq))
        have htl : (ws.getD q []).length ≤ 100 := by
          have hq2 : q < ws.length := by rw [Hn.out.1]; exact hq
          apply Hlen.out
          simp [List.getD, hq2]
        have Hst : Hid ((acc ++ ws.getD q []) ++ swapL which.data.toList ws (tailL s (k + 1)) = swapL which.data.toList ws s.data.toList) := by
          show _ = _
          rw [← Hacc.out, hst]
          unfold swap1
          rw [hr, List.append_assoc]
        rw [hr] at Hc
        clear hst Hacc hr
        generalize ws.getD q [] = tl at *
        have Hts : Hid ((strB tl).size = tl.length) := strB_size tl
        have Htd : Hid ((strB tl).data.toList = tl) := by show _ = _; simp [strB]
        generalize strB tl = t at *
        have hts : t.size ≤ 100 := by rw [Hts.out]; exact htl
        have q0 : (0 : Int) ≤ (q : Int) := by omega
        have q1 : (q : Int) < (n : Int) := by omega
        have q2 : ¬ (q : Int) < 0 := by omega
        have q2' : decide ((q : Int) < 0) = false := decide_eq_false q2
        go_wp2_with fail
        refine (Hc _).mono ?_
        rintro e w1 ⟨rfl, rfl⟩
        simp only [findV]
        obtain ⟨cap', W, hrun, hbW, hszW, hcW⟩ := conv_bytes w1 t
        have hownW : W.ownsRow w.heap.size 5 1 _ acc.length (Lib.byteCells acc) := owns_below hown (Nat.le_refl _) hbW
        have hbelW : Below w.heap.size w W := hbel.trans (hbW.mono hbel.size)
        rw [Htd.out] at hcW
        have HcW : Hid (∀ j u, (Lib.byteCells tl)[j]? = some u → W.cell? ((⟨w1.heap.size, 0, none⟩ : Addr).add j) = some u) := hcW
        clear hcW hbW hown hbel
        go_wp2_with (at_builtin; refine wpList_append_own _ rfl (.tmp 30) (.tmp 35) 49 rfl w.heap.size 5 i0 (.int .u8 0) 1 1 Tryz.underlying49 Hi.out Hz0.out Hz1.out Hz2.out rfl (by decide) _ acc.length (Lib.byteCells acc) rfl hownW ⟨w1.heap.size, 0, none⟩ t.size cap' (Lib.byteCells tl) rfl ?c1 HcW.out byteCells_one ?c3 ?c4 hbelW.size ?_)
        case c1 => rw [Lib.byteCells_length, Nat.mul_one, Hts.out]
        case c3 => unfold maxLen; omega
        case c4 => omega
        intro v' w2 hown' hgrow _
        have hbel2 : Below w.heap.size w w2 := own_grown hownW hbelW (Nat.le_refl _) hgrow hbelW.size
        have hown2 : w2.ownsRow w.heap.size 5 1 v' (acc ++ tl).length (Lib.byteCells (acc ++ tl)) := by
          have e1 : (acc ++ tl).length = acc.length + t.size := by rw [List.length_append, Hts.out]
          have e2 : Lib.byteCells (acc ++ tl) = Lib.byteCells acc ++ Lib.byteCells tl := by simp [Lib.byteCells]
          rw [e1, e2]
          exact hown'
        clear hown' hgrow hownW hbelW hrun
        go_wp2
        go_roundw
        case rel => exact ⟨k + 1, acc ++ tl, by omega, by rw [List.length_append]; omega, by go_num, hown2, hbel2, Hst⟩
        case measure => simp [intOf]; omega
    · have he : acc = swapL which.data.toList ws s.data.toList := by
        have h := Hacc.out
        rw [tailL_end s k hlt, show swapL which.data.toList ws [] = [] from rfl, List.append_nil] at h
        exact h
      have hbk := own_back hown
      have Hbk : Hid (strB acc = strB (swapL which.data.toList ws s.data.toList)) := congrArg strB he
      have hdl : decide ((k : Int) < (s.size : Int)) = false := decide_eq_false (by omega)
      clear he hown Hacc
      go_wp2
      go_ret
      exact ⟨congrArg (fun x => Ending.returned (.string x)) Hbk.out, hbel⟩

end Go.Proofs.YtkngdlbedelgnaaGreatDoor.Sg

namespace Go.Proofs.YtkngdlbedelgnaaGreatDoor.Sg
open Go.ChangeShapes Go.WideShapes Go.ChangeAt Go.RowKit

/-- What the model's XmlText hands back. -/
def textV : Option (List UInt8 × Nat) → Value
  | none => .tuple #[.string ⟨#[]⟩, .int .i64 (-1)]
  | some r => .tuple #[.string (strB r.1), .int .i64 (r.2 : Int)]
theorem findL_in (b : UInt8) (l : List UInt8) : l.contains b = (findL b l).isSome := by
  induction l with
  | nil => rfl
  | cons x l ih =>
    rw [List.contains_cons, ih]
    show _ = (if x = b then some 0 else Option.map (· + 1) (findL b l)).isSome
    by_cases h : x = b
    · rw [if_pos h, h]
      simp
    · rw [if_neg h]
      have : (b == x) = false := by rw [beq_eq_false_iff_ne]; exact fun e => h e.symm
      rw [this]
      cases findL b l <;> rfl

set_option maxHeartbeats 1000000 in
theorem specXmlText_out (s : ByteArray) (at' : Int) (e0 : ByteArray) (w : World) (h : at' < 0 ∨ (s.size : Int) < at') :
    Calls Tryz.prog 58 #[.string s, .int .i64 at', .string e0] w fun e w' => e = .returned (.tuple #[.string ⟨#[]⟩, .int .i64 (-1)]) ∧ w' = w := by
  by_cases h0 : at' < 0
  · have g0 : decide (at' < 0) = true := decide_eq_true h0
    clear h
    go_enter Tryz.func58, Tryz.ntmps58
    go_wp2_with fail
    go_ret2
    exact ⟨rfl, rfl⟩
  · have g0 : decide (at' < 0) = false := decide_eq_false h0
    have g1 : decide ((s.size : Int) < at') = true := decide_eq_true (by omega)
    clear h
    go_enter Tryz.func58, Tryz.ntmps58
    go_wp2_with fail
    go_ret2
    exact ⟨rfl, rfl⟩

theorem map_none {acc : List UInt8} {x : Option (List UInt8 × Nat)} (h : x = none) : x.map (fun r => (acc ++ r.1, r.2)) = none := by rw [h]; rfl
theorem map_more {acc t : List UInt8} {x y : Option (List UInt8 × Nat)} (h : x = y.map (fun r => (t ++ r.1, r.2))) : x.map (fun r => (acc ++ r.1, r.2)) = y.map (fun r => ((acc ++ t) ++ r.1, r.2)) := by
  rw [h]
  cases y with
  | none => rfl
  | some r => simp

set_option maxRecDepth 20000 in
set_option maxHeartbeats 8000000 in
theorem specXmlText_in (s : ByteArray) (a : Nat) (e0 : ByteArray) (w : World) (ha : a ≤ s.size) (hs : s.size ≤ 1099511627776) (he : e0.size ≤ 1099511627776) :
    Calls Tryz.prog 58 #[.string s, .int .i64 (a : Int), .string e0] w fun e w' => e = .returned (textV (xtextR s e0.data.toList a)) ∧ Below w.heap.size w w' := by
  obtain ⟨R, HR⟩ : ∃ R, Hid (xtextR s e0.data.toList a = R) := ⟨_, rfl⟩
  rw [HR.out]
  obtain ⟨i0, hi0, hz0, hz1, hz2⟩ := info_parts info_byte
  have Hi : Hid (Tryz.prog.info? 5 = some i0) := hi0
  have Hz0 : Hid (i0.zero = some (.int .u8 0)) := hz0
  have Hz1 : Hid (i0.size = 1) := hz1
  have Hz2 : Hid (i0.bytes = 1) := hz2
  clear hi0 hz0 hz1 hz2
  have g0 : decide ((a : Int) < 0) = false := decide_eq_false (by omega)
  have g1 : decide ((s.size : Int) < (a : Int)) = false := decide_eq_false (by omega)
  have g2 : decide (s.size < a) = false := decide_eq_false (by omega)
  go_enter Tryz.func58, Tryz.ntmps58
  go_wp2_with fail
  go_loopw [8, 9] (fun v i wr => ∃ (k : Nat) (acc : List UInt8), a ≤ k ∧ k ≤ s.size ∧ acc.length ≤ 4 * (k - a) ∧ i = .int .i64 (k : Int) ∧ wr.ownsRow w.heap.size 5 1 v acc.length (Lib.byteCells acc) ∧ Below w.heap.size w wr ∧ Hid ((xtextR s e0.data.toList k).map (fun r => (acc ++ r.1, r.2)) = R)) (fun _ i _ => s.size - (intOf i).toNat)
  case atStart =>
    refine ⟨a, [], Nat.le_refl _, ha, Nat.zero_le _, rfl, ⟨rfl, .inr ⟨w.heap.size, 0, #[], rfl, Nat.le_refl _, ?_, Nat.le_refl _, Nat.zero_le _, rfl, rfl⟩⟩, (Below.refl _ _).alloc (Nat.le_refl _) _, ?_⟩
    · show (w.heap.push _)[w.heap.size]? = _
      simp
    · show _ = _
      rw [HR.out]
      cases R <;> simp
  case round =>
    obtain ⟨k, acc, hak, hk, hal, rfl, hown, hbel, HK⟩ := hrel
    clear g0 g1 g2 HR
    have q0 : (0 : Int) ≤ (k : Int) := by omega
    by_cases hlt : k < s.size
    · have Hf := fun W => specFind e0 0 (s[k]'hlt) W (Nat.zero_le _) (by omega)
      rw [findE_zero] at Hf
      have gl : (k : Int) < (s.size : Int) := by omega
      cases hr : findL (s[k]'hlt) e0.data.toList with
      | some q =>
        have HX := xtextR_stop hlt (by rw [findL_in, hr]; rfl)
        obtain rfl : some (acc, k) = R := by
          rw [← HK.out, HX]
          simp
        have hbk := own_back hown
        clear HX HK hown
        rw [hr] at Hf
        clear hr
        go_wp2_with fail
        refine (Hf _).mono ?_
        rintro e w1 ⟨rfl, rfl⟩
        simp only [findV]
        have gq : decide ((q : Int) < 0) = false := decide_eq_false (by omega)
        go_wp2_with fail
        go_ret2
        exact ⟨rfl, hbel⟩
      | none =>
        rw [hr] at Hf
        go_wp2_with fail
        refine (Hf _).mono ?_
        rintro e w0 ⟨rfl, rfl⟩
        simp only [findV]
        clear Hf
        by_cases h38 : (s[k]'hlt).toNat = 38
        · have g38 : (((s[k]'hlt).toNat : Int) == 38) = true := by rw [h38]; rfl
          have Hr := fun W => specXmlRef_in s k W hlt (by omega)
          have hno : e0.data.toList.contains (s[k]'hlt) = false := by rw [findL_in, hr]; rfl
          have h38' : s[k]'hlt = 38 := UInt8.toNat_inj.1 h38
          clear hr
          cases hx : xrefR s k with
          | none =>
            have HX := xtextR_none hlt hno h38' hx
            rw [hx] at Hr
            obtain rfl : none = R := (map_none HX).symm.trans HK.out
            clear HX HK
            clear hx h38 h38' hno
            go_wp2_with fail
            refine (Hr _).mono ?_
            rintro e w1 ⟨rfl, b1⟩
            simp only [xrefV]
            go_wp2_with fail
            go_ret2
            exact ⟨rfl, below_from hbel b1⟩
          | some tj =>
            obtain ⟨t, j⟩ := tj
            have HX := xtextR_ref hlt hno h38' hx
            have hl := xrefR_le hx
            rw [hx] at Hr
            clear hx h38 h38' hno
            go_wp2_with fail
            refine (Hr _).mono ?_
            rintro e w1 ⟨rfl, b1⟩
            simp only [xrefV]
            have gj : decide ((j : Int) < 0) = false := decide_eq_false (by omega)
            replace hown := owns_below hown (Nat.le_refl _) b1
            replace hbel := below_from hbel b1
            clear b1
            have HX2 : Hid ((xtextR s e0.data.toList j).map (fun r => ((acc ++ t.data.toList) ++ r.1, r.2)) = R) := (map_more HX).symm.trans HK.out
            clear HX HK
            generalize hts : t.data.toList = tl at *
            have Hts : Hid ((t).size = tl.length) := by show _ = _; rw [← hts, Array.length_toList]; rfl
            have Htd : Hid ((t).data.toList = tl) := hts
            clear hts
            obtain ⟨cap', W, hrun, hbW, hszW, hcW⟩ := conv_bytes w1 (t)
            have hownW : W.ownsRow w.heap.size 5 1 _ acc.length (Lib.byteCells acc) := owns_below hown (Nat.le_refl _) hbW
            have hbelW : Below w.heap.size w W := below_from hbel hbW
            rw [Htd.out] at hcW
            have HcW : Hid (∀ j u, (Lib.byteCells tl)[j]? = some u → W.cell? ((⟨w1.heap.size, 0, none⟩ : Addr).add j) = some u) := hcW
            clear hcW hbW hown hbel
            go_wp2_with (at_builtin; refine wpList_append_own _ rfl (.tmp 48) (.tmp 50) 49 rfl w.heap.size 5 i0 (.int .u8 0) 1 1 Tryz.underlying49 Hi.out Hz0.out Hz1.out Hz2.out rfl (by decide) _ acc.length (Lib.byteCells acc) rfl hownW ⟨w1.heap.size, 0, none⟩ t.size cap' (Lib.byteCells tl) rfl ?c1 HcW.out byteCells_one ?c3 ?c4 hbelW.size ?_)
            case c1 => rw [Lib.byteCells_length, Nat.mul_one]; exact Hts.out.symm
            case c3 => unfold maxLen; omega
            case c4 => omega
            intro v' w2 hown' hgrow _
            have hbel2 : Below w.heap.size w w2 := own_grown hownW hbelW (Nat.le_refl _) hgrow hbelW.size
            have hown2 : w2.ownsRow w.heap.size 5 1 v' (acc ++ tl).length (Lib.byteCells (acc ++ tl)) := by
              have e1 : (acc ++ tl).length = acc.length + t.size := by rw [List.length_append, ← Hts.out]
              have e2 : Lib.byteCells (acc ++ tl) = Lib.byteCells acc ++ Lib.byteCells tl := by simp [Lib.byteCells]
              rw [e1, e2]
              exact hown'
            clear hown' hgrow hownW hbelW hrun
            go_wp2_with fail
            go_roundw
            case rel => exact ⟨j, acc ++ tl, by omega, by omega, by rw [List.length_append, ← Hts.out]; omega, by go_num, hown2, hbel2, HX2⟩
            case measure => simp [intOf]; omega
        · have g38 : (((s[k]'hlt).toNat : Int) == 38) = false := by rw [beq_eq_false_iff_ne]; omega
          have hno : e0.data.toList.contains (s[k]'hlt) = false := by rw [findL_in, hr]; rfl
          have h38' : ¬ s[k]'hlt = 38 := fun h => h38 (by rw [h]; rfl)
          clear hr h38
          have hm := getS_many s k hlt
          have hsg : xsignB s k = (textB ((getS s k).1 : Int) && (decide ((getS s k).1 ≠ 13) && (decide ((getS s k).1 ≠ 60) && (asRead s k && !standsB s k closeB)))) := rfl
          have har : asRead s k = ((putS ((getS s k).1 : Int)).toList == (s.extract k (k + (getS s k).2)).toList) := rfl
          have Hg := fun W => specGet_in s k W hlt (by omega)
          generalize hn : (getS s k).1 = n at *
          generalize hmm : (getS s k).2 = m at *
          have q3 : IntKind.i64.wrap ((k : Int) + (m : Int)) = (k : Int) + (m : Int) := IntWalk.i64_in _ (by omega)
          have q4 : (k : Int) ≤ (k : Int) + (m : Int) := by omega
          have q5 : (k : Int) + (m : Int) ≤ (s.size : Int) := by omega
          have q6 : (0 : Int) ≤ (k : Int) + (m : Int) := by omega
          have q7 : ((k : Int) + (m : Int)).toNat = k + m := by omega
          have q8 : (0 : Int) ≤ (k : Int) := by omega
          go_wp2_with fail
          refine (Hg _).mono ?_
          rintro e w1 ⟨rfl, rfl⟩
          clear Hg
          go_upto_region 13 with fail
          have HT : ∀ W, Calls Tryz.prog 81 #[.int .i64 (n : Int)] W fun e w' => e = .returned (.bool (textB (n : Int))) ∧ Below W.heap.size W w' := fun W => (specIsText (n : Int) W).mono fun e w' h => ⟨h.1, h.2 ▸ Below.refl _ _⟩
          have HP := fun W => specPutSign (n : Int) W
          have HS : ∀ W, Calls Tryz.prog 11 #[.string s, .int .i64 (k : Int), .string ⟨#[93, 93, 62]⟩] W fun e w' => e = .returned (.bool (standsB s k closeB)) ∧ Below W.heap.size W w' := fun W => (specStands s k closeB W (by omega) (by omega) (by decide)).mono fun e w' h => ⟨h.1, h.2 ▸ Below.refl _ _⟩
          cases ht : textB (n : Int)
          · rw [ht] at HT
            have HX := xtextR_bad hlt hno h38' (by rw [hsg]; rw [ht]; rfl)
            obtain rfl : none = R := (map_none HX).symm.trans HK.out
            clear HX HK
            clear hsg hno h38' har
            have cT := fun d os => Calls.regrown_of (w := w1) (HT (Sort.grow (redrawn w1 d) os))
            clear HT HP HS
            refine wp_region_quiet_below (by kernel_rfl) (by kernel_rfl) ?_
            repeat (go_big_quiet_step (first | exact cT _ _))
            refine wpQuiet_nil ?_
            intro _ hw'
            obtain ⟨⟨dq, osq⟩, hw''⟩ := hw'
            subst hw''
            have bfin := below_regrown w1 dq osq
            generalize Sort.grow (redrawn w1 dq) osq = W1 at *
            go_wp2_with fail
            go_ret2
            exact ⟨rfl, below_from hbel bfin⟩
          · rw [ht] at HT
            by_cases h13 : n = 13
            · have g13 : ((n : Int) == 13) = true := by rw [h13]; rfl
              have HX := xtextR_bad hlt hno h38' (by rw [hsg]; rw [show decide (n ≠ 13) = false from decide_eq_false (fun h => h h13)]; simp)
              obtain rfl : none = R := (map_none HX).symm.trans HK.out
              clear HX HK
              clear hsg hno h38' har h13
              have cT := fun d os => Calls.regrown_of (w := w1) (HT (Sort.grow (redrawn w1 d) os))
              clear HT HP HS
              refine wp_region_quiet_below (by kernel_rfl) (by kernel_rfl) ?_
              repeat (go_big_quiet_step (first | exact cT _ _))
              refine wpQuiet_nil ?_
              intro _ hw'
              obtain ⟨⟨dq, osq⟩, hw''⟩ := hw'
              subst hw''
              have bfin := below_regrown w1 dq osq
              generalize Sort.grow (redrawn w1 dq) osq = W1 at *
              go_wp2_with fail
              go_ret2
              exact ⟨rfl, below_from hbel bfin⟩
            · have g13 : ((n : Int) == 13) = false := by rw [beq_eq_false_iff_ne]; omega
              by_cases h60 : n = 60
              · have g60 : ((n : Int) == 60) = true := by rw [h60]; rfl
                have HX := xtextR_bad hlt hno h38' (by rw [hsg]; rw [show decide (n ≠ 60) = false from decide_eq_false (fun h => h h60)]; simp)
                obtain rfl : none = R := (map_none HX).symm.trans HK.out
                clear HX HK
                clear hsg hno h38' har h60
                have cT := fun d os => Calls.regrown_of (w := w1) (HT (Sort.grow (redrawn w1 d) os))
                clear HT HP HS
                refine wp_region_quiet_below (by kernel_rfl) (by kernel_rfl) ?_
                repeat (go_big_quiet_step (first | exact cT _ _))
                refine wpQuiet_nil ?_
                intro _ hw'
                obtain ⟨⟨dq, osq⟩, hw''⟩ := hw'
                subst hw''
                have bfin := below_regrown w1 dq osq
                generalize Sort.grow (redrawn w1 dq) osq = W1 at *
                go_wp2_with fail
                go_ret2
                exact ⟨rfl, below_from hbel bfin⟩
              · have g60 : ((n : Int) == 60) = false := by rw [beq_eq_false_iff_ne]; omega
                cases hc : ((putS (n : Int)).toList == (s.extract k (k + m)).toList)
                · have HX := xtextR_bad hlt hno h38' (by rw [hsg]; rw [har, hc]; simp)
                  obtain rfl : none = R := (map_none HX).symm.trans HK.out
                  clear HX HK
                  clear hsg hno h38' har
                  have cT := fun d os => Calls.regrown_of (w := w1) (HT (Sort.grow (redrawn w1 d) os))
                  have cP := fun d os => Calls.regrown_of (w := w1) (HP (Sort.grow (redrawn w1 d) os))
                  clear HT HP HS
                  refine wp_region_quiet_below (by kernel_rfl) (by kernel_rfl) ?_
                  repeat (go_big_quiet_step (first | exact cT _ _ | exact cP _ _))
                  refine wpQuiet_nil ?_
                  intro _ hw'
                  obtain ⟨⟨dq, osq⟩, hw''⟩ := hw'
                  subst hw''
                  have bfin := below_regrown w1 dq osq
                  generalize Sort.grow (redrawn w1 dq) osq = W1 at *
                  go_wp2_with fail
                  go_ret2
                  exact ⟨rfl, below_from hbel bfin⟩
                · cases hb : standsB s k closeB
                  · rw [hb] at HS
                    have HX := xtextR_sign hlt hno h38' (by rw [hsg, har, ht, hc, hb, decide_eq_true h13, decide_eq_true h60]; rfl)
                    rw [hmm] at HX
                    clear hsg hno h38' har
                    have cT := fun d os => Calls.regrown_of (w := w1) (HT (Sort.grow (redrawn w1 d) os))
                    have cP := fun d os => Calls.regrown_of (w := w1) (HP (Sort.grow (redrawn w1 d) os))
                    have cS := fun d os => Calls.regrown_of (w := w1) (HS (Sort.grow (redrawn w1 d) os))
                    clear HT HP HS
                    refine wp_region_quiet_below (by kernel_rfl) (by kernel_rfl) ?_
                    repeat (go_big_quiet_step (first | exact cT _ _ | exact cP _ _ | exact cS _ _))
                    refine wpQuiet_nil ?_
                    intro _ hw'
                    obtain ⟨⟨dq, osq⟩, hw''⟩ := hw'
                    subst hw''
                    have bfin := below_regrown w1 dq osq
                    generalize Sort.grow (redrawn w1 dq) osq = W1 at *
                    replace hown := owns_below hown (Nat.le_refl _) bfin
                    replace hbel := below_from hbel bfin
                    clear bfin
                    have hsz : (s.extract k (k + m)).size = m := by rw [ByteArray.size_extract]; omega
                    have HX2 : Hid ((xtextR s e0.data.toList (k + m)).map (fun r => ((acc ++ (s.extract k (k + m)).data.toList) ++ r.1, r.2)) = R) := (map_more HX).symm.trans HK.out
                    clear HX HK
                    generalize hts : (s.extract k (k + m)).data.toList = tl at *
                    have Hts : Hid ((s.extract k (k + m)).size = tl.length) := by show _ = _; rw [← hts, Array.length_toList]; rfl
                    have Htd : Hid ((s.extract k (k + m)).data.toList = tl) := hts
                    clear hts
                    obtain ⟨cap', W, hrun, hbW, hszW, hcW⟩ := conv_bytes W1 (s.extract k (k + m))
                    rw [hsz] at hrun
                    have hownW : W.ownsRow w.heap.size 5 1 _ acc.length (Lib.byteCells acc) := owns_below hown (Nat.le_refl _) hbW
                    have hbelW : Below w.heap.size w W := below_from hbel hbW
                    rw [Htd.out] at hcW
                    have HcW : Hid (∀ j u, (Lib.byteCells tl)[j]? = some u → W.cell? ((⟨W1.heap.size, 0, none⟩ : Addr).add j) = some u) := hcW
                    clear hcW hbW hown hbel
                    go_wp2_with (at_builtin; refine wpList_append_own _ rfl (.tmp 86) (.tmp 93) 49 rfl w.heap.size 5 i0 (.int .u8 0) 1 1 Tryz.underlying49 Hi.out Hz0.out Hz1.out Hz2.out rfl (by decide) _ acc.length (Lib.byteCells acc) rfl hownW ⟨W1.heap.size, 0, none⟩ m cap' (Lib.byteCells tl) rfl ?c1 HcW.out byteCells_one ?c3 ?c4 hbelW.size ?_)
                    case c1 => rw [Lib.byteCells_length, Nat.mul_one]; rw [← Hts.out]; exact hsz
                    case c3 => unfold maxLen; omega
                    case c4 => omega
                    intro v' w2 hown' hgrow _
                    have hbel2 : Below w.heap.size w w2 := own_grown hownW hbelW (Nat.le_refl _) hgrow hbelW.size
                    have hown2 : w2.ownsRow w.heap.size 5 1 v' (acc ++ tl).length (Lib.byteCells (acc ++ tl)) := by
                      have e1 : (acc ++ tl).length = acc.length + m := by rw [List.length_append, ← Hts.out]; rw [hsz]
                      have e2 : Lib.byteCells (acc ++ tl) = Lib.byteCells acc ++ Lib.byteCells tl := by simp [Lib.byteCells]
                      rw [e1, e2]
                      exact hown'
                    clear hown' hgrow hownW hbelW hrun
                    go_wp2_with fail
                    go_roundw
                    case rel => exact ⟨(k + m), acc ++ tl, by omega, by omega, by rw [List.length_append, ← Hts.out]; omega, by go_num, hown2, hbel2, HX2⟩
                    case measure => simp [intOf]; omega
                  · rw [hb] at HS
                    have HX := xtextR_bad hlt hno h38' (by rw [hsg]; rw [hb]; simp)
                    obtain rfl : none = R := (map_none HX).symm.trans HK.out
                    clear HX HK
                    clear hsg hno h38' har
                    have cT := fun d os => Calls.regrown_of (w := w1) (HT (Sort.grow (redrawn w1 d) os))
                    have cP := fun d os => Calls.regrown_of (w := w1) (HP (Sort.grow (redrawn w1 d) os))
                    have cS := fun d os => Calls.regrown_of (w := w1) (HS (Sort.grow (redrawn w1 d) os))
                    clear HT HP HS
                    refine wp_region_quiet_below (by kernel_rfl) (by kernel_rfl) ?_
                    repeat (go_big_quiet_step (first | exact cT _ _ | exact cP _ _ | exact cS _ _))
                    refine wpQuiet_nil ?_
                    intro _ hw'
                    obtain ⟨⟨dq, osq⟩, hw''⟩ := hw'
                    subst hw''
                    have bfin := below_regrown w1 dq osq
                    generalize Sort.grow (redrawn w1 dq) osq = W1 at *
                    go_wp2_with fail
                    go_ret2
                    exact ⟨rfl, below_from hbel bfin⟩
    · have HX := xtextR_end (e := e0.data.toList) hlt
      obtain rfl : some (acc, k) = R := by
        rw [← HK.out, HX]
        simp
      have hbk := own_back hown
      clear HX HK hown
      have gl : decide ((k : Int) < (s.size : Int)) = false := decide_eq_false (by omega)
      have gl' : decide (k < s.size) = false := decide_eq_false hlt
      go_wp2_with fail
      go_ret2
      exact ⟨rfl, hbel⟩

end Go.Proofs.YtkngdlbedelgnaaGreatDoor.Sg

namespace Go.Proofs.YtkngdlbedelgnaaGreatDoor.Sg
open Go.ChangeShapes Go.WideShapes Go.ChangeAt Go.RowKit

/-- Spans, their ends one behind the other from a block's beginning. -/
def Pairs (w : World) (b : Nat) (l : List (Int × Int)) : Prop :=
  b < w.heap.size ∧ ∀ k, k < l.length → w.cell? ⟨b, k * 2, none⟩ = some (.int .i64 (l.getD k (0, 0)).1) ∧ w.cell? ⟨b, k * 2 + 1, none⟩ = some (.int .i64 (l.getD k (0, 0)).2)

set_option maxHeartbeats 1000000 in
theorem specIsLetter (n : Int) (w : World) :
    Calls Tryz.prog 85 #[.int .i64 n] w fun e w' => e = .returned (.bool (letterB n)) ∧ w' = w := by
  have Hw : Hid (letterB n = (inP n (97, 122) || inP n (65, 90))) := by
    show letterB n = _
    unfold letterB letterL withinB
    rw [List.any_cons, List.any_cons, List.any_nil, Bool.or_false, Bool.or_comm]
  go_enter Tryz.func85, Tryz.ntmps85
  go_wp2_with fail
  refine (l1In_kd n 97 122 _).mono ?_
  rintro e w1 ⟨rfl, rfl⟩
  cases hl : inP n (97, 122)
  · have Hl : Hid (letterB n = inP n (65, 90)) := by show letterB n = _; rw [Hw.out, hl]; rfl
    clear hl Hw
    go_wp2_with fail
    refine (l1In_kd n 65 90 _).mono ?_
    rintro e w1 ⟨rfl, rfl⟩
    go_wp2
    go_ret
    exact ⟨ret_bool Hl.out.symm, rfl⟩
  · have Hl : Hid (letterB n = true) := by show letterB n = _; rw [Hw.out, hl]; rfl
    clear hl Hw
    go_wp2
    go_ret
    exact ⟨ret_bool Hl.out.symm, rfl⟩

set_option maxHeartbeats 1000000 in
theorem l2Within_any (n : Int) (b m cap : Nat) (l : List (Int × Int)) (w : World) (hs : Pairs w b l) (hm : l.length * 2 = m) (hl : m ≤ 1000) :
    Calls Tryz.prog 86 #[.slice (some ⟨b, 0, none⟩) m cap, .int .i64 n] w fun e w' => e = .returned (.bool (withinB l n)) ∧ Below w.heap.size w w' := by
  obtain ⟨hb, hc⟩ := hs
  have Hm : Hid (l.length * 2 = m) := hm
  have Hc : Hid (∀ k, k < l.length → w.cell? ⟨b, k * 2, none⟩ = some (.int .i64 (l.getD k (0, 0)).1) ∧ w.cell? ⟨b, k * 2 + 1, none⟩ = some (.int .i64 (l.getD k (0, 0)).2)) := hc
  clear hm hc
  go_enter Tryz.func86, Tryz.ntmps86
  go_wp2
  go_loopw [5] (fun i wr => ∃ k : Nat, k * 2 ≤ m ∧ i = .int .i64 ((k * 2 : Nat) : Int) ∧ withinB l n = withinB (l.drop k) n ∧ Below w.heap.size w wr) (fun i _ => m - (intOf i).toNat)
  case atStart => exact ⟨0, Nat.zero_le _, rfl, rfl, Below.refl _ _⟩
  case round =>
    obtain ⟨k, hk, rfl, hsp, hbel⟩ := hrel
    have Hsp : Hid (withinB l n = withinB (l.drop k) n) := hsp
    clear hsp
    by_cases hlk : k * 2 + 1 < m
    · have hkl : k < l.length := by have := Hm.out; omega
      have hd := within_drop l n k hkl
      have hc := Hc.out k hkl
      generalize hp : l.getD k (0, 0) = p at *
      clear hp
      obtain ⟨lo, hi⟩ := p
      obtain ⟨c1, c2⟩ := hc
      have h1 : wr.cell? ⟨b, k * 2, none⟩ = some (.int .i64 lo) := (hbel.cell (by exact hb)).trans c1
      have h2 : wr.cell? ⟨b, k * 2 + 1, none⟩ = some (.int .i64 hi) := (hbel.cell (by exact hb)).trans c2
      have Hd : Hid (withinB (l.drop k) n = (inP n (lo, hi) || withinB (l.drop (k + 1)) n)) := hd
      clear hd hkl c1 c2
      have hix : ((k * 2 : Nat) : Int) + 1 < (m : Int) := by omega
      cases hin : inP n (lo, hi)
      · have Hv : Hid (∀ w : World, Calls Tryz.prog 57 #[.int .i64 n, .int .i64 lo, .int .i64 hi] w fun e w' => e = .returned (.bool false) ∧ w' = w) := by
          intro w
          have h := l1In_kd n lo hi w
          rw [hin] at h
          exact h
        have Hnx : Hid (withinB l n = withinB (l.drop (k + 1)) n) := by show _ = _; rw [Hsp.out, Hd.out, hin]; rfl
        clear hin Hsp Hd
        go_wp2_with fail
        go_quiet ((go_at_call 57; exact Calls.quiet_of_same (Hv.out _)))
        go_wp2_with fail
        go_roundw
        case rel => exact ⟨k + 1, by omega, by go_num, Hnx.out, drew_kd hbel _⟩
        case measure => simp [intOf]; omega
      · have Hv : Hid (∀ w : World, Calls Tryz.prog 57 #[.int .i64 n, .int .i64 lo, .int .i64 hi] w fun e w' => e = .returned (.bool true) ∧ w' = w) := by
          intro w
          have h := l1In_kd n lo hi w
          rw [hin] at h
          exact h
        have Hnx : Hid (withinB l n = true) := by show _ = _; rw [Hsp.out, Hd.out, hin]; rfl
        clear hin Hsp Hd
        go_wp2_with fail
        go_quiet ((go_at_call 57; exact Calls.quiet_of_same (Hv.out _)))
        go_wp2_with fail
        go_ret
        exact ⟨ret_bool Hnx.out.symm, drew_kd hbel _⟩
    · have Hnx : Hid (withinB l n = false) := by
        show _ = _
        have hd : l.drop k = [] := List.drop_eq_nil_of_le (by have := Hm.out; omega)
        rw [Hsp.out, hd]
        rfl
      have hd : decide (((k * 2 : Nat) : Int) + 1 < (m : Int)) = false := decide_eq_false (by omega)
      go_wp2
      go_ret
      exact ⟨ret_bool Hnx.out.symm, hbel⟩

def pairCells : List (Int × Int) → List Value
  | [] => []
  | p :: l => .int .i64 p.1 :: .int .i64 p.2 :: pairCells l

theorem pairCells_at : ∀ (l : List (Int × Int)) (k : Nat), k < l.length → (pairCells l)[k * 2]? = some (.int .i64 (l.getD k (0, 0)).1) ∧ (pairCells l)[k * 2 + 1]? = some (.int .i64 (l.getD k (0, 0)).2)
  | [], k, h => absurd h (Nat.not_lt_zero _)
  | p :: l, 0, _ => by simp [pairCells]
  | p :: l, k + 1, h => by
    have ih := pairCells_at l k (by simpa using h)
    have e1 : (k + 1) * 2 = k * 2 + 1 + 1 := by omega
    rw [e1]
    simpa [pairCells] using ih

theorem Pairs.laid (w : World) (l : List (Int × Int)) (C : Array Value) (t : TypeId) (hC : C = (pairCells l).toArray) : Pairs (w.alloc (.cells C t)) w.heap.size l := by
  subst hC
  refine ⟨by simp, fun k hk => ?_⟩
  obtain ⟨h1, h2⟩ := pairCells_at l k hk
  rw [World.cell?_alloc_new, World.cell?_alloc_new, List.getElem?_toArray, List.getElem?_toArray]
  exact ⟨h1, h2⟩

set_option maxHeartbeats 1000000 in
theorem specIsFirst (n : Int) (w : World) :
    Calls Tryz.prog 51 #[.int .i64 n] w fun e w' => e = .returned (.bool (firstB n)) ∧ Below w.heap.size w w' := by
  have hsp := first_split n
  go_enter Tryz.func51, Tryz.ntmps51
  go_wp2_with fail
  refine (specIsLetter n _).mono ?_
  rintro e w ⟨rfl, rfl⟩
  cases hl : letterB n
  · rw [hl, Bool.false_or] at hsp
    by_cases h95 : n = 95
    · rw [decide_eq_true h95, Bool.true_or] at hsp
      have Hsp : Hid (firstB n = true) := hsp
      have g1 : (n == 95) = true := by simp [h95]
      clear hsp hl h95
      go_wp2
      go_ret
      exact ⟨ret_bool Hsp.out.symm, Below.refl _ _⟩
    · rw [decide_eq_false h95, Bool.false_or] at hsp
      have Hsp : Hid (firstB n = withinB firstR n) := hsp
      have g1 : (n == 95) = false := by simp [h95]
      clear hsp hl h95
      go_wp2_with fail
      refine (l2Within_any n w.heap.size 24 24 firstR _ (Pairs.laid w firstR _ _ rfl) rfl (by decide)).mono ?_
      rintro e w2 ⟨rfl, hb2⟩
      go_wp2
      go_ret
      exact ⟨ret_bool Hsp.out.symm, ((Below.refl _ _).alloc (Nat.le_refl _) _).trans (hb2.mono (by simp))⟩
  · rw [hl, Bool.true_or, Bool.true_or] at hsp
    have Hsp : Hid (firstB n = true) := hsp
    clear hsp hl
    go_wp2
    go_ret
    exact ⟨ret_bool Hsp.out.symm, Below.refl _ _⟩

set_option maxHeartbeats 1000000 in
theorem specIsNext (n : Int) (w : World) :
    Calls Tryz.prog 52 #[.int .i64 n] w fun e w' => e = .returned (.bool (nextB n)) ∧ Below w.heap.size w w' := by
  have hsp := next_split n
  go_enter Tryz.func52, Tryz.ntmps52
  go_wp2_with fail
  refine (specIsFirst n _).mono ?_
  rintro e w1 ⟨rfl, hb1⟩
  cases hl : firstB n
  · rw [hl, Bool.false_or] at hsp
    clear hl
    by_cases h45 : n = 45
    · rw [decide_eq_true h45, Bool.true_or, Bool.true_or, Bool.true_or] at hsp
      have Hsp : Hid (nextB n = true) := hsp
      have g1 : (n == 45) = true := by simp [h45]
      clear hsp h45
      go_wp2
      go_ret
      exact ⟨ret_bool Hsp.out.symm, hb1⟩
    rw [decide_eq_false h45, Bool.false_or] at hsp
    have g1 : (n == 45) = false := by simp [h45]
    clear h45
    by_cases h46 : n = 46
    · rw [decide_eq_true h46, Bool.true_or, Bool.true_or] at hsp
      have Hsp : Hid (nextB n = true) := hsp
      have g2 : (n == 46) = true := by simp [h46]
      clear hsp h46
      go_wp2
      go_ret
      exact ⟨ret_bool Hsp.out.symm, hb1⟩
    rw [decide_eq_false h46, Bool.false_or] at hsp
    have g2 : (n == 46) = false := by simp [h46]
    clear h46
    by_cases h183 : n = 183
    · rw [decide_eq_true h183, Bool.true_or] at hsp
      have Hsp : Hid (nextB n = true) := hsp
      have g3 : (n == 183) = true := by simp [h183]
      clear hsp h183
      go_wp2
      go_ret
      exact ⟨ret_bool Hsp.out.symm, hb1⟩
    rw [decide_eq_false h183, Bool.false_or] at hsp
    have g3 : (n == 183) = false := by simp [h183]
    have Hsp : Hid (nextB n = withinB nextR n) := hsp
    clear h183 hsp
    go_wp2_with fail
    refine (l2Within_any n w1.heap.size 6 6 nextR _ (Pairs.laid w1 nextR _ _ rfl) rfl (by decide)).mono ?_
    rintro e w2 ⟨rfl, hb2⟩
    go_wp2
    go_ret
    exact ⟨ret_bool Hsp.out.symm, (hb1.alloc hb1.size _).trans (hb2.mono (by simp; exact Nat.le_succ_of_le hb1.size))⟩
  · rw [hl, Bool.true_or, Bool.true_or, Bool.true_or, Bool.true_or] at hsp
    have Hsp : Hid (nextB n = true) := hsp
    clear hsp hl
    go_wp2
    go_ret
    exact ⟨ret_bool Hsp.out.symm, hb1⟩

end Go.Proofs.YtkngdlbedelgnaaGreatDoor.Sg

namespace Go.Proofs.YtkngdlbedelgnaaGreatDoor.Sg
open Go.ChangeShapes Go.WideShapes Go.ChangeAt Go.RowKit

set_option maxHeartbeats 1000000 in
theorem specXmlName_out (s : ByteArray) (at' : Int) (w : World) (h : at' < 0 ∨ (s.size : Int) < at') :
    Calls Tryz.prog 27 #[.string s, .int .i64 at'] w fun e w' => e = .returned (.tuple #[.string ⟨#[]⟩, .int .i64 at']) ∧ w' = w := by
  by_cases h0 : at' < 0
  · have g0 : decide (at' < 0) = true := decide_eq_true h0
    clear h
    go_enter Tryz.func27, Tryz.ntmps27
    go_wp2_with fail
    go_ret2
    exact ⟨rfl, rfl⟩
  · have g0 : decide (at' < 0) = false := decide_eq_false h0
    have g1 : decide ((s.size : Int) < at') = true := decide_eq_true (by omega)
    clear h
    go_enter Tryz.func27, Tryz.ntmps27
    go_wp2_with fail
    go_ret2
    exact ⟨rfl, rfl⟩

set_option maxHeartbeats 4000000 in
theorem specXmlName_in (s : ByteArray) (a : Nat) (w : World) (ha : a ≤ s.size) (hs : s.size ≤ 17592186044416) :
    Calls Tryz.prog 27 #[.string s, .int .i64 (a : Int)] w fun e w' => e = .returned (.tuple #[.string (s.extract a (xnameE s true a)), .int .i64 (xnameE s true a : Int)]) ∧ Below w.heap.size w w' := by
  obtain ⟨R, HR⟩ : ∃ R, Hid (xnameE s true a = R) := ⟨_, rfl⟩
  rw [HR.out]
  have g0 : decide ((a : Int) < 0) = false := decide_eq_false (by omega)
  have g1 : decide ((s.size : Int) < (a : Int)) = false := decide_eq_false (by omega)
  have g2 : decide (s.size < a) = false := decide_eq_false (by omega)
  go_enter Tryz.func27, Tryz.ntmps27
  go_wp2_with fail
  go_loopw [6] (fun i wr => ∃ k : Nat, a ≤ k ∧ k ≤ s.size ∧ i = .int .i64 (k : Int) ∧ Hid (xnameE s (decide (k = a)) k = R) ∧ Hid (Below w.heap.size w wr)) (fun i _ => s.size - (intOf i).toNat)
  case atStart => exact ⟨a, Nat.le_refl _, ha, rfl, by rw [decide_eq_true rfl]; exact HR, Below.refl _ _⟩
  case round =>
    obtain ⟨k, hak, hk, rfl, HK, HB⟩ := hrel
    have q0 : (0 : Int) ≤ (a : Int) := by omega
    have q1 : (a : Int) ≤ (k : Int) := by omega
    have q2 : (k : Int) ≤ (s.size : Int) := by omega
    by_cases hlt : k < s.size
    · have hm := getS_many s k hlt
      have hgo := xnameE_go (s := s) (f := decide (k = a)) hlt
      have hst := xnameE_stop (s := s) (f := decide (k = a)) hlt
      have har : asRead s k = ((putS ((getS s k).1 : Int)).toList == (s.extract k (k + (getS s k).2)).toList) := rfl
      have Hg := fun W => specGet_in s k W hlt (by omega)
      clear g0 g1 g2 HR
      generalize hn : (getS s k).1 = n at *
      generalize hmm : (getS s k).2 = m at *
      clear hn hmm
      have q3 : IntKind.i64.wrap ((k : Int) + (m : Int)) = (k : Int) + (m : Int) := IntWalk.i64_in _ (by omega)
      have q4 : (k : Int) ≤ (k : Int) + (m : Int) := by omega
      have q5 : (k : Int) + (m : Int) ≤ (s.size : Int) := by omega
      have q6 : (0 : Int) ≤ (k : Int) + (m : Int) := by omega
      have q7 : ((k : Int) + (m : Int)).toNat = k + m := by omega
      have q8 : (0 : Int) ≤ (k : Int) := by omega
      go_wp2_with fail
      refine (Hg _).mono ?_
      rintro e w1 ⟨rfl, rfl⟩
      clear Hg
      go_upto_region 6 with fail
      have HF := fun W => specIsFirst (n : Int) W
      have HN := fun W => specIsNext (n : Int) W
      have HP := fun W => specPutSign (n : Int) W
      have HBB : Hid (∀ wx : World, Below w1.heap.size w1 wx → Below w.heap.size w wx) := fun wx h => below_from HB.out h
      by_cases hka : k = a
      · have ge : ((k : Int) == (a : Int)) = true := by rw [hka]; simp
        have e1 : decide (k = a) = true := decide_eq_true hka
        rw [e1] at HK hgo hst
        have Hka : Hid (k = a) := hka
        clear hka e1
        cases hf : firstB (n : Int)
        · rw [hf] at HF
          obtain rfl : k = R := (hst (by show (firstB (n : Int) && asRead s k) = _; rw [hf]; rfl)).symm.trans HK.out
          clear hgo hst har HK
          have cF := fun d os => Calls.regrown_of (w := w1) (HF (Sort.grow (redrawn w1 d) os))
          clear HF HN HP
          refine wp_region_quiet_below (by kernel_rfl) (by kernel_rfl) ?_
          repeat (go_big_quiet_step (first | exact cF _ _))
          refine wpQuiet_nil ?_
          intro _ hw'
          obtain ⟨⟨dq, osq⟩, hw''⟩ := hw'
          subst hw''
          have bfin := HBB.out _ (below_regrown w1 dq osq)
          generalize Sort.grow (redrawn w1 dq) osq = W at *
          go_wp2_with fail
          go_ret2
          exact ⟨rfl, bfin⟩
        · have hx := firstB_next hf
          rw [hf] at HF
          rw [hx] at HN
          cases hc : ((putS (n : Int)).toList == (s.extract k (k + m)).toList)
          · obtain rfl : k = R := (hst (by show (firstB (n : Int) && asRead s k) = _; rw [hf, har, hc]; rfl)).symm.trans HK.out
            clear hgo hst har HK
            have cF := fun d os => Calls.regrown_of (w := w1) (HF (Sort.grow (redrawn w1 d) os))
            have cN := fun d os => Calls.regrown_of (w := w1) (HN (Sort.grow (redrawn w1 d) os))
            have cP := fun d os => Calls.regrown_of (w := w1) (HP (Sort.grow (redrawn w1 d) os))
            clear HF HN HP
            refine wp_region_quiet_below (by kernel_rfl) (by kernel_rfl) ?_
            repeat (go_big_quiet_step (first | exact cF _ _ | exact cN _ _ | exact cP _ _))
            refine wpQuiet_nil ?_
            intro _ hw'
            obtain ⟨⟨dq, osq⟩, hw''⟩ := hw'
            subst hw''
            have bfin := HBB.out _ (below_regrown w1 dq osq)
            generalize Sort.grow (redrawn w1 dq) osq = W at *
            go_wp2_with fail
            go_ret2
            exact ⟨rfl, bfin⟩
          · have HK2 : Hid (xnameE s (decide (k + m = a)) (k + m) = R) := by
              show _ = _
              rw [decide_eq_false (by omega)]
              exact (hgo (by show (firstB (n : Int) && asRead s k) = _; rw [hf, har, hc]; rfl)).symm.trans HK.out
            clear hgo hst har HK
            have cF := fun d os => Calls.regrown_of (w := w1) (HF (Sort.grow (redrawn w1 d) os))
            have cN := fun d os => Calls.regrown_of (w := w1) (HN (Sort.grow (redrawn w1 d) os))
            have cP := fun d os => Calls.regrown_of (w := w1) (HP (Sort.grow (redrawn w1 d) os))
            clear HF HN HP
            refine wp_region_quiet_below (by kernel_rfl) (by kernel_rfl) ?_
            repeat (go_big_quiet_step (first | exact cF _ _ | exact cN _ _ | exact cP _ _))
            refine wpQuiet_nil ?_
            intro _ hw'
            obtain ⟨⟨dq, osq⟩, hw''⟩ := hw'
            subst hw''
            have bfin := HBB.out _ (below_regrown w1 dq osq)
            generalize Sort.grow (redrawn w1 dq) osq = W at *
            go_wp2_with fail
            go_roundw
            case rel => exact ⟨k + m, by omega, by omega, by go_num, HK2, bfin⟩
            case measure => simp [intOf]; omega
      · have ge : ((k : Int) == (a : Int)) = false := by rw [beq_eq_false_iff_ne]; omega
        have e1 : decide (k = a) = false := decide_eq_false hka
        rw [e1] at HK hgo hst
        clear e1
        cases hf : nextB (n : Int)
        · rw [hf] at HN
          obtain rfl : k = R := (hst (by show (nextB (n : Int) && asRead s k) = _; rw [hf]; rfl)).symm.trans HK.out
          clear hgo hst har HK
          have cN := fun d os => Calls.regrown_of (w := w1) (HN (Sort.grow (redrawn w1 d) os))
          clear HF HN HP
          refine wp_region_quiet_below (by kernel_rfl) (by kernel_rfl) ?_
          repeat (go_big_quiet_step (first | exact cN _ _))
          refine wpQuiet_nil ?_
          intro _ hw'
          obtain ⟨⟨dq, osq⟩, hw''⟩ := hw'
          subst hw''
          have bfin := HBB.out _ (below_regrown w1 dq osq)
          generalize Sort.grow (redrawn w1 dq) osq = W at *
          go_wp2_with fail
          go_ret2
          exact ⟨rfl, bfin⟩
        · rw [hf] at HN
          cases hc : ((putS (n : Int)).toList == (s.extract k (k + m)).toList)
          · obtain rfl : k = R := (hst (by show (nextB (n : Int) && asRead s k) = _; rw [hf, har, hc]; rfl)).symm.trans HK.out
            clear hgo hst har HK
            have cN := fun d os => Calls.regrown_of (w := w1) (HN (Sort.grow (redrawn w1 d) os))
            have cP := fun d os => Calls.regrown_of (w := w1) (HP (Sort.grow (redrawn w1 d) os))
            clear HF HN HP
            refine wp_region_quiet_below (by kernel_rfl) (by kernel_rfl) ?_
            repeat (go_big_quiet_step (first | exact cN _ _ | exact cP _ _))
            refine wpQuiet_nil ?_
            intro _ hw'
            obtain ⟨⟨dq, osq⟩, hw''⟩ := hw'
            subst hw''
            have bfin := HBB.out _ (below_regrown w1 dq osq)
            generalize Sort.grow (redrawn w1 dq) osq = W at *
            go_wp2_with fail
            go_ret2
            exact ⟨rfl, bfin⟩
          · have HK2 : Hid (xnameE s (decide (k + m = a)) (k + m) = R) := by
              show _ = _
              rw [decide_eq_false (by omega)]
              exact (hgo (by show (nextB (n : Int) && asRead s k) = _; rw [hf, har, hc]; rfl)).symm.trans HK.out
            clear hgo hst har HK
            have cN := fun d os => Calls.regrown_of (w := w1) (HN (Sort.grow (redrawn w1 d) os))
            have cP := fun d os => Calls.regrown_of (w := w1) (HP (Sort.grow (redrawn w1 d) os))
            clear HF HN HP
            refine wp_region_quiet_below (by kernel_rfl) (by kernel_rfl) ?_
            repeat (go_big_quiet_step (first | exact cN _ _ | exact cP _ _))
            refine wpQuiet_nil ?_
            intro _ hw'
            obtain ⟨⟨dq, osq⟩, hw''⟩ := hw'
            subst hw''
            have bfin := HBB.out _ (below_regrown w1 dq osq)
            generalize Sort.grow (redrawn w1 dq) osq = W at *
            go_wp2_with fail
            go_roundw
            case rel => exact ⟨k + m, by omega, by omega, by go_num, HK2, bfin⟩
            case measure => simp [intOf]; omega
    · obtain rfl : k = R := (xnameE_end hlt).symm.trans HK.out
      have q3 : decide ((k : Int) < (s.size : Int)) = false := decide_eq_false (by omega)
      clear HK HR
      go_wp2_with fail
      go_ret2
      exact ⟨rfl, HB.out⟩

end Go.Proofs.YtkngdlbedelgnaaGreatDoor.Sg

namespace Go.Proofs.YtkngdlbedelgnaaGreatDoor.Sg
open Go.ChangeShapes Go.WideShapes Go.ChangeAt Go.RowKit

end Go.Proofs.YtkngdlbedelgnaaGreatDoor.Sg

namespace Go.Proofs.YtkngdlbedelgnaaGreatDoor.Sg
open Go.ChangeShapes Go.WideShapes Go.ChangeAt Go.RowKit

theorem stNameL_drop (zs : List Int) (k : Nat) (h : k < zs.length) (f : Bool) : stNameL f (zs.drop k) = (stayB f (zs.getD k 0) && stNameL false (zs.drop (k + 1))) := by
  rw [List.drop_eq_getElem_cons h]
  unfold stNameL
  simp [h]
  cases zs.drop (k + 1) <;> rfl
theorem empty_of {s : ByteArray} (h : s.size = 0) : s = ⟨#[]⟩ := by
  cases s with
  | mk d =>
    have : d = #[] := Array.eq_empty_of_size_eq_zero h
    rw [this]
theorem not_empty {s : ByteArray} (h : s.size ≠ 0) : (s.toList == []) = false := by
  rw [beq_eq_false_iff_ne, ByteArray.toList_eq]
  intro e
  apply h
  have h2 : s.data.toList.length = s.size := Array.length_toList
  rw [e] at h2
  exact h2.symm
/-- A number of a slice of the call's own. -/
theorem Ints.cell {w wr : World} {a : Option Addr} {zs : List Int} {k : Nat} (h : Ints w a zs) (hb : Below w.heap.size w wr) (hk : k < zs.length) : ∃ b o, a = some ⟨b, o, none⟩ ∧ b < w.heap.size ∧ wr.cell? ⟨b, o + k, none⟩ = some (.int .i64 (zs.getD k 0)) := by
  rcases h with h | ⟨b, o, rfl, hb1, hc⟩
  · rw [h] at hk
    simp at hk
  · exact ⟨b, o, rfl, hb1, (hb.cell (by exact hb1)).trans (hc k hk)⟩

set_option maxHeartbeats 2000000 in
theorem specNameOk (s : ByteArray) (w : World) (hs : s.size ≤ 17592186044416) :
    Calls Tryz.prog 89 #[.string s] w fun e w' => e = .returned (.bool (stNameB s)) ∧ Below w.heap.size w w' := by
  have Hn : Hid (stNameB s = (stNameL true (signsL s) && decide (s.size ≠ 0) && cleanB s)) := rfl
  have hl := signsL_length s
  have e0 : (⟨#[]⟩ : ByteArray).toList = [] := ByteArray.toList_mk _
  go_enter Tryz.func89, Tryz.ntmps89
  go_wp2_with fail
  refine (specSigns s _ hs).mono ?_
  rintro e w1 ⟨a, cap, rfl, o1, b1⟩
  have I1 : Hid (Ints w1 a (signsL s)) := o1.ints
  clear o1
  have Hc := fun W => specCleanOk s W hs
  generalize signsL s = zs at *
  generalize hlen : zs.length = n at *
  have Hlen : Hid (zs.length = n) := hlen
  clear hlen
  generalize cleanB s = cb at *
  go_wp2_with fail
  go_loopw [4] (fun i wr => ∃ k : Nat, k ≤ n ∧ i = .int .i64 k ∧ Hid (stNameL true zs = stNameL (decide (k = 0)) (zs.drop k)) ∧ Below w1.heap.size w1 wr) (fun i _ => n - (intOf i).toNat)
  case atStart => exact ⟨0, Nat.zero_le _, rfl, rfl, Below.refl _ _⟩
  case round =>
    obtain ⟨k, hk, rfl, Hk, hbel⟩ := hrel
    by_cases hlt : k < n
    · obtain ⟨b, o, rfl, hb, hc⟩ := I1.out.cell hbel (by rw [Hlen.out]; exact hlt)
      have hst := stNameL_drop zs k (by rw [Hlen.out]; exact hlt) (decide (k = 0))
      generalize hz : zs.getD k 0 = z at *
      clear hz
      have Hst : Hid (stNameL true zs = (stayB (decide (k = 0)) z && stNameL false (zs.drop (k + 1)))) := Hk.out.trans hst
      clear hst Hk Hc
      by_cases h0 : k = 0
      · subst h0
        rw [Nat.add_zero] at hc
        have g0 : (((0 : Nat) : Int) == 0) = true := rfl
        cases hf : firstB z
        · have Hno : Hid (stNameB s = false) := by
            show _ = _
            rw [Hn.out, Hst.out]
            show (firstB z && _ && _ && _) = false
            rw [hf]
            rfl
          have Hf : ∀ W, Calls Tryz.prog 51 #[.int .i64 z] W fun e w' => e = .returned (.bool false) ∧ Below W.heap.size W w' := fun W => hf ▸ specIsFirst z W
          clear hf Hst Hn
          go_wp2_with fail
          refine (Hf _).mono ?_
          rintro e w2 ⟨rfl, b2⟩
          go_wp2_with fail
          go_ret
          exact ⟨ret_bool Hno.out.symm, b1.trans ((hbel.trans (b2.mono hbel.size)).mono b1.size)⟩
        · have Hnx : Hid (stNameL true zs = stNameL (decide (0 + 1 = 0)) (zs.drop (0 + 1))) := by
            show _ = _
            rw [Hst.out]
            show (firstB z && _) = _
            rw [hf]
            rfl
          have Hf : ∀ W, Calls Tryz.prog 51 #[.int .i64 z] W fun e w' => e = .returned (.bool true) ∧ Below W.heap.size W w' := fun W => hf ▸ specIsFirst z W
          have Hx : ∀ W, Calls Tryz.prog 52 #[.int .i64 z] W fun e w' => e = .returned (.bool true) ∧ Below W.heap.size W w' := fun W => (firstB_next hf) ▸ specIsNext z W
          clear hf Hst Hn
          go_wp2_with fail
          refine (Hf _).mono ?_
          rintro e w2 ⟨rfl, b2⟩
          have b2' : Below w1.heap.size w1 w2 := hbel.trans (b2.mono hbel.size)
          have hc2 := (b2.cell (by exact Nat.lt_of_lt_of_le hb hbel.size)).trans hc
          clear b2 hbel hc
          go_wp2_with fail
          refine (Hx _).mono ?_
          rintro e w3 ⟨rfl, b3⟩
          have b3' : Below w1.heap.size w1 w3 := b2'.trans (b3.mono b2'.size)
          clear b3 b2' hc2
          go_wp2_with fail
          go_roundw
          case rel => exact ⟨0 + 1, by omega, by go_num, Hnx, b3'⟩
          case measure => simp [intOf]; omega
      · have g0 : ((k : Int) == 0) = false := by simp; exact h0
        have Hd : Hid (stayB (decide (k = 0)) z = nextB z) := by show _ = _; rw [decide_eq_false h0]; rfl
        rw [Hd.out] at Hst
        cases hf : nextB z
        · have Hno : Hid (stNameB s = false) := by
            show _ = _
            rw [Hn.out, Hst.out, hf]
            rfl
          have Hx : ∀ W, Calls Tryz.prog 52 #[.int .i64 z] W fun e w' => e = .returned (.bool false) ∧ Below W.heap.size W w' := fun W => hf ▸ specIsNext z W
          clear hf Hst Hn Hd h0
          go_wp2_with fail
          refine (Hx _).mono ?_
          rintro e w2 ⟨rfl, b2⟩
          go_wp2_with fail
          go_ret
          exact ⟨ret_bool Hno.out.symm, b1.trans ((hbel.trans (b2.mono hbel.size)).mono b1.size)⟩
        · have Hnx : Hid (stNameL true zs = stNameL (decide (k + 1 = 0)) (zs.drop (k + 1))) := by
            show _ = _
            rw [Hst.out, hf, decide_eq_false (by omega)]
            rfl
          have Hx : ∀ W, Calls Tryz.prog 52 #[.int .i64 z] W fun e w' => e = .returned (.bool true) ∧ Below W.heap.size W w' := fun W => hf ▸ specIsNext z W
          clear hf Hst Hn Hd h0
          go_wp2_with fail
          refine (Hx _).mono ?_
          rintro e w3 ⟨rfl, b3⟩
          have b3' : Below w1.heap.size w1 w3 := hbel.trans (b3.mono hbel.size)
          clear b3 hbel hc
          go_wp2_with fail
          go_roundw
          case rel => exact ⟨k + 1, by omega, by go_num, Hnx, b3'⟩
          case measure => simp [intOf]; omega
    · have Hall : Hid (stNameB s = (decide (s.size ≠ 0) && cb)) := by
        show _ = _
        have hd : zs.drop k = [] := List.drop_eq_nil_of_le (by have := Hlen.out; omega)
        rw [Hn.out, Hk.out, hd]
        unfold stNameL
        rfl
      have g1 : decide ((k : Int) < (n : Int)) = false := decide_eq_false (by omega)
      clear Hn Hk I1
      by_cases hz : s.size = 0
      · have := empty_of hz
        subst this
        clear Hc
        go_wp2_with fail
        go_ret
        exact ⟨ret_bool (by rw [Hall.out]; rfl), b1.trans (hbel.mono b1.size)⟩
      · have g2 := not_empty hz
        have Hd : Hid (stNameB s = cb) := by show _ = _; rw [Hall.out, decide_eq_true hz]; rfl
        clear hz Hall
        go_wp2_with fail
        refine (Hc _).mono ?_
        rintro e w3 ⟨rfl, b3⟩
        go_wp2_with fail
        go_ret
        exact ⟨ret_bool Hd.out.symm, b1.trans ((hbel.trans (b3.mono hbel.size)).mono b1.size)⟩

end Go.Proofs.YtkngdlbedelgnaaGreatDoor.Sg

namespace Go.Proofs.YtkngdlbedelgnaaGreatDoor.Sg
open Go.ChangeShapes Go.WideShapes Go.ChangeAt Go.RowKit

/-- What the model's XmlAttr hands back. -/
def attrV (s : ByteArray) (k : Nat) : Option (Nat × List UInt8 × Nat) → Value
  | none => .tuple #[.agg #[.string ⟨#[]⟩, .string ⟨#[]⟩], .int .i64 (-1)]
  | some r => .tuple #[.agg #[.string (s.extract k r.1), .string (strB r.2.1)], .int .i64 ((r.2.2 + 1 : Nat) : Int)]
/-- Two cells of a block, as they lie and when they are written. -/
structure Box2 (W : World) (b : Nat) : Prop where
  c0 : W.cell? ⟨b, 0, none⟩ = some (.string ⟨#[]⟩)
  c1 : W.cell? ⟨b, 1, none⟩ = some (.string ⟨#[]⟩)
  f0 : W.frozen? ⟨b, 0, none⟩ = false
  f1 : W.frozen? ⟨b, 1, none⟩ = false
  s0 : ∀ x y : Value, ((W.setCell ⟨b, 0, none⟩ x).setCell ⟨b, 1, none⟩ y).cell? ⟨b, 0, none⟩ = some x
  s1 : ∀ x y : Value, ((W.setCell ⟨b, 0, none⟩ x).setCell ⟨b, 1, none⟩ y).cell? ⟨b, 1, none⟩ = some y
theorem Box2.of {w W : World} {t : TypeId} (h : Below (w.alloc (.cells #[.string ⟨#[]⟩, .string ⟨#[]⟩] t)).heap.size (w.alloc (.cells #[.string ⟨#[]⟩, .string ⟨#[]⟩] t)) W) : Box2 W w.heap.size := by
  have hb : W.heap[w.heap.size]? = some (.cells #[.string ⟨#[]⟩, .string ⟨#[]⟩] t) := by
    refine (h.block _ (by simp)).trans ?_
    show (w.heap.push _)[w.heap.size]? = _
    simp
  have h0 : W.cell? ⟨w.heap.size, 0, none⟩ = some (.string ⟨#[]⟩) := by simp [World.cell?, hb]
  have h1 : W.cell? ⟨w.heap.size, 1, none⟩ = some (.string ⟨#[]⟩) := by simp [World.cell?, hb]
  have h2 : ∀ x : Value, (W.setCell ⟨w.heap.size, 0, none⟩ x).cell? ⟨w.heap.size, 1, none⟩ = some (.string ⟨#[]⟩) := fun x => (World.cell?_setCell_other _ _ _ _ (by simp)).trans h1
  exact ⟨h0, h1, by simp [World.frozen?, hb], by simp [World.frozen?, hb], fun x y => (World.cell?_setCell_other _ _ _ _ (by simp)).trans (World.cell?_setCell_same _ _ _ h0), fun x y => World.cell?_setCell_same _ _ _ (h2 x)⟩
theorem below_box {w W : World} {o : Obj} (h : Below (w.alloc o).heap.size (w.alloc o) W) : Below w.heap.size w W := ((Below.refl _ _).alloc (Nat.le_refl _) _).trans (h.mono (by simp))
theorem ends_find {l : List UInt8} {b : UInt8} : (findL b l = none ∧ l.contains b = false) ∨ ∃ q, findL b l = some q ∧ l.contains b = true := by
  have h := findL_in b l
  cases hf : findL b l with
  | none => exact .inl ⟨rfl, by rw [h, hf]; rfl⟩
  | some q => exact .inr ⟨q, rfl, by rw [h, hf]; rfl⟩

set_option maxHeartbeats 1000000 in
theorem specXmlAttr_out (s : ByteArray) (at' : Int) (w : World) (h : at' < 0 ∨ (s.size : Int) < at') :
    Calls Tryz.prog 54 #[.string s, .int .i64 at'] w fun e w' => e = .returned (.tuple #[.agg #[.string ⟨#[]⟩, .string ⟨#[]⟩], .int .i64 (-1)]) ∧ Below w.heap.size w w' := by
  have HN : ∀ W, Calls Tryz.prog 27 #[.string s, .int .i64 at'] W fun e w' => e = .returned (.tuple #[.string ⟨#[]⟩, .int .i64 at']) ∧ Below W.heap.size W w' := fun W => (specXmlName_out s at' W h).mono fun e w' h => ⟨h.1, h.2 ▸ Below.refl _ _⟩
  have ge : ((⟨#[]⟩ : ByteArray).toList == []) = true := by rw [ByteArray.toList_mk]; rfl
  clear h
  go_enter Tryz.func54, Tryz.ntmps54
  go_wp2_with fail
  refine (HN _).mono ?_
  rintro e w1 ⟨rfl, b1⟩
  have X : Hid (Box2 _ w.heap.size) := Box2.of b1
  have B : Hid (Below w.heap.size w _) := below_box b1
  clear b1
  have t0 := X.out.s0 (.string ⟨#[]⟩) (.string ⟨#[]⟩)
  have t1 := X.out.s1 (.string ⟨#[]⟩) (.string ⟨#[]⟩)
  obtain ⟨hx, hy, hf, hg, _, _⟩ := X.out
  go_wp2_with fail
  refine bodyPost_ret (v := .tuple #[.agg #[.string ⟨#[]⟩, .string ⟨#[]⟩], .int .i64 (-1)]) ?_ rfl ⟨rfl, ?_⟩
  · simp [results, Tryz.results54, go_sem, t0, t1]
  · exact (B.out.setCell (Nat.le_refl _) _).setCell (Nat.le_refl _) _

set_option maxRecDepth 20000 in
set_option maxHeartbeats 4000000 in
theorem specXmlAttr_in (s : ByteArray) (k : Nat) (w : World) (hk : k ≤ s.size) (hs : s.size ≤ 1073741824) :
    Calls Tryz.prog 54 #[.string s, .int .i64 (k : Int)] w fun e w' => e = .returned (attrV s k (xattrR s k)) ∧ Below w.heap.size w w' := by
  have HN := fun W => specXmlName_in s k W hk (by omega)
  have hn := xnameE_le s _ k true (Nat.le_refl _) hk
  obtain ⟨n, HnE⟩ : ∃ n, Hid (xnameE s true k = n) := ⟨_, rfl⟩
  rw [HnE.out] at hn HN
  have hsz : (s.extract k n).size = n - k := by rw [ByteArray.size_extract]; omega
  by_cases hnk : n = k
  · have ex : s.extract k n = ⟨#[]⟩ := empty_of (by rw [hsz, hnk]; omega)
    have ge : ((s.extract k n).toList == []) = true := by rw [ex, ByteArray.toList_mk]; rfl
    clear ex
    have Hx : Hid (xattrR s k = none) := by show _ = _; unfold xattrR; simp only; rw [HnE.out, if_pos (.inl hnk)]
    clear hnk hsz
    go_enter Tryz.func54, Tryz.ntmps54
    go_wp2_with fail
    refine (HN _).mono ?_
    rintro e w1 ⟨rfl, b1⟩
    have X : Hid (Box2 _ w.heap.size) := Box2.of b1
    have B : Hid (Below w.heap.size w _) := below_box b1
    clear b1
    have t0 := X.out.s0 (.string ⟨#[]⟩) (.string ⟨#[]⟩)
    have t1 := X.out.s1 (.string ⟨#[]⟩) (.string ⟨#[]⟩)
    obtain ⟨hx, hy, hf, hg, _, _⟩ := X.out
    go_wp2_with fail
    refine bodyPost_ret (v := .tuple #[.agg #[.string ⟨#[]⟩, .string ⟨#[]⟩], .int .i64 (-1)]) ?_ rfl ⟨by rw [Hx.out]; rfl, ?_⟩
    · simp [results, Tryz.results54, go_sem, t0, t1]
    · exact (B.out.setCell (Nat.le_refl _) _).setCell (Nat.le_refl _) _
  have ge : ((s.extract k n).toList == []) = false := not_empty (by rw [hsz]; omega)
  clear hsz
  have HS := fun W => specStands s n eqB W (by omega) (by omega) (by decide)
  cases hst : standsB s n eqB
  · have Hx : Hid (xattrR s k = none) := by show _ = _; unfold xattrR; simp only; rw [HnE.out, if_pos (.inr hst)]
    rw [hst] at HS
    clear hst hnk
    go_enter Tryz.func54, Tryz.ntmps54
    go_wp2_with fail
    refine (HN _).mono ?_
    rintro e w1 ⟨rfl, b1⟩
    go_wp2_with fail
    refine (HS _).mono ?_
    rintro e w2 ⟨rfl, rfl⟩
    have X : Hid (Box2 _ w.heap.size) := Box2.of b1
    have B : Hid (Below w.heap.size w _) := below_box b1
    clear b1
    have t0 := X.out.s0 (.string ⟨#[]⟩) (.string ⟨#[]⟩)
    have t1 := X.out.s1 (.string ⟨#[]⟩) (.string ⟨#[]⟩)
    obtain ⟨hx, hy, hf, hg, _, _⟩ := X.out
    go_wp2_with fail
    refine bodyPost_ret (v := .tuple #[.agg #[.string ⟨#[]⟩, .string ⟨#[]⟩], .int .i64 (-1)]) ?_ rfl ⟨by rw [Hx.out]; rfl, ?_⟩
    · simp [results, Tryz.results54, go_sem, t0, t1]
    · exact (B.out.setCell (Nat.le_refl _) _).setCell (Nat.le_refl _) _
  have hl := stands_le hst
  have hl2 : n + 2 ≤ s.size := hl
  have HT : ∀ W, Calls Tryz.prog 58 #[.string s, .int .i64 ((n : Int) + 2), .string ⟨#[34]⟩] W fun e w' => e = .returned (textV (xtextR s [34] (n + 2))) ∧ Below W.heap.size W w' := fun W => specXmlText_in s (n + 2) ⟨#[34]⟩ W hl2 (by omega) (by decide)
  have Hd : Hid (xattrR s k = match xtextR s [34] (n + 2) with | none => none | some (v, m) => if ¬ m < s.size ∨ ((s.extract (n + 2) m).data.toList.contains 9 || (s.extract (n + 2) m).data.toList.contains 10) = true then none else some (n, v, m)) := by show _ = _; unfold xattrR; simp only; rw [HnE.out, if_neg (fun h => h.elim hnk (fun h => by rw [hst] at h; cases h))]; rfl
  rw [hst] at HS
  clear hst hl HnE hnk
  have q1 : IntKind.i64.wrap ((n : Int) + 2) = (n : Int) + 2 := IntWalk.i64_in _ (by omega)
  cases hx : xtextR s [34] (n + 2) with
  | none =>
    have Hx : Hid (xattrR s k = none) := by show _ = _; rw [Hd.out, hx]
    rw [hx] at HT
    clear hx Hd
    go_enter Tryz.func54, Tryz.ntmps54
    go_wp2_with fail
    refine (HN _).mono ?_
    rintro e w1 ⟨rfl, b1⟩
    go_wp2_with fail
    refine (HS _).mono ?_
    rintro e w2 ⟨rfl, rfl⟩
    go_wp2_with fail
    refine (HT _).mono ?_
    rintro e w3 ⟨rfl, b3⟩
    simp only [textV]
    replace b1 := b1.trans (b3.mono b1.size)
    clear b3
    have X : Hid (Box2 _ w.heap.size) := Box2.of b1
    have B : Hid (Below w.heap.size w _) := below_box b1
    clear b1
    have t0 := X.out.s0 (.string ⟨#[]⟩) (.string ⟨#[]⟩)
    have t1 := X.out.s1 (.string ⟨#[]⟩) (.string ⟨#[]⟩)
    obtain ⟨hx, hy, hf, hg, _, _⟩ := X.out
    go_wp2_with fail
    refine bodyPost_ret (v := .tuple #[.agg #[.string ⟨#[]⟩, .string ⟨#[]⟩], .int .i64 (-1)]) ?_ rfl ⟨by rw [Hx.out]; rfl, ?_⟩
    · simp [results, Tryz.results54, go_sem, t0, t1]
    · exact (B.out.setCell (Nat.le_refl _) _).setCell (Nat.le_refl _) _
  | some r =>
    obtain ⟨v, m⟩ := r
    have hm := xtextR_le s [34] _ (n + 2) (v, m) (Nat.le_refl _) hl2 hx
    simp only at hm
    have Hd2 : Hid (xattrR s k = if ¬ m < s.size ∨ ((s.extract (n + 2) m).data.toList.contains 9 || (s.extract (n + 2) m).data.toList.contains 10) = true then none else some (n, v, m)) := by show _ = _; rw [Hd.out, hx]
    rw [hx] at HT
    clear hx Hd
    have g0 : decide ((m : Int) < 0) = false := decide_eq_false (by omega)
    by_cases hlt : m < s.size
    · have g1 : decide ((s.size : Int) ≤ (m : Int)) = false := decide_eq_false (by omega)
      have p1 : (0 : Int) ≤ (n : Int) + 2 := by omega
      have p2 : (n : Int) + 2 ≤ (m : Int) := by omega
      have p3 : (m : Int) ≤ (s.size : Int) := by omega
      have p4 : ((n : Int) + 2).toNat = n + 2 := by omega
      have p5 : IntKind.i64.wrap ((m : Int) + 1) = (m : Int) + 1 := IntWalk.i64_in _ (by omega)
      have p6 : (0 : Int) ≤ (m : Int) := by omega
      have hz : (s.extract (n + 2) m).size ≤ 17592186044416 := by rw [ByteArray.size_extract]; omega
      have H9 := fun W => specFind (s.extract (n + 2) m) 0 9 W (Nat.zero_le _) hz
      have H10 := fun W => specFind (s.extract (n + 2) m) 0 10 W (Nat.zero_le _) hz
      rw [findE_zero] at H9 H10
      clear hz
      rcases ends_find (l := (s.extract (n + 2) m).data.toList) (b := 9) with ⟨e9, c9⟩ | ⟨q, e9, c9⟩
      · rw [e9] at H9
        rcases ends_find (l := (s.extract (n + 2) m).data.toList) (b := 10) with ⟨e10, c10⟩ | ⟨q, e10, c10⟩
        · rw [e10] at H10
          have Hx : Hid (xattrR s k = some (n, v, m)) := by show _ = _; rw [Hd2.out, if_neg (fun h => h.elim (fun h => h hlt) (fun h => by rw [c9, c10] at h; cases h))]
          clear e9 e10 c9 c10 Hd2
          go_enter Tryz.func54, Tryz.ntmps54
          go_wp2_with fail
          refine (HN _).mono ?_
          rintro e w1 ⟨rfl, b1⟩
          go_wp2_with fail
          refine (HS _).mono ?_
          rintro e w2 ⟨rfl, rfl⟩
          go_wp2_with fail
          refine (HT _).mono ?_
          rintro e w3 ⟨rfl, b3⟩
          simp only [textV]
          replace b1 := b1.trans (b3.mono b1.size)
          clear b3
          go_wp2_with fail
          refine (H9 _).mono ?_
          rintro e w4 ⟨rfl, rfl⟩
          simp only [findV]
          go_wp2_with fail
          refine (H10 _).mono ?_
          rintro e w4 ⟨rfl, rfl⟩
          simp only [findV]
          have X : Hid (Box2 _ w.heap.size) := Box2.of b1
          have B : Hid (Below w.heap.size w _) := below_box b1
          clear b1
          have t0 := X.out.s0 (.string (s.extract k n)) (.string (strB v))
          have t1 := X.out.s1 (.string (s.extract k n)) (.string (strB v))
          obtain ⟨hx, hy, hf, hg, _, _⟩ := X.out
          go_wp2_with fail
          refine bodyPost_ret (v := .tuple #[.agg #[.string (s.extract k n), .string (strB v)], .int .i64 ((m + 1 : Nat) : Int)]) ?_ rfl ⟨by rw [Hx.out]; rfl, ?_⟩
          · simp [results, Tryz.results54, go_sem, t0, t1]
          · exact (B.out.setCell (Nat.le_refl _) _).setCell (Nat.le_refl _) _
        · rw [e10] at H10
          have gq : decide ((0 : Int) ≤ (q : Int)) = true := decide_eq_true (by omega)
          have Hx : Hid (xattrR s k = none) := by show _ = _; rw [Hd2.out, if_pos (.inr (by rw [c9, c10]; rfl))]
          clear e9 e10 c9 c10 Hd2
          go_enter Tryz.func54, Tryz.ntmps54
          go_wp2_with fail
          refine (HN _).mono ?_
          rintro e w1 ⟨rfl, b1⟩
          go_wp2_with fail
          refine (HS _).mono ?_
          rintro e w2 ⟨rfl, rfl⟩
          go_wp2_with fail
          refine (HT _).mono ?_
          rintro e w3 ⟨rfl, b3⟩
          simp only [textV]
          replace b1 := b1.trans (b3.mono b1.size)
          clear b3
          go_wp2_with fail
          refine (H9 _).mono ?_
          rintro e w4 ⟨rfl, rfl⟩
          simp only [findV]
          go_wp2_with fail
          refine (H10 _).mono ?_
          rintro e w4 ⟨rfl, rfl⟩
          simp only [findV]
          have X : Hid (Box2 _ w.heap.size) := Box2.of b1
          have B : Hid (Below w.heap.size w _) := below_box b1
          clear b1
          have t0 := X.out.s0 (.string ⟨#[]⟩) (.string ⟨#[]⟩)
          have t1 := X.out.s1 (.string ⟨#[]⟩) (.string ⟨#[]⟩)
          obtain ⟨hx, hy, hf, hg, _, _⟩ := X.out
          go_wp2_with fail
          refine bodyPost_ret (v := .tuple #[.agg #[.string ⟨#[]⟩, .string ⟨#[]⟩], .int .i64 (-1)]) ?_ rfl ⟨by rw [Hx.out]; rfl, ?_⟩
          · simp [results, Tryz.results54, go_sem, t0, t1]
          · exact (B.out.setCell (Nat.le_refl _) _).setCell (Nat.le_refl _) _
      · rw [e9] at H9
        have gq : decide ((0 : Int) ≤ (q : Int)) = true := decide_eq_true (by omega)
        have Hx : Hid (xattrR s k = none) := by show _ = _; rw [Hd2.out, if_pos (.inr (by rw [c9]; rfl))]
        clear e9 c9 Hd2 H10
        go_enter Tryz.func54, Tryz.ntmps54
        go_wp2_with fail
        refine (HN _).mono ?_
        rintro e w1 ⟨rfl, b1⟩
        go_wp2_with fail
        refine (HS _).mono ?_
        rintro e w2 ⟨rfl, rfl⟩
        go_wp2_with fail
        refine (HT _).mono ?_
        rintro e w3 ⟨rfl, b3⟩
        simp only [textV]
        replace b1 := b1.trans (b3.mono b1.size)
        clear b3
        go_wp2_with fail
        refine (H9 _).mono ?_
        rintro e w4 ⟨rfl, rfl⟩
        simp only [findV]
        have X : Hid (Box2 _ w.heap.size) := Box2.of b1
        have B : Hid (Below w.heap.size w _) := below_box b1
        clear b1
        have t0 := X.out.s0 (.string ⟨#[]⟩) (.string ⟨#[]⟩)
        have t1 := X.out.s1 (.string ⟨#[]⟩) (.string ⟨#[]⟩)
        obtain ⟨hx, hy, hf, hg, _, _⟩ := X.out
        go_wp2_with fail
        refine bodyPost_ret (v := .tuple #[.agg #[.string ⟨#[]⟩, .string ⟨#[]⟩], .int .i64 (-1)]) ?_ rfl ⟨by rw [Hx.out]; rfl, ?_⟩
        · simp [results, Tryz.results54, go_sem, t0, t1]
        · exact (B.out.setCell (Nat.le_refl _) _).setCell (Nat.le_refl _) _
    · have g1 : decide ((s.size : Int) ≤ (m : Int)) = true := decide_eq_true (by omega)
      have Hx : Hid (xattrR s k = none) := by show _ = _; rw [Hd2.out, if_pos (.inl hlt)]
      clear Hd2
      go_enter Tryz.func54, Tryz.ntmps54
      go_wp2_with fail
      refine (HN _).mono ?_
      rintro e w1 ⟨rfl, b1⟩
      go_wp2_with fail
      refine (HS _).mono ?_
      rintro e w2 ⟨rfl, rfl⟩
      go_wp2_with fail
      refine (HT _).mono ?_
      rintro e w3 ⟨rfl, b3⟩
      simp only [textV]
      replace b1 := b1.trans (b3.mono b1.size)
      clear b3
      have X : Hid (Box2 _ w.heap.size) := Box2.of b1
      have B : Hid (Below w.heap.size w _) := below_box b1
      clear b1
      have t0 := X.out.s0 (.string ⟨#[]⟩) (.string ⟨#[]⟩)
      have t1 := X.out.s1 (.string ⟨#[]⟩) (.string ⟨#[]⟩)
      obtain ⟨hx, hy, hf, hg, _, _⟩ := X.out
      go_wp2_with fail
      refine bodyPost_ret (v := .tuple #[.agg #[.string ⟨#[]⟩, .string ⟨#[]⟩], .int .i64 (-1)]) ?_ rfl ⟨by rw [Hx.out]; rfl, ?_⟩
      · simp [results, Tryz.results54, go_sem, t0, t1]
      · exact (B.out.setCell (Nat.le_refl _) _).setCell (Nat.le_refl _) _

end Go.Proofs.YtkngdlbedelgnaaGreatDoor.Sg
