/- A range over a function that keeps a list of rows in memory, while its body writes bytes there: what each leaves as it was. -/
import Derived.Test.YtploagieecepfaaDnP
import Derived.Test.YtploagieecepfaaRwSeq
namespace Go.Proofs.Ytploagieecepfaa.Sg
open Go.ChangeShapes Go.WideShapes Go.ChangeAt Go.RowKit Go.Shelf

/-- What the function leaves: all below B, and all cells that are no rows. -/
structure Fi (B : Nat) (w w' : World) : Prop where
  bel : Below B w w'
  cel : ∀ (k : Nat) (c : Array Value) (t : TypeId) (f : Nat × Nat), w.heap[k]? = some (Obj.cells c t f) → t ≠ 61 → w'.heap[k]? = some (Obj.cells c t f)
theorem Fi.mono {B B' : Nat} {w w' : World} (h : Fi B w w') (hB : B' ≤ B) : Fi B' w w' := ⟨h.bel.mono hB, h.cel⟩
theorem Fi.trans {B : Nat} {a b c : World} (h : Fi B a b) (k : Fi B b c) : Fi B a c := ⟨h.bel.trans k.bel, fun i x t f hi ht => k.cel i x t f (h.cel i x t f hi ht) ht⟩
theorem Fi.of {B : Nat} {w w' : World} (h : Below w.heap.size w w') (hB : B ≤ w.heap.size) : Fi B w w' := ⟨h.mono hB, fun k _ _ _ hk _ => (h.block k (Array.getElem?_eq_some_iff.1 hk).1).trans hk⟩
/-- What the body leaves: all below n but S, and all cells from n on that are no bytes. -/
structure Ku (n : Nat) (S : Nat → Prop) (w w' : World) : Prop where
  size : w.heap.size ≤ w'.heap.size
  low : ∀ k, k < n → k < w.heap.size → ¬ S k → w'.heap[k]? = w.heap[k]?
  high : ∀ (k : Nat) (c : Array Value) (t : TypeId) (f : Nat × Nat), n ≤ k → w.heap[k]? = some (Obj.cells c t f) → t ≠ 5 → w'.heap[k]? = some (Obj.cells c t f)
theorem Ku.trans {n : Nat} {S : Nat → Prop} {a b c : World} (h : Ku n S a b) (k : Ku n S b c) : Ku n S a c :=
  ⟨Nat.le_trans h.size k.size, fun i hi ha hS => (k.low i hi (Nat.lt_of_lt_of_le ha h.size) hS).trans (h.low i hi ha hS), fun i x t f hi hx ht => k.high i x t f hi (h.high i x t f hi hx ht) ht⟩
theorem Ku.of {n : Nat} {S : Nat → Prop} {w w' : World} (h : Below w.heap.size w w') : Ku n S w w' :=
  ⟨h.size, fun k _ hk _ => h.block k hk, fun k _ _ _ _ hk _ => (h.block k (Array.getElem?_eq_some_iff.1 hk).1).trans hk⟩
/-- A block that is S turns. -/
theorem Ku.put {n l : Nat} {S : Nat → Prop} (W : World) (o' : Obj) (hl : S l) (hn : l < n) : Ku n S W (W.putObj l o') :=
  ⟨by simp, fun k _ _ hS => World.putObj_heap_other (fun e => hS (by rw [e]; exact hl)), fun k c t f hk hc _ => (World.putObj_heap_other (by omega)).trans hc⟩
theorem Ku.owns {n : Nat} {S : Nat → Prop} {a b : World} (h : Ku n S a b) {e : TypeId} {size : Nat} {v : Value} {m : Nat} {xs : List Value} (ho : a.ownsRow n e size v m xs) (he : e ≠ 5) : b.ownsRow n e size v m xs := by
  obtain ⟨h1, h2⟩ := ho
  refine ⟨h1, ?_⟩
  rcases h2 with h2 | ⟨g, cap, cur, rfl, h3, h4, h5⟩
  · exact .inl h2
  · exact .inr ⟨g, cap, cur, rfl, h3, h.high g _ _ _ h3 h4 he, h5⟩
/-- A row grows. -/
theorem Fi.grown {B : Nat} {w w' : World} {size n base : Nat} {v : Value} {xs : List Value} (hg : w.grownBy w' v.ownBlock) (ho : w.ownsRow base 61 size v n xs) (hB : B ≤ base) (hs : B ≤ w.heap.size) : Fi B w w' := by
  refine ⟨(Below.refl B w).grown hg hs (fun k hk => Nat.le_trans hB (ho.lt k hk).1), fun k c t f hk ht => (hg.block k (Array.getElem?_eq_some_iff.1 hk).1 fun e => ?_).trans hk⟩
  rcases ho.2 with ⟨rfl, _⟩ | ⟨g, cap, cur, rfl, _, h4, _⟩
  · simp [Value.ownBlock] at e
  · simp [Value.ownBlock] at e
    subst e
    rw [hk] at h4
    injection h4 with h4
    injection h4 with _ h6 _
    exact ht h6

/-- What such a function promises: whatever is kept while blocks from its beginning on turn (J), and is so again behind each round that goes on, is so behind all. -/
def SeqDn {α : Type} (F : Fence) (n : Nat) (P : Program) (g : Nat) (lb : Array Value) (encs : α → Array Value) (Ok : List α → α → World → Prop) (Kp : World → World → Prop) (S Sp : List α → Prop) (w : World) : Prop :=
  ∀ (l : Nat) (J Jx : List α → World → Prop) (W : World), W.heap.size = w.heap.size + 2 → Below w.heap.size w W →
    (∀ s A B, J s A → Fi W.heap.size A B → J s B) → (∀ s A B, Jx s A → Fi W.heap.size A B → Jx s B) →
    (∀ pre x W1, J pre W1 → Ok pre x W1 → W.heap.size ≤ W1.heap.size → YieldAt F (n - 1) P l (encs x) W1 fun e W' =>
      (e = .returned (.bool true) ∧ J (pre ++ [x]) W' ∧ Kp W1 W') ∨ (e = .returned (.bool false) ∧ Jx (pre ++ [x]) W')) →
    J [] W →
    CallsIn F n P g (#[.func (.yield l) #[] #[]] ++ lb) W fun e W' => (∃ v, e = .returned v) ∧ ((∃ xs, S xs ∧ J xs W') ∨ (∃ pre, Sp pre ∧ Jx pre W'))

theorem fi_put {B l : Nat} {W : World} {L : Loop} (o' : Obj) (hl : B ≤ l) (hB : B ≤ W.heap.size) (hL : W.heap[l]? = some (.loop L)) : Fi B W (W.putObj l o') :=
  ⟨below_put o' (Below.refl _ _) hl hB, fun k c t f hk _ => (World.putObj_heap_other (fun e => by subst e; rw [hL] at hk; cases hk)).trans hk⟩

/-- The range over it. I: what holds between two rounds, of blocks that lay when the range began. Ax: what the loop's variable is. -/
theorem range_dn {F : Fence} {n : Nat} {P : Program} {α : Type} {g : Operand} {ps : Array Tmp} {assign body : Code} {Q : Exit → Act → World → Prop} {a : Act} {w : World}
    (hro : F.round = none) (h1 : 1 ≤ n) {gf : Nat} {lb : Array Value} (hg : a.eval g = .func (.func gf) #[] lb) (hFg : F.fn gf) (eg : ∀ args w, (callFunc gf args).run P w = .ok (.enter gf args) w)
    {encs : α → Array Value} {Ok : List α → α → World → Prop} {Kp : World → World → Prop} {S Sp : List α → Prop} (hseq : SeqDn F (n - 1) P gf lb encs Ok Kp S Sp w)
    (hKt : ∀ {A B C : World}, Kp A B → Kp B C → Kp A C) (hKb : ∀ (W : World) (o' : Obj), Kp W (W.putObj (w.heap.size + 1) o'))
    (hps : ∀ x, (encs x).size = ps.size) (I : List α → World → Prop) (Ix : Code → List α → World → Prop)
    (hI : ∀ s A B, I s A → Fi w.heap.size A B → I s B) (hIx : ∀ c s A B, Ix c s A → Fi w.heap.size A B → Ix c s B) (h0 : I [] w)
    (Ax : List α → α → Act → World → Prop) (hAx : ∀ pre x a' W o', Ax pre x a' W → Ax pre x a' (W.putObj (w.heap.size + 1) o'))
    (hassign : ∀ (l : Nat) (pre : List α) (x : α) (W : World) (K : Act → World → Prop), I pre W → Ok pre x W → w.heap.size + 2 ≤ W.heap.size → (∀ a' W', KeepsFrom w.heap.size W W' → Kp W W' → I pre W' → Ax pre x a' W' → K a' W') →
      assign.wpIn (F.inRound l) (n - 1 - 1) P (Exit.then K (fun _ _ _ => False)) { tmps := (ps.zip (encs x)).foldl (fun t (p, v) => t.setIfInBounds p v) a.tmps, defers := [] } W)
    (hbody : ∀ (l : Nat) (pre : List α) (x : α) (a' : Act) (W : World), I pre W → Ax pre x a' W → w.heap.size + 2 ≤ W.heap.size → body.wpIn (F.inRound l) (n - 1 - 1) P (ownPostG w.heap.size Kp I Ix (pre ++ [x]) W) a' W)
    (hdone : ∀ (D : Nat) (xs : List α) (W : World), w.heap.size ≤ D → S xs → I xs W → W.heap[D]? = some (.deferred (some [])) → Q .normal { a with defers := { target := .collected D, args := #[] } :: a.defers } W)
    (hstop : ∀ (D : Nat) (c : Code) (pre : List α) (W : World), w.heap.size ≤ D → Sp pre → Ix c pre W → W.heap[D]? = some (.deferred (some [])) → c.wpIn F n P Q { a with defers := { target := .collected D, args := #[] } :: a.defers } W) :
    (Code.rangeFunc g ps assign body).wpIn F n P Q a w := by
  refine wpIn_rangeFunc ?_
  intro fn hfn
  rw [hro]
  obtain ⟨R, hR⟩ : ∃ R : LoopState → Option Code → Loop, R = fun st pe => { state := st, pending := pe, fn, tmps := a.tmps, params := ps, assign, body, defers := w.heap.size } := ⟨_, rfl⟩
  obtain ⟨W1, hW1⟩ : ∃ W1, (w.alloc (.deferred (some []))).alloc (.loop (R .ready none)) = W1 := ⟨_, rfl⟩
  have hs1 : W1.heap.size = w.heap.size + 2 := by rw [← hW1]; simp
  have hL1 : W1.heap[w.heap.size + 1]? = some (.loop (R .ready none)) := by
    have := World.alloc_heap_new (w.alloc (.deferred (some []))) (.loop (R .ready none))
    rw [World.size_alloc] at this
    rw [← hW1]
    exact this
  have hD1 : W1.heap[w.heap.size]? = some (.deferred (some [])) := by
    rw [← hW1]
    exact (Below.heap_alloc _ _ _ (by simp)).trans (World.alloc_heap_new w _)
  have hb1 : Below w.heap.size w W1 := by
    rw [← hW1]
    exact ((Below.refl _ w).alloc (Nat.le_refl _) _).alloc (by simp) _
  have up : ∀ {A B : World}, Fi W1.heap.size A B → Fi w.heap.size A B := fun h => h.mono (by omega)
  have fb1 : Fi w.heap.size w W1 := Fi.of hb1 (Nat.le_refl _)
  refine ⟨w.heap.size + 1, [{ target := .collected w.heap.size, args := #[] }], W1, { target := .fn (.func gf) lb, args := #[.func (.yield (w.heap.size + 1)) #[] #[]] }, W1, gf,
    #[.func (.yield (w.heap.size + 1)) #[] #[]] ++ lb, W1, ?_, ?_, ?_, ?_, fun _ => h1, ?_⟩
  · rw [← hW1, hR]
    exact run_enterLoop_outer _ _ _ _ _
  · simp only [resolve, hg]
    simp [go_sem]
  · intro f' hf'
    simp [Target.leads] at hf'
    subst hf'
    exact hFg
  · simp [invoke, go_sem, eg]
  refine (hseq (w.heap.size + 1)
    (fun pre W => I pre W ∧ W.heap[w.heap.size + 1]? = some (.loop (R .ready none)) ∧ W.heap[w.heap.size]? = some (.deferred (some [])))
    (fun pre W => ∃ c, Ix c pre W ∧ W.heap[w.heap.size + 1]? = some (.loop (R .done (some c))) ∧ W.heap[w.heap.size]? = some (.deferred (some [])))
    W1 hs1 hb1
    (fun s A B hs hAB => ⟨hI s A B hs.1 (up hAB), (hAB.bel.block _ (by omega)).trans hs.2.1, (hAB.bel.block _ (by omega)).trans hs.2.2⟩)
    (fun s A B hs hAB => by
      obtain ⟨c, hc, hl, hk⟩ := hs
      exact ⟨c, hIx c s A B hc (up hAB), (hAB.bel.block _ (by omega)).trans hl, (hAB.bel.block _ (by omega)).trans hk⟩)
    ?_ ⟨hI _ _ _ h0 fb1, hL1, hD1⟩).mono ?_
  · rintro pre x W ⟨hi, hl, hk⟩ hok hsz
    have hy := run_yield (P := P) (args := encs x) hl (by rw [hR]; exact hps x)
    rw [hR] at hy
    refine ⟨fn, _, assign, body, hy, roundIn_of_wpIn hfn (hassign _ pre x W _ hi hok (by omega) ?_)⟩
    clear hy
    intro a' V hkf hkp hi2 hax
    have hl2 := hkf.same _ _ (by omega) hl rfl
    have hk2 := hkf.same _ _ (Nat.le_refl _) hk rfl
    have hlt : w.heap.size + 1 < V.heap.size := (Array.getElem?_eq_some_iff.1 hl2).1
    refine ⟨_, run_beginRound hl2 (by rw [hR]), ?_⟩
    have hl3 : (V.putObj (w.heap.size + 1) (.loop { R .ready none with state := .busy })).heap[w.heap.size + 1]? = some (.loop { R .ready none with state := .busy }) := World.putObj_heap_same hlt
    have hk3 : (V.putObj (w.heap.size + 1) (.loop { R .ready none with state := .busy })).heap[w.heap.size]? = some (.deferred (some [])) := (World.putObj_heap_other (by omega)).trans hk2
    have keep : ∀ {U : World} {L : Loop} (o' : Obj), U.heap[w.heap.size + 1]? = some (.loop L) → Fi w.heap.size U (U.putObj (w.heap.size + 1) o') := fun o' hU => fi_put o' (by omega) (by have := (Array.getElem?_eq_some_iff.1 hU).1; omega) hU
    refine wpIn_mono (hbody _ pre x a' _ (hI _ _ _ hi2 (keep _ hl2)) (hAx _ _ _ _ _ hax) (by simp; omega)) ?_
    have fin : ∀ (jump : Option Code) (U : World), KeepsFrom w.heap.size (V.putObj (w.heap.size + 1) (.loop { R .ready none with state := .busy })) U →
        (Instr.endRound (w.heap.size + 1) jump).run P U = .ok (.bool jump.isNone) (U.putObj (w.heap.size + 1) (.loop (R (if jump.isNone then .ready else .done) jump))) ∧
        U.heap[w.heap.size + 1]? = some (.loop { R .ready none with state := .busy }) ∧
        (U.putObj (w.heap.size + 1) (.loop (R (if jump.isNone then .ready else .done) jump))).heap[w.heap.size + 1]? = some (.loop (R (if jump.isNone then .ready else .done) jump)) ∧
        (U.putObj (w.heap.size + 1) (.loop (R (if jump.isNone then .ready else .done) jump))).heap[w.heap.size]? = some (.deferred (some [])) := fun jump U hU => by
      have h3 := hU.same _ _ (by omega) hl3 rfl
      have hr := run_endRound (P := P) jump h3
      have h4 := (Array.getElem?_eq_some_iff.1 h3).1
      rw [hR] at hr h3 ⊢
      exact ⟨hr, h3, World.putObj_heap_same h4, (World.putObj_heap_other (by omega)).trans (hU.same _ _ (Nat.le_refl _) hk3 rfl)⟩
    rintro e a3 U hp
    cases e with
    | normal =>
      obtain ⟨p1, p2, p3⟩ := hp
      obtain ⟨q1, q5, q3, q4⟩ := fin none U p1
      exact ⟨_, _, q1, .inl ⟨rfl, ⟨hI _ _ _ p3 (keep _ q5), q3, q4⟩, hKt hkp (hKt (hKt (hKb _ _) p2) (hKb _ _))⟩⟩
    | ret =>
      obtain ⟨p1, p2⟩ := hp
      obtain ⟨q1, q5, q3, q4⟩ := fin (some .ret) U p1
      exact ⟨_, _, q1, .inr ⟨rfl, .ret, hIx _ _ _ _ p2 (keep _ q5), q3, q4⟩⟩
    | exit id =>
      obtain ⟨p1, p2⟩ := hp
      obtain ⟨q1, q5, q3, q4⟩ := fin (some (.exit id)) U p1
      exact ⟨_, _, q1, .inr ⟨rfl, .exit id, hIx _ _ _ _ p2 (keep _ q5), q3, q4⟩⟩
    | goto t =>
      obtain ⟨p1, p2⟩ := hp
      obtain ⟨q1, q5, q3, q4⟩ := fin (some (.goto t)) U p1
      exact ⟨_, _, q1, .inr ⟨rfl, .goto t, hIx _ _ _ _ p2 (keep _ q5), q3, q4⟩⟩
    | panic ch => exact hp.elim
    | outgrown => exact hp.elim
  · rintro e V ⟨⟨v, rfl⟩, (⟨xs, hS, hi, hl, hk⟩ | ⟨pre, hSp, c, hi, hl, hk⟩)⟩
    · have hlt : w.heap.size + 1 < V.heap.size := (Array.getElem?_eq_some_iff.1 hl).1
      have hr := run_endLoop (P := P) hl (by rw [hR]; simp)
      rw [hR] at hr
      exact ⟨none, _, hr, hdone _ xs _ (Nat.le_refl _) hS (hI _ _ _ hi (fi_put _ (by omega) (by omega) hl)) ((World.putObj_heap_other (by omega)).trans hk)⟩
    · have hlt : w.heap.size + 1 < V.heap.size := (Array.getElem?_eq_some_iff.1 hl).1
      have hr := run_endLoop (P := P) hl (by rw [hR]; simp)
      rw [hR] at hr
      exact ⟨some c, _, hr, hstop _ c pre _ (Nat.le_refl _) hSp (hIx _ _ _ _ hi (fi_put _ (by omega) (by omega) hl)) ((World.putObj_heap_other (by omega)).trans hk)⟩

end Go.Proofs.Ytploagieecepfaa.Sg
