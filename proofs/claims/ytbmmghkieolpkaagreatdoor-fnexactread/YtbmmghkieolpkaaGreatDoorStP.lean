/- Names and texts that are strict, in plain lists: what is made strict is strict, and what is strict stays. No program in it. -/
import Derived.Test.YtbmmghkieolpkaaGreatDoorMR2204
namespace Go.Proofs.YtbmmghkieolpkaaGreatDoor.Sg

theorem firstB_ok {n : Int} (h : firstB n = true) : okB n = true := by
  unfold firstB letterB withinB letterL firstL firstR inP at h
  simp only [List.any_cons, List.any_nil, Bool.or_false, Bool.or_eq_true, decide_eq_true_eq] at h
  exact okB_yes (by omega)
theorem nextB_ok {n : Int} (h : nextB n = true) : okB n = true := by
  unfold nextB at h
  rw [Bool.or_eq_true] at h
  rcases h with h | h
  · exact firstB_ok h
  · unfold withinB nextL inP at h
    simp only [List.any_cons, List.any_nil, Bool.or_false, Bool.or_eq_true, decide_eq_true_eq] at h
    exact okB_yes (by omega)
theorem textB_ok {n : Int} (h : textB n = true) : okB n = true := by
  unfold textB at h
  rw [decide_eq_true_eq] at h
  rcases h with h | h | h | h
  · exact okB_yes (by omega)
  · exact okB_yes (by omega)
  · exact okB_yes (by omega)
  · exact h.1
theorem firstB_next {n : Int} (h : firstB n = true) : nextB n = true := by unfold nextB; rw [h]; rfl
theorem fix_of {z : Int} (h : okB z = true) : fix z = z := by unfold fix; rw [if_pos h]
theorem map_fix {zs : List Int} (h : ∀ z ∈ zs, okB z = true) : zs.map fix = zs := by
  induction zs with
  | nil => rfl
  | cons z zs ih => rw [List.map_cons, fix_of (h z List.mem_cons_self), ih fun y hy => h y (List.mem_cons_of_mem _ hy)]

/-- A sign of one byte. -/
theorem putS_one {z : Int} (h0 : 0 ≤ z) (h1 : z ≤ 127) : (putS z).data.toList = [UInt8.ofNat z.toNat] := by
  rw [putS_list, Lib.encodeRuneZ_one h0 h1]
  rfl
theorem sgBytes_nil : sgBytes [] = [] := rfl
theorem sgBytes_cons (z : Int) (zs : List Int) : sgBytes (z :: zs) = (putS z).data.toList ++ sgBytes zs := by simp [sgBytes]
theorem sgBytes_append (xs ys : List Int) : sgBytes (xs ++ ys) = sgBytes xs ++ sgBytes ys := by simp [sgBytes]

/-- What is clean is its signs, written. -/
theorem clean_eq {s : ByteArray} (h : cleanB s = true) : textS (signsL s) = s := by
  unfold cleanB at h
  rw [beq_iff_eq, ByteArray.toList_eq, ByteArray.toList_eq] at h
  show (⟨_⟩ : ByteArray) = s
  have h2 : (cleanS s).data = s.data := Array.toList_inj.1 h
  cases s with
  | mk d => exact congrArg ByteArray.mk h2
theorem signs_some {s : ByteArray} (h : s.size ≠ 0) : signsL s ≠ [] := by
  rw [← signsAt_zero, signsAt_step s 0 (by omega)]
  exact List.cons_ne_nil _ _

/-- A digit of 16, large. -/
def hexZ (d : Nat) : Int := if d < 10 then 48 + d else 55 + d
/-- Six digits of 16. -/
def sixZ (n : Nat) : List Int := [hexZ (n / 1048576 % 16), hexZ (n / 65536 % 16), hexZ (n / 4096 % 16), hexZ (n / 256 % 16), hexZ (n / 16 % 16), hexZ (n % 16)]
theorem hexZ_next (d : Nat) (h : d < 16) : nextB (hexZ d) = true := by
  have : ∀ d, d < 16 → nextB (hexZ d) = true := by decide
  exact this d h

/-- A sign may stand in a name: first or not. -/
def stayB : Bool → Int → Bool
  | true, z => firstB z
  | false, z => nextB z
theorem stayB_next {f : Bool} {z : Int} (h : stayB f z = true) : nextB z = true := by
  cases f
  · exact h
  · exact firstB_next h
/-- What a sign becomes in a name: first or not. -/
def strictZ (f : Bool) (z : Int) : List Int := if stayB f z = true then [z] else 85 :: sixZ z.toNat
/-- A name's signs, made strict. -/
def namesZ : Bool → List Int → List Int
  | _, [] => []
  | f, z :: zs => strictZ f z ++ namesZ false zs
/-- A name that is strict. -/
def stNameL : Bool → List Int → Bool
  | _, [] => true
  | f, z :: zs => stayB f z && stNameL false zs
def stNameB (s : ByteArray) : Bool := stNameL true (signsL s) && decide (s.size ≠ 0) && cleanB s
def stNameS (s : ByteArray) : ByteArray := if s.size = 0 then ⟨#[85]⟩ else textS (namesZ true (signsL s))

theorem stNameL_all {zs : List Int} (h : ∀ z ∈ zs, nextB z = true) : stNameL false zs = true := by
  induction zs with
  | nil => rfl
  | cons z zs ih =>
    unfold stNameL
    rw [ih fun y hy => h y (List.mem_cons_of_mem _ hy)]
    simp [stayB, h z List.mem_cons_self]
theorem stNameL_first {zs : List Int} (h : stNameL true zs = true) : stNameL false zs = true := by
  cases zs with
  | nil => rfl
  | cons z zs =>
    unfold stNameL at h ⊢
    rw [Bool.and_eq_true] at h
    rw [Bool.and_eq_true]
    exact ⟨firstB_next h.1, h.2⟩
theorem stNameL_next {zs : List Int} (h : stNameL false zs = true) : ∀ z ∈ zs, nextB z = true := by
  induction zs with
  | nil => intro z hz; cases hz
  | cons z zs ih =>
    unfold stNameL at h
    rw [Bool.and_eq_true] at h
    intro y hy
    rcases List.mem_cons.1 hy with rfl | hy
    · exact h.1
    · exact ih h.2 y hy
theorem sixZ_next (n : Nat) : ∀ z ∈ sixZ n, nextB z = true := by
  intro z hz
  unfold sixZ at hz
  simp only [List.mem_cons, List.not_mem_nil, or_false] at hz
  rcases hz with rfl | rfl | rfl | rfl | rfl | rfl <;> exact hexZ_next _ (Nat.mod_lt _ (by decide))
theorem strictZ_next (f : Bool) (z : Int) : ∀ y ∈ strictZ f z, nextB y = true := by
  intro y hy
  unfold strictZ at hy
  split at hy
  · rename_i h
    rw [List.mem_singleton] at hy
    subst hy
    exact stayB_next h
  · rcases List.mem_cons.1 hy with rfl | hy
    · decide
    · exact sixZ_next _ y hy
theorem strictZ_head (z : Int) : ∃ y l, strictZ true z = y :: l ∧ firstB y = true := by
  unfold strictZ
  split
  · rename_i h
    exact ⟨z, [], rfl, h⟩
  · exact ⟨85, _, rfl, by decide⟩
theorem namesZ_next (f : Bool) (zs : List Int) : ∀ y ∈ namesZ f zs, nextB y = true := by
  induction zs generalizing f with
  | nil => intro y hy; cases hy
  | cons z zs ih =>
    intro y hy
    unfold namesZ at hy
    rcases List.mem_append.1 hy with hy | hy
    · exact strictZ_next f z y hy
    · exact ih false y hy
theorem namesZ_ok (zs : List Int) : stNameL true (namesZ true zs) = true := by
  cases zs with
  | nil => rfl
  | cons z zs =>
    obtain ⟨y, l, hy, hf⟩ := strictZ_head z
    have h := namesZ_next true (z :: zs)
    unfold namesZ at h ⊢
    rw [hy] at h ⊢
    rw [List.cons_append] at h ⊢
    unfold stNameL
    rw [stNameL_all fun x hx => h x (List.mem_cons_of_mem _ hx), Bool.and_true]
    exact hf
theorem namesZ_stays {f : Bool} {zs : List Int} (h : stNameL f zs = true) : namesZ f zs = zs := by
  induction zs generalizing f with
  | nil => rfl
  | cons z zs ih =>
    unfold stNameL at h
    rw [Bool.and_eq_true] at h
    unfold namesZ strictZ
    rw [if_pos h.1, ih h.2]
    rfl
theorem signs_names (zs : List Int) : signsL (textS (namesZ true zs)) = namesZ true zs := by
  rw [signs_text]
  exact map_fix fun z hz => nextB_ok (namesZ_next true zs z hz)
theorem strictZ_some (f : Bool) (z : Int) : strictZ f z ≠ [] := by
  unfold strictZ
  split <;> exact List.cons_ne_nil _ _
theorem sgBytes_some {zs : List Int} (h : zs ≠ []) : sgBytes zs ≠ [] := by
  cases zs with
  | nil => exact absurd rfl h
  | cons z zs =>
    rw [sgBytes_cons]
    intro e
    have h1 := (List.append_eq_nil_iff.1 e).1
    have h2 : (putS z).data.toList.length = (putS z).size := Array.length_toList
    have h3 := putS_size z
    rw [h1] at h2
    simp at h2
    omega
theorem textS_size (zs : List Int) : (textS zs).size = (sgBytes zs).length := size_list _
theorem u_eq : (⟨#[85]⟩ : ByteArray) = textS [85] := by
  have h : sgBytes [85] = [85] := by rw [sgBytes_cons, putS_one (by decide) (by decide)]; rfl
  unfold textS
  rw [h]

/-- What is made strict is strict. -/
theorem nameOk_made (s : ByteArray) : stNameB (stNameS s) = true := by
  unfold stNameB stNameS
  split
  · rw [u_eq, cleanB_text, signs_text]
    have h1 : stNameL true ([85].map fix) = true := by decide
    have h2 : (textS [85]).size ≠ 0 := by rw [← u_eq]; decide
    rw [h1, decide_eq_true h2]
    rfl
  · rename_i h
    rw [cleanB_text, signs_names, namesZ_ok]
    have h1 : namesZ true (signsL s) ≠ [] := by
      have := signs_some h
      cases hs : signsL s with
      | nil => exact absurd hs this
      | cons z zs =>
        unfold namesZ
        intro e
        exact strictZ_some _ _ (List.append_eq_nil_iff.1 e).1
    have h2 : (textS (namesZ true (signsL s))).size ≠ 0 := by
      rw [textS_size]
      intro e
      exact sgBytes_some h1 (List.eq_nil_of_length_eq_zero e)
    rw [decide_eq_true h2]
    rfl
/-- What is strict stays. -/
theorem name_stays {s : ByteArray} (h : stNameB s = true) : stNameS s = s := by
  unfold stNameB at h
  rw [Bool.and_eq_true, Bool.and_eq_true, decide_eq_true_eq] at h
  unfold stNameS
  rw [if_neg h.1.2, namesZ_stays h.1.1, clean_eq h.2]

/-- A text's sign, made strict. -/
def mildZ (z : Int) : Int := if z = 12 then 32 else if textB z = true then z else 65533
def stTextB (s : ByteArray) : Bool := (signsL s).all textB && cleanB s
def mildS (s : ByteArray) : ByteArray := textS ((signsL s).map mildZ)
theorem mildZ_text (z : Int) : textB (mildZ z) = true := by
  unfold mildZ
  split
  · decide
  · split
    · assumption
    · decide
theorem signs_mild (zs : List Int) (h : ∀ z ∈ zs, textB z = true) : signsL (textS zs) = zs := by
  rw [signs_text]
  exact map_fix fun z hz => textB_ok (h z hz)
theorem mild_all (zs : List Int) : ∀ z ∈ zs.map mildZ, textB z = true := by
  intro z hz
  obtain ⟨y, _, rfl⟩ := List.mem_map.1 hz
  exact mildZ_text y
theorem text_signs {zs : List Int} (h : ∀ z ∈ zs, textB z = true) : stTextB (textS zs) = true := by
  unfold stTextB
  rw [cleanB_text, signs_mild zs h, Bool.and_true]
  exact List.all_eq_true.2 h
theorem textOk_made (s : ByteArray) : stTextB (mildS s) = true := text_signs (mild_all _)
theorem mildZ_stays {z : Int} (h : textB z = true) : mildZ z = z := by
  unfold mildZ
  rw [if_neg (by rintro rfl; revert h; decide), if_pos h]
theorem text_stays {s : ByteArray} (h : stTextB s = true) : mildS s = s := by
  unfold stTextB at h
  rw [Bool.and_eq_true, List.all_eq_true] at h
  unfold mildS
  have e : (signsL s).map mildZ = signsL s := by
    have : ∀ zs : List Int, (∀ z ∈ zs, textB z = true) → zs.map mildZ = zs := by
      intro zs
      induction zs with
      | nil => intro _; rfl
      | cons z zs ih =>
        intro hz
        rw [List.map_cons, mildZ_stays (hz z List.mem_cons_self), ih fun y hy => hz y (List.mem_cons_of_mem _ hy)]
    exact this _ h.1
  rw [e, clean_eq h.2]
theorem mild_mild (s : ByteArray) : mildS (mildS s) = mildS s := text_stays (textOk_made s)

/-- No byte 13. -/
def noCr (l : List UInt8) : Bool := l.all fun b => b != 13
/-- No two bytes 45 one behind the other. -/
def noTwo : List UInt8 → Bool
  | [] => true
  | b :: l => !(b == 45 && l.head? == some 45) && noTwo l
/-- None at the end. -/
def lastOk (l : List UInt8) : Bool := l.getLast? != some 45
def stNoteB (s : ByteArray) : Bool := stTextB s && noCr s.data.toList && noTwo s.data.toList && lastOk s.data.toList
/-- A byte of a note, made strict. -/
def lineU (b : UInt8) : UInt8 := if b = 13 then 10 else b
/-- A note, made strict. -/
def stNoteL : List UInt8 → List UInt8
  | [] => []
  | b :: l => lineU b :: (if b = 45 ∧ (l = [] ∨ l.head? = some 45) then 32 :: stNoteL l else stNoteL l)
def stNoteS (s : ByteArray) : ByteArray := ⟨(stNoteL (mildS s).data.toList).toArray⟩

theorem stNoteL_cr (l : List UInt8) : noCr (stNoteL l) = true := by
  induction l with
  | nil => rfl
  | cons b l ih =>
    have h : (lineU b != 13) = true := by
      unfold lineU
      split
      · decide
      · simpa using ‹_›
    unfold noCr at ih ⊢
    unfold stNoteL
    split
    · simp only [List.all_cons, ih, h]; decide
    · simp only [List.all_cons, ih, h]; decide
theorem stNoteL_head (l : List UInt8) : (stNoteL l).head? = l.head?.map lineU := by
  cases l with
  | nil => rfl
  | cons b l => unfold stNoteL; rfl
theorem lineU_45 (b : UInt8) : lineU b = 45 ↔ b = 45 := by
  unfold lineU
  split
  · rename_i h
    subst h
    decide
  · exact Iff.rfl
theorem stNoteL_two (l : List UInt8) : noTwo (stNoteL l) = true := by
  induction l with
  | nil => rfl
  | cons b l ih =>
    unfold stNoteL
    split
    · unfold noTwo
      unfold noTwo
      rw [ih]
      simp
    · rename_i h
      unfold noTwo
      rw [ih, stNoteL_head, Bool.and_true]
      cases hb : lineU b == 45
      · rfl
      · have hb' : b = 45 := (lineU_45 b).1 (by simpa using hb)
        cases l with
        | nil => exact absurd ⟨hb', .inl rfl⟩ h
        | cons c l =>
          have hc : lineU c ≠ 45 := fun e => h ⟨hb', .inr (by rw [(lineU_45 c).1 e]; rfl)⟩
          simp [hc]
theorem stNoteL_last (l : List UInt8) : lastOk (stNoteL l) = true := by
  induction l with
  | nil => rfl
  | cons b l ih =>
    unfold lastOk at ih ⊢
    unfold stNoteL
    split
    · cases hn : stNoteL l with
      | nil => simp
      | cons c m =>
        rw [hn] at ih
        rw [List.getLast?_cons_cons, List.getLast?_cons_cons]
        exact ih
    · rename_i h
      cases l with
      | nil =>
        have : ¬ lineU b = 45 := fun e => h ⟨(lineU_45 b).1 e, .inl rfl⟩
        simp [stNoteL, this]
      | cons c l =>
        have hn : ∃ x m, stNoteL (c :: l) = x :: m := by unfold stNoteL; exact ⟨_, _, rfl⟩
        obtain ⟨x, m, hn⟩ := hn
        rw [hn] at ih ⊢
        rw [List.getLast?_cons_cons]
        exact ih
theorem stNoteL_stays {l : List UInt8} (h1 : noCr l = true) (h2 : noTwo l = true) (h3 : lastOk l = true) : stNoteL l = l := by
  induction l with
  | nil => rfl
  | cons b l ih =>
    unfold noCr at h1
    rw [List.all_cons, Bool.and_eq_true] at h1
    unfold noTwo at h2
    rw [Bool.and_eq_true] at h2
    have hb : lineU b = b := by
      unfold lineU
      rw [if_neg (by simpa using h1.1)]
    have hl : lastOk l = true := by
      cases l with
      | nil => rfl
      | cons c l =>
        unfold lastOk at h3 ⊢
        rw [List.getLast?_cons_cons] at h3
        exact h3
    have hc : ¬ (b = 45 ∧ (l = [] ∨ l.head? = some 45)) := by
      rintro ⟨rfl, rfl | hh⟩
      · revert h3; decide
      · rw [hh] at h2
        have := h2.1
        simp at this
    unfold stNoteL
    rw [if_neg hc, hb, ih h1.2 h2.2 hl]

/-- The same, sign by sign. -/
def noteZ : List Int → List Int
  | [] => []
  | z :: l => (if z = 13 then 10 else z) :: (if z = 45 ∧ (l = [] ∨ l.head? = some 45) then 32 :: noteZ l else noteZ l)
theorem noteZ_text {zs : List Int} (h : ∀ z ∈ zs, textB z = true) : ∀ z ∈ noteZ zs, textB z = true := by
  induction zs with
  | nil => intro z hz; cases hz
  | cons y zs ih =>
    have ih' := ih fun x hx => h x (List.mem_cons_of_mem _ hx)
    have hy := h y List.mem_cons_self
    intro z hz
    unfold noteZ at hz
    rcases List.mem_cons.1 hz with rfl | hz
    · split
      · decide
      · exact hy
    · split at hz
      · rcases List.mem_cons.1 hz with rfl | hz
        · decide
        · exact ih' z hz
      · exact ih' z hz
/-- Bytes of 128 and more are gone over. -/
theorem stNoteL_high (bs r : List UInt8) (h : ∀ b ∈ bs, 128 ≤ b.toNat) : stNoteL (bs ++ r) = bs ++ stNoteL r := by
  induction bs with
  | nil => rfl
  | cons b bs ih =>
    have hb := h b List.mem_cons_self
    have h1 : b ≠ 45 := by rintro rfl; revert hb; decide
    have h2 : b ≠ 13 := by rintro rfl; revert hb; decide
    have e1 : stNoteL (b :: (bs ++ r)) = b :: stNoteL (bs ++ r) := by
      conv => lhs; unfold stNoteL
      rw [if_neg fun e => h1 e.1]
      unfold lineU
      rw [if_neg h2]
    rw [List.cons_append, e1, ih fun x hx => h x (List.mem_cons_of_mem _ hx), List.cons_append]
theorem putS_high {z : Int} (hz : okB z = true) (h : 128 ≤ z) : ∀ b ∈ (putS z).data.toList, 128 ≤ b.toNat := by
  have hb := okB_of hz
  have key : ∀ x : Int, 128 ≤ x → x < 256 → 128 ≤ (UInt8.ofNat x.toNat).toNat := by
    intro x h0 h1
    rw [u8_of x (by omega) h1]
    omega
  rw [putS_list]
  by_cases c2 : z ≤ 2047
  · rw [Lib.encodeRuneZ_two (by omega) c2]
    intro b hb
    simp only [List.map_cons, List.map_nil, List.mem_cons, List.not_mem_nil, or_false] at hb
    rcases hb with rfl | rfl <;> exact key _ (by omega) (by omega)
  · by_cases c3 : z ≤ 65535
    · rw [Lib.encodeRuneZ_three (by omega)]
      intro b hb
      simp only [List.map_cons, List.map_nil, List.mem_cons, List.not_mem_nil, or_false] at hb
      rcases hb with rfl | rfl | rfl <;> exact key _ (by omega) (by omega)
    · rw [Lib.encodeRuneZ_four (by omega) (by omega)]
      intro b hb
      simp only [List.map_cons, List.map_nil, List.mem_cons, List.not_mem_nil, or_false] at hb
      rcases hb with rfl | rfl | rfl | rfl <;> exact key _ (by omega) (by omega)
theorem sgBytes_head {zs : List Int} (h : ∀ z ∈ zs, okB z = true) : (sgBytes zs).head? = some 45 ↔ zs.head? = some 45 := by
  cases zs with
  | nil =>
    rw [sgBytes_nil]
    simp
  | cons z zs =>
    have hz := h z List.mem_cons_self
    have hb := okB_of hz
    rw [sgBytes_cons, List.head?_cons]
    by_cases c : z ≤ 127
    · rw [putS_one (by omega) c, List.singleton_append, List.head?_cons, Option.some_inj, Option.some_inj]
      constructor
      · intro e
        have := congrArg UInt8.toNat e
        rw [u8_of z (by omega) (by omega)] at this
        have h45 : (45 : UInt8).toNat = 45 := rfl
        omega
      · rintro rfl
        rfl
    · have hh := putS_high hz (by omega)
      have hne : (putS z).data.toList ≠ [] := by
        intro e
        have h2 : (putS z).data.toList.length = (putS z).size := Array.length_toList
        have h3 := putS_size z
        rw [e] at h2
        simp at h2
        omega
      cases hp : (putS z).data.toList with
      | nil => exact absurd hp hne
      | cons b l =>
        rw [hp] at hh
        have := hh b List.mem_cons_self
        rw [List.cons_append, List.head?_cons, Option.some_inj, Option.some_inj]
        constructor
        · rintro rfl
          have h45 : (45 : UInt8).toNat = 45 := rfl
          omega
        · rintro rfl
          omega
theorem stNoteL_signs {zs : List Int} (h : ∀ z ∈ zs, okB z = true) : stNoteL (sgBytes zs) = sgBytes (noteZ zs) := by
  induction zs with
  | nil => rfl
  | cons z zs ih =>
    have hz := h z List.mem_cons_self
    have hzs : ∀ y ∈ zs, okB y = true := fun y hy => h y (List.mem_cons_of_mem _ hy)
    have ih' := ih hzs
    have hb := okB_of hz
    have hnil : sgBytes zs = [] ↔ zs = [] := ⟨fun e => Classical.byContradiction fun c => sgBytes_some c e, fun e => by rw [e]; rfl⟩
    have hh := sgBytes_head hzs
    unfold noteZ
    rw [sgBytes_cons, sgBytes_cons]
    by_cases c : z ≤ 127
    · rw [putS_one (by omega) c, List.singleton_append]
      unfold stNoteL
      rw [ih']
      have e45 : (UInt8.ofNat z.toNat = 45) ↔ z = 45 := by
        constructor
        · intro e
          have := congrArg UInt8.toNat e
          rw [u8_of z (by omega) (by omega)] at this
          have h45 : (45 : UInt8).toNat = 45 := rfl
          omega
        · rintro rfl; rfl
      have e13 : (UInt8.ofNat z.toNat = 13) ↔ z = 13 := by
        constructor
        · intro e
          have := congrArg UInt8.toNat e
          rw [u8_of z (by omega) (by omega)] at this
          have h45 : (13 : UInt8).toNat = 13 := rfl
          omega
        · rintro rfl; rfl
      have ec : (UInt8.ofNat z.toNat = 45 ∧ (sgBytes zs = [] ∨ (sgBytes zs).head? = some 45)) ↔ (z = 45 ∧ (zs = [] ∨ zs.head? = some 45)) := and_congr e45 (or_congr hnil hh)
      have hl : [lineU (UInt8.ofNat z.toNat)] = (putS (if z = 13 then 10 else z)).data.toList := by
        unfold lineU
        by_cases q : z = 13
        · rw [if_pos (e13.2 q), if_pos q, putS_one (by decide) (by decide)]; rfl
        · rw [if_neg fun e => q (e13.1 e), if_neg q, putS_one (by omega) c]
      rw [← List.singleton_append, hl]
      by_cases q : z = 45 ∧ (zs = [] ∨ zs.head? = some 45)
      · rw [if_pos (ec.2 q), if_pos q, sgBytes_cons, putS_one (z := 32) (by decide) (by decide)]
        rfl
      · rw [if_neg fun e => q (ec.1 e), if_neg q]
    · rw [stNoteL_high _ _ (putS_high hz (by omega)), if_neg (by omega), if_neg (by omega), ih']
/-- A note made strict is strict. -/
theorem noteOk_made (s : ByteArray) : stNoteB (stNoteS s) = true := by
  have hm := mild_all (signsL s)
  have e : stNoteS s = textS (noteZ ((signsL s).map mildZ)) := by
    unfold stNoteS mildS textS
    rw [show (⟨(sgBytes ((signsL s).map mildZ)).toArray⟩ : ByteArray).data.toList = sgBytes ((signsL s).map mildZ) from rfl, stNoteL_signs fun z hz => textB_ok (hm z hz)]
  unfold stNoteB
  rw [show stTextB (stNoteS s) = true from by rw [e]; exact text_signs (noteZ_text hm)]
  rw [show (stNoteS s).data.toList = stNoteL (mildS s).data.toList from rfl, stNoteL_cr, stNoteL_two, stNoteL_last]
  rfl
theorem note_stays {s : ByteArray} (h : stNoteB s = true) : stNoteS s = s := by
  unfold stNoteB at h
  rw [Bool.and_eq_true, Bool.and_eq_true, Bool.and_eq_true] at h
  unfold stNoteS
  rw [text_stays h.1.1.1, stNoteL_stays h.1.1.2 h.1.2 h.2]
theorem note_note (s : ByteArray) : stNoteS (stNoteS s) = stNoteS s := note_stays (noteOk_made s)

/-- How long they may become. -/
theorem mild_size (s : ByteArray) : (mildS s).size ≤ 4 * s.size := by
  have h := sgBytes_length ((signsL s).map mildZ)
  rw [List.length_map] at h
  have h2 := signsL_length s
  show (textS _).size ≤ _
  rw [textS_size]
  omega
theorem stNoteL_length (l : List UInt8) : (stNoteL l).length ≤ 2 * l.length := by
  induction l with
  | nil => exact Nat.le_refl _
  | cons b l ih =>
    unfold stNoteL
    split
    · simp only [List.length_cons]; omega
    · simp only [List.length_cons]; omega
theorem st_note_size (s : ByteArray) : (stNoteS s).size ≤ 8 * s.size := by
  have h := stNoteL_length (mildS s).data.toList
  have h2 := mild_size s
  have h3 : (mildS s).data.toList.length = (mildS s).size := Array.length_toList
  show (⟨_⟩ : ByteArray).size ≤ _
  rw [size_list]
  omega
theorem strictZ_length (f : Bool) (z : Int) : (strictZ f z).length ≤ 7 := by
  unfold strictZ
  split
  · show 1 ≤ 7
    decide
  · exact Nat.le_refl _
theorem namesZ_length (f : Bool) (zs : List Int) : (namesZ f zs).length ≤ 7 * zs.length := by
  induction zs generalizing f with
  | nil => exact Nat.le_refl _
  | cons z zs ih =>
    unfold namesZ
    have := ih false
    have h2 := strictZ_length f z
    rw [List.length_append, List.length_cons]
    omega
theorem st_name_size (s : ByteArray) : (stNameS s).size ≤ 28 * s.size + 1 := by
  unfold stNameS
  split
  · show 1 ≤ _
    omega
  · rw [textS_size]
    have h1 := sgBytes_length (namesZ true (signsL s))
    have h2 := namesZ_length true (signsL s)
    have h3 := signsL_length s
    omega

end Go.Proofs.YtbmmghkieolpkaaGreatDoor.Sg
