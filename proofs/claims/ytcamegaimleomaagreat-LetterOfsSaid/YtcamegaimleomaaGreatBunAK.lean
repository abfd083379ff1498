/-
  CORRECTIONS TOWARDS SLOTS, as ways: what the choices find is the fewest; by way of another letter no fewer.
  WITH MORE ROOM no more corrections are needed, plain.
  ANY MARKS, BY TURNS, plain: what has come of a letter, mark by mark.
  AN append AT THE END OF A REGION THAT DRAWS ITS ORDER, onto a row of the call's own: the step, and the two relations. Over any program.
  AN append ONTO A ROW OF THE CALL's OWN, and what it leaves of that row: its first cells. For a region that draws its order and makes and grows several rows. Over any program.
  A REGION WALKED OVER A FRAME THAT IS A VARIABLE: what its slots hold is said by facts alone. Over any program.
  A BLOCK, OR A BRANCHING, TAKEN OUT OF A FUNCTION'S TEXT, so that it can be walked in a declaration of its own. Over any program.
  A STATEMENT THAT IS A REGION, TAKEN OUT OF A FUNCTION'S TEXT, so that it can be walked in a declaration of its own. Over any program.
  ONE MORE ELEMENT AT THE END OF A COPY (append(append([]T{}, l...), x)): what the steps of such a region leave. Over any element.
  STRINGS, plain: two with the same bytes are the same; what a byte parts.
  Fills of the program, for any shelf, form and letter.
  THE SHELF OF THE EXAMPLES: what is so of it, by computation.
  WHAT A BYTE PARTS: Split of the reference.
-/
import Derived.Test.YtcamegaimleomaaGreatBunAJ
import Derived.Test.YtcamegaimleomaaGreatBunAD
import Derived.Test.YtcamegaimleomaaGreatBunAH
import Derived.Maps.AppendAt
import Derived.Laws.OwnMore
import Derived.Test.YtcamegaimleomaaGreatBunAA
import Derived.Test.YtcamegaimleomaaGreatBunAI
namespace Go.Proofs.YtcamegaimleomaaGreat
set_option linter.unusedSimpArgs false
set_option linter.unusedVariables false
set_option linter.unusedVariables false

/-- a way from a letter to slots, with so many corrections -/
inductive EdS : List ByteArray → List Slot → Nat → Prop where
  | nil : EdS [] [] 0
  | keep (x : ByteArray) (s : Slot) {a : List ByteArray} {b : List Slot} {n : Nat} : takesM s x = true → EdS a b n → EdS (x :: a) (s :: b) n
  | turn (x : ByteArray) (s : Slot) {a : List ByteArray} {b : List Slot} {n : Nat} : EdS a b n → EdS (x :: a) (s :: b) (n + 1)
  | drop (x : ByteArray) {a : List ByteArray} {b : List Slot} {n : Nat} : EdS a b n → EdS (x :: a) b (n + 1)
  | put (s : Slot) {a : List ByteArray} {b : List Slot} {n : Nat} : EdS a b n → EdS a (s :: b) (n + 1)
  | skip (s : Slot) {a : List ByteArray} {b : List Slot} {n : Nat} : s.free = true → EdS a b n → EdS a (s :: b) n
theorem edS_cost : ∀ (N : Nat) (ws : List ByteArray) (ss : List Slot), ws.length + ss.length ≤ N → EdS ws ss (costM ws ss).2
  | 0, ws, ss, h => by
    have h1 : ws = [] := List.eq_nil_of_length_eq_zero (by omega)
    have h2 : ss = [] := List.eq_nil_of_length_eq_zero (by omega)
    subst h1; subst h2
    exact .nil
  | N + 1, ws, ss, h => by
    by_cases h0 : ws.length + ss.length = 0
    · exact edS_cost 0 ws ss (by omega)
    obtain ⟨g1, g2, g3, g4, g5, g6⟩ := costM_which ws ss (by omega)
    have ih := edS_cost N (ws.drop (kW (costM ws ss).1)) (ss.drop (kS (costM ws ss).1)) (by rw [List.length_drop, List.length_drop]; omega)
    rw [g6]
    generalize (costM ws ss).1 = c at *
    generalize (costM (ws.drop (kW c)) (ss.drop (kS c))).2 = m at *
    clear g6
    have : c = 0 ∨ c = 1 ∨ c = 2 ∨ c = 3 ∨ c = 4 := by omega
    rcases this with rfl | rfl | rfl | rfl | rfl
    · obtain ⟨x, ws, rfl⟩ : ∃ x r, ws = x :: r := by cases ws with | nil => simp [kW] at g2 | cons x r => exact ⟨x, r, rfl⟩
      obtain ⟨s, ss, rfl⟩ : ∃ x r, ss = x :: r := by cases ss with | nil => simp [kS] at g3 | cons x r => exact ⟨x, r, rfl⟩
      show EdS _ _ (0 + m)
      rw [Nat.zero_add]
      exact .keep x s g5 ih
    · obtain ⟨x, ws, rfl⟩ : ∃ x r, ws = x :: r := by cases ws with | nil => simp [kW] at g2 | cons x r => exact ⟨x, r, rfl⟩
      obtain ⟨s, ss, rfl⟩ : ∃ x r, ss = x :: r := by cases ss with | nil => simp [kS] at g3 | cons x r => exact ⟨x, r, rfl⟩
      show EdS _ _ (1 + m)
      rw [Nat.add_comm]
      exact .turn x s ih
    · obtain ⟨x, ws, rfl⟩ : ∃ x r, ws = x :: r := by cases ws with | nil => simp [kW] at g2 | cons x r => exact ⟨x, r, rfl⟩
      show EdS _ _ (1 + m)
      rw [Nat.add_comm]
      exact .drop x ih
    · obtain ⟨s, ss, rfl⟩ : ∃ x r, ss = x :: r := by cases ss with | nil => simp [kS] at g3 | cons x r => exact ⟨x, r, rfl⟩
      show EdS _ _ (1 + m)
      rw [Nat.add_comm]
      exact .put s ih
    · obtain ⟨s, ss, rfl⟩ : ∃ x r, ss = x :: r := by cases ss with | nil => simp [kS] at g3 | cons x r => exact ⟨x, r, rfl⟩
      show EdS _ _ (0 + m)
      rw [Nat.zero_add]
      exact .skip s g5 ih
theorem cost_le {ws : List ByteArray} {ss : List Slot} {n : Nat} (h : EdS ws ss n) : (costM ws ss).2 ≤ n := by
  induction h with
  | nil => exact Nat.le_refl _
  | @keep x s a b n ht h ih =>
    rw [costM_all]
    exact Nat.le_trans (pickC_le _ (0, (costM a b).2) (by simp [ht])) ih
  | @turn x s a b n h ih =>
    rw [costM_all]
    cases ht : takesM s x
    · refine Nat.le_trans (pickC_le _ (1, 1 + (costM a b).2) (by simp)) ?_
      show 1 + _ ≤ _
      omega
    · refine Nat.le_trans (pickC_le _ (0, (costM a b).2) (by simp)) ?_
      show (costM a b).2 ≤ _
      omega
  | @drop x a b n h ih =>
    cases b with
    | nil =>
      rw [costM_drop]
      refine Nat.le_trans (pickC_le _ (2, 1 + (costM a []).2) (by simp)) ?_
      show 1 + _ ≤ _
      omega
    | cons s b =>
      rw [costM_all]
      refine Nat.le_trans (pickC_le _ (2, 1 + (costM a (s :: b)).2) (by simp)) ?_
      show 1 + _ ≤ _
      omega
  | @put s a b n h ih =>
    cases a with
    | nil =>
      rw [costM_put]
      refine Nat.le_trans (pickC_le _ (3, 1 + (costM [] b).2) (by simp)) ?_
      show 1 + _ ≤ _
      omega
    | cons x a =>
      rw [costM_all]
      refine Nat.le_trans (pickC_le _ (3, 1 + (costM (x :: a) b).2) (by simp)) ?_
      show 1 + _ ≤ _
      omega
  | @skip s a b n hf h ih =>
    cases a with
    | nil =>
      rw [costM_put]
      exact Nat.le_trans (pickC_le _ (4, (costM [] b).2) (by simp [hf])) ih
    | cons x a =>
      rw [costM_all]
      exact Nat.le_trans (pickC_le _ (4, (costM (x :: a) b).2) (by simp [hf])) ih
theorem cost_is (ws : List ByteArray) (ss : List Slot) : EdS ws ss (costM ws ss).2 := edS_cost _ ws ss (Nat.le_refl _)
theorem Ed.compS : ∀ (N : Nat) {a c : List ByteArray} {b : List Slot} {n m : Nat}, a.length + c.length + b.length ≤ N → Ed a c n → EdS c b m → ∃ k, k ≤ n + m ∧ EdS a b k := by
  intro N
  induction N with
  | zero =>
    intro a c b n m hN h1 h2
    have ha : a = [] := List.eq_nil_of_length_eq_zero (by omega)
    have hb : b = [] := List.eq_nil_of_length_eq_zero (by omega)
    subst ha; subst hb
    exact ⟨0, Nat.zero_le _, .nil⟩
  | succ N ih =>
    intro a c b n m hN h1 h2
    cases h2 with
    | nil =>
      cases h1 with
      | nil => exact ⟨0, Nat.zero_le _, .nil⟩
      | drop x h1 =>
        simp only [List.length_cons] at hN
        obtain ⟨k, hk, h⟩ := ih (by omega) h1 .nil
        exact ⟨k + 1, by omega, .drop x h⟩
    | put s h2 =>
      simp only [List.length_cons] at hN
      obtain ⟨k, hk, h⟩ := ih (by omega) h1 h2
      exact ⟨k + 1, by omega, .put s h⟩
    | skip s hf h2 =>
      simp only [List.length_cons] at hN
      obtain ⟨k, hk, h⟩ := ih (by omega) h1 h2
      exact ⟨k, by omega, .skip s hf h⟩
    | keep z s ht h2 =>
      simp only [List.length_cons] at hN
      cases h1 with
      | drop x h1 =>
        simp only [List.length_cons] at hN
        obtain ⟨k, hk, h⟩ := ih (by simp only [List.length_cons]; omega) h1 (EdS.keep z s ht h2)
        exact ⟨k + 1, by omega, .drop x h⟩
      | keep _ h1 =>
        simp only [List.length_cons] at hN
        obtain ⟨k, hk, h⟩ := ih (by omega) h1 h2
        exact ⟨k, by omega, .keep z s ht h⟩
      | turn x _ h1 =>
        simp only [List.length_cons] at hN
        obtain ⟨k, hk, h⟩ := ih (by omega) h1 h2
        exact ⟨k + 1, by omega, .turn x s h⟩
      | put _ h1 =>
        obtain ⟨k, hk, h⟩ := ih (by omega) h1 h2
        exact ⟨k + 1, by omega, .put s h⟩
    | turn z s h2 =>
      simp only [List.length_cons] at hN
      cases h1 with
      | drop x h1 =>
        simp only [List.length_cons] at hN
        obtain ⟨k, hk, h⟩ := ih (by simp only [List.length_cons]; omega) h1 (EdS.turn z s h2)
        exact ⟨k + 1, by omega, .drop x h⟩
      | keep _ h1 =>
        simp only [List.length_cons] at hN
        obtain ⟨k, hk, h⟩ := ih (by omega) h1 h2
        exact ⟨k + 1, by omega, .turn z s h⟩
      | turn x _ h1 =>
        simp only [List.length_cons] at hN
        obtain ⟨k, hk, h⟩ := ih (by omega) h1 h2
        exact ⟨k + 1, by omega, .turn x s h⟩
      | put _ h1 =>
        obtain ⟨k, hk, h⟩ := ih (by omega) h1 h2
        exact ⟨k + 1, by omega, .put s h⟩
    | drop z h2 =>
      simp only [List.length_cons] at hN
      cases h1 with
      | drop x h1 =>
        simp only [List.length_cons] at hN
        obtain ⟨k, hk, h⟩ := ih (by simp only [List.length_cons]; omega) h1 (EdS.drop z h2)
        exact ⟨k + 1, by omega, .drop x h⟩
      | keep _ h1 =>
        simp only [List.length_cons] at hN
        obtain ⟨k, hk, h⟩ := ih (by omega) h1 h2
        exact ⟨k + 1, by omega, .drop z h⟩
      | turn x _ h1 =>
        simp only [List.length_cons] at hN
        obtain ⟨k, hk, h⟩ := ih (by omega) h1 h2
        exact ⟨k + 1, by omega, .drop x h⟩
      | put _ h1 =>
        obtain ⟨k, hk, h⟩ := ih (by omega) h1 h2
        exact ⟨k, by omega, h⟩
theorem ed_cost {a b : List ByteArray} (hb : ∀ s ∈ b, wordM s = true) : Ed a b (costM a (givenM b)).2 := by
  rw [cost_far (a.length + b.length + 1) a b (by omega) hb]
  exact ed_far _ _ _ (by omega)
/-- by way of another letter no fewer, towards any slots -/
theorem cost_wayS {a c : List ByteArray} (ss : List Slot) (hc : ∀ s ∈ c, wordM s = true) : (costM a ss).2 ≤ (costM a (givenM c)).2 + (costM c ss).2 := by
  obtain ⟨k, hk, h⟩ := Ed.compS _ (Nat.le_refl _) (ed_cost (a := a) hc) (cost_is c ss)
  exact Nat.le_trans (cost_le h) hk

/-! ### no corrections at all: a way through the parts -/
/-- the slots of a part: those that can be empty come last, and take any word -/
structure Parted (sl : List Slot) : Prop where
  last : ∀ i j, i ≤ j → j < sl.length → (sl.getD i noSlot).free = true → (sl.getD j noSlot).free = true
  any : ∀ s ∈ sl, s.free = true → s.word.toList.isEmpty = true
theorem Parted.tail {s : Slot} {sl : List Slot} (h : Parted (s :: sl)) : Parted sl :=
  ⟨fun i j hij hj hf => h.last (i + 1) (j + 1) (by omega) (by simpa using hj) hf, fun x hx => h.any x (List.mem_cons_of_mem _ hx)⟩
theorem Parted.takes {sl : List Slot} (h : Parted sl) {i : Nat} (hi : i < sl.length) (hf : (sl.getD i noSlot).free = true) (x : ByteArray) : takesM (sl.getD i noSlot) x = true := by
  have e : sl.getD i noSlot = sl[i] := by simp [hi]
  rw [e] at hf ⊢
  simp [takesM, h.any _ (List.getElem_mem hi) hf]
theorem sizeOk_iff {sl : List Slot} {left : List ByteArray} {n : Nat} : sizeOk sl left n = true ↔ n ≤ left.length ∧ (sl.length ≤ n ∨ (sl.getD n noSlot).free = true) ∧ ∀ i, i < n → takesM (sl.getD i noSlot) (left.getD i ByteArray.empty) = true := by
  simp [sizeOk, and_assoc]
theorem edS_part : ∀ (sl : List Slot), Parted sl → ∀ (left : List ByteArray) (rest : List Slot), EdS left (sl ++ rest) 0 ↔ ∃ n, n ≤ sl.length ∧ sizeOk sl left n = true ∧ EdS (left.drop n) rest 0
  | [], hp, left, rest => by
    constructor
    · intro h
      exact ⟨0, Nat.le_refl _, by rw [sizeOk_iff]; simp, h⟩
    · rintro ⟨n, hn, -, h⟩
      obtain rfl : n = 0 := by simpa using hn
      exact h
  | s :: sl, hp, left, rest => by
    have ih := edS_part sl hp.tail
    constructor
    · intro h
      have key : ∀ {left : List ByteArray} {ss : List Slot} {n : Nat}, EdS left ss n → n = 0 → ss = s :: (sl ++ rest) → (∃ x a, left = x :: a ∧ takesM s x = true ∧ EdS a (sl ++ rest) 0) ∨ (s.free = true ∧ EdS left (sl ++ rest) 0) := by
        intro left ss n h
        cases h with
        | nil => intro _ e; cases e
        | keep x s' ht h => intro e0 e; cases e; subst e0; exact .inl ⟨_, _, rfl, ht, h⟩
        | turn => intro e0; cases e0
        | drop => intro e0; cases e0
        | put => intro e0; cases e0
        | skip s' hf h => intro e0 e; cases e; subst e0; exact .inr ⟨hf, h⟩
      rcases key h rfl rfl with ⟨x, a, rfl, ht, h⟩ | ⟨hf, h⟩
      · obtain ⟨n, hn, hs, h⟩ := (ih a rest).1 h
        rw [sizeOk_iff] at hs
        refine ⟨n + 1, by simpa using hn, ?_, by simpa using h⟩
        rw [sizeOk_iff]
        refine ⟨by simpa using hs.1, by simpa using hs.2.1, fun i hi => ?_⟩
        cases i with
        | zero => simpa using ht
        | succ i => simpa using hs.2.2 i (by omega)
      · obtain ⟨n, hn, hs, h⟩ := (ih left rest).1 h
        rw [sizeOk_iff] at hs
        have hall : ∀ j, j < (s :: sl).length → ((s :: sl).getD j noSlot).free = true := fun j hj => hp.last 0 j (Nat.zero_le _) hj (by simpa using hf)
        refine ⟨n, by simp; omega, ?_, h⟩
        rw [sizeOk_iff]
        refine ⟨hs.1, .inr (hall n (by simp; omega)), fun i hi => hp.takes (by simp; omega) (hall i (by simp; omega)) _⟩
    · rintro ⟨n, hn, hs, h⟩
      rw [sizeOk_iff] at hs
      cases n with
      | zero =>
        have hf : s.free = true := by
          rcases hs.2.1 with h1 | h1
          · simp at h1
          · simpa using h1
        refine .skip s hf ((ih left rest).2 ⟨0, Nat.zero_le _, ?_, h⟩)
        rw [sizeOk_iff]
        refine ⟨Nat.zero_le _, ?_, fun i hi => absurd hi (Nat.not_lt_zero _)⟩
        cases sl with
        | nil => exact .inl (Nat.le_refl _)
        | cons t sl => exact .inr (by simpa using hp.last 0 1 (by omega) (by simp) (by simpa using hf))
      | succ n =>
        obtain ⟨x, a, rfl⟩ : ∃ x a, left = x :: a := by cases left with | nil => simp at hs | cons x a => exact ⟨x, a, rfl⟩
        refine .keep x s (by simpa using hs.2.2 0 (by omega)) ((ih a rest).2 ⟨n, by simpa using hn, ?_, by simpa using h⟩)
        rw [sizeOk_iff]
        exact ⟨by simpa using hs.1, by simpa using hs.2.1, fun i hi => by simpa using hs.2.2 (i + 1) (by omega)⟩
theorem edS_nil {left : List ByteArray} : EdS left [] 0 ↔ left = [] := by
  constructor
  · intro h
    cases h
    rfl
  · rintro rfl; exact .nil
theorem waysTo_ne {step : Nat → List (Nat → Int)} {sl : List Slot} {left : List ByteArray} : ∀ k, waysTo step sl left k ≠ [] ↔ ∃ n, n < k ∧ sizeOk sl left n = true ∧ step n ≠ []
  | 0 => by simp [waysTo]
  | k + 1 => by
    have ih := waysTo_ne (step := step) (sl := sl) (left := left) k
    rw [waysTo]
    constructor
    · intro h
      by_cases h1 : waysTo step sl left k = []
      · rw [h1, List.nil_append] at h
        by_cases hs : sizeOk sl left k = true
        · rw [if_pos hs] at h; exact ⟨k, by omega, hs, h⟩
        · rw [if_neg hs] at h; exact absurd rfl h
      · obtain ⟨n, hn, hs⟩ := ih.1 h1
        exact ⟨n, by omega, hs⟩
    · rintro ⟨n, hn, hs, h⟩ e
      obtain ⟨e1, e2⟩ := List.append_eq_nil_iff.1 e
      by_cases hk : n < k
      · exact ih.2 ⟨n, hk, hs, h⟩ e1
      · obtain rfl : n = k := by omega
        rw [if_pos hs] at e2
        exact h e2
theorem edS_ways : ∀ (ss : List (List Slot)) (k : Nat) (left : List ByteArray) (c : Nat → Int), (∀ sl ∈ ss, Parted sl) → (EdS left ss.flatten 0 ↔ waysF ss k left c ≠ [])
  | [], k, left, c, _ => by
    unfold waysF
    rw [List.flatten_nil, edS_nil]
    constructor
    · rintro rfl; simp
    · intro h
      split at h
      · rename_i h1; exact List.eq_nil_of_length_eq_zero h1
      · exact absurd rfl h
  | sl :: r, k, left, c, hp => by
    rw [List.flatten_cons, edS_part sl (hp sl List.mem_cons_self), waysF, waysTo_ne]
    constructor
    · rintro ⟨n, hn, hs, h⟩
      exact ⟨n, by omega, hs, (edS_ways r (k + 1) _ _ fun x hx => hp x (List.mem_cons_of_mem _ hx)).1 h⟩
    · rintro ⟨n, hn, hs, h⟩
      exact ⟨n, by omega, hs, (edS_ways r (k + 1) _ _ fun x hx => hp x (List.mem_cons_of_mem _ hx)).2 h⟩
theorem room_parted (lo : Int) (n : Nat) : Parted (roomSlotsM lo n) := by
  have hlen : (roomSlotsM lo n).length = n := by simp [roomSlotsM]
  have hget : ∀ j, j < n → (roomSlotsM lo n).getD j noSlot = ⟨ByteArray.empty, decide (lo ≤ (j : Int))⟩ := fun j hj => by
    simp [roomSlotsM, hj]
  refine ⟨fun i j hij hj hf => ?_, fun s hs hf => ?_⟩
  · rw [hlen] at hj
    rw [hget i (by omega)] at hf
    rw [hget j hj]
    simp only [decide_eq_true_eq] at hf ⊢
    omega
  · simp only [roomSlotsM, List.mem_map] at hs
    obtain ⟨j, hj, rfl⟩ := hs
    simp
theorem given_parted (l : List ByteArray) : Parted (givenM l) := by
  have hno : ∀ s ∈ givenM l, s.free = false := fun s hs => by
    simp only [givenM, List.mem_map] at hs
    obtain ⟨j, hj, rfl⟩ := hs
    rfl
  refine ⟨fun i j hij hj hf => ?_, fun s hs hf => by rw [hno s hs] at hf; cases hf⟩
  have e : (givenM l).getD i noSlot = (givenM l)[i]'(by omega) := by
    rw [List.getD_eq_getElem?_getD, List.getElem?_eq_getElem (by omega)]; rfl
  rw [e, hno _ (List.getElem_mem _)] at hf
  cases hf
/-- a part that is right: words, or room -/
def PartOk (p : Part) : Prop := p.words = [] ∨ p.hi = 0
theorem part_parted {p : Part} (h : PartOk p) : Parted (partSlotsM p) := by
  unfold partSlotsM
  rcases h with h | h
  · rw [h]; exact room_parted _ _
  · rw [h]
    have : givenM p.words ++ roomSlotsM p.lo (0 : Int).toNat = givenM p.words := by simp [roomSlotsM]
    rw [this]
    exact given_parted _
theorem formSlots_flat (ps : List Part) : formSlotsM ps = (ps.map partSlotsM).flatten := by
  simp [formSlotsM, List.flatMap_def]
/-- no corrections are needed just if there is a way -/
theorem cost_none {ps : List Part} (h : ∀ p ∈ ps, PartOk p) (l : List ByteArray) : (costM l (formSlotsM ps)).2 = 0 ↔ (formWays ps l).length ≠ 0 := by
  have hw := edS_ways (ps.map partSlotsM) 0 l (fun _ => 0) (fun sl hsl => by
    obtain ⟨p, hp, rfl⟩ := List.mem_map.1 hsl
    exact part_parted (h p hp))
  rw [formSlots_flat]
  constructor
  · intro h0
    have := cost_is l (ps.map partSlotsM).flatten
    rw [h0] at this
    intro e
    exact hw.1 this (List.eq_nil_of_length_eq_zero e)
  · intro h0
    have := cost_le (hw.2 fun e => h0 (by unfold formWays; rw [e]; rfl))
    omega
end Go.Proofs.YtcamegaimleomaaGreat

namespace Go.Proofs.YtcamegaimleomaaGreat
set_option linter.unusedSimpArgs false
set_option linter.unusedVariables false
set_option linter.unusedVariables false

/-- the same slots, some of them free now, and free ones among them -/
inductive MoreS : List Slot → List Slot → Prop where
  | nil : MoreS [] []
  | same (s t : Slot) {a b : List Slot} : t.word = s.word → (s.free = true → t.free = true) → MoreS a b → MoreS (s :: a) (t :: b)
  | more (t : Slot) {a b : List Slot} : t.free = true → MoreS a b → MoreS a (t :: b)
theorem MoreS.refl : ∀ a : List Slot, MoreS a a
  | [] => .nil
  | s :: a => .same s s rfl id (MoreS.refl a)
theorem MoreS.append {a b c d : List Slot} (h : MoreS a b) (g : MoreS c d) : MoreS (a ++ c) (b ++ d) := by
  induction h with
  | nil => exact g
  | same s t hw hf _ ih => exact .same s t hw hf ih
  | more t hf _ ih => exact .more t hf ih
theorem MoreS.free : ∀ b : List Slot, (∀ t ∈ b, t.free = true) → MoreS [] b
  | [], _ => .nil
  | t :: b, h => .more t (h t List.mem_cons_self) (MoreS.free b fun x hx => h x (List.mem_cons_of_mem _ hx))
theorem more_cons {ss tt : List Slot} (h : MoreS ss tt) : ∀ s b, ss = s :: b → ∃ pre t r, tt = pre ++ t :: r ∧ (∀ x ∈ pre, x.free = true) ∧ t.word = s.word ∧ (s.free = true → t.free = true) ∧ MoreS b r := by
  induction h with
  | nil => intro s b e; cases e
  | @same s t a b hw hf h ih =>
    intro s' b' e
    cases e
    exact ⟨[], t, b, rfl, by simp, hw, hf, h⟩
  | @more t a b hf h ih =>
    intro s' b' e
    obtain ⟨pre, t', r, rfl, h1, h2⟩ := ih s' b' e
    exact ⟨t :: pre, t', r, rfl, fun x hx => by
      rcases List.mem_cons.1 hx with rfl | hx
      · exact hf
      · exact h1 x hx, h2⟩
theorem edS_skips {a : List ByteArray} {x : List Slot} {n : Nat} (h : EdS a x n) : ∀ pre : List Slot, (∀ s ∈ pre, s.free = true) → EdS a (pre ++ x) n
  | [], _ => h
  | s :: pre, hp => .skip s (hp s List.mem_cons_self) (edS_skips h pre fun x hx => hp x (List.mem_cons_of_mem _ hx))
theorem takes_word {s t : Slot} (h : t.word = s.word) (x : ByteArray) : takesM t x = takesM s x := by unfold takesM; rw [h]
theorem edS_more {l : List ByteArray} {ss : List Slot} {n : Nat} (h : EdS l ss n) : ∀ tt, MoreS ss tt → EdS l tt n := by
  induction h with
  | nil =>
    intro tt ht
    have : ∀ {ss tt : List Slot}, MoreS ss tt → ss = [] → ∀ t ∈ tt, t.free = true := by
      intro ss tt ht
      induction ht with
      | nil => intro _ t ht; cases ht
      | same s t _ _ _ _ => intro e; cases e
      | more t hf _ ih =>
        intro e x hx
        rcases List.mem_cons.1 hx with rfl | hx
        · exact hf
        · exact ih e x hx
    have := edS_skips EdS.nil tt (this ht rfl)
    rwa [List.append_nil] at this
  | keep x s ht h ih =>
    intro tt hm
    obtain ⟨pre, t, r, rfl, h1, h2, h3, h4⟩ := more_cons hm _ _ rfl
    exact edS_skips (.keep x t (by rw [takes_word h2]; exact ht) (ih r h4)) pre h1
  | turn x s h ih =>
    intro tt hm
    obtain ⟨pre, t, r, rfl, h1, h2, h3, h4⟩ := more_cons hm _ _ rfl
    exact edS_skips (.turn x t (ih r h4)) pre h1
  | drop x h ih => intro tt hm; exact .drop x (ih tt hm)
  | put s h ih =>
    intro tt hm
    obtain ⟨pre, t, r, rfl, h1, h2, h3, h4⟩ := more_cons hm _ _ rfl
    exact edS_skips (.put t (ih r h4)) pre h1
  | skip s hf h ih =>
    intro tt hm
    obtain ⟨pre, t, r, rfl, h1, h2, h3, h4⟩ := more_cons hm _ _ rfl
    exact edS_skips (.skip t (h3 hf) (ih r h4)) pre h1
theorem cost_more {ss tt : List Slot} (h : MoreS ss tt) (l : List ByteArray) : (costM l tt).2 ≤ (costM l ss).2 := cost_le (edS_more (cost_is l ss) tt h)
/-- more room: as few or fewer, as many or more -/
theorem room_more {lo lo' : Int} {n m : Nat} (h1 : lo' ≤ lo) (h2 : n ≤ m) (h3 : lo ≤ n) : MoreS (roomSlotsM lo n) (roomSlotsM lo' m) := by
  obtain ⟨d, rfl⟩ := Nat.exists_eq_add_of_le h2
  clear h2
  have e : roomSlotsM lo' (n + d) = roomSlotsM lo' n ++ (roomSlotsM lo' (n + d)).drop n := by
    have : (roomSlotsM lo' (n + d)).take n = roomSlotsM lo' n := by
      unfold roomSlotsM
      rw [← List.map_take, List.take_range, Nat.min_eq_left (by omega)]
    rw [← this, List.take_append_drop]
  rw [e]
  have hs : MoreS (roomSlotsM lo n) (roomSlotsM lo' n) := by
    unfold roomSlotsM
    generalize List.range n = r
    induction r with
    | nil => exact .nil
    | cons k r ih => exact .same _ _ rfl (fun h => decide_eq_true (by have := of_decide_eq_true h; omega)) ih
  have := hs.append (MoreS.free ((roomSlotsM lo' (n + d)).drop n) fun t ht => by
    unfold roomSlotsM at ht
    rw [← List.map_drop, List.mem_map] at ht
    obtain ⟨k, hk, rfl⟩ := ht
    obtain ⟨i, hi, rfl⟩ := List.getElem_of_mem hk
    simp only [List.getElem_drop, List.getElem_range]
    exact decide_eq_true (by omega))
  rwa [List.append_nil] at this
/-- a part with more room -/
def morePart (a b : Int) (p : Part) : Part := if roomyM p then ⟨p.words, max 0 (p.lo - a), min 3 (p.hi + b)⟩ else p
theorem morePart_ok {a b : Int} (ha : 0 ≤ a) (hb : 0 ≤ b) {p : Part} (hv : ValidPart p) : ValidPart (morePart a b p) ∧ MoreS (partSlotsM p) (partSlotsM (morePart a b p)) := by
  unfold morePart
  cases hr : roomyM p
  · exact ⟨hv, MoreS.refl _⟩
  · have he : p.words = [] := by unfold roomyM at hr; exact List.eq_nil_of_length_eq_zero (by simpa using hr)
    obtain ⟨r1, r2, r3, r4⟩ := hv.r he
    simp only [if_true]
    refine ⟨⟨hv.n, hv.w, fun h => absurd he h, fun _ => ?_⟩, ?_⟩
    · show 0 ≤ max 0 (p.lo - a) ∧ max 0 (p.lo - a) ≤ min 3 (p.hi + b) ∧ 1 ≤ min 3 (p.hi + b) ∧ min 3 (p.hi + b) ≤ 3
      omega
    · unfold partSlotsM
      exact (MoreS.refl _).append (room_more (by show max 0 (p.lo - a) ≤ p.lo; omega) (by show p.hi.toNat ≤ (min 3 (p.hi + b)).toNat; omega) (by omega))
theorem moreForm_slots {a b : Int} (ha : 0 ≤ a) (hb : 0 ≤ b) : ∀ {ps : List Part}, (∀ p ∈ ps, ValidPart p) → MoreS (formSlotsM ps) (formSlotsM (ps.map (morePart a b)))
  | [], _ => .nil
  | p :: ps, hv => by
    have e1 : formSlotsM (p :: ps) = partSlotsM p ++ formSlotsM ps := by simp [formSlotsM]
    have e2 : formSlotsM ((p :: ps).map (morePart a b)) = partSlotsM (morePart a b p) ++ formSlotsM (ps.map (morePart a b)) := by simp [formSlotsM]
    rw [e1, e2]
    exact (morePart_ok ha hb (hv p List.mem_cons_self)).2.append (moreForm_slots ha hb fun q hq => hv q (List.mem_cons_of_mem _ hq))
/-- with more room no more corrections -/
theorem moreForm_cost {a b : Int} (ha : 0 ≤ a) (hb : 0 ≤ b) {ps : List Part} (hv : ∀ p ∈ ps, ValidPart p) (l : List ByteArray) : (costM l (formSlotsM (ps.map (morePart a b)))).2 ≤ (costM l (formSlotsM ps)).2 := cost_more (moreForm_slots ha hb hv) l
/-! ### a shelf with more room is right -/
theorem partErr_none {p : Part} (h : ValidPart p) : partErrM p = 0 := by
  unfold partErrM
  rw [if_neg (by have := h.n; omega), if_neg (by rw [h.w]; simp)]
  by_cases he : p.words.length = 0
  · rw [if_neg (by simpa using he)]
    obtain ⟨r1, r2, r3, r4⟩ := h.r (List.eq_nil_of_length_eq_zero he)
    rw [if_neg, if_neg (by omega)]
    rintro (e | e | e)
    · unfold inM at e
      simp at e; omega
    · unfold inM at e
      simp at e; omega
    · omega
  · rw [if_pos he, if_pos (h.z fun e => he (by rw [e]; rfl))]
theorem firstErr_zeroFrom {α : Type} (f : List α → α → Int) : ∀ (r pre : List α), (∀ k (hk : k < r.length), f (pre ++ r.take k) r[k] = 0) → (firstErrFrom f pre r).2 = 0
  | [], _, _ => rfl
  | x :: r, pre, h => by
    have h0 := h 0 (by simp)
    simp only [List.take_zero, List.append_nil, List.getElem_cons_zero] at h0
    unfold firstErrFrom
    rw [if_pos h0]
    refine firstErr_zeroFrom f r (pre ++ [x]) fun k hk => ?_
    have := h (k + 1) (by simpa using hk)
    simpa using this
theorem firstErr_zero {α : Type} (f : List α → α → Int) (l : List α) (h : ∀ k (hk : k < l.length), f (l.take k) l[k] = 0) : (firstErr f l).2 = 0 :=
  firstErr_zeroFrom f l [] fun k hk => by rw [List.nil_append]; exact h k hk
theorem formErr_none {l : List Form} {f : Form} (h : ValidForm f) (hn : (l.any fun y => y.name.toList == f.name.toList) = false) : formErrM l f = 0 := by
  unfold formErrM
  rw [if_neg (by rw [h.name]; simp), if_neg (by rw [hn]; simp), if_neg (by have := h.n; omega)]
  exact firstErr_zero _ _ fun k hk => partErr_none (h.parts _ (List.getElem_mem hk))
def moreForm (a b : Int) (f : Form) : Form := ⟨f.name, f.parts.map (morePart a b)⟩
theorem moreForm_ok {a b : Int} (ha : 0 ≤ a) (hb : 0 ≤ b) {f : Form} (h : ValidForm f) : ValidForm (moreForm a b f) :=
  ⟨h.name, by show (f.parts.map _).length ≤ 5; rw [List.length_map]; exact h.n, fun p hp => by
    obtain ⟨q, hq, rfl⟩ := List.mem_map.1 hp
    exact (morePart_ok ha hb (h.parts q hq)).1⟩
/-- a shelf, one form of which has more room -/
def moreShelf (a b : Int) (s : Shelf) (n : Nat) : Shelf := ⟨s.width, s.forms.modify n (moreForm a b)⟩
theorem errS_parts {s : Shelf} (h : errS s = 0) : inM s.width 8 30 = true ∧ s.forms.length ≤ 4 ∧ (firstErr formErrM s.forms).2 = 0 := by
  unfold errS checkS at h
  split at h
  · cases h
  rename_i h1
  split at h
  · cases h
  rename_i h2
  split at h
  · rename_i h3; exact absurd h h3
  · rename_i h3; exact ⟨by simpa using h1, by omega, by simpa using h3⟩
theorem moreShelf_ok {a b : Int} (ha : 0 ≤ a) (hb : 0 ≤ b) {s : Shelf} (h : errS s = 0) (n : Nat) : errS (moreShelf a b s n) = 0 := by
  obtain ⟨h1, h2, h3⟩ := errS_parts h
  have hlen : (moreShelf a b s n).forms.length = s.forms.length := List.length_modify ..
  have hget : ∀ k (hk : k < (moreShelf a b s n).forms.length), (moreShelf a b s n).forms[k] = if n = k then moreForm a b (s.forms[k]'(by omega)) else s.forms[k]'(by omega) := fun k hk => List.getElem_modify ..
  have hname : ∀ k (hk : k < (moreShelf a b s n).forms.length), ((moreShelf a b s n).forms[k]).name = (s.forms[k]'(by omega)).name := fun k hk => by
    rw [hget k hk]; split <;> rfl
  have h4 : (firstErr formErrM (moreShelf a b s n).forms).2 = 0 := by
    refine firstErr_zero _ _ fun k hk => ?_
    have hk' : k < s.forms.length := by omega
    obtain ⟨v, hn⟩ := formErr_ok (firstErr_ok _ _ h3 k hk')
    refine formErr_none ?_ ?_
    · rw [hget k hk]
      split
      · exact moreForm_ok ha hb v
      · exact v
    · rw [hname k hk]
      rw [List.any_eq_false] at hn ⊢
      intro y hy
      obtain ⟨i, hi, rfl⟩ := List.getElem_of_mem hy
      rw [List.length_take] at hi
      rw [List.getElem_take, hname i (by omega)]
      exact hn _ (by
        have : i < (s.forms.take k).length := by rw [List.length_take]; omega
        have e : (s.forms.take k)[i] = s.forms[i]'(by omega) := List.getElem_take
        rw [← e]; exact List.getElem_mem this)
  unfold errS checkS
  rw [if_neg (by show ¬ inM s.width 8 30 = false; rw [h1]; simp), if_neg (by rw [hlen]; omega), if_neg (by rw [h4]; simp)]
end Go.Proofs.YtcamegaimleomaaGreat

namespace Go.Proofs.YtcamegaimleomaaGreat
set_option linter.unusedSimpArgs false
set_option linter.unusedVariables false
set_option linter.unusedVariables false

def saidL : List ByteArray := [⟨#[97]⟩, ⟨#[105]⟩, ⟨#[97, 115, 107]⟩, ⟨#[116, 111]⟩, ⟨#[116, 104, 101]⟩, ⟨#[98]⟩, ⟨#[106, 117, 100, 103, 101]⟩, ⟨#[109, 101, 114, 99, 121]⟩]
theorem said_words : ∀ s ∈ saidL, wordM s = true := by decide +kernel
/-- what marks have made of the first k words of a letter -/
structure Loud (l : List ByteArray) (ms : List Mark) (k : Nat) (out : List ByteArray) : Prop where
  runs : ∀ rest, markedF (ms ++ rest) l [] = markedF rest (l.drop k) out
  words : ∀ s ∈ out, wordM s = true
  few : ms.length ≤ out.length + k
  room : out.length + (l.length - k) ≤ 15
  at_ : k ≤ l.length
  sound : ∀ m ∈ ms, I64 m.kind ∧ m.word.size ≤ 9223372036854775807
theorem Loud.start {l : List ByteArray} (h : l.length ≤ 15) : Loud l [] 0 [] := ⟨fun _ => rfl, by simp, by simp, by simpa using h, Nat.zero_le _, by simp⟩
theorem Loud.step {l : List ByteArray} {ms : List Mark} {k : Nat} {out : List ByteArray} (h : Loud l ms k out) (kd : Nat) (wd : ByteArray) (hk : kd < 4) (he : markErrM ⟨kd, wd⟩ (l.drop k) = 0)
    (hb : ∀ s ∈ becM kd (l.drop k) wd, wordM s = true) (hroom : (out ++ becM kd (l.drop k) wd).length + (l.length - (k + kW kd)) ≤ 15) (hfew : 1 ≤ (becM kd (l.drop k) wd).length + kW kd) (hat : k + kW kd ≤ l.length) (hw : wd.size ≤ 9223372036854775807) :
    Loud l (ms ++ [⟨kd, wd⟩]) (k + kW kd) (out ++ becM kd (l.drop k) wd) := by
  refine ⟨fun rest => ?_, fun s hs => ?_, ?_, hroom, hat, fun m hm => ?_⟩
  · rw [List.append_assoc, h.runs]
    show markedF (⟨kd, wd⟩ :: rest) (l.drop k) out = _
    rw [markedF, if_neg (by rw [he]; simp)]
    show markedF rest ((l.drop k).drop (kW ((kd : Nat) : Int).toNat)) (out ++ becM ((kd : Nat) : Int).toNat (l.drop k) wd) = _
    rw [Int.toNat_natCast, List.drop_drop]
  · rcases List.mem_append.1 hs with h1 | h1
    · exact h.words s h1
    · exact hb s h1
  · have := h.few
    simp only [List.length_append, List.length_cons, List.length_nil] at *
    omega
  · rcases List.mem_append.1 hm with h1 | h1
    · exact h.sound m h1
    · rw [List.mem_singleton] at h1
      subst h1
      exact ⟨⟨by show _ ≤ ((kd : Nat) : Int); omega, by show ((kd : Nat) : Int) ≤ _; omega⟩, hw⟩
theorem Loud.ends {l : List ByteArray} {ms : List Mark} {out : List ByteArray} (h : Loud l ms l.length out) (hl : letterErrL l = 0) : applyM ms l = ⟨out, 0⟩ ∧ letterErrL out = 0 := by
  obtain ⟨h15, hw⟩ := lettErr_ok hl
  have hr := h.runs []
  rw [List.append_nil, List.drop_of_length_le (Nat.le_refl _), markedF] at hr
  have hroom := h.room
  have hfew := h.few
  refine ⟨?_, ?_⟩
  · unfold applyM
    rw [if_neg (by rw [hl]; simp), if_neg (by omega)]
    unfold markedM
    rw [hr, if_neg (by simp), if_neg (by simp), if_neg (by simp; omega)]
  · unfold letterErrL
    rw [if_neg (by omega), if_neg]
    simp only [wordsM, Bool.not_eq_false, List.all_eq_true]
    exact h.words
theorem Loud.keep {l : List ByteArray} {ms : List Mark} {k : Nat} {out : List ByteArray} {lk : ByteArray} (h : Loud l ms k out) (hk : k < l.length) (hd : l.drop k = lk :: l.drop (k + 1)) (hw : wordM lk = true) : Loud l (ms ++ [⟨0, ⟨#[]⟩⟩]) (k + 1) (out ++ [lk]) := by
  have hb : becM 0 (l.drop k) (⟨#[]⟩ : ByteArray) = [lk] := by rw [hd]; rfl
  have hr := h.room
  have := h.step 0 ⟨#[]⟩ (by decide) (by rw [hd]; simp [markErrM, kWr, kW]) (by rw [hb]; intro s hs; rw [List.mem_singleton] at hs; subst hs; exact hw) (by rw [hb]; show _ + (l.length - (k + 1)) ≤ 15; simp; omega) (by simp [kW]) (by simp only [kW]; omega) (by decide)
  rw [hb] at this
  exact this
theorem Loud.turn {l : List ByteArray} {ms : List Mark} {k : Nat} {out : List ByteArray} {lk wd : ByteArray} (h : Loud l ms k out) (hk : k < l.length) (hd : l.drop k = lk :: l.drop (k + 1)) (hw : wordM wd = true) (hne : (wd.toList == lk.toList) = false) : Loud l (ms ++ [⟨1, wd⟩]) (k + 1) (out ++ [wd]) := by
  have hr := h.room
  have hs := word_size hw
  have hne' : ¬ lk.toList = wd.toList := fun e => by rw [e] at hne; simp at hne
  exact h.step 1 wd (by decide) (by rw [hd]; simp [markErrM, kWr, kW, hw, hne']) (by intro s hs; simp [becM] at hs; subst hs; exact hw) (by show (out ++ [wd]).length + (l.length - (k + 1)) ≤ 15; simp; omega) (by simp [kW]) (by simp only [kW]; omega) (by omega)
theorem Loud.drop {l : List ByteArray} {ms : List Mark} {k : Nat} {out : List ByteArray} {lk : ByteArray} (h : Loud l ms k out) (hk : k < l.length) (hd : l.drop k = lk :: l.drop (k + 1)) : Loud l (ms ++ [⟨2, ⟨#[]⟩⟩]) (k + 1) out := by
  have hr := h.room
  have := h.step 2 ⟨#[]⟩ (by decide) (by rw [hd]; simp [markErrM, kWr, kW]) (by simp [becM]) (by show (out ++ []).length + (l.length - (k + 1)) ≤ 15; simp; omega) (by simp [kW]) (by simp only [kW]; omega) (by decide)
  simp only [becM, List.append_nil] at this
  exact this
theorem Loud.put {l : List ByteArray} {ms : List Mark} {k : Nat} {out : List ByteArray} {wd : ByteArray} (h : Loud l ms k out) (hw : wordM wd = true) (hroom : out.length + (l.length - k) < 15) : Loud l (ms ++ [⟨3, wd⟩]) k (out ++ [wd]) := by
  have hs := word_size hw
  have ha := h.at_
  exact h.step 3 wd (by decide) (by simp [markErrM, kWr, kW, hw]) (by intro s hs; simp [becM] at hs; subst hs; exact hw) (by show (out ++ [wd]).length + (l.length - (k + 0)) ≤ 15; simp; omega) (by simp [becM, kW]) (by simp only [kW]; omega) (by omega)
end Go.Proofs.YtcamegaimleomaaGreat

namespace Go.Proofs.YtcamegaimleomaaGreat
set_option linter.unusedSimpArgs false
set_option linter.unusedVariables false
open Go.RowKit
set_option linter.unusedVariables false
namespace Facts.App
variable {P : Program} {ops : Array Oper}

theorem stepG_append {o : Oper} {a : Act} {w : World} {S : Value → World → Prop} (hgd : o.guard = none) (s x : Operand) (t : TypeId)
    (ho : o.op = .call { callee := .builtin .append, args := #[s, x], argTypes := #[t, t] })
    (base : Nat) (e : TypeId) (i : TypeInfo) (z : Value) (size bytes : Nat) (ht : P.underlying t = some (.slice e)) (hi : P.info? e = some i) (hz : i.zero = some z)
    (hsize : i.size = size) (hby : i.bytes = bytes) (hzs : z.cells.size = size) (hsz : 0 < size)
    (v : Value) (n : Nat) (xs : List Value) (hs : a.eval s = v) (hown : w.ownsRow base e size v n xs)
    (ad : Addr) (m c : Nat) (news : List Value) (hx : a.eval x = .slice (some ad) m c) (hl : news.length = m * size) (hnews : ∀ j u, news[j]? = some u → w.cell? (ad.add j) = some u) (h1 : ∀ u ∈ news, u.oneCell' = true)
    (h63 : n + m ≤ maxLen) (hbytes : (n + m) * bytes ≤ 140737488355328) (hbase : base ≤ w.heap.size)
    (h : ∀ v' w', w'.ownsRow base e size v' (n + m) (xs ++ news) → w.grownBy w' v.ownBlock → (v'.ownBlock = v.ownBlock ∨ v'.ownBlock = some w.heap.size) → S v' w') : stepG P ops o a w S := by
  obtain ⟨v', w', hr, h2, h3, h4, h5⟩ := run_append_own_at (P := P) w base t o.type e i z size bytes ht hi hz hsize hby hzs hsz v n xs hown ad m c news hl hnews h1 h63 hbytes hbase
  unfold stepG
  have hw : Region.wanted o (yielded ops a.tmps) = true := by unfold Region.wanted; rw [hgd]
  rw [if_pos hw]
  unfold execOp
  simp only [ho, resolve, invoke, builtin, Sem.run_bind, Sem.run_pure, Result.andThen_ok, List.map_toArray, List.map_cons, List.map_nil, hs, hx, hr]
  exact h v' w' h2 h3 h5
/-- a later world in which one row may have been written -/
def But (own : Option Nat) (w w' : World) : Prop := w.grownBy w' own
theorem But.of_ext {own : Option Nat} {w w' : World} (h : Ext w w') : But own w w' := ⟨Below.os h, Below.tape h, Below.output h, Below.size h, fun k hk _ => Below.block h k hk⟩
theorem two_but (own : Option Nat) : Piv.Two Ext (But own) :=
  ⟨fun _ _ h => But.of_ext h, fun _ _ _ h k => h.trans k, fun _ _ _ h k => World.grownBy.trans h k, fun _ => Ext.refl _, fun w => ext_drew w⟩
end Facts.App
end Go.Proofs.YtcamegaimleomaaGreat

namespace Go.Proofs.YtcamegaimleomaaGreat
set_option linter.unusedSimpArgs false
set_option linter.unusedVariables false
open Go.RowKit
set_option linter.unusedVariables false
namespace Facts.App
variable {P : Program} {ops : Array Oper}

/-- a later world in which new rows, from a block on, may have been written behind their first n cells -/
structure Grew (n0 n : Nat) (w w' : World) : Prop where
  os : w'.os = w.os
  tape : w'.tape = w.tape
  output : w'.output = w.output
  size : w.heap.size ≤ w'.heap.size
  block : ∀ k, k < w.heap.size → w'.heap[k]? = w.heap[k]? ∨ (n0 ≤ k ∧ ∃ cur cur' e, w.heap[k]? = some (.cells cur e (0, 0)) ∧ w'.heap[k]? = some (.cells cur' e (0, 0)) ∧ cur'.size = cur.size ∧ cur'.toList.take n = cur.toList.take n)
theorem Grew.of_ext {n0 n : Nat} {w w' : World} (h : Ext w w') : Grew n0 n w w' := ⟨Below.os h, Below.tape h, Below.output h, Below.size h, fun k hk => .inl (Below.block h k hk)⟩
theorem Grew.trans {n0 n : Nat} {a b c : World} (h : Grew n0 n a b) (k : Grew n0 n b c) : Grew n0 n a c :=
  ⟨k.os.trans h.os, k.tape.trans h.tape, k.output.trans h.output, Nat.le_trans h.size k.size, fun i hi => by
    rcases h.block i hi with h1 | ⟨h0, c1, c2, e, g1, g2, g3, g4⟩
    · rcases k.block i (Nat.lt_of_lt_of_le hi h.size) with h2 | ⟨h0, c1, c2, e, g1, g2, g3, g4⟩
      · exact .inl (h2.trans h1)
      · exact .inr ⟨h0, c1, c2, e, by rw [← h1]; exact g1, g2, g3, g4⟩
    · rcases k.block i (Nat.lt_of_lt_of_le hi h.size) with h2 | ⟨-, c3, c4, e', f1, f2, f3, f4⟩
      · exact .inr ⟨h0, c1, c2, e, g1, by rw [h2]; exact g2, g3, g4⟩
      · rw [g2] at f1
        simp only [Option.some.injEq, Obj.cells.injEq, and_true] at f1
        obtain ⟨rfl, rfl⟩ := f1
        exact .inr ⟨h0, c1, c4, e, g1, f2, f3.trans g3, f4.trans g4⟩⟩
theorem Grew.below {n0 n : Nat} {w w' : World} (h : Grew n0 n w w') {u : World} (hu : u.heap.size = n0) (hx : Ext u w) : Ext u w' := by
  subst hu
  exact ⟨h.os.trans (Below.os hx), h.tape.trans (Below.tape hx), h.output.trans (Below.output hx), Nat.le_trans (Below.size hx) h.size, fun k hk => by
    rcases h.block k (Nat.lt_of_lt_of_le hk (Below.size hx)) with h1 | ⟨h0, -⟩
    · exact h1.trans (Below.block hx k hk)
    · omega⟩
theorem two_grew (n0 n : Nat) : Piv.Two Ext (Grew n0 n) :=
  ⟨fun _ _ h => Grew.of_ext h, fun _ _ _ h k => h.trans k, fun _ _ _ h k => Grew.trans h k, fun _ => Ext.refl _, fun w => ext_drew w⟩
/-- a row of so many cells at most is kept -/
theorem Grew.owns {n0 n : Nat} {w w' : World} (h : Grew n0 n w w') {base size m : Nat} {e : TypeId} {v : Value} {xs : List Value} (ho : w.ownsRow base e size v m xs) (hm : m * size ≤ n) : w'.ownsRow base e size v m xs := by
  refine ⟨ho.1, ?_⟩
  rcases ho.2 with h1 | ⟨g, cap, cur, rfl, hb, hg, hnc, hcm, hcs, htake⟩
  · exact .inl h1
  · have hlt : g < w.heap.size := (Array.getElem?_eq_some_iff.1 hg).1
    rcases h.block g hlt with h1 | ⟨-, c1, c2, e', g1, g2, g3, g4⟩
    · exact .inr ⟨g, cap, cur, rfl, hb, by rw [h1]; exact hg, hnc, hcm, hcs, htake⟩
    · rw [hg] at g1
      simp only [Option.some.injEq, Obj.cells.injEq, and_true] at g1
      obtain ⟨rfl, rfl⟩ := g1
      refine .inr ⟨g, cap, c2, rfl, hb, g2, hnc, hcm, g3.trans hcs, ?_⟩
      have := congrArg (List.take (m * size)) g4
      rw [List.take_take, List.take_take, Nat.min_eq_left hm] at this
      rw [this]; exact htake
theorem Grew.cell {n0 n : Nat} {w w' : World} (h : Grew n0 n w w') {B j : Nat} {v : Value} (hc : w.cell? ⟨B, j, none⟩ = some v) (hj : j < n) : w'.cell? ⟨B, j, none⟩ = some v := by
  have hlt : B < w.heap.size := cell_lt hc
  rcases h.block B hlt with h1 | ⟨-, c1, c2, e', g1, g2, g3, g4⟩
  · rw [World.cell?_of_block (a := ⟨B, j, none⟩) h1]; exact hc
  · unfold World.cell? at hc ⊢
    simp only [g1] at hc
    simp only [g2]
    have e1 : c1[j]? = some v := by simpa using hc
    have e2 : c2[j]? = c1[j]? := by
      have a1 : c2.toList[j]? = (c2.toList.take n)[j]? := by rw [List.getElem?_take_of_lt hj]
      have a2 : c1.toList[j]? = (c1.toList.take n)[j]? := by rw [List.getElem?_take_of_lt hj]
      rw [← Array.getElem?_toList, ← Array.getElem?_toList, a1, a2, g4]
    simpa [e2] using e1
theorem run_append_grew {w : World} (base : Nat) (t ty e : TypeId) (i : TypeInfo) (z : Value) (size bytes : Nat) (ht : P.underlying t = some (.slice e)) (hi : P.info? e = some i) (hz : i.zero = some z)
    (hsize : i.size = size) (hby : i.bytes = bytes) (hzs : z.cells.size = size) (hsz : 0 < size)
    (v : Value) (n : Nat) (xs : List Value) (hown : w.ownsRow base e size v n xs)
    (a : Addr) (m c : Nat) (news : List Value) (hl : news.length = m * size) (hnews : ∀ j u, news[j]? = some u → w.cell? (a.add j) = some u) (h1 : ∀ u ∈ news, u.oneCell' = true)
    (h63 : n + m ≤ maxLen) (hbytes : (n + m) * bytes ≤ 140737488355328) (hbase : base ≤ w.heap.size) :
    ∃ v' w', (Builtin.append_ #[t, t] ty #[v, .slice (some a) m c]).run P w = .ok v' w' ∧ w'.ownsRow base e size v' (n + m) (xs ++ news) ∧ Grew base (n * size) w w' ∧
      ((∀ g cap, v = .slice (some ⟨g, 0, none⟩) n cap → cap < n + m) → Ext w w') := by
  obtain ⟨v', w', hr, ho, hg, -, -⟩ := run_append_own_at (P := P) w base t ty e i z size bytes ht hi hz hsize hby hzs hsz v n xs hown a m c news hl hnews h1 h63 hbytes hbase
  refine ⟨v', w', hr, ho, ?_⟩
  rcases hown.2 with ⟨rfl, rfl⟩ | ⟨g, cap, cur, rfl, hbg, hg0, hnc, hcm, hcs, htake⟩
  · have hx : Ext w w' := ⟨hg.os, hg.tape, hg.output, hg.size, fun k hk => hg.block k hk (by simp [Value.ownBlock])⟩
    exact ⟨Grew.of_ext hx, fun _ => hx⟩
  · by_cases hroom : n + m ≤ cap
    · obtain ⟨w2, hr2, ho2, hg2⟩ := run_append_fits (P := P) (w := w) base t ty e i size ht hi hsize g n cap xs hown a m c news hl hnews h1 hroom
      rw [hr] at hr2
      simp only [Result.ok.injEq] at hr2
      obtain ⟨rfl, rfl⟩ := hr2
      refine ⟨⟨hg2.os, hg2.tape, hg2.output, hg2.size, fun k hk => ?_⟩, fun hf => by have := hf g cap rfl; omega⟩
      by_cases hkg : k = g
      · subst hkg
        right
        refine ⟨hbg, ?_⟩
        rcases ho2.2 with ⟨he, -⟩ | ⟨g', cap', cur', he, -, hg', -, -, hcs', ht'⟩
        · simp at he
        · simp only [Value.slice.injEq, Option.some.injEq, Addr.mk.injEq, and_true, true_and] at he
          obtain ⟨rfl, rfl⟩ := he
          refine ⟨cur, cur', e, hg0, hg', by rw [hcs, hcs'], ?_⟩
          have e1 := congrArg (List.take (n * size)) ht'
          rw [List.take_take, Nat.min_eq_left (Nat.mul_le_mul_right _ (Nat.le_add_right _ _)), ← hown.1, List.take_left] at e1
          rw [← hown.1, e1, hown.1]; exact htake.symm
      · exact .inl (hg2.block k hk (by simpa using hkg))
    · have hb2 : (n + m) * i.bytes ≤ 140737488355328 := by rw [hby]; exact hbytes
      have hr2 := run_append_grow (P := P) w t ty e i z ht hi hz ⟨g, 0, none⟩ n cap xs (by rw [hsize]; exact hown.1) (hown.cells (g := g) rfl) a m c news (by rw [hsize]; exact hl) hnews (by omega) (by simp only [maxLen] at h63; omega) (growslice_fits (by omega) hb2)
      rw [hr] at hr2
      simp only [Result.ok.injEq] at hr2
      obtain ⟨rfl, rfl⟩ := hr2
      have hx : Ext w (w.drew.alloc (.cells (xs.toArray ++ news.toArray ++ Builtin.zeroCells z.cells (grownCap w (n + m) cap e - (n + m))) e)) := (ext_drew w).alloc _
      exact ⟨Grew.of_ext hx, fun _ => hx⟩
theorem stepG_append_grew {o : Oper} {a : Act} {w : World} {S : Value → World → Prop} (hgd : o.guard = none) (s x : Operand) (t : TypeId)
    (ho : o.op = .call { callee := .builtin .append, args := #[s, x], argTypes := #[t, t] })
    (base : Nat) (e : TypeId) (i : TypeInfo) (z : Value) (size bytes : Nat) (ht : P.underlying t = some (.slice e)) (hi : P.info? e = some i) (hz : i.zero = some z)
    (hsize : i.size = size) (hby : i.bytes = bytes) (hzs : z.cells.size = size) (hsz : 0 < size)
    (v : Value) (n : Nat) (xs : List Value) (hs : a.eval s = v) (hown : w.ownsRow base e size v n xs)
    (ad : Addr) (m c : Nat) (news : List Value) (hx : a.eval x = .slice (some ad) m c) (hl : news.length = m * size) (hnews : ∀ j u, news[j]? = some u → w.cell? (ad.add j) = some u) (h1 : ∀ u ∈ news, u.oneCell' = true)
    (h63 : n + m ≤ maxLen) (hbytes : (n + m) * bytes ≤ 140737488355328) (hbase : base ≤ w.heap.size)
    (h : ∀ v' w', w'.ownsRow base e size v' (n + m) (xs ++ news) → Grew base (n * size) w w' → ((∀ g cap, v = .slice (some ⟨g, 0, none⟩) n cap → cap < n + m) → Ext w w') → S v' w') : stepG P ops o a w S := by
  obtain ⟨v', w', hr, h2, h3, h4⟩ := run_append_grew (P := P) base t o.type e i z size bytes ht hi hz hsize hby hzs hsz v n xs hown ad m c news hl hnews h1 h63 hbytes hbase
  unfold stepG
  have hw : Region.wanted o (yielded ops a.tmps) = true := by unfold Region.wanted; rw [hgd]
  rw [if_pos hw]
  unfold execOp
  simp only [ho, resolve, invoke, builtin, Sem.run_bind, Sem.run_pure, Result.andThen_ok, List.map_toArray, List.map_cons, List.map_nil, hs, hx, hr]
  exact h v' w' h2 h3 h4
/-- onto a row, of nothing -/
theorem stepG_append_none {o : Oper} {a : Act} {w : World} {S : Value → World → Prop} (hgd : o.guard = none) (s x : Operand) (t : TypeId)
    (ho : o.op = .call { callee := .builtin .append, args := #[s, x], argTypes := #[t, t] })
    (base : Nat) (e : TypeId) (i : TypeInfo) (size : Nat) (ht : P.underlying t = some (.slice e)) (hi : P.info? e = some i)
    (v : Value) (n : Nat) (xs : List Value) (hs : a.eval s = v) (hown : w.ownsRow base e size v n xs) (hx : a.eval x = .slice none 0 0)
    (h : S v w) : stepG P ops o a w S := by
  have hrun := run_append_owned_none (P := P) (w := w) base t o.type e i size ht hi v n xs hown
  unfold stepG
  have hw : Region.wanted o (yielded ops a.tmps) = true := by unfold Region.wanted; rw [hgd]
  rw [if_pos hw]
  unfold execOp
  simp only [ho, resolve, invoke, builtin, Sem.run_bind, Sem.run_pure, Result.andThen_ok, List.map_toArray, List.map_cons, List.map_nil, hs, hx, hrun]
  exact h
end Facts.App
end Go.Proofs.YtcamegaimleomaaGreat

namespace Go.Proofs.YtcamegaimleomaaGreat
set_option linter.unusedSimpArgs false
set_option linter.unusedVariables false
open Go.RowKit
namespace Facts
theorem wp_frame {P : Program} {c : Code} {Q : Exit → Act → World → Prop} {a : Act} {w : World} (h : ∀ A : Act, A = a → Code.wp P c Q A w) : Code.wp P c Q a w := h a rfl
theorem eval_put_same (a : Act) (t : Nat) (v : Value) (h : t < a.tmps.size) : (a.put (some t) v).eval (.tmp t) = v := by
  simp only [Act.put, Act.eval]
  rw [Array.getD_eq_getD_getElem?, Array.getElem?_setIfInBounds_self, if_pos h]; rfl
theorem eval_put_other (a : Act) (d t : Nat) (v : Value) (h : d ≠ t) : (a.put (some d) v).eval (.tmp t) = a.eval (.tmp t) := by
  simp only [Act.put, Act.eval]
  rw [Array.getD_eq_getD_getElem?, Array.getD_eq_getD_getElem?, Array.getElem?_setIfInBounds_ne h]
theorem eval_put_none (a : Act) (v : Value) (o : Operand) : (a.put none v).eval o = a.eval o := rfl
theorem eval_const (a : Act) (v : Value) : a.eval (.const v) = v := rfl
theorem eval_func (a : Act) (f : FuncId) : a.eval (.func f) = .func (.func f) #[] #[] := rfl
theorem size_put (a : Act) (d : Option Tmp) (v : Value) : (a.put d v).tmps.size = a.tmps.size := put_size a d v
end Facts
end Go.Proofs.YtcamegaimleomaaGreat

namespace Go.Proofs.YtcamegaimleomaaGreat
set_option linter.unusedSimpArgs false
set_option linter.unusedVariables false
open Go.RowKit
def findBlock (n : Nat) : Code → Option Code
  | .block i c => if i = n then some (.block i c) else findBlock n c
  | .seq a b => match findBlock n a with
    | some c => some c
    | none => findBlock n b
  | .loop c => findBlock n c
  | .scope c => findBlock n c
  | .cond _ a b => match findBlock n a with
    | some c => some c
    | none => findBlock n b
  | _ => none
def findCond (t : Nat) : Code → Option Code
  | .cond (.tmp i) a b => if i = t then some (.cond (.tmp i) a b) else match findCond t a with
    | some c => some c
    | none => findCond t b
  | .seq a b => match findCond t a with
    | some c => some c
    | none => findCond t b
  | .loop c => findCond t c
  | .scope c => findCond t c
  | .block _ c => findCond t c
  | _ => none
noncomputable def blockOf (f : Func) (n : Nat) : Code := ((f.body.bind (findBlock n)).getD .skip)
noncomputable def condOf (f : Func) (n : Nat) : Code := ((f.body.bind (findCond n)).getD .skip)
end Go.Proofs.YtcamegaimleomaaGreat

namespace Go.Proofs.YtcamegaimleomaaGreat
set_option linter.unusedSimpArgs false
set_option linter.unusedVariables false
open Go.RowKit
def findRegion (n : Nat) : Code → Option Code
  | .region i ops d => if i = n then some (.region i ops d) else none
  | .block _ c => findRegion n c
  | .seq a b => match findRegion n a with
    | some c => some c
    | none => findRegion n b
  | .loop c => findRegion n c
  | .scope c => findRegion n c
  | .cond _ a b => match findRegion n a with
    | some c => some c
    | none => findRegion n b
  | _ => none
noncomputable def regionOf (f : Func) (n : Nat) : Code := ((f.body.bind (findRegion n)).getD .skip)
end Go.Proofs.YtcamegaimleomaaGreat

namespace Go.Proofs.YtcamegaimleomaaGreat
set_option linter.unusedSimpArgs false
set_option linter.unusedVariables false
open Go.RowKit
set_option linter.unusedVariables false

theorem no_falseE {X : Bool} (h : X = false) (h2 : X = true) : False := by rw [h] at h2; cases h2
/-- a row of one's own -/
def OwnR (base : Nat) (e : TypeId) (sz n : Nat) (cs : List Value) (u : Value) (w : World) : Prop := w.ownsRow base e sz u n cs
theorem OwnR.ext {base : Nat} {e : TypeId} {sz n : Nat} {cs : List Value} {u : Value} {w w' : World} (h : OwnR base e sz n cs u w) (hx : Ext w w') : OwnR base e sz n cs u w' := Ext.owns h hx
theorem OwnR.grew {base : Nat} {e : TypeId} {sz n : Nat} {cs : List Value} {u : Value} {n0 k : Nat} {w w' : World} (h : OwnR base e sz n cs u w) (hn : n * sz ≤ k) (hx : Facts.App.Grew n0 k w w') : OwnR base e sz n cs u w' := hx.owns h hn
/-- a row of nothing, with no room -/
def EmptyR (base : Nat) (e : TypeId) (sz : Nat) (u : Value) (w : World) : Prop := ∃ B, u = .slice (some ⟨B, 0, none⟩) 0 0 ∧ OwnR base e sz 0 [] u w
theorem EmptyR.ext {base : Nat} {e : TypeId} {sz : Nat} {u : Value} {w w' : World} (h : EmptyR base e sz u w) (hx : Ext w w') : EmptyR base e sz u w' := by
  obtain ⟨B, e, h1⟩ := h; exact ⟨B, e, h1.ext hx⟩
theorem EmptyR.grew {base : Nat} {e : TypeId} {sz : Nat} {u : Value} {n0 n : Nat} {w w' : World} (h : EmptyR base e sz u w) (hx : Facts.App.Grew n0 n w w') : EmptyR base e sz u w' := by
  obtain ⟨B, e, h1⟩ := h; exact ⟨B, e, h1.grew (by omega) hx⟩
theorem EmptyR.row {base : Nat} {e : TypeId} {sz : Nat} {u : Value} {w : World} (h : EmptyR base e sz u w) : w.ownsRow base e sz u 0 [] := by
  obtain ⟨B, e, h1⟩ := h; exact h1
theorem EmptyR.full {base : Nat} {e : TypeId} {sz : Nat} {u : Value} {w : World} (h : EmptyR base e sz u w) (m : Nat) (hm : 0 < m) : ∀ g cap, u = .slice (some ⟨g, 0, none⟩) 0 cap → cap < 0 + m := by
  obtain ⟨B, e, -⟩ := h
  intro g cap e2
  rw [e] at e2
  have := (Value.slice.inj e2).2.2
  omega
/-- new elements, in a block of their own -/
def NewR (n : Nat) (cs : List Value) (u : Value) (w : World) : Prop := ∃ B, u = .slice (some ⟨B, 0, none⟩) n n ∧ ∀ j v, cs[j]? = some v → w.cell? ((⟨B, 0, none⟩ : Addr).add j) = some v
noncomputable def NewR.B {n : Nat} {cs : List Value} {u : Value} {w : World} (h : NewR n cs u w) : Nat := Exists.choose h
theorem NewR.spec {n : Nat} {cs : List Value} {u : Value} {w : World} (h : NewR n cs u w) : u = .slice (some ⟨h.B, 0, none⟩) n n ∧ ∀ j v, cs[j]? = some v → w.cell? ((⟨h.B, 0, none⟩ : Addr).add j) = some v := Exists.choose_spec h
theorem NewR.ext {n : Nat} {cs : List Value} {u : Value} {w w' : World} (h : NewR n cs u w) (hx : Ext w w') : NewR n cs u w' := by
  obtain ⟨B, h1, h2⟩ := h; exact ⟨B, h1, fun j v e => hx.cell (h2 j v e)⟩
theorem NewR.grew {n : Nat} {cs : List Value} {u : Value} {n0 k : Nat} {w w' : World} (h : NewR n cs u w) (hn : cs.length ≤ k) (hx : Facts.App.Grew n0 k w w') : NewR n cs u w' := by
  obtain ⟨B, h1, h2⟩ := h
  refine ⟨B, h1, fun j v e => ?_⟩
  have hj : j < cs.length := by
    rcases Nat.lt_or_ge j cs.length with h | h
    · exact h
    · rw [List.getElem?_eq_none h] at e; cases e
  have := h2 j v e
  rw [show (⟨B, 0, none⟩ : Addr).add j = ⟨B, 0 + j, none⟩ by unfold Addr.add; split <;> simp_all] at this ⊢
  exact hx.cell this (by omega)
theorem NewR.made (w : World) (n : Nat) (cs : List Value) (t : TypeId) : NewR n cs (.slice (some ⟨w.heap.size, 0, none⟩) n n) (w.alloc (.cells cs.toArray t)) := by
  refine ⟨_, rfl, fun j v e => ?_⟩
  rw [show (⟨w.heap.size, 0, none⟩ : Addr).add j = ⟨w.heap.size, 0 + j, none⟩ by unfold Addr.add; split <;> simp_all]
  simpa [go_sem] using e
theorem marks_new {w : World} {ad : Addr} {n c : Nat} {l : List Mark} (h : MarksAt w (.slice (some ad) n c) l) : ∀ j u, (cellsK l)[j]? = some u → w.cell? (ad.add j) = some u := by
  intro j u hu
  have hlen : (cellsK l).length = l.length * 2 := cellsK_len l
  have hj : j < l.length * 2 := by
    rcases Nat.lt_or_ge j (l.length * 2) with h1 | h1
    · exact h1
    · rw [List.getElem?_eq_none (by omega)] at hu; cases hu
  have hi : j / 2 < l.length := by omega
  obtain ⟨b, o, e2, r0, r1, -⟩ := h.get hi
  obtain rfl := Option.some.inj e2
  obtain ⟨c0, c1⟩ := cellsK_get l (j / 2) hi
  rw [show (⟨b, o, none⟩ : Addr).add j = ⟨b, o + j, none⟩ by unfold Addr.add; split <;> simp_all]
  rcases Nat.mod_two_eq_zero_or_one j with h0 | h0
  · rw [show j = j / 2 * 2 from by omega] at hu ⊢
    rw [c0] at hu
    obtain rfl := Option.some.inj hu
    exact r0
  · rw [show j = j / 2 * 2 + 1 from by omega] at hu ⊢
    rw [c1] at hu
    obtain rfl := Option.some.inj hu
    exact r1
theorem marks_one (l : List Mark) : ∀ u ∈ cellsK l, u.oneCell' = true := fun u hu => by
  simp only [cellsK, List.mem_flatMap] at hu
  obtain ⟨x, -, hx⟩ := hu
  simp at hx
  rcases hx with rfl | rfl <;> simp [Value.oneCell']
end Go.Proofs.YtcamegaimleomaaGreat

namespace Go.Proofs.YtcamegaimleomaaGreat
set_option linter.unusedSimpArgs false
set_option linter.unusedVariables false
set_option linter.unusedVariables false

theorem toList_run (bs : ByteArray) : ∀ (n i : Nat) (r : List UInt8), bs.size - i = n → ByteArray.toList.loop bs i r = r.reverse ++ bs.data.toList.drop i
  | 0, i, r, h => by
    rw [ByteArray.toList.loop, if_neg (by omega), List.drop_of_length_le (by have : bs.size = bs.data.toList.length := rfl; omega), List.append_nil]
  | n + 1, i, r, h => by
    have hi : i < bs.data.toList.length := by have : bs.size = bs.data.toList.length := rfl; omega
    rw [ByteArray.toList.loop, if_pos (by omega), toList_run bs n (i + 1) _ (by omega), List.drop_eq_getElem_cons hi, List.reverse_cons, List.append_assoc]
    have hi2 : i < bs.data.size := by simpa using hi
    have e : bs.get! i = bs.data.toList[i] := by
      show bs.data[i]! = _
      rw [getElem!_pos bs.data i hi2]
      simp
    rw [e]
    rfl
theorem str_inj {a b : ByteArray} (h : a.toList = b.toList) : a = b := by
  have e : ∀ bs : ByteArray, bs.toList = bs.data.toList := fun bs => by
    unfold ByteArray.toList
    have := toList_run bs _ 0 [] rfl
    simpa using this
  rw [e, e] at h
  obtain ⟨x⟩ := a
  obtain ⟨y⟩ := b
  exact congrArg _ (Array.toList_inj.1 h)
theorem beq_str {x y : ByteArray} : (x.toList == y.toList) = decide (x = y) := by
  by_cases h : x = y
  · subst h; simp
  · rw [decide_eq_false h]
    exact beq_eq_false_iff_ne.2 fun e => h (str_inj e)
def splitB (c : UInt8) : List UInt8 → List UInt8 → List (List UInt8)
  | [], cur => [cur]
  | x :: r, cur => if x = c then cur :: splitB c r [] else splitB c r (cur ++ [x])
def splitM (c : UInt8) (s : ByteArray) : List ByteArray := (splitB c s.data.toList []).map fun l => ⟨l.toArray⟩
end Go.Proofs.YtcamegaimleomaaGreat

namespace Go.Proofs.YtcamegaimleomaaGreat
set_option linter.unusedSimpArgs false
set_option linter.unusedVariables false
open Go.RowKit
set_option linter.unusedVariables false

def dropN (d : Nat → Int) : Nat → Nat → List ByteArray → List ByteArray
  | _, 0, l => l
  | k, m + 1, l => dropN d (k + 1) m (l.drop (d k).toNat)
theorem dropN_last (d : Nat → Int) : ∀ (m k : Nat) (l : List ByteArray), dropN d k (m + 1) l = (dropN d k m l).drop (d (k + m)).toNat
  | 0, k, l => rfl
  | m + 1, k, l => by
    show dropN d (k + 1) (m + 1) (l.drop (d k).toNat) = (dropN d (k + 1) m (l.drop (d k).toNat)).drop (d (k + (m + 1))).toNat
    rw [dropN_last d m (k + 1), show k + 1 + m = k + (m + 1) from by omega]
theorem ways_fits : ∀ (ss : List (List Slot)) (k : Nat) (left : List ByteArray) (c d : Nat → Int), d ∈ waysF ss k left c → ∀ m, m < ss.length → 0 ≤ d (k + m) ∧ (d (k + m)).toNat ≤ (dropN d k m left).length
  | [], k, left, c, d, h, m, hm => by simp at hm
  | sl :: r, k, left, c, d, h, m, hm => by
    unfold waysF at h
    obtain ⟨n, hn, hs, hd⟩ := waysTo_mem h
    have dk : d k = (n : Int) := by
      rw [(waysF_fine r (k + 1) _ _ d hd).1 k (by omega)]
      simp [updC]
    cases m with
    | zero =>
      show 0 ≤ d k ∧ (d k).toNat ≤ left.length
      rw [dk]
      have := sizeOk_le hs
      exact ⟨by omega, by omega⟩
    | succ m =>
      have := ways_fits r (k + 1) (left.drop n) _ d hd m (by simpa using hm)
      show 0 ≤ d (k + (m + 1)) ∧ (d (k + (m + 1))).toNat ≤ (dropN d (k + 1) m (left.drop (d k).toNat)).length
      rw [dk, Int.toNat_natCast, show k + (m + 1) = k + 1 + m from by omega]
      exact this
theorem fillsTo_drop (ps : List Part) (d : Nat → Int) (l : List ByteArray) : ∀ k, (fillsTo ps d l k).2 = dropN d 0 k l
  | 0 => rfl
  | k + 1 => by
    rw [dropN_last, ← fillsTo_drop ps d l k, Nat.zero_add]
    rfl
/-- the counts of a way fit -/
theorem ways_FitsC {ps : List Part} {l : List ByteArray} {d : Nat → Int} (h : d ∈ formWays ps l) : FitsC ps d l := fun k hk => by
  have := ways_fits _ 0 l _ d h k (by simpa using hk)
  rw [Nat.zero_add] at this
  rw [fillsTo_drop]
  exact this
theorem firstWay_fits {ps : List Part} {l : List ByteArray} (h : (formWays ps l).length ≠ 0) : FitsC ps (firstWayM ps l) l := by
  rcases pickB_mem beforeM zeroC (formWays ps l) with ⟨-, e⟩ | e
  · rw [e] at h; exact absurd rfl h
  · exact ways_FitsC e
structure FillR where
  fills : List (List ByteArray)
  many : Nat
  err : Int
def fillRes (s : Shelf) (n : Int) (l : List ByteArray) : FillR :=
  if openForErrM s n l ≠ 0 then ⟨[], 0, openForErrM s n l⟩ else
  match s.forms[n.toNat]? with
  | none => ⟨[], 0, 0⟩
  | some f => if (formWays f.parts l).length = 0 then ⟨[], 0, 9⟩ else ⟨fillsM f.parts (firstWayM f.parts l) l, (formWays f.parts l).length, 0⟩
set_option maxRecDepth 100000 in
set_option maxHeartbeats 1500000 in
theorem Fills_any (sv v : Value) (s : Shelf) (n : Int) (hn : I64 n) (l : List ByteArray) (w : World) (hs : ShelfAt w sv s) (hl : StrsAt w v l) :
    Calls Tryz.prog 11 #[sv, .int .i64 n, v] w fun e w' => ∃ u, e = .returned (.tuple #[u, .int .i64 (fillRes s n l).many, .int .i64 (fillRes s n l).err]) ∧ FillsAt w' u (fillRes s n l).fills ∧ Ext w w' := by
  have hs0 := hs
  obtain ⟨a, c, rfl, hw, hc1, hc2, hf⟩ := hs.open
  obtain ⟨la, lc, rfl, -⟩ := hl.shape
  clear hf
  obtain ⟨R, hR⟩ : ∃ R, fillRes s n l = R := ⟨_, rfl⟩
  obtain ⟨F, mn, ee⟩ := R
  rw [hR]
  have HR := Lib.hid hR
  clear hR
  simp only
  go_enter Tryz.func11, Tryz.ntmps11
  go_wp2_with fail
  refine (openForH_any _ _ s n hn l w _ (by first | (with_reducible exact Ext.refl _) | (with_reducible assumption) | (show Below _ _ _; go_grown; done)) hs0 (hl.ext (by first | (with_reducible exact Ext.refl _) | (with_reducible assumption) | (show Below _ _ _; go_grown; done)))).mono ?_
  rintro e w1 ⟨uu, rfl, ⟨nm, pa, pn, pc, rfl, h1⟩, hx1⟩
  have x1 : Ext w w1 := Ext.trans (by first | (with_reducible exact Ext.refl _) | (with_reducible assumption) | (show Below _ _ _; go_grown; done)) hx1
  obtain ⟨er, herr⟩ : ∃ er, openForErrM s n l = er := ⟨_, rfl⟩
  rw [herr] at h1 ⊢
  clear hx1
  by_cases h0 : er = 0
  · subst h0
    obtain ⟨ho, hL⟩ := openFor_ok herr
    obtain ⟨i, hi, rfl, hF⟩ := h1 rfl
    have hV : ValidForm s.forms[i] := (openErr_ok ho).1.forms _ (List.getElem_mem hi)
    obtain ⟨h15, hwd⟩ := lettErr_ok hL
    have hm : fillRes s i l = if (formWays s.forms[i].parts l).length = 0 then ⟨[], 0, 9⟩ else ⟨fillsM s.forms[i].parts (firstWayM s.forms[i].parts l) l, (formWays s.forms[i].parts l).length, 0⟩ := by
      unfold fillRes
      rw [if_neg (by rw [herr]; simp)]
      simp [hi]
    have Hm := Lib.hid (HR.out.symm.trans hm)
    clear herr hm h1 HR
    generalize s.forms[i] = f at *
    have hfw := fun w' (hx : Ext w w') => firstWay_any (.agg #[.string nm, .slice pa pn pc]) (.slice la l.length lc) f l hV h15 w' (hx.form hF) (hl.ext hx)
    have hfi := fun w' (hx : Ext w w') hc => fills_any (.agg #[.string nm, .slice pa pn pc]) (.slice la l.length lc) f l (firstWayM f.parts l) hV h15 hc w' (hx.form hF) (hl.ext hx)
    have hff := fun h => firstWay_fits (ps := f.parts) (l := l) h
    have hlen := formWays_len hV.parts hV.n l
    generalize (formWays f.parts l).length = N at *
    generalize fillsM f.parts (firstWayM f.parts l) l = fl at *
    generalize firstWayM f.parts l = fw at *
    unfold countsV at hfw hfi
    go_wp2_with fail
    refine (hfw _ (x1.alloc _)).mono ?_
    rintro e w2 ⟨rfl, hx2⟩
    have x2 : Ext w w2 := Ext.trans (x1.alloc _) hx2
    have q0 : w2.cell? ⟨w1.heap.size, 0, none⟩ = some (.string nm) := hx2.cell (by simp [go_sem])
    have q1 : w2.cell? ⟨w1.heap.size, 1, none⟩ = some (.slice pa pn pc) := hx2.cell (by simp [go_sem])
    have zq := cell_lt q0
    clear hx2 hfw
    by_cases hz : N = 0
    · subst hz
      have hm2 := Hm.out
      rw [if_pos rfl] at hm2
      obtain ⟨rfl, rfl, rfl⟩ := FillR.mk.inj hm2
      clear hff hfi Hm hm2
      go_wp2_with fail
      go_ret3
      exact ⟨_, rfl, SliceAt.nil, x2.alloc _⟩
    · have hzb : ((N : Int) == 0) = false := by simpa using hz
      have hfi2 := fun w' hx => hfi w' hx (hff hz)
      have hm2 := Hm.out
      rw [if_neg hz] at hm2
      obtain ⟨rfl, rfl, rfl⟩ := FillR.mk.inj hm2
      clear hff hfi hz Hm hm2
      go_wp2_with fail
      refine (hfi2 _ (x2.alloc _)).mono ?_
      rintro e w3 ⟨u, rfl, hfl, hx3⟩
      go_wp2
      go_ret3
      exact ⟨u, rfl, hfl, (x2.alloc _).trans hx3⟩
  · have h0' : (er != 0) = true := by simpa using h0
    have hm : fillRes s n l = ⟨[], 0, er⟩ := by unfold fillRes; rw [if_pos (by rw [herr]; exact h0), herr]
    obtain ⟨rfl, rfl, rfl⟩ := FillR.mk.inj (HR.out.symm.trans hm)
    clear h0 h1 hm herr HR
    go_wp2_with fail
    go_ret3
    exact ⟨_, rfl, SliceAt.nil, x1.alloc _⟩
end Go.Proofs.YtcamegaimleomaaGreat

namespace Go.Proofs.YtcamegaimleomaaGreat
set_option linter.unusedSimpArgs false
set_option linter.unusedVariables false
set_option linter.unusedVariables false
set_option maxRecDepth 100000

def wTo : ByteArray := ⟨#[116, 111]⟩
def wThe : ByteArray := ⟨#[116, 104, 101]⟩
def wI : ByteArray := ⟨#[105]⟩
def wAsk : ByteArray := ⟨#[97, 115, 107]⟩
def wJudge : ByteArray := ⟨#[106, 117, 100, 103, 101]⟩
def wMercy : ByteArray := ⟨#[109, 101, 114, 99, 121]⟩
def wFor : ByteArray := ⟨#[102, 111, 114]⟩
def wA : ByteArray := ⟨#[97]⟩
def wB : ByteArray := ⟨#[98]⟩
def wC : ByteArray := ⟨#[99]⟩
def roomP (lo hi : Int) : Part := ⟨[], lo, hi⟩
def givenP (l : List ByteArray) : Part := ⟨l, 0, 0⟩
def shelfE : Shelf := ⟨12, [⟨⟨#[112, 108, 101, 97]⟩, [givenP [wTo, wThe], roomP 1 2, givenP [wI, wAsk], roomP 1 3]⟩, ⟨⟨#[110, 111, 116, 101]⟩, [roomP 1 2, givenP [wI, wAsk], roomP 0 2]⟩, ⟨⟨#[108, 105, 115, 116]⟩, [roomP 1 2, roomP 1 2]⟩]⟩
def letA : List ByteArray := [wTo, wThe, wJudge, wI, wAsk, wMercy]
def letB : List ByteArray := [wTo, wJudge, wI, wAsk, wFor, wMercy]
def letC : List ByteArray := [wA, wB, wC]
def letN : List ByteArray := [wTo, wThe, wI, wAsk, wI, wAsk]
def noW : ByteArray := ⟨#[]⟩
def marksE : List Mark := [⟨0, noW⟩, ⟨2, noW⟩, ⟨0, noW⟩, ⟨0, noW⟩, ⟨0, noW⟩, ⟨3, wFor⟩, ⟨0, noW⟩]
def textA : ByteArray := ⟨#[116, 111, 32, 116, 104, 101, 32, 106, 117, 100, 103, 101, 10, 105, 32, 97, 115, 107, 32, 109, 101, 114, 99, 121, 10]⟩
def textB : ByteArray := ⟨#[116, 111, 32, 116, 104, 101, 10]⟩
def textW : ByteArray := ⟨#[116, 111, 32, 116, 104, 101, 32, 106, 117, 100, 103, 101, 32, 105, 10, 97, 115, 107, 32, 109, 101, 114, 99, 121, 10]⟩

theorem e_make : makeErrM shelfE 0 [[wJudge], [wMercy]] = 0 := by kernel_rfl
theorem e_built : builtM (formOf shelfE 0).parts [[wJudge], [wMercy]] = letA := by kernel_rfl
theorem e_ofC : ofM shelfE letC = [2] := by kernel_rfl
theorem e_errC : shelfErrM shelfE letC = 0 := by kernel_rfl
theorem e_fillC : fillRes shelfE 2 letC = ⟨[[wA], [wB, wC]], 2, 0⟩ := by kernel_rfl
theorem e_errA : shelfErrM shelfE letA = 0 := by kernel_rfl
theorem e_textA : writeM shelfE letA = textA := by kernel_rfl
theorem e_readA : readM shelfE textA = (letA, 0) := by kernel_rfl
theorem e_fewE : fewErrM letA letB = 0 := by kernel_rfl
theorem e_fewM : fewMarksM letA letB = marksE := by kernel_rfl
theorem e_fewN : fewManyM letA letB = 2 := by kernel_rfl
theorem e_apply : applyM marksE letA = ⟨letB, 0⟩ := by kernel_rfl
theorem e_mend2 : mendM shelfE 2 letA = 2 := by kernel_rfl
theorem e_mendE2 : openForErrM shelfE 2 letA = 0 := by kernel_rfl
theorem e_near : nearV shelfE letA = (0, 0) := by kernel_rfl
theorem e_nearE : nearErrM shelfE letA = 0 := by kernel_rfl
theorem e_readB : (readM shelfE textB).2 = 0 := by kernel_rfl
theorem e_readW : (readM shelfE textW).2 = 6 := by kernel_rfl
theorem e_mendE3 : openForErrM shelfE 3 letA = 4 := by kernel_rfl
theorem e_ofA : ofM shelfE letA = [0] := by kernel_rfl
theorem e_ofN : ofM shelfE letN = [1] := by kernel_rfl
theorem e_errN : shelfErrM shelfE letN = 0 := by kernel_rfl
theorem e_fillA : fillRes shelfE 0 letA = ⟨[[wJudge], [wMercy]], 1, 0⟩ := by kernel_rfl
theorem e_mend0 : mendM shelfE 0 letA = 0 := by kernel_rfl
theorem e_mend1 : mendM shelfE 1 letA = 1 := by kernel_rfl
theorem e_mendE0 : openForErrM shelfE 0 letA = 0 := by kernel_rfl
theorem e_mendE1 : openForErrM shelfE 1 letA = 0 := by kernel_rfl

/-! ### what a byte parts -/
theorem e_splitA : splitM 32 ⟨#[116, 111, 32, 116, 104, 101, 32, 106, 117, 100, 103, 101, 32, 105, 32, 97, 115, 107, 32, 109, 101, 114, 99, 121]⟩ = letA := by kernel_rfl
theorem e_splitB : splitM 32 ⟨#[116, 111, 32, 106, 117, 100, 103, 101, 32, 105, 32, 97, 115, 107, 32, 102, 111, 114, 32, 109, 101, 114, 99, 121]⟩ = letB := by kernel_rfl
theorem e_splitC : splitM 32 ⟨#[97, 32, 98, 32, 99]⟩ = letC := by kernel_rfl
end Go.Proofs.YtcamegaimleomaaGreat

namespace Go.Proofs.YtcamegaimleomaaGreat
set_option linter.unusedSimpArgs false
set_option linter.unusedVariables false
open Go.RowKit
set_option linter.unusedVariables false

theorem split_hit {c : UInt8} {l : List UInt8} {L : List (List UInt8)} {b k : Nat} (hk : k < l.length) (hc : l[k] = c) (h : splitB c l [] = L ++ splitB c (l.drop k) ((l.drop b).take (k - b))) :
    splitB c l [] = (L ++ [(l.drop b).take (k - b)]) ++ splitB c (l.drop (k + 1)) ((l.drop (k + 1)).take (k + 1 - (k + 1))) := by
  rw [h, List.drop_eq_getElem_cons hk, splitB, if_pos hc, Nat.sub_self, List.take_zero, List.append_assoc]
  rfl
theorem split_miss {c : UInt8} {l : List UInt8} {L : List (List UInt8)} {b k : Nat} (hk : k < l.length) (hb : b ≤ k) (hc : l[k] ≠ c) (h : splitB c l [] = L ++ splitB c (l.drop k) ((l.drop b).take (k - b))) :
    splitB c l [] = L ++ splitB c (l.drop (k + 1)) ((l.drop b).take (k + 1 - b)) := by
  rw [h, List.drop_eq_getElem_cons hk, splitB, if_neg hc]
  congr 2
  rw [show k + 1 - b = (k - b) + 1 from by omega, List.take_succ_eq_append_getElem (by rw [List.length_drop]; omega), List.getElem_drop]
  congr 3
  omega
theorem extract_part (s : ByteArray) (b k : Nat) : s.extract b k = ⟨((s.data.toList.drop b).take (k - b)).toArray⟩ := by
  apply ByteArray.ext
  rw [ByteArray.data_extract]
  apply Array.toList_inj.1
  rw [Array.toList_extract, List.extract_eq_take_drop]
theorem StrsAt.oneAt {w : World} {s : ByteArray} {t : TypeId} {B : Nat} (hB : w.heap.size = B) (h : s.size ≤ 9223372036854775807) : StrsAt (w.alloc (.cells #[.string s] t)) (.slice (some ⟨B, 0, none⟩) 1 1) [s] := by
  subst hB
  refine ⟨_, _, rfl, Nat.le_refl _, by omega, fun i hi => ?_⟩
  obtain rfl : i = 0 := by simpa using hi
  exact ⟨_, _, rfl, by simp [go_sem], h⟩
set_option maxHeartbeats 1000000 in
set_option maxRecDepth 100000 in
theorem split_any (c : UInt8) (s : ByteArray) (hs : s.size ≤ 1000000) (w : World) :
    Calls Tryz.prog 107 #[.string s, .int .u8 (c.toNat : Nat)] w fun e w' => ∃ u, e = .returned u ∧ RowW w.heap.size (splitM c s) u w' ∧ Ext w w' := by
  obtain ⟨i0, hi, hz0, hz1, hz2⟩ := info_parts infoString
  go_enter Tryz.func107, Tryz.ntmps107
  go_wp2_with fail
  go_loopw [5, 6, 7] (fun u b i wr => ∃ (k n : Nat) (L : List (List UInt8)), k ≤ s.size ∧ n ≤ k ∧ L.length ≤ k ∧ b = .int .i64 n ∧ i = .int .i64 k ∧ Ext w wr ∧ RowW w.heap.size (L.map fun l => ⟨l.toArray⟩) u wr ∧ splitB c s.data.toList [] = L ++ splitB c (s.data.toList.drop k) ((s.data.toList.drop n).take (k - n))) (fun _ _ i _ => s.size - (intOf i).toNat)
  case atStart => exact ⟨0, 0, [], Nat.zero_le _, Nat.zero_le _, Nat.zero_le _, rfl, rfl, Ext.refl _, RowW.nil, by simp⟩
  case round =>
    obtain ⟨k, n, L, hk, hn, hL, rfl, rfl, hxr, hown, hsp⟩ := hrel
    have hsz : s.data.toList.length = s.size := rfl
    by_cases hlt : k < s.size
    · have k1 : (k : Int) < (s.size : Int) := by omega
      have hit := split_hit (c := c) (L := L) (b := n) (k := k) (show k < s.data.toList.length from hlt)
      have miss := split_miss (c := c) (L := L) (b := n) (k := k) (show k < s.data.toList.length from hlt) hn
      have hge : s.data.toList[k]'hlt = s[k]'hlt := rfl
      rw [hge] at hit miss
      have Hit := Lib.hid hit
      have Miss := Lib.hid miss
      have Hsp := Lib.hid hsp
      clear hit miss hsp hge
      by_cases h0 : s[k]'hlt = c
      · have h1 : (((s[k]'hlt).toNat : Int) == (c.toNat : Int)) = true := by rw [h0]; simp
        have H0 := Lib.hid h0
        have hone := fun (x : ByteArray) (hx : x.size ≤ 9223372036854775807) => StrsAt.oneAt (w := wr) (s := x) (t := 9) rfl hx
        have hmap : (L.map fun l => (⟨l.toArray⟩ : ByteArray)).length = L.length := List.length_map ..
        have hxe : (s.extract n k).size ≤ 9223372036854775807 := by rw [ByteArray.size_extract]; omega
        have hw1 := hone _ hxe
        have own1 := RowW.ext hown (ext_alloc wr (.cells #[.string (s.extract n k)] 9))
        have hzr := hxr.size
        clear h0 hone hmap hown
        go_wp2_with ((at_builtin; go_loud (refine wpList_append_strs rfl _ _ 25 rfl w.heap.size i0 Tryz.underlying25 hi hz0 hz1 hz2 u5 _ rfl own1 (.slice (some ⟨wr.heap.size, 0, none⟩) 1 1) rfl [s.extract n k] hw1 (by simp only [List.length_map, List.length_cons, List.length_nil]; omega) (by simp; omega) ?_; intro v' w2 hown' hgrow _)))
        have hx3 : Ext w w2 := Ext.grown (hxr.alloc _) hgrow fun k hk => (World.ownsRow.lt own1 k hk).1
        go_roundw
        case rel => exact ⟨k + 1, k + 1, L ++ [(s.data.toList.drop n).take (k - n)], by omega, Nat.le_refl _, by simp; omega, by go_num, by go_num, hx3, by rw [List.map_append, List.map_singleton, ← extract_part]; exact hown', Hit.out H0.out Hsp.out⟩
        case measure => simp [intOf]; omega
      · have h1 : (((s[k]'hlt).toNat : Int) == (c.toNat : Int)) = false := by
          rw [beq_eq_false_iff_ne]
          intro e
          exact h0 (UInt8.toNat_inj.1 (by omega))
        have H0 := Lib.hid h0
        clear h0
        go_wp2
        go_roundw
        case rel => exact ⟨k + 1, n, L, by omega, by omega, by omega, rfl, by go_num, hxr, hown, Miss.out H0.out Hsp.out⟩
        case measure => simp [intOf]; omega
    · obtain rfl : k = s.size := by omega
      have k1 : ¬ (s.size : Int) < (s.size : Int) := by omega
      have hall : splitM c s = (L.map fun l => (⟨l.toArray⟩ : ByteArray)) ++ [s.extract n s.size] := by
        unfold splitM
        rw [hsp, List.drop_of_length_le (by omega), splitB, List.map_append, List.map_singleton, extract_part]
      have Hall := Lib.hid hall
      clear hall hsp
      have hxe : (s.extract n s.size).size ≤ 9223372036854775807 := by rw [ByteArray.size_extract]; omega
      have hw1 := StrsAt.oneAt (w := wr) (s := s.extract n s.size) (t := 9) rfl hxe
      have own1 := RowW.ext hown (ext_alloc wr (.cells #[.string (s.extract n s.size)] 9))
      have hzr := hxr.size
      clear hown
      go_wp2_with ((at_builtin; go_loud (refine wpList_append_strs rfl _ _ 25 rfl w.heap.size i0 Tryz.underlying25 hi hz0 hz1 hz2 u5 _ rfl own1 (.slice (some ⟨wr.heap.size, 0, none⟩) 1 1) rfl [s.extract n s.size] hw1 (by simp only [List.length_map, List.length_cons, List.length_nil]; omega) (by simp; omega) ?_; intro v' w2 hown' hgrow _)))
      have hx3 : Ext w w2 := Ext.grown (hxr.alloc _) hgrow fun k hk => (World.ownsRow.lt own1 k hk).1
      go_ret
      exact ⟨_, rfl, by rw [Hall.out]; exact hown', hx3⟩
end Go.Proofs.YtcamegaimleomaaGreat
