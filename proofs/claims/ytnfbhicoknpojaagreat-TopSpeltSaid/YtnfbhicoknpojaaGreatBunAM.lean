/-
  CORRECTIONS TOWARDS SLOTS, as ways: what the choices find is the fewest; by way of another letter no fewer.
  A LETTER's TEXT: Text and Write of the reference.
  WHAT A LETTER's TEXT IS PARTED INTO, plain: by its spaces and line feeds, and by fields: the letter again.
  THE LINES OF A LETTER's TEXT, plain: none is empty or wider than it may be, and the first word of a line has no room on the line before it.
  WHAT letter AND spelling OF THE REFERENCE RETURN.
  WHAT letters OF THE REFERENCE RETURNS: the first error of the letters of an alphabet.
  WHAT Check OF THE REFERENCE RETURNS: the same as that of ear. For any book.
-/
import Derived.Test.YtnfbhicoknpojaaGreatBunAL
import Derived.Test.YtnfbhicoknpojaaGreatBunAG
import Derived.Laws.RangeString
import Derived.Test.YtnfbhicoknpojaaGreatBunAK
import Derived.Test.YtnfbhicoknpojaaGreatBunAB
import Derived.Test.YtnfbhicoknpojaaGreatBunAC
namespace Go.Proofs.YtnfbhicoknpojaaGreat
set_option linter.unusedSimpArgs false
set_option linter.unusedVariables false
set_option linter.unusedVariables false

/-- a way from a letter to slots, with so many corrections -/
inductive EdS : List ByteArray → List Slot → Nat → Prop where
  | nil : EdS [] [] 0
  | keep (x : ByteArray) (s : Slot) {a : List ByteArray} {b : List Slot} {n : Nat} : takesM s x = true → EdS a b n → EdS (x :: a) (s :: b) n
  | turn (x : ByteArray) (s : Slot) {a : List ByteArray} {b : List Slot} {n : Nat} : EdS a b n → EdS (x :: a) (s :: b) (n + 1)
  | drop (x : ByteArray) {a : List ByteArray} {b : List Slot} {n : Nat} : EdS a b n → EdS (x :: a) b (n + 1)
  | put (s : Slot) {a : List ByteArray} {b : List Slot} {n : Nat} : EdS a b n → EdS a (s :: b) (n + 1)
  | skip (s : Slot) {a : List ByteArray} {b : List Slot} {n : Nat} : s.free = true → EdS a b n → EdS a (s :: b) n
theorem edS_cost : ∀ (N : Nat) (ws : List ByteArray) (ss : List Slot), ws.length + ss.length ≤ N → EdS ws ss (costM ws ss).2
  | 0, ws, ss, h => by
    have h1 : ws = [] := List.eq_nil_of_length_eq_zero (by omega)
    have h2 : ss = [] := List.eq_nil_of_length_eq_zero (by omega)
    subst h1; subst h2
    exact .nil
  | N + 1, ws, ss, h => by
    by_cases h0 : ws.length + ss.length = 0
    · exact edS_cost 0 ws ss (by omega)
    obtain ⟨g1, g2, g3, g4, g5, g6⟩ := costM_which ws ss (by omega)
    have ih := edS_cost N (ws.drop (kW (costM ws ss).1)) (ss.drop (kS (costM ws ss).1)) (by rw [List.length_drop, List.length_drop]; omega)
    rw [g6]
    generalize (costM ws ss).1 = c at *
    generalize (costM (ws.drop (kW c)) (ss.drop (kS c))).2 = m at *
    clear g6
    have : c = 0 ∨ c = 1 ∨ c = 2 ∨ c = 3 ∨ c = 4 := by omega
    rcases this with rfl | rfl | rfl | rfl | rfl
    · obtain ⟨x, ws, rfl⟩ : ∃ x r, ws = x :: r := by cases ws with | nil => simp [kW] at g2 | cons x r => exact ⟨x, r, rfl⟩
      obtain ⟨s, ss, rfl⟩ : ∃ x r, ss = x :: r := by cases ss with | nil => simp [kS] at g3 | cons x r => exact ⟨x, r, rfl⟩
      show EdS _ _ (0 + m)
      rw [Nat.zero_add]
      exact .keep x s g5 ih
    · obtain ⟨x, ws, rfl⟩ : ∃ x r, ws = x :: r := by cases ws with | nil => simp [kW] at g2 | cons x r => exact ⟨x, r, rfl⟩
      obtain ⟨s, ss, rfl⟩ : ∃ x r, ss = x :: r := by cases ss with | nil => simp [kS] at g3 | cons x r => exact ⟨x, r, rfl⟩
      show EdS _ _ (1 + m)
      rw [Nat.add_comm]
      exact .turn x s ih
    · obtain ⟨x, ws, rfl⟩ : ∃ x r, ws = x :: r := by cases ws with | nil => simp [kW] at g2 | cons x r => exact ⟨x, r, rfl⟩
      show EdS _ _ (1 + m)
      rw [Nat.add_comm]
      exact .drop x ih
    · obtain ⟨s, ss, rfl⟩ : ∃ x r, ss = x :: r := by cases ss with | nil => simp [kS] at g3 | cons x r => exact ⟨x, r, rfl⟩
      show EdS _ _ (1 + m)
      rw [Nat.add_comm]
      exact .put s ih
    · obtain ⟨s, ss, rfl⟩ : ∃ x r, ss = x :: r := by cases ss with | nil => simp [kS] at g3 | cons x r => exact ⟨x, r, rfl⟩
      show EdS _ _ (0 + m)
      rw [Nat.zero_add]
      exact .skip s g5 ih
theorem cost_le {ws : List ByteArray} {ss : List Slot} {n : Nat} (h : EdS ws ss n) : (costM ws ss).2 ≤ n := by
  induction h with
  | nil => exact Nat.le_refl _
  | @keep x s a b n ht h ih =>
    rw [costM_all]
    exact Nat.le_trans (pickC_le _ (0, (costM a b).2) (by simp [ht])) ih
  | @turn x s a b n h ih =>
    rw [costM_all]
    cases ht : takesM s x
    · refine Nat.le_trans (pickC_le _ (1, 1 + (costM a b).2) (by simp)) ?_
      show 1 + _ ≤ _
      omega
    · refine Nat.le_trans (pickC_le _ (0, (costM a b).2) (by simp)) ?_
      show (costM a b).2 ≤ _
      omega
  | @drop x a b n h ih =>
    cases b with
    | nil =>
      rw [costM_drop]
      refine Nat.le_trans (pickC_le _ (2, 1 + (costM a []).2) (by simp)) ?_
      show 1 + _ ≤ _
      omega
    | cons s b =>
      rw [costM_all]
      refine Nat.le_trans (pickC_le _ (2, 1 + (costM a (s :: b)).2) (by simp)) ?_
      show 1 + _ ≤ _
      omega
  | @put s a b n h ih =>
    cases a with
    | nil =>
      rw [costM_put]
      refine Nat.le_trans (pickC_le _ (3, 1 + (costM [] b).2) (by simp)) ?_
      show 1 + _ ≤ _
      omega
    | cons x a =>
      rw [costM_all]
      refine Nat.le_trans (pickC_le _ (3, 1 + (costM (x :: a) b).2) (by simp)) ?_
      show 1 + _ ≤ _
      omega
  | @skip s a b n hf h ih =>
    cases a with
    | nil =>
      rw [costM_put]
      exact Nat.le_trans (pickC_le _ (4, (costM [] b).2) (by simp [hf])) ih
    | cons x a =>
      rw [costM_all]
      exact Nat.le_trans (pickC_le _ (4, (costM (x :: a) b).2) (by simp [hf])) ih
theorem cost_is (ws : List ByteArray) (ss : List Slot) : EdS ws ss (costM ws ss).2 := edS_cost _ ws ss (Nat.le_refl _)
theorem Ed.compS : ∀ (N : Nat) {a c : List ByteArray} {b : List Slot} {n m : Nat}, a.length + c.length + b.length ≤ N → Ed a c n → EdS c b m → ∃ k, k ≤ n + m ∧ EdS a b k := by
  intro N
  induction N with
  | zero =>
    intro a c b n m hN h1 h2
    have ha : a = [] := List.eq_nil_of_length_eq_zero (by omega)
    have hb : b = [] := List.eq_nil_of_length_eq_zero (by omega)
    subst ha; subst hb
    exact ⟨0, Nat.zero_le _, .nil⟩
  | succ N ih =>
    intro a c b n m hN h1 h2
    cases h2 with
    | nil =>
      cases h1 with
      | nil => exact ⟨0, Nat.zero_le _, .nil⟩
      | drop x h1 =>
        simp only [List.length_cons] at hN
        obtain ⟨k, hk, h⟩ := ih (by omega) h1 .nil
        exact ⟨k + 1, by omega, .drop x h⟩
    | put s h2 =>
      simp only [List.length_cons] at hN
      obtain ⟨k, hk, h⟩ := ih (by omega) h1 h2
      exact ⟨k + 1, by omega, .put s h⟩
    | skip s hf h2 =>
      simp only [List.length_cons] at hN
      obtain ⟨k, hk, h⟩ := ih (by omega) h1 h2
      exact ⟨k, by omega, .skip s hf h⟩
    | keep z s ht h2 =>
      simp only [List.length_cons] at hN
      cases h1 with
      | drop x h1 =>
        simp only [List.length_cons] at hN
        obtain ⟨k, hk, h⟩ := ih (by simp only [List.length_cons]; omega) h1 (EdS.keep z s ht h2)
        exact ⟨k + 1, by omega, .drop x h⟩
      | keep _ h1 =>
        simp only [List.length_cons] at hN
        obtain ⟨k, hk, h⟩ := ih (by omega) h1 h2
        exact ⟨k, by omega, .keep z s ht h⟩
      | turn x _ h1 =>
        simp only [List.length_cons] at hN
        obtain ⟨k, hk, h⟩ := ih (by omega) h1 h2
        exact ⟨k + 1, by omega, .turn x s h⟩
      | put _ h1 =>
        obtain ⟨k, hk, h⟩ := ih (by omega) h1 h2
        exact ⟨k + 1, by omega, .put s h⟩
    | turn z s h2 =>
      simp only [List.length_cons] at hN
      cases h1 with
      | drop x h1 =>
        simp only [List.length_cons] at hN
        obtain ⟨k, hk, h⟩ := ih (by simp only [List.length_cons]; omega) h1 (EdS.turn z s h2)
        exact ⟨k + 1, by omega, .drop x h⟩
      | keep _ h1 =>
        simp only [List.length_cons] at hN
        obtain ⟨k, hk, h⟩ := ih (by omega) h1 h2
        exact ⟨k + 1, by omega, .turn z s h⟩
      | turn x _ h1 =>
        simp only [List.length_cons] at hN
        obtain ⟨k, hk, h⟩ := ih (by omega) h1 h2
        exact ⟨k + 1, by omega, .turn x s h⟩
      | put _ h1 =>
        obtain ⟨k, hk, h⟩ := ih (by omega) h1 h2
        exact ⟨k + 1, by omega, .put s h⟩
    | drop z h2 =>
      simp only [List.length_cons] at hN
      cases h1 with
      | drop x h1 =>
        simp only [List.length_cons] at hN
        obtain ⟨k, hk, h⟩ := ih (by simp only [List.length_cons]; omega) h1 (EdS.drop z h2)
        exact ⟨k + 1, by omega, .drop x h⟩
      | keep _ h1 =>
        simp only [List.length_cons] at hN
        obtain ⟨k, hk, h⟩ := ih (by omega) h1 h2
        exact ⟨k + 1, by omega, .drop z h⟩
      | turn x _ h1 =>
        simp only [List.length_cons] at hN
        obtain ⟨k, hk, h⟩ := ih (by omega) h1 h2
        exact ⟨k + 1, by omega, .drop x h⟩
      | put _ h1 =>
        obtain ⟨k, hk, h⟩ := ih (by omega) h1 h2
        exact ⟨k, by omega, h⟩
theorem ed_cost {a b : List ByteArray} (hb : ∀ s ∈ b, wordM s = true) : Ed a b (costM a (givenM b)).2 := by
  rw [cost_far (a.length + b.length + 1) a b (by omega) hb]
  exact ed_far _ _ _ (by omega)
/-- by way of another letter no fewer, towards any slots -/
theorem cost_wayS {a c : List ByteArray} (ss : List Slot) (hc : ∀ s ∈ c, wordM s = true) : (costM a ss).2 ≤ (costM a (givenM c)).2 + (costM c ss).2 := by
  obtain ⟨k, hk, h⟩ := Ed.compS _ (Nat.le_refl _) (ed_cost (a := a) hc) (cost_is c ss)
  exact Nat.le_trans (cost_le h) hk

/-! ### no corrections at all: a way through the parts -/
/-- the slots of a part: those that can be empty come last, and take any word -/
structure Parted (sl : List Slot) : Prop where
  last : ∀ i j, i ≤ j → j < sl.length → (sl.getD i noSlot).free = true → (sl.getD j noSlot).free = true
  any : ∀ s ∈ sl, s.free = true → s.word.toList.isEmpty = true
theorem Parted.tail {s : Slot} {sl : List Slot} (h : Parted (s :: sl)) : Parted sl :=
  ⟨fun i j hij hj hf => h.last (i + 1) (j + 1) (by omega) (by simpa using hj) hf, fun x hx => h.any x (List.mem_cons_of_mem _ hx)⟩
theorem Parted.takes {sl : List Slot} (h : Parted sl) {i : Nat} (hi : i < sl.length) (hf : (sl.getD i noSlot).free = true) (x : ByteArray) : takesM (sl.getD i noSlot) x = true := by
  have e : sl.getD i noSlot = sl[i] := by simp [hi]
  rw [e] at hf ⊢
  simp [takesM, h.any _ (List.getElem_mem hi) hf]
theorem sizeOk_iff {sl : List Slot} {left : List ByteArray} {n : Nat} : sizeOk sl left n = true ↔ n ≤ left.length ∧ (sl.length ≤ n ∨ (sl.getD n noSlot).free = true) ∧ ∀ i, i < n → takesM (sl.getD i noSlot) (left.getD i ByteArray.empty) = true := by
  simp [sizeOk, and_assoc]
theorem edS_part : ∀ (sl : List Slot), Parted sl → ∀ (left : List ByteArray) (rest : List Slot), EdS left (sl ++ rest) 0 ↔ ∃ n, n ≤ sl.length ∧ sizeOk sl left n = true ∧ EdS (left.drop n) rest 0
  | [], hp, left, rest => by
    constructor
    · intro h
      exact ⟨0, Nat.le_refl _, by rw [sizeOk_iff]; simp, h⟩
    · rintro ⟨n, hn, -, h⟩
      obtain rfl : n = 0 := by simpa using hn
      exact h
  | s :: sl, hp, left, rest => by
    have ih := edS_part sl hp.tail
    constructor
    · intro h
      have key : ∀ {left : List ByteArray} {ss : List Slot} {n : Nat}, EdS left ss n → n = 0 → ss = s :: (sl ++ rest) → (∃ x a, left = x :: a ∧ takesM s x = true ∧ EdS a (sl ++ rest) 0) ∨ (s.free = true ∧ EdS left (sl ++ rest) 0) := by
        intro left ss n h
        cases h with
        | nil => intro _ e; cases e
        | keep x s' ht h => intro e0 e; cases e; subst e0; exact .inl ⟨_, _, rfl, ht, h⟩
        | turn => intro e0; cases e0
        | drop => intro e0; cases e0
        | put => intro e0; cases e0
        | skip s' hf h => intro e0 e; cases e; subst e0; exact .inr ⟨hf, h⟩
      rcases key h rfl rfl with ⟨x, a, rfl, ht, h⟩ | ⟨hf, h⟩
      · obtain ⟨n, hn, hs, h⟩ := (ih a rest).1 h
        rw [sizeOk_iff] at hs
        refine ⟨n + 1, by simpa using hn, ?_, by simpa using h⟩
        rw [sizeOk_iff]
        refine ⟨by simpa using hs.1, by simpa using hs.2.1, fun i hi => ?_⟩
        cases i with
        | zero => simpa using ht
        | succ i => simpa using hs.2.2 i (by omega)
      · obtain ⟨n, hn, hs, h⟩ := (ih left rest).1 h
        rw [sizeOk_iff] at hs
        have hall : ∀ j, j < (s :: sl).length → ((s :: sl).getD j noSlot).free = true := fun j hj => hp.last 0 j (Nat.zero_le _) hj (by simpa using hf)
        refine ⟨n, by simp; omega, ?_, h⟩
        rw [sizeOk_iff]
        refine ⟨hs.1, .inr (hall n (by simp; omega)), fun i hi => hp.takes (by simp; omega) (hall i (by simp; omega)) _⟩
    · rintro ⟨n, hn, hs, h⟩
      rw [sizeOk_iff] at hs
      cases n with
      | zero =>
        have hf : s.free = true := by
          rcases hs.2.1 with h1 | h1
          · simp at h1
          · simpa using h1
        refine .skip s hf ((ih left rest).2 ⟨0, Nat.zero_le _, ?_, h⟩)
        rw [sizeOk_iff]
        refine ⟨Nat.zero_le _, ?_, fun i hi => absurd hi (Nat.not_lt_zero _)⟩
        cases sl with
        | nil => exact .inl (Nat.le_refl _)
        | cons t sl => exact .inr (by simpa using hp.last 0 1 (by omega) (by simp) (by simpa using hf))
      | succ n =>
        obtain ⟨x, a, rfl⟩ : ∃ x a, left = x :: a := by cases left with | nil => simp at hs | cons x a => exact ⟨x, a, rfl⟩
        refine .keep x s (by simpa using hs.2.2 0 (by omega)) ((ih a rest).2 ⟨n, by simpa using hn, ?_, by simpa using h⟩)
        rw [sizeOk_iff]
        exact ⟨by simpa using hs.1, by simpa using hs.2.1, fun i hi => by simpa using hs.2.2 (i + 1) (by omega)⟩
theorem edS_nil {left : List ByteArray} : EdS left [] 0 ↔ left = [] := by
  constructor
  · intro h
    cases h
    rfl
  · rintro rfl; exact .nil
theorem waysTo_ne {step : Nat → List (Nat → Int)} {sl : List Slot} {left : List ByteArray} : ∀ k, waysTo step sl left k ≠ [] ↔ ∃ n, n < k ∧ sizeOk sl left n = true ∧ step n ≠ []
  | 0 => by simp [waysTo]
  | k + 1 => by
    have ih := waysTo_ne (step := step) (sl := sl) (left := left) k
    rw [waysTo]
    constructor
    · intro h
      by_cases h1 : waysTo step sl left k = []
      · rw [h1, List.nil_append] at h
        by_cases hs : sizeOk sl left k = true
        · rw [if_pos hs] at h; exact ⟨k, by omega, hs, h⟩
        · rw [if_neg hs] at h; exact absurd rfl h
      · obtain ⟨n, hn, hs⟩ := ih.1 h1
        exact ⟨n, by omega, hs⟩
    · rintro ⟨n, hn, hs, h⟩ e
      obtain ⟨e1, e2⟩ := List.append_eq_nil_iff.1 e
      by_cases hk : n < k
      · exact ih.2 ⟨n, hk, hs, h⟩ e1
      · obtain rfl : n = k := by omega
        rw [if_pos hs] at e2
        exact h e2
theorem edS_ways : ∀ (ss : List (List Slot)) (k : Nat) (left : List ByteArray) (c : Nat → Int), (∀ sl ∈ ss, Parted sl) → (EdS left ss.flatten 0 ↔ waysF ss k left c ≠ [])
  | [], k, left, c, _ => by
    unfold waysF
    rw [List.flatten_nil, edS_nil]
    constructor
    · rintro rfl; simp
    · intro h
      split at h
      · rename_i h1; exact List.eq_nil_of_length_eq_zero h1
      · exact absurd rfl h
  | sl :: r, k, left, c, hp => by
    rw [List.flatten_cons, edS_part sl (hp sl List.mem_cons_self), waysF, waysTo_ne]
    constructor
    · rintro ⟨n, hn, hs, h⟩
      exact ⟨n, by omega, hs, (edS_ways r (k + 1) _ _ fun x hx => hp x (List.mem_cons_of_mem _ hx)).1 h⟩
    · rintro ⟨n, hn, hs, h⟩
      exact ⟨n, by omega, hs, (edS_ways r (k + 1) _ _ fun x hx => hp x (List.mem_cons_of_mem _ hx)).2 h⟩
theorem room_parted (lo : Int) (n : Nat) : Parted (roomSlotsM lo n) := by
  have hlen : (roomSlotsM lo n).length = n := by simp [roomSlotsM]
  have hget : ∀ j, j < n → (roomSlotsM lo n).getD j noSlot = ⟨ByteArray.empty, decide (lo ≤ (j : Int))⟩ := fun j hj => by
    simp [roomSlotsM, hj]
  refine ⟨fun i j hij hj hf => ?_, fun s hs hf => ?_⟩
  · rw [hlen] at hj
    rw [hget i (by omega)] at hf
    rw [hget j hj]
    simp only [decide_eq_true_eq] at hf ⊢
    omega
  · simp only [roomSlotsM, List.mem_map] at hs
    obtain ⟨j, hj, rfl⟩ := hs
    simp
theorem given_parted (l : List ByteArray) : Parted (givenM l) := by
  have hno : ∀ s ∈ givenM l, s.free = false := fun s hs => by
    simp only [givenM, List.mem_map] at hs
    obtain ⟨j, hj, rfl⟩ := hs
    rfl
  refine ⟨fun i j hij hj hf => ?_, fun s hs hf => by rw [hno s hs] at hf; cases hf⟩
  have e : (givenM l).getD i noSlot = (givenM l)[i]'(by omega) := by
    rw [List.getD_eq_getElem?_getD, List.getElem?_eq_getElem (by omega)]; rfl
  rw [e, hno _ (List.getElem_mem _)] at hf
  cases hf
/-- a part that is right: words, or room -/
def PartOk (p : Part) : Prop := p.words = [] ∨ p.hi = 0
theorem part_parted {p : Part} (h : PartOk p) : Parted (partSlotsM p) := by
  unfold partSlotsM
  rcases h with h | h
  · rw [h]; exact room_parted _ _
  · rw [h]
    have : givenM p.words ++ roomSlotsM p.lo (0 : Int).toNat = givenM p.words := by simp [roomSlotsM]
    rw [this]
    exact given_parted _
theorem formSlots_flat (ps : List Part) : formSlotsM ps = (ps.map partSlotsM).flatten := by
  simp [formSlotsM, List.flatMap_def]
/-- no corrections are needed just if there is a way -/
theorem cost_none {ps : List Part} (h : ∀ p ∈ ps, PartOk p) (l : List ByteArray) : (costM l (formSlotsM ps)).2 = 0 ↔ (formWays ps l).length ≠ 0 := by
  have hw := edS_ways (ps.map partSlotsM) 0 l (fun _ => 0) (fun sl hsl => by
    obtain ⟨p, hp, rfl⟩ := List.mem_map.1 hsl
    exact part_parted (h p hp))
  rw [formSlots_flat]
  constructor
  · intro h0
    have := cost_is l (ps.map partSlotsM).flatten
    rw [h0] at this
    intro e
    exact hw.1 this (List.eq_nil_of_length_eq_zero e)
  · intro h0
    have := cost_le (hw.2 fun e => h0 (by unfold formWays; rw [e]; rfl))
    omega
end Go.Proofs.YtnfbhicoknpojaaGreat

namespace Go.Proofs.YtnfbhicoknpojaaGreat
set_option linter.unusedSimpArgs false
set_option linter.unusedVariables false
open Go.RowKit
set_option linter.unusedVariables false

def mkS (l : List UInt8) : ByteArray := ⟨l.toArray⟩
theorem mkS_append (a b : List UInt8) : mkS a ++ mkS b = mkS (a ++ b) := by
  apply ByteArray.ext
  rw [ByteArray.data_append]
  simp [mkS]
theorem mkS_size (l : List UInt8) : (mkS l).size = l.length := by
  show l.toArray.size = _
  simp
theorem mkS_bytes (x : ByteArray) : mkS (bytesL x) = x := by
  obtain ⟨x⟩ := x
  simp [mkS, bytesL]
theorem bytes_mkS (l : List UInt8) : bytesL (mkS l) = l := by simp [mkS, bytesL]
theorem ret_str {a b : ByteArray} (h : a = b) : Ending.returned (.string a) = .returned (.string b) := by rw [h]
theorem textSt_has (width : Int) (l : List ByteArray) (k : Nat) (h0 : 0 < k) (hk : k ≤ l.length) : (textSt width (l.take k)).2.2 = true := by
  rw [textSt_some]
  simp
  refine ⟨by omega, fun h => ?_⟩
  subst h; simp at hk; omega
theorem lett_small {l : List ByteArray} (h : letterErrL l = 0) : l.length ≤ 15 ∧ ∀ s ∈ l, s.size ≤ 8 := by
  obtain ⟨h15, hw⟩ := lettErr_ok h
  exact ⟨h15, fun s hs => (word_size (hw s hs)).2⟩
end Go.Proofs.YtnfbhicoknpojaaGreat

namespace Go.Proofs.YtnfbhicoknpojaaGreat
set_option linter.unusedSimpArgs false
set_option linter.unusedVariables false
set_option linter.unusedVariables false

/-- whether a byte stands between words -/
def sepB (b : UInt8) : Bool := b == 32 || b == 10
/-- parted by what stands between words -/
def splitP : List UInt8 → List UInt8 → List (List UInt8)
  | [], cur => [cur]
  | x :: r, cur => if sepB x then cur :: splitP r [] else splitP r (cur ++ [x])
/-- the words between -/
def fieldsB : List UInt8 → Option (List UInt8) → List (List UInt8)
  | [], none => []
  | [], some c => [c]
  | x :: r, none => if sepB x then fieldsB r none else fieldsB r (some [x])
  | x :: r, some c => if sepB x then c :: fieldsB r none else fieldsB r (some (c ++ [x]))
theorem splitB_snoc (c : UInt8) : ∀ (T cur : List UInt8), splitB c (T ++ [c]) cur = splitB c T cur ++ [[]]
  | [], cur => by simp [splitB]
  | x :: T, cur => by
    rw [List.cons_append, splitB, splitB]
    split
    · rw [splitB_snoc c T []]; rfl
    · exact splitB_snoc c T _
theorem splitB_end (c : UInt8) : ∀ (T cur : List UInt8) (pre : List (List UInt8)) (cw : List UInt8) (x : UInt8), splitB c T cur = pre ++ [cw] → splitB c (T ++ [x]) cur = if x = c then pre ++ [cw] ++ [[]] else pre ++ [cw ++ [x]]
  | [], cur, pre, cw, x, h => by
    rw [splitB] at h
    have : pre = [] ∧ cur = cw := by
      cases pre with
      | nil => simpa using h
      | cons a pre => simp at h
    obtain ⟨rfl, rfl⟩ := this
    simp only [List.nil_append, splitB]
    split <;> simp
  | y :: T, cur, pre, cw, x, h => by
    rw [splitB] at h
    rw [List.cons_append, splitB]
    split
    · rename_i hy
      rw [if_pos hy] at h
      obtain ⟨p2, rfl⟩ : ∃ p2, pre = cur :: p2 := by
        cases pre with
        | nil =>
          exfalso
          have h2 := (List.cons.inj h).2
          cases T with
          | nil => simp [splitB] at h2
          | cons z T => rw [splitB] at h2; split at h2 <;> simp at h2; exact splitB_ne c T [z] h2
        | cons a pre => exact ⟨pre, by rw [(List.cons.inj h).1]⟩
      have h2 : splitB c T [] = p2 ++ [cw] := (List.cons.inj h).2
      rw [splitB_end c T [] p2 cw x h2]
      split <;> rfl
    · rename_i hy
      rw [if_neg hy] at h
      exact splitB_end c T _ pre cw x h
where splitB_ne (c : UInt8) : ∀ (T cur : List UInt8), splitB c T cur ≠ []
  | [], cur => by simp [splitB]
  | x :: T, cur => by
    rw [splitB]
    split
    · simp
    · exact splitB_ne c T _
/-- first into lines, then each line -/
theorem split_lines : ∀ (T cur : List UInt8) (pre : List (List UInt8)) (cw : List UInt8), splitB 32 cur [] = pre ++ [cw] → (splitB 10 T cur).flatMap (fun l => splitB 32 l []) = pre ++ splitP T cw
  | [], cur, pre, cw, h => by simp [splitB, splitP, h]
  | x :: T, cur, pre, cw, h => by
    rw [splitB, splitP]
    by_cases h10 : x = 10
    · subst h10
      have := split_lines T [] [] [] (by rfl)
      rw [if_pos rfl, if_pos (by decide), List.flatMap_cons, this, h, List.nil_append, List.append_assoc]
      rfl
    · rw [if_neg h10]
      have he := splitB_end 32 cur [] pre cw x h
      by_cases h32 : x = 32
      · subst h32
        rw [if_pos rfl] at he
        rw [if_pos (by decide), split_lines T (cur ++ [32]) (pre ++ [cw]) [] he, List.append_assoc]
        rfl
      · rw [if_neg h32] at he
        rw [if_neg (by simp [sepB, h32, h10]), split_lines T (cur ++ [x]) pre (cw ++ [x]) he]
/-- a word has nothing that stands between words -/
theorem word_bytes {x : ByteArray} (h : wordM x = true) : ∀ b ∈ bytesL x, 97 ≤ b.toNat ∧ b.toNat ≤ 122 := by
  intro b hb
  unfold wordM at h
  rw [Bool.and_eq_true, List.all_eq_true] at h
  obtain ⟨i, hi, rfl⟩ := List.getElem_of_mem hb
  have hi' : i < x.size := hi
  have h2 := h.2 i (List.mem_range.2 hi')
  rw [byteAt_eq x i hi'] at h2
  have h3 : inM (((x[i]'hi').toNat : Nat) : Int) 97 122 = true := h2
  unfold inM at h3
  simp at h3
  have e : ((bytesL x)[i]).toNat = (x[i]'hi').toNat := rfl
  omega
theorem word_nosep {x : ByteArray} (h : wordM x = true) : ∀ b ∈ bytesL x, sepB b = false := fun b hb => by
  have := word_bytes h b hb
  unfold sepB
  have h1 : b ≠ 32 := fun e => by subst e; simp at this
  have h2 : b ≠ 10 := fun e => by subst e; simp at this
  simp [h1, h2]
theorem splitP_word : ∀ (x r cur : List UInt8), (∀ b ∈ x, sepB b = false) → splitP (x ++ r) cur = splitP r (cur ++ x)
  | [], r, cur, _ => by simp
  | b :: x, r, cur, h => by
    rw [List.cons_append, splitP, if_neg (by rw [h b List.mem_cons_self]; decide), splitP_word x r _ fun c hc => h c (List.mem_cons_of_mem _ hc), List.append_assoc]
    rfl
theorem fieldsB_word : ∀ (x r c : List UInt8), (∀ b ∈ x, sepB b = false) → fieldsB (x ++ r) (some c) = fieldsB r (some (c ++ x))
  | [], r, c, _ => by simp
  | b :: x, r, c, h => by
    rw [List.cons_append, fieldsB, if_neg (by rw [h b List.mem_cons_self]; decide), fieldsB_word x r _ fun c hc => h c (List.mem_cons_of_mem _ hc), List.append_assoc]
    rfl
theorem fieldsB_first (x r : List UInt8) (hx : x ≠ []) (h : ∀ b ∈ x, sepB b = false) : fieldsB (x ++ r) none = fieldsB r (some x) := by
  cases x with
  | nil => exact absurd rfl hx
  | cons b x =>
    rw [List.cons_append, fieldsB, if_neg (by rw [h b List.mem_cons_self]; decide), fieldsB_word x r _ fun c hc => h c (List.mem_cons_of_mem _ hc)]
    rfl
/-- what the lines of a letter are parted into -/
theorem text_parts (width : Int) (l : List ByteArray) : (∀ s ∈ l, wordM s = true) → ∀ (y : ByteArray) (hy : wordM y = true) (r : List UInt8),
    splitP ((textSt width (l ++ [y])).1 ++ r) [] = l.map bytesL ++ splitP r (bytesL y) ∧ fieldsB ((textSt width (l ++ [y])).1 ++ r) none = l.map bytesL ++ fieldsB r (some (bytesL y)) := by
  refine snoc_ind (p := fun l => (∀ s ∈ l, wordM s = true) → ∀ (y : ByteArray) (hy : wordM y = true) (r : List UInt8), splitP ((textSt width (l ++ [y])).1 ++ r) [] = l.map bytesL ++ splitP r (bytesL y) ∧ fieldsB ((textSt width (l ++ [y])).1 ++ r) none = l.map bytesL ++ fieldsB r (some (bytesL y))) ?_ ?_ l
  · intro _ y hy r
    have hne : bytesL y ≠ [] := fun e => by
      have := (word_size hy).1
      have h2 := bytesL_len y
      rw [e] at h2; simp at h2; omega
    show splitP (bytesL y ++ r) [] = _ ∧ fieldsB (bytesL y ++ r) none = _
    exact ⟨by rw [splitP_word _ _ _ (word_nosep hy)]; simp, by rw [fieldsB_first _ _ hne (word_nosep hy)]; simp⟩
  · intro l x ih h y hy r
    have hl : ∀ s ∈ l, wordM s = true := fun s hs => h s (List.mem_append_left _ hs)
    have hx : wordM x = true := h x (by simp)
    have hne : bytesL y ≠ [] := fun e => by
      have := (word_size hy).1
      have h2 := bytesL_len y
      rw [e] at h2; simp at h2; omega
    have key : ∀ sp : UInt8, sepB sp = true → splitP ((textSt width (l ++ [x])).1 ++ [sp] ++ bytesL y ++ r) [] = (l ++ [x]).map bytesL ++ splitP r (bytesL y) ∧ fieldsB ((textSt width (l ++ [x])).1 ++ [sp] ++ bytesL y ++ r) none = (l ++ [x]).map bytesL ++ fieldsB r (some (bytesL y)) := fun sp hsp => by
      obtain ⟨i1, i2⟩ := ih hl x hx ([sp] ++ bytesL y ++ r)
      simp only [List.append_assoc] at i1 i2 ⊢
      rw [i1, i2]
      simp only [List.singleton_append, splitP, fieldsB, hsp, if_true]
      rw [splitP_word _ _ _ (word_nosep hy), fieldsB_first _ _ hne (word_nosep hy)]
      simp
    rw [textSt_snoc width (l ++ [x]) y]
    unfold lineStep
    rw [if_neg (by rw [textSt_some]; simp)]
    split
    · exact key 32 (by decide)
    · exact key 10 (by decide)
/-- the words of a text, as the reference takes them -/
def refWordsM (t : ByteArray) : List ByteArray := (splitM 10 t).dropLast.flatMap (splitM 32)
theorem splitM_mk (c : UInt8) (l : List UInt8) : splitM c (mkS l) = (splitB c l []).map mkS := rfl
theorem refWords_snoc (T : List UInt8) : refWordsM (mkS (T ++ [10])) = (splitP T []).map mkS := by
  unfold refWordsM
  rw [splitM_mk, splitB_snoc, List.map_append]
  simp only [List.map_cons, List.map_nil, List.dropLast_concat]
  have := split_lines T [] [] [] (by rfl)
  rw [List.nil_append] at this
  rw [← this, List.flatMap_map, List.map_flatMap]
  rfl
theorem map_mkS (l : List ByteArray) : (l.map bytesL).map mkS = l := by
  rw [List.map_map]
  have : (mkS ∘ bytesL) = id := by funext x; exact mkS_bytes x
  rw [this, List.map_id]
/-- written and parted: the letter -/
theorem refWords_text (width : Int) (l : List ByteArray) (h : ∀ s ∈ l, wordM s = true) : refWordsM (mkS (textM width l)) = l := by
  rcases List.eq_nil_or_concat l with rfl | ⟨l, y, rfl⟩
  · rfl
  · rw [List.concat_eq_append] at *
    have h1 : ∀ s ∈ l, wordM s = true := fun s hs => h s (List.mem_append_left _ hs)
    have hy : wordM y = true := h y (by simp)
    obtain ⟨i1, -⟩ := text_parts width l h1 y hy []
    unfold textM
    rw [if_neg (by simp), refWords_snoc]
    rw [List.append_nil] at i1
    rw [i1, splitP, List.map_append, map_mkS]
    simp [mkS_bytes]
/-! ### the fields of a text -/
theorem spans_fields (T : List UInt8) (ha : ∀ b ∈ T, b.toNat < 128) : ∀ (f pos : Nat) (st : Option Nat) (acc : List (Nat × Nat)), T.length - pos ≤ f → pos ≤ T.length → (∀ a, st = some a → a ≤ pos) →
    (Lib.closeSpans (mkS T) (Lib.spansFromP betweenP (mkS T) f pos st acc)).map (fun x => (mkS T).extract x.1 x.2) = acc.map (fun x => (mkS T).extract x.1 x.2) ++ (fieldsB (T.drop pos) (st.map fun a => (T.drop a).take (pos - a))).map mkS := by
  have hext : ∀ a b, (mkS T).extract a b = mkS ((T.drop a).take (b - a)) := fun a b => extract_part (mkS T) a b
  have hend : ∀ (st : Option Nat) (acc : List (Nat × Nat)), (∀ a, st = some a → a ≤ T.length) → (Lib.closeSpans (mkS T) (acc, st)).map (fun x => (mkS T).extract x.1 x.2) = acc.map (fun x => (mkS T).extract x.1 x.2) ++ (fieldsB [] (st.map fun a => (T.drop a).take (T.length - a))).map mkS := fun st acc hst => by
    cases st with
    | none => simp [Lib.closeSpans, fieldsB]
    | some a => simp [Lib.closeSpans, fieldsB, hext, mkS_size]
  intro f
  induction f with
  | zero =>
    intro pos st acc hf hpos hst
    obtain rfl : pos = T.length := by omega
    rw [Lib.spansFromP, List.drop_length]
    exact hend st acc hst
  | succ f ih =>
    intro pos st acc hf hpos hst
    by_cases hlt : pos < T.length
    · have hlt' : pos < (mkS T).size := by rw [mkS_size]; exact hlt
      have hb : ((mkS T)[pos]'hlt').toNat < 128 := ha _ (by show T[pos] ∈ T; exact List.getElem_mem hlt)
      have hd := decode_ascii (mkS T) pos hlt' hb
      have hg : (mkS T)[pos]'hlt' = T[pos] := rfl
      rw [hg] at hd
      unfold Lib.spansFromP
      rw [if_pos hlt', hd]
      have hbt : betweenP T[pos].toNat = sepB T[pos] := by
        unfold betweenP sepB
        have h1 : (T[pos].toNat == 32) = (T[pos] == 32) := by
          rw [Bool.eq_iff_iff]; simp [← UInt8.toNat_inj]
        have h2 : (T[pos].toNat == 10) = (T[pos] == 10) := by
          rw [Bool.eq_iff_iff]; simp [← UInt8.toNat_inj]
        rw [h1, h2]
      have hdrop : T.drop pos = T[pos] :: T.drop (pos + 1) := List.drop_eq_getElem_cons hlt
      have h1 : (T.drop pos).take (pos + 1 - pos) = [T[pos]] := by
        rw [show pos + 1 - pos = 1 from by omega, hdrop]; rfl
      have h2 : ∀ a, a ≤ pos → (T.drop a).take (pos + 1 - a) = (T.drop a).take (pos - a) ++ [T[pos]] := fun a hap => by
        rw [show pos + 1 - a = (pos - a) + 1 from by omega, List.take_succ_eq_append_getElem (by rw [List.length_drop]; omega), List.getElem_drop]
        simp only [show a + (pos - a) = pos from by omega]
        rfl
      simp only [hbt]
      rw [hdrop]
      clear hbt hd hg hb hdrop
      generalize T[pos] = c at *
      cases hs : sepB c
      · cases st with
        | none =>
          simp only [Bool.false_eq_true, if_false]
          rw [ih (pos + 1) (some pos) acc (by omega) (by omega) (fun a e => by cases e; omega)]
          simp only [Option.map_none, Option.map_some, fieldsB, hs, Bool.false_eq_true, if_false, h1]
        | some a =>
          have hap := hst a rfl
          simp only [Bool.false_eq_true, if_false]
          rw [ih (pos + 1) (some a) acc (by omega) (by omega) (fun b e => by cases e; omega)]
          simp only [Option.map_some, fieldsB, hs, Bool.false_eq_true, if_false, h2 a hap]
      · cases st with
        | none =>
          simp only [if_true]
          rw [ih (pos + 1) none acc (by omega) (by omega) (fun a e => by cases e)]
          simp only [Option.map_none, fieldsB, hs, if_true]
        | some a =>
          simp only [if_true]
          rw [ih (pos + 1) none (acc ++ [(a, pos)]) (by omega) (by omega) (fun a e => by cases e)]
          simp only [Option.map_none, Option.map_some, fieldsB, hs, if_true, List.map_append, List.map_cons, List.map_nil, hext, List.append_assoc]
          rfl
    · obtain rfl : pos = T.length := by omega
      rw [Lib.spansFromP_end _ _ _ _ _ _ (by rw [mkS_size]; omega), List.drop_length]
      exact hend st acc hst
theorem fields_mk (T : List UInt8) (ha : ∀ b ∈ T, b.toNat < 128) : fieldsM (mkS T) = (fieldsB T none).map mkS := by
  have := spans_fields T ha (mkS T).size 0 none [] (by rw [mkS_size]; omega) (Nat.zero_le _) (fun a e => by cases e)
  unfold fieldsM Lib.goFieldsP Lib.spansOfP
  rw [this]
  simp
theorem text_ascii (width : Int) (l : List ByteArray) : (∀ s ∈ l, wordM s = true) → ∀ b ∈ (textSt width l).1, b.toNat < 128 := by
  refine snoc_ind (p := fun l => (∀ s ∈ l, wordM s = true) → ∀ b ∈ (textSt width l).1, b.toNat < 128) (by simp [textSt_nil]) (fun l x ih h => ?_) l
  have i := ih fun s hs => h s (List.mem_append_left _ hs)
  have hx := word_bytes (h x (by simp))
  rw [textSt_snoc]
  unfold lineStep
  intro b hb
  split at hb
  · have := hx b hb; omega
  · split at hb
    all_goals
      simp only [List.mem_append, List.mem_singleton] at hb
      rcases hb with (hb | hb) | hb
      · exact i b hb
      · subst hb; decide
      · have := hx b hb; omega
theorem fields_text (width : Int) (l : List ByteArray) (h : ∀ s ∈ l, wordM s = true) : fieldsM (mkS (textM width l)) = l := by
  rcases List.eq_nil_or_concat l with rfl | ⟨l, y, rfl⟩
  · rfl
  · rw [List.concat_eq_append] at *
    have h1 : ∀ s ∈ l, wordM s = true := fun s hs => h s (List.mem_append_left _ hs)
    have hy : wordM y = true := h y (by simp)
    obtain ⟨-, i2⟩ := text_parts width l h1 y hy [10]
    have hasc : ∀ b ∈ textM width (l ++ [y]), b.toNat < 128 := by
      unfold textM
      rw [if_neg (by simp)]
      intro b hb
      rcases List.mem_append.1 hb with hb | hb
      · exact text_ascii width (l ++ [y]) h b hb
      · rw [List.mem_singleton] at hb; subst hb; decide
    rw [fields_mk _ hasc]
    unfold textM
    rw [if_neg (by simp), i2]
    simp only [fieldsB, sepB, List.map_append]
    rw [map_mkS]
    simp [mkS_bytes]
/-- the letter that a text is of, as the reference takes it -/
def refReadM (s : Shelf) (t : ByteArray) : List ByteArray × Int :=
  if errS s ≠ 0 then ([], errS s) else if 160 < t.size then ([], 3) else if letterErrL (refWordsM t) ≠ 0 ∨ mkS (textM s.width (refWordsM t)) ≠ t then ([], 6) else (refWordsM t, 0)
theorem read_same (s : Shelf) (t : ByteArray) : refReadM s t = readM s t := by
  unfold refReadM readM
  have he : shelfErrM s [] = errS s := by
    unfold shelfErrM
    by_cases h : errS s = 0
    · rw [if_neg (by simpa using h), h]; rfl
    · rw [if_pos h]
  rw [he]
  by_cases h0 : errS s = 0
  · have hne : ¬ (errS s ≠ 0) := by simpa using h0
    rw [if_neg hne, if_neg hne]
    by_cases h1 : 160 < t.size
    · rw [if_pos h1, if_pos h1]
    · rw [if_neg h1, if_neg h1]
      have hmk : ∀ l : List ByteArray, (textM s.width l = bytesL t) ↔ mkS (textM s.width l) = t := fun l => ⟨fun h => by rw [h, mkS_bytes], fun h => by rw [← h, bytes_mkS]⟩
      by_cases hp : letterErrL (fieldsM t) = 0 ∧ textM s.width (fieldsM t) = bytesL t
      · have hw := (lettErr_ok hp.1).2
        have ht := (hmk _).1 hp.2
        have hr : refWordsM t = fieldsM t := by
          have := refWords_text s.width (fieldsM t) hw
          rw [ht] at this
          exact this
        have hne2 : ¬ (letterErrL (fieldsM t) ≠ 0) := by simpa using hp.1
        have hne3 : ¬ (letterErrL (fieldsM t) ≠ 0 ∨ mkS (textM s.width (fieldsM t)) ≠ t) := by
          rintro (h | h)
          · exact h hp.1
          · exact h ht
        rw [hr, if_neg hne3, if_neg hne2, if_pos hp.2]
      · have hq : ¬ (letterErrL (refWordsM t) = 0 ∧ mkS (textM s.width (refWordsM t)) = t) := fun hq => by
          have hw := (lettErr_ok hq.1).2
          have hf : fieldsM t = refWordsM t := by
            have := fields_text s.width (refWordsM t) hw
            rw [hq.2] at this
            exact this
          exact hp ⟨by rw [hf]; exact hq.1, (hmk _).2 (by rw [hf]; exact hq.2)⟩
        rw [if_pos]
        · by_cases h2 : letterErrL (fieldsM t) = 0
          · rw [if_neg (by simpa using h2), if_neg (fun h => hp ⟨h2, h⟩)]
          · rw [if_pos h2]
        · by_cases h2 : letterErrL (refWordsM t) = 0
          · exact .inr fun h => hq ⟨h2, h⟩
          · exact .inl h2
  · rw [if_pos h0, if_pos h0]
end Go.Proofs.YtnfbhicoknpojaaGreat

namespace Go.Proofs.YtnfbhicoknpojaaGreat
set_option linter.unusedSimpArgs false
set_option linter.unusedVariables false
set_option linter.unusedVariables false

/-- how long the first word of a line is -/
def headW (l : List UInt8) : Nat := ((splitB 32 l []).headD []).length
theorem splitB_word (c : UInt8) : ∀ (xs T cur : List UInt8) (pre : List (List UInt8)) (cw : List UInt8), (∀ b ∈ xs, b ≠ c) → splitB c T cur = pre ++ [cw] → splitB c (T ++ xs) cur = pre ++ [cw ++ xs]
  | [], T, cur, pre, cw, _, h => by simpa using h
  | x :: xs, T, cur, pre, cw, hx, h => by
    have h1 := splitB_end c T cur pre cw x h
    rw [if_neg (hx x List.mem_cons_self)] at h1
    have h2 := splitB_word c xs (T ++ [x]) cur pre (cw ++ [x]) (fun b hb => hx b (List.mem_cons_of_mem _ hb)) h1
    simpa using h2
theorem splitB_head (c : UInt8) : ∀ (A r cur : List UInt8), (splitB c (A ++ c :: r) cur).headD [] = (splitB c A cur).headD []
  | [], r, cur => by simp [splitB]
  | x :: A, r, cur => by
    rw [List.cons_append, splitB, splitB]
    split
    · rfl
    · exact splitB_head c A r _
theorem headW_more (A r : List UInt8) : headW (A ++ 32 :: r) = headW A := by unfold headW; rw [splitB_head]
theorem headW_word {x : List UInt8} (h : ∀ b ∈ x, b ≠ 32) : headW x = x.length := by
  have := splitB_word 32 x [] [] [] [] h (by rfl)
  unfold headW
  rw [List.nil_append] at this
  rw [this]; rfl
/-- no line has room for the first word of the next one -/
def Tight (width : Int) (L : List (List UInt8)) : Prop := ∀ p a b q, L = p ++ a :: b :: q → width < (a.length : Int) + 1 + headW b
structure Lined (width : Int) (L : List (List UInt8)) : Prop where
  ne : ∀ x ∈ L, x ≠ []
  wd : ∀ x ∈ L, (x.length : Int) ≤ width
  tight : Tight width L
theorem Tight.snoc {width : Int} {pre : List (List UInt8)} {cw x : List UInt8} (h : Tight width (pre ++ [cw])) (hx : width < (cw.length : Int) + 1 + headW x) : Tight width (pre ++ [cw] ++ [x]) := by
  intro p a b q e
  rcases List.eq_nil_or_concat q with rfl | ⟨q, z, rfl⟩
  · have e' : pre ++ [cw] ++ [x] = (p ++ [a]) ++ [b] := by rw [e]; simp
    obtain ⟨e1, e2⟩ := List.append_inj' e' rfl
    obtain ⟨-, e3⟩ := List.append_inj' e1 rfl
    cases e2; cases e3; exact hx
  · have e' : pre ++ [cw] ++ [x] = (p ++ a :: b :: q) ++ [z] := by rw [e, List.concat_eq_append]; simp
    exact h p a b q (List.append_inj' e' rfl).1
theorem Tight.last {width : Int} {pre : List (List UInt8)} {cw x : List UInt8} (h : Tight width (pre ++ [cw])) (hx : headW x = headW cw) : Tight width (pre ++ [x]) := by
  intro p a b q e
  rcases List.eq_nil_or_concat q with rfl | ⟨q, z, rfl⟩
  · have e' : pre ++ [x] = (p ++ [a]) ++ [b] := by rw [e]; simp
    obtain ⟨e1, e2⟩ := List.append_inj' e' rfl
    cases e2
    rw [hx]
    exact h p a cw [] (by rw [e1]; simp)
  · have e' : pre ++ [x] = (p ++ a :: b :: q) ++ [z] := by rw [e, List.concat_eq_append]; simp
    obtain ⟨e1, -⟩ := List.append_inj' e' rfl
    exact h p a b (q ++ [cw]) (by rw [e1]; simp)
theorem word_ne {x : ByteArray} (h : wordM x = true) : bytesL x ≠ [] ∧ (∀ b ∈ bytesL x, b ≠ 10) ∧ (∀ b ∈ bytesL x, b ≠ 32) ∧ (bytesL x).length ≤ 8 := by
  have h1 := word_size h
  have h2 := bytesL_len x
  have h3 := word_bytes h
  refine ⟨fun e => by rw [e] at h2; simp at h2; omega, fun b hb e => ?_, fun b hb e => ?_, by omega⟩
  · have := h3 b hb; subst e; simp at this
  · have := h3 b hb; subst e; simp at this
theorem text_lines (width : Int) (hw : 8 ≤ width) (l : List ByteArray) : (∀ s ∈ l, wordM s = true) → l ≠ [] → ∃ pre cw, splitB 10 (textSt width l).1 [] = pre ++ [cw] ∧ cw.length = (textSt width l).2.1 ∧ Lined width (pre ++ [cw]) := by
  refine snoc_ind (p := fun l => (∀ s ∈ l, wordM s = true) → l ≠ [] → ∃ pre cw, splitB 10 (textSt width l).1 [] = pre ++ [cw] ∧ cw.length = (textSt width l).2.1 ∧ Lined width (pre ++ [cw])) (fun _ h => absurd rfl h) (fun l x ih h _ => ?_) l
  obtain ⟨x1, x2, x3, x4⟩ := word_ne (h x (by simp))
  have xs := bytesL_len x
  rw [textSt_snoc]
  unfold lineStep
  by_cases h0 : (textSt width l).2.2 = false
  · rw [if_pos h0]
    refine ⟨[], bytesL x, splitB_word 10 _ [] [] [] [] x2 rfl, xs, ⟨?_, ?_, ?_⟩⟩
    · intro y hy; rw [List.nil_append, List.mem_singleton] at hy; subst hy; exact x1
    · intro y hy; rw [List.nil_append, List.mem_singleton] at hy; subst hy; omega
    · intro p a b q e
      have := congrArg List.length e
      simp at this
      omega
  · rw [if_neg h0]
    have hl : l ≠ [] := fun e => h0 (by rw [textSt_some, e]; rfl)
    obtain ⟨pre, cw, i1, i2, i3⟩ := ih (fun s hs => h s (List.mem_append_left _ hs)) hl
    by_cases h1 : ((textSt width l).2.1 : Int) + 1 + x.size ≤ width
    · rw [if_pos h1]
      refine ⟨pre, cw ++ ([32] ++ bytesL x), ?_, ?_, ⟨?_, ?_, ?_⟩⟩
      · rw [List.append_assoc]
        refine splitB_word 10 _ _ _ _ _ (fun b hb => ?_) i1
        rcases List.mem_append.1 hb with hb | hb
        · rw [List.mem_singleton] at hb; subst hb; decide
        · exact x2 b hb
      · simp only [List.length_append, List.length_singleton]; omega
      · intro y hy
        rcases List.mem_append.1 hy with hy | hy
        · exact i3.ne y (List.mem_append_left _ hy)
        · rw [List.mem_singleton] at hy; subst hy; simp
      · intro y hy
        rcases List.mem_append.1 hy with hy | hy
        · exact i3.wd y (List.mem_append_left _ hy)
        · rw [List.mem_singleton] at hy; subst hy
          simp only [List.length_append, List.length_singleton]; omega
      · exact i3.tight.last (headW_more cw (bytesL x))
    · rw [if_neg h1]
      refine ⟨pre ++ [cw], bytesL x, ?_, xs, ⟨?_, ?_, ?_⟩⟩
      · have he := splitB_end 10 _ _ _ _ 10 i1
        rw [if_pos rfl] at he
        have := splitB_word 10 (bytesL x) _ _ _ _ x2 he
        rw [List.nil_append] at this
        exact this
      · intro y hy
        rcases List.mem_append.1 hy with hy | hy
        · exact i3.ne y hy
        · rw [List.mem_singleton] at hy; subst hy; exact x1
      · intro y hy
        rcases List.mem_append.1 hy with hy | hy
        · exact i3.wd y hy
        · rw [List.mem_singleton] at hy; subst hy; omega
      · exact i3.tight.snoc (by rw [headW_word x3]; omega)
/-- the lines of a letter, and nothing behind the last one -/
theorem lines_of (width : Int) (hw : 8 ≤ width) (l : List ByteArray) (h : ∀ s ∈ l, wordM s = true) : ∃ L, splitM 10 (mkS (textM width l)) = L.map mkS ++ [mkS []] ∧ Lined width L := by
  unfold textM
  by_cases h0 : l.length = 0
  · rw [if_pos h0]
    exact ⟨[], rfl, ⟨by simp, by simp, fun p a b q e => by have := congrArg List.length e; simp at this⟩⟩
  · rw [if_neg h0]
    obtain ⟨pre, cw, i1, -, i3⟩ := text_lines width hw l h (fun e => h0 (by rw [e]; rfl))
    refine ⟨pre ++ [cw], ?_, i3⟩
    rw [splitM_mk, splitB_snoc, i1]
    simp
theorem Lined.at_ {width : Int} {L : List (List UInt8)} (h : Lined width L) (i : Nat) (hi : i < L.length) : L[i].length ≠ 0 ∧ (L[i].length : Int) ≤ width ∧ ∀ (h0 : 0 < i), width < (L[i - 1].length : Int) + 1 + headW L[i] := by
  refine ⟨fun e => h.ne _ (List.getElem_mem hi) (List.eq_nil_of_length_eq_zero e), h.wd _ (List.getElem_mem hi), fun h0 => ?_⟩
  refine h.tight (L.take (i - 1)) _ _ (L.drop (i + 1)) ?_
  have e2 := List.drop_eq_getElem_cons (l := L) (i := i) hi
  have e1 := List.drop_eq_getElem_cons (l := L) (i := i - 1) (by omega)
  rw [show i - 1 + 1 = i from by omega] at e1
  rw [← e2, ← e1, List.take_append_drop]
/-- read of what is written: the letter -/
theorem read_write {s : Shelf} {l : List ByteArray} (hv : errS s = 0) (hl : letterErrL l = 0) : readM s (writeM s l) = (l, 0) ∧ (writeM s l).size ≤ 160 ∧ writeM s l = mkS (textM s.width l) := by
  obtain ⟨h15, hwd⟩ := lettErr_ok hl
  have he : shelfErrM s l = 0 := by unfold shelfErrM; rw [if_neg (by rw [hv]; simp), hl]
  have he0 : shelfErrM s [] = 0 := by unfold shelfErrM; rw [if_neg (by rw [hv]; simp)]; rfl
  have hwr : writeM s l = mkS (textM s.width l) := by unfold writeM; rw [if_pos he]; rfl
  have hsz : (writeM s l).size ≤ 160 := by
    rw [hwr, mkS_size]
    have := (textSt_len s.width l 8 fun x hx => (word_size (hwd x hx)).2).1
    unfold textM
    split
    · simp
    · rw [List.length_append, List.length_singleton]; omega
  refine ⟨?_, hsz, hwr⟩
  have hf : fieldsM (writeM s l) = l := by rw [hwr]; exact fields_text s.width l hwd
  unfold readM
  rw [if_neg (by rw [he0]; simp), if_neg (by omega), hf, if_neg (by rw [hl]; simp), if_pos]
  rw [hwr, bytes_mkS]
/-- what is read is written the same -/
theorem write_read {s : Shelf} {t : ByteArray} (h : (readM s t).2 = 0) : shelfErrM s (readM s t).1 = 0 ∧ writeM s (readM s t).1 = t := by
  unfold readM at *
  split at h
  · rename_i h1; exact absurd h h1
  · rename_i h1
    rw [if_neg h1]
    split at h
    · exact absurd h (by decide)
    · rename_i h2
      rw [if_neg h2]
      split at h
      · exact absurd h (by decide)
      · rename_i h3
        rw [if_neg h3]
        split at h
        · rename_i h4
          rw [if_pos h4]
          have hv : errS s = 0 := by
            have h1' : shelfErrM s [] = 0 := Decidable.not_not.1 h1
            unfold shelfErrM at h1'
            by_cases h : errS s = 0
            · exact h
            · rw [if_pos h] at h1'; exact h1'
          have hl : letterErrL (fieldsM t) = 0 := Decidable.not_not.1 h3
          have he : shelfErrM s (fieldsM t) = 0 := by unfold shelfErrM; rw [if_neg (by rw [hv]; simp), hl]
          refine ⟨he, ?_⟩
          show writeM s (fieldsM t) = t
          unfold writeM
          rw [if_pos he]
          show mkS (textM s.width (fieldsM t)) = t
          rw [h4, mkS_bytes]
        · exact absurd h (by decide)
theorem read_none {s : Shelf} {t : ByteArray} (h : (readM s t).2 ≠ 0) : (readM s t).1 = [] := by
  unfold readM at *
  split at h
  · rename_i h1; rw [if_pos h1]
  · rename_i h1
    rw [if_neg h1]
    split at h
    · rename_i h2; rw [if_pos h2]
    · rename_i h2
      rw [if_neg h2]
      split at h
      · rename_i h3; rw [if_pos h3]
      · rename_i h3
        rw [if_neg h3]
        split at h
        · exact absurd rfl h
        · rename_i h4; rw [if_neg h4]
end Go.Proofs.YtnfbhicoknpojaaGreat

namespace Go.Proofs.YtnfbhicoknpojaaGreat
set_option linter.unusedSimpArgs false
set_option linter.unusedVariables false
open Go.RowKit

set_option maxHeartbeats 1000000 in
set_option maxRecDepth 100000 in
theorem refLetter_any (v : Value) (x : Alphabet) (c : Int) (w : World) (hv : AlphabetV w v x) :
    Calls Tryz.prog 65 #[v, .int .u8 c] w fun e w' => e = .returned (.int .i64 (idxM (fun y => y.c == c) x.letters)) ∧ Ext w w' := by
  obtain ⟨u, rfl, -, hl⟩ := hv
  obtain ⟨a, cap, rfl, hlc, hcm⟩ := hl.shape
  have hl1 := hl.ext (ext_alloc w (.cells #[.string x.name, .slice a x.letters.length cap] 66))
  have q1 : (w.alloc (.cells #[.string x.name, .slice a x.letters.length cap] 66)).cell? ⟨w.heap.size, 1, none⟩ = some (.slice a x.letters.length cap) := by simp [go_sem]
  have hx0 := ext_alloc w (.cells #[.string x.name, .slice a x.letters.length cap] 66)
  have z : ∀ b o v, w.cell? ⟨b, o, none⟩ = some v → b < w.heap.size := fun b o v h => cell_lt h
  go_enter Tryz.func65, Tryz.ntmps65
  go_wp2
  go_loop [5] (fun i => ∃ k : Nat, k ≤ x.letters.length ∧ i = .int .i64 k ∧ (∀ j (_ : j < k) (hj : j < x.letters.length), (x.letters[j].c == c) = false)) (fun i => x.letters.length - (intOf i).toNat)
  case atStart => exact ⟨0, Nat.zero_le _, rfl, fun _ h => by omega⟩
  case round =>
    obtain ⟨k, hk, rfl, hno⟩ := hrel
    have Hno := Lib.hid hno; clear hno
    by_cases hlt : k < x.letters.length
    · obtain ⟨_, _, he, -, -, hh⟩ := hl
      obtain ⟨b, off, rfl, h1, h2, h3, hu, hi⟩ := hh k hlt
      cases he
      have hz := cell_lt h1
      generalize hy : x.letters[k] = y at *
      have Hy := Lib.hid hy; clear hy hh
      cases hb : (y.c == c)
      · have Hb := Lib.hid hb
        go_wp2
        go_round
        case rel => exact ⟨k + 1, by omega, by go_num, fun j hj hl => by
          rcases Nat.lt_or_ge j k with hjk | hjk
          · exact Hno.out j hjk hl
          · obtain rfl : j = k := by omega
            rw [Hy.out]; exact Hb.out⟩
        case measure => simp [intOf]; omega
      · have Hb := Lib.hid hb
        go_wp2
        go_ret
        exact ⟨ret_int (idxM_some _ _ k hlt (fun i hi hl => Hno.out i hi hl) (by rw [Hy.out]; exact Hb.out)).symm, (by first | (with_reducible exact Ext.refl _) | (with_reducible assumption) | (show Below _ _ _; go_grown; done))⟩
    · go_wp2
      go_ret
      exact ⟨ret_int (idxM_none _ _ fun i hi => Hno.out i (by omega) hi).symm, (by first | (with_reducible exact Ext.refl _) | (with_reducible assumption) | (show Below _ _ _; go_grown; done))⟩

set_option maxHeartbeats 1000000 in
set_option maxRecDepth 100000 in
theorem refSpelling_any (bv u : Value) (b : Book) (x : Spelling) (w : World) (hb : BookAt w bv b) (hu : SpellingV u x) :
    Calls Tryz.prog 21 #[bv, u] w fun e w' => e = .returned (.int .i64 (spellingErrM b.alphabets x)) ∧ Ext w w' := by
  obtain ⟨ba, bc, bs, bd, rfl, -, hbl, hbc, -, -, -, hal, -⟩ := hb.open
  obtain ⟨rfl, hai, hts⟩ := hu
  have hai' : -9223372036854775808 ≤ x.alphabet ∧ x.alphabet ≤ 9223372036854775807 := hai
  have wl : IntKind.i64.wrap ((b.alphabets.length : Int) - 1) = (b.alphabets.length : Int) - 1 := IntWalk.i64_in _ (by omega)
  cases h1 : inM x.alphabet 0 (b.alphabets.length - 1)
  · have H1 := Lib.hid h1
    go_enter Tryz.func21, Tryz.ntmps21
    go_wp2_with (go_at_call 18; refine (In_any _ _ _ _).mono ?_; rintro e w' ⟨rfl, rfl⟩)
    go_ret
    exact ⟨ret_int (by rw [spellingErrM, if_pos H1.out]), (by first | (with_reducible exact Ext.refl _) | (with_reducible assumption) | (show Below _ _ _; go_grown; done))⟩
  have hin : 0 ≤ x.alphabet ∧ x.alphabet ≤ b.alphabets.length - 1 := by simpa [inM] using h1
  have H1 := Lib.hid h1
  cases h2 : inM x.text.size 1 5
  · have H2 := Lib.hid h2
    go_enter Tryz.func21, Tryz.ntmps21
    go_wp2_with (go_at_call 18; refine (In_any _ _ _ _).mono ?_; rintro e w' ⟨rfl, rfl⟩)
    go_ret
    exact ⟨ret_int (by rw [spellingErrM, if_neg (by rw [H1.out]; decide), if_pos H2.out]), (by first | (with_reducible exact Ext.refl _) | (with_reducible assumption) | (show Below _ _ _; go_grown; done))⟩
  have H2 := Lib.hid h2
  go_enter Tryz.func21, Tryz.ntmps21
  go_wp2_with (go_at_call 18; refine (In_any _ _ _ _).mono ?_; rintro e w' ⟨rfl, rfl⟩)
  clear h1 h2
  have hlt : x.alphabet.toNat < b.alphabets.length := by omega
  have hls : lettersOf b.alphabets x.alphabet = (b.alphabets[x.alphabet.toNat]).letters := by
    rw [lettersOf, List.getElem?_eq_getElem hlt]
  have Hls := Lib.hid hls; clear hls
  go_loopw [5] (fun i wr => ∃ k : Nat, k ≤ x.text.size ∧ i = .int .i64 k ∧ Ext w wr ∧ (wr.cell? ⟨w.heap.size, 1, none⟩ = some (.slice ba b.alphabets.length bc) ∧ wr.cell? ⟨w.heap.size + 1, 0, none⟩ = some (.int .i64 x.alphabet) ∧ wr.cell? ⟨w.heap.size + 1, 1, none⟩ = some (.string x.text)) ∧
    ∀ j, j < k → knownB (lettersOf b.alphabets x.alphabet) x.text j = true) (fun i _ => x.text.size - (intOf i).toNat)
  case atStart => exact ⟨0, Nat.zero_le _, rfl, (by first | (with_reducible exact Ext.refl _) | (with_reducible assumption) | (show Below _ _ _; go_grown; done)), ⟨by simp [go_sem], by simp [go_sem], by simp [go_sem]⟩, fun _ h => absurd h (Nat.not_lt_zero _)⟩
  case round =>
    obtain ⟨k, hk, rfl, hx, ⟨c1, c2, c3⟩, hno⟩ := hrel
    have Hno := Lib.hid hno; clear hno
    by_cases hkt : k < x.text.size
    · go_wp2_with fail
      obtain ⟨_, _, he, -, -, hh⟩ := hal.ext hx
      obtain ⟨bb, off, rfl, c5, hns, lv, c4, hlv⟩ := hh x.alphabet.toNat hlt
      cases he
      have hbe := byteAt_eq x.text k hkt
      have hi2 : x.alphabet < (b.alphabets.length : Int) := by omega
      clear hh
      apply Facts.wp_region [.val _, .val _, .val _, .val _, .val _, .val _, .val _, .val _, .val _, .val _, .val _, .val _] (by kernel_rfl) (by kernel_rfl) trivial ?main
      case main =>
        iterate 10 (refine ⟨fun w1 hx hh => ?_, ?_⟩; focus (clear hh; have e0 := hx.cell c1; have e1 := hx.cell c2; have e2 := hx.cell c3; have e3 := hx.cell c4; have e4 := hx.cell c5; go_simp; exact ⟨Ext.refl _, rfl⟩))
        refine ⟨fun w1 hx hh => ?_, ?_⟩
        · clear hh
          go_simp
          refine (refLetter_any _ (b.alphabets[x.alphabet.toNat]) _ w1 ⟨lv, rfl, hns, hlv.ext hx⟩).mono ?_
          rintro e w' ⟨rfl, hx2⟩
          exact ⟨_, rfl, hx2, rfl⟩
        iterate 1 (refine ⟨fun w1 hx hh => ?_, ?_⟩; focus (clear hh; skip; go_simp; exact ⟨Ext.refl _, rfl⟩))
        intro w1 hx1 hh
        have hx3 := hx.trans hx1
        have cs := And.intro (hx1.cell c1) (And.intro (hx1.cell c2) (hx1.cell c3))
        clear hh c1 c2 c3 c4 c5 hlv hx1 hal
        have hkn : decide (idxM (fun y : Letter => y.c == ((x.text[k]'hkt).toNat : Int)) (b.alphabets[x.alphabet.toNat]).letters < 0) = !knownB (lettersOf b.alphabets x.alphabet) x.text k := by
          rw [idxM_lt, Hls.out, knownB, hbe]
        clear hbe
        cases hb : knownB (lettersOf b.alphabets x.alphabet) x.text k
        · rw [hb, Bool.not_false] at hkn
          have Hb := Lib.hid hb; clear hb
          go_simp
          go_wp2
          go_ret
          exact ⟨ret_int (by rw [spellingErrM, if_neg (by rw [H1.out]; decide), if_neg (by rw [H2.out]; decide), if_pos (textOk_no _ _ k hkt Hb.out)]), hx3⟩
        · rw [hb, Bool.not_true] at hkn
          have Hb := Lib.hid hb; clear hb
          go_simp
          go_wp2
          go_roundw
          case rel => exact ⟨k + 1, by omega, by go_num, hx3, cs, fun j hj => by
            rcases Nat.lt_or_ge j k with hjk | hjk
            · exact Hno.out j hjk
            · obtain rfl : j = k := by omega
              exact Hb.out⟩
          case measure => simp [intOf]; omega
    · go_wp2
      go_ret
      exact ⟨ret_int (by rw [spellingErrM, if_neg (by rw [H1.out]; decide), if_neg (by rw [H2.out]; decide), if_neg (by rw [textOk_yes _ _ fun j hj => Hno.out j (by omega)]; decide)]), hx⟩
end Go.Proofs.YtnfbhicoknpojaaGreat

namespace Go.Proofs.YtnfbhicoknpojaaGreat
set_option linter.unusedSimpArgs false
set_option linter.unusedVariables false
open Go.RowKit

theorem any_take_yes (l : List Letter) (k m : Nat) (hk : k ≤ l.length) (h : m < k) (z : Letter) (hz : l[m]'(by omega) = z) (c : Int) (hc : (z.c == c) = true) : ((l.take k).any fun y => y.c == c) = true := by
  rw [List.any_eq_true]
  exact ⟨z, by rw [← hz]; exact List.mem_take_iff_getElem.2 ⟨m, by omega, rfl⟩, hc⟩
theorem any_take_no (l : List Letter) (k : Nat) (c : Int) (h : ∀ j (_ : j < k) (hj : j < l.length), (l[j].c == c) = false) : ((l.take k).any fun y => y.c == c) = false := by
  rw [List.any_eq_false]
  intro x hx
  obtain ⟨j, hj, rfl⟩ := List.mem_take_iff_getElem.1 hx
  rw [h j (by omega) (by omega)]; decide

def lettersErrM (S : Int) (l : List Letter) : Int := if inM l.length 1 6 = false then 3 else (firstErr (letterErrM S) l).2
set_option maxHeartbeats 2000000 in
set_option maxRecDepth 100000 in
theorem refLetters_any (bv v : Value) (b : Book) (hS : 1 ≤ b.sounds ∧ b.sounds ≤ 4) (l : List Letter) (w : World) (hb : BookAt w bv b) (hl : LettersAt w v l) :
    Calls Tryz.prog 20 #[bv, v] w fun e w' => e = .returned (.int .i64 (lettersErrM b.sounds l)) ∧ Ext w w' := by
  obtain ⟨ba, bc, bs, bd, rfl, -⟩ := hb.open
  obtain ⟨a, cap, rfl, hlc, hcm⟩ := hl.shape
  obtain ⟨S, hSe⟩ : ∃ S : Nat, b.sounds = S := ⟨b.sounds.toNat, by omega⟩
  have hmask : maskM b.sounds = 2 ^ S - 1 := by rw [maskM, hSe]; rfl
  have Hmask := Lib.hid hmask; clear hmask
  have hS4 : S ≤ 4 := by omega
  rw [hSe] at *
  cases h1 : inM l.length 1 6
  · have H1 := Lib.hid h1
    go_enter Tryz.func20, Tryz.ntmps20
    go_wp2_with (go_at_call 18; refine (In_any _ _ _ _).mono ?_; rintro e w' ⟨rfl, rfl⟩)
    go_ret
    exact ⟨ret_int (by rw [lettersErrM, if_pos H1.out]), (by first | (with_reducible exact Ext.refl _) | (with_reducible assumption) | (show Below _ _ _; go_grown; done))⟩
  have H1 := Lib.hid h1
  go_enter Tryz.func20, Tryz.ntmps20
  go_wp2_with (go_at_call 18; refine (In_any _ _ _ _).mono ?_; rintro e w' ⟨rfl, rfl⟩)
  clear h1
  go_loopw [5] (fun i wr => ∃ k : Nat, k ≤ l.length ∧ i = .int .i64 k ∧ Ext w wr ∧ wr.cell? ⟨w.heap.size, 0, none⟩ = some (.int .i64 S) ∧ firstErrFrom (letterErrM S) (l.take k) (l.drop k) = firstErr (letterErrM S) l) (fun i _ => l.length - (intOf i).toNat)
  case atStart => exact ⟨0, Nat.zero_le _, rfl, (by first | (with_reducible exact Ext.refl _) | (with_reducible assumption) | (show Below _ _ _; go_grown; done)), by simp [go_sem], rfl⟩
  case round =>
    obtain ⟨k, hk, rfl, hx, q0, hd⟩ := hrel
    have Hd := Lib.hid hd; clear hd
    by_cases hlt : k < l.length
    · have k1 : (k : Int) < (l.length : Int) := by omega
      obtain ⟨_, _, he, -, -, hh⟩ := hl.ext hx
      obtain ⟨bb, off, rfl, c0, c1, c2, hu, hi⟩ := hh k hlt
      cases he
      generalize hy : l[k] = y at *
      have Hy := Lib.hid hy; clear hy hh
      have wc : IntKind.i64.wrap y.c = y.c := IntWalk.i64_in _ (by unfold U8 at hu; omega)
      have hhit : letterErrM S (l.take k) y ≠ 0 → (firstErr (letterErrM S) l).2 = letterErrM S (l.take k) y := fun h => by rw [← Hd.out, firstErrFrom_hit _ l k hlt y Hy.out h]
      have Hhit := Lib.hid hhit; clear hhit
      cases i1 : inM y.c 97 122
      · have I1 := Lib.hid i1
        go_wp2_with (go_at_call 18; refine (In_any _ _ _ _).mono ?_; rintro e w' ⟨rfl, rfl⟩)
        go_ret
        have e6 : letterErrM S (l.take k) y = 6 := by rw [letterErrM, if_pos I1.out]
        exact ⟨ret_int (by rw [lettersErrM, if_neg (by rw [H1.out]; decide), Hhit.out (by rw [e6]; decide), e6]), hx⟩
      have I1 := Lib.hid i1
      go_wp2_with (go_at_call 18; refine (In_any _ _ _ _).mono ?_; rintro e w' ⟨rfl, rfl⟩)
      clear i1
      go_loopw [6] (fun j wq => ∃ m : Nat, m ≤ k ∧ j = .int .i64 m ∧ Ext wr wq ∧ ∀ j (_ : j < m) (hj : j < l.length), (l[j].c == y.c) = false) (fun j _ => k - (intOf j).toNat)
      case atStart => exact ⟨0, Nat.zero_le _, rfl, Ext.refl _, fun _ h => by omega⟩
      case round =>
        obtain ⟨m, hm, rfl, hxq, hno⟩ := hrel
        have Hno := Lib.hid hno; clear hno
        have d0 := hxq.cell c0
        by_cases hmk : m < k
        · have m1 : (m : Int) < (k : Int) := by omega
          have m2 : (m : Int) < (l.length : Int) := by omega
          obtain ⟨_, _, he, -, -, hh⟩ := hl.ext (hx.trans hxq)
          obtain ⟨bb', off', he', d3, -⟩ := hh m (by omega)
          cases he
          cases he'
          generalize hz : l[m]'(by omega) = z at *
          have Hz := Lib.hid hz; clear hz hh
          cases i2 : (z.c == y.c)
          all_goals
            have I2 := Lib.hid i2
            go_wp2_with fail
            apply Facts.wp_region [.val _, .val _, .val _, .val _, .val _, .val _, .val _, .val _, .val _, .val _, .val _] (by kernel_rfl) (by kernel_rfl) trivial ?main
            case main =>
              iterate 11 (refine ⟨fun w1 hx hh => ?_, ?_⟩; focus (clear hh; have e0 := hx.cell d0; have e1 := hx.cell d3; go_simp; exact ⟨Ext.refl _, rfl⟩))
              intro w1 hx1 hh
              have hx3 := hxq.trans hx1
              clear hh d0 d3
              go_simp
              clear i2
              go_wp2
              first
                | (go_ret
                   have e5 : letterErrM S (l.take k) y = 5 := by rw [letterErrM, if_neg (by rw [I1.out]; decide), if_pos (any_take_yes l k m hk hmk z Hz.out y.c I2.out)]
                   exact ⟨ret_int (by rw [lettersErrM, if_neg (by rw [H1.out]; decide), Hhit.out (by rw [e5]; decide), e5]), hx.trans hx3⟩)
                | (go_roundw
                   case rel => exact ⟨m + 1, by omega, by go_num, hx3, fun j hj hl => by
                     rcases Nat.lt_or_ge j m with hjk | hjk
                     · exact Hno.out j hjk hl
                     · obtain rfl : j = m := by omega
                       rw [Hz.out]; exact I2.out⟩
                   case measure => simp [intOf]; omega)
        · have any0 : ((l.take k).any fun x => x.c == y.c) = false := any_take_no l k y.c fun j hj hjl => Hno.out j (by omega) hjl
          have Any0 := Lib.hid any0; clear any0
          have d1 := hxq.cell c1
          have d2 := hxq.cell c2
          have p0 := hxq.cell q0
          clear c0 c1 c2 q0
          have hxx := hx.trans hxq
          have hi' : -9223372036854775808 ≤ y.sounds ∧ y.sounds ≤ 9223372036854775807 := hi
          cases i3 : inM y.sounds 0 (2 ^ S - 1)
          all_goals
            have I3 := Lib.hid i3
            go_wp2_with fail
            apply Facts.wp_region [.val _, .val _, .val _, .val _, .val _, .val _, .val _, .val (.int .i64 (2 ^ S - 1)), .val _, .val _] (by kernel_rfl) (by kernel_rfl) trivial ?main
            case main =>
              iterate 7 (refine ⟨fun w1 hx hh => ?_, ?_⟩; focus (clear hh; have e0 := hx.cell d1; have e1 := hx.cell p0; go_simp; exact ⟨Ext.refl _, rfl⟩))
              refine ⟨fun w1 hx hh => ?_, ?_⟩
              · clear hh
                go_simp
                refine (all_any S hS4 w1).mono ?_
                rintro e w' ⟨rfl, rfl⟩
                exact ⟨_, rfl, Ext.refl _, rfl⟩
              refine ⟨fun w1 hx hh => ?_, ?_⟩
              · clear hh
                go_simp
                refine (In_any _ _ _ w1).mono ?_
                rintro e w' ⟨rfl, rfl⟩
                exact ⟨_, rfl, Ext.refl _, rfl⟩
              rw [i3]
              iterate 1 (refine ⟨fun w1 hx hh => ?_, ?_⟩; focus (clear hh; skip; go_simp; exact ⟨Ext.refl _, rfl⟩))
              intro w1 hx1 hh
              have hx3 := hxx.trans hx1
              have b1 := hx1.cell d1
              have b2 := hx1.cell d2
              have bq := hx1.cell p0
              clear hh d0 d1 d2 p0 i3
              go_simp
              first
                | (go_wp2
                   go_ret
                   have e7 : letterErrM S (l.take k) y = 7 := by rw [letterErrM, if_neg (by rw [I1.out]; decide), if_neg (by rw [Any0.out]; decide), if_pos (by rw [Hmask.out]; exact I3.out)]
                   exact ⟨ret_int (by rw [lettersErrM, if_neg (by rw [H1.out]; decide), Hhit.out (by rw [e7]; decide), e7]), hx3⟩)
                | (cases i4 : (y.sounds == 0)
                   all_goals
                     have I4 := Lib.hid i4
                     cases i5 : y.silent
                     all_goals
                       have I5 := Lib.hid i5
                       rw [i5] at b2
                       go_wp2
                       first
                         | (go_ret
                            have e2 : letterErrM S (l.take k) y = 2 := by rw [letterErrM, if_neg (by rw [I1.out]; decide), if_neg (by rw [Any0.out]; decide), if_neg (by rw [Hmask.out, I3.out]; decide), if_pos (by rw [I4.out, I5.out]; decide)]
                            exact ⟨ret_int (by rw [lettersErrM, if_neg (by rw [H1.out]; decide), Hhit.out (by rw [e2]; decide), e2]), hx3⟩)
                         | (go_roundw
                            case rel => exact ⟨k + 1, by omega, by go_num, hx3, bq, (firstErrFrom_step _ l k hlt y Hy.out (by rw [letterErrM, if_neg (by rw [I1.out]; decide), if_neg (by rw [Any0.out]; decide), if_neg (by rw [Hmask.out, I3.out]; decide), if_neg (by rw [I4.out, I5.out]; decide)])).trans Hd.out⟩
                            case measure => simp [intOf]; omega))
    · go_wp2
      go_ret
      have := Hd.out
      rw [firstErrFrom_end _ _ _ (by omega)] at this
      exact ⟨ret_int (by rw [lettersErrM, if_neg (by rw [H1.out]; decide), ← this]), hx⟩
end Go.Proofs.YtnfbhicoknpojaaGreat

namespace Go.Proofs.YtnfbhicoknpojaaGreat
set_option linter.unusedSimpArgs false
set_option linter.unusedVariables false
open Go.RowKit

theorem StrsAt.of_own {w : World} {B : Nat} {e : TypeId} {v : Value} {l : List ByteArray} (h : w.ownsRow B e 1 v l.length (l.map Value.string)) (hI : ∀ x ∈ l, x.size ≤ 9223372036854775807) : StrsAt w v l := by
  rcases h.2 with ⟨rfl, hn⟩ | ⟨g, cap, cur, rfl, hb, hg, hnc, hcm, hcs, htake⟩
  · have : l = [] := List.eq_nil_of_length_eq_zero hn
    subst this; exact SliceAt.nil
  · refine ⟨_, _, rfl, hnc, by simpa [maxLen] using hcm, fun i hi => ⟨g, 0, rfl, ?_, hI _ (List.getElem_mem hi)⟩⟩
    have := h.cells (g := g) rfl i (.string l[i]) (by simp [hi])
    have e : (⟨g, 0, none⟩ : Addr).add i = ⟨g, 0 + i * 1, none⟩ := by unfold Addr.add; split <;> simp_all
    rw [e] at this; exact this
def namesTo (al : List Alphabet) (k : Nat) : List ByteArray := (al.take k).map Alphabet.name
theorem namesTo_succ (al : List Alphabet) (k : Nat) (h : k < al.length) (y : Alphabet) (hy : al[k] = y) : namesTo al (k + 1) = namesTo al k ++ [y.name] := by
  rw [namesTo, List.take_succ_eq_append_getElem h, hy, List.map_append]; rfl
theorem namesTo_len (al : List Alphabet) (k : Nat) (h : k ≤ al.length) : (namesTo al k).length = k := by simp [namesTo]; omega
theorem AlphabetsAt.names {w : World} {v : Value} {al : List Alphabet} (h : AlphabetsAt w v al) (k : Nat) : ∀ x ∈ namesTo al k, x.size ≤ 9223372036854775807 := by
  obtain ⟨_, _, -, -, -, hh⟩ := h
  intro x hx
  obtain ⟨y, hy, rfl⟩ := List.mem_map.1 hx
  obtain ⟨i, hi, rfl⟩ := List.getElem_of_mem (List.mem_of_mem_take hy)
  obtain ⟨_, _, -, hr⟩ := hh i hi
  exact hr.2.1
theorem snoc_names {w : World} {B : Nat} {e : TypeId} {v : Value} {al : List Alphabet} {k m : Nat} {y : Alphabet} (hb : namesTo al (k + 1) = namesTo al k ++ [y.name]) (hm : m = (namesTo al k).length + 1)
    (h : w.ownsRow B e 1 v m ((namesTo al k).map Value.string ++ [.string y.name])) : w.ownsRow B e 1 v (namesTo al (k + 1)).length ((namesTo al (k + 1)).map Value.string) := by
  subst hm
  rw [hb]
  simpa using h
theorem infoStr : (Tryz.prog.info? 9).map (fun i => (i.zero, i.size, i.bytes)) = some (some (.string ByteArray.empty), 1, 16) := by kernel_rfl
theorem alphabetErr_eq (S : Int) (l : List Alphabet) (x : Alphabet) : alphabetErrM S l x = if freshM x.name (l.map Alphabet.name) = 0 then lettersErrM S x.letters else freshM x.name (l.map Alphabet.name) := by
  unfold alphabetErrM freshM lettersErrM
  rw [List.any_map]
  have e : ((fun y : ByteArray => y.toList == x.name.toList) ∘ Alphabet.name) = fun y : Alphabet => y.name.toList == x.name.toList := rfl
  rw [e]
  cases nameM x.name
  · simp
  · cases (l.any fun y : Alphabet => y.name.toList == x.name.toList) <;> simp

set_option maxHeartbeats 2000000 in
set_option maxRecDepth 100000 in
theorem refCheck_any (bv : Value) (b : Book) (w : World) (hb : BookAt w bv b) :
    Calls Tryz.prog 4 #[bv] w fun e w' => e = .returned (.tuple #[.int .i64 (checkM b).1, .int .i64 (checkM b).2.1, .int .i64 (checkM b).2.2]) ∧ Ext w w' := by
  obtain ⟨ba, bc, bs, bd, rfl, hbi, hbl, hbc, hsl, hsc, -, hal, hsp⟩ := hb.open
  have hbi' : -9223372036854775808 ≤ b.sounds ∧ b.sounds ≤ 9223372036854775807 := hbi
  cases h1 : inM b.sounds 1 4
  · have H1 := Lib.hid h1
    go_enter Tryz.func4, Tryz.ntmps4
    go_wp2_with (go_at_call 18; refine (In_any _ _ _ _).mono ?_; rintro e w' ⟨rfl, rfl⟩)
    go_ret3
    exact ⟨ret_three (by rw [checkM, if_pos H1.out]), (by first | (with_reducible exact Ext.refl _) | (with_reducible assumption) | (show Below _ _ _; go_grown; done))⟩
  have hS : 1 ≤ b.sounds ∧ b.sounds ≤ 4 := by simpa [inM] using h1
  have H1 := Lib.hid h1
  cases h2 : inM b.alphabets.length 1 3
  · have H2 := Lib.hid h2
    go_enter Tryz.func4, Tryz.ntmps4
    go_wp2_with (go_at_call 18; refine (In_any _ _ _ _).mono ?_; rintro e w' ⟨rfl, rfl⟩)
    go_ret3
    exact ⟨ret_three (by rw [checkM, if_neg (by rw [H1.out]; decide), if_pos H2.out]), (by first | (with_reducible exact Ext.refl _) | (with_reducible assumption) | (show Below _ _ _; go_grown; done))⟩
  have hL : b.alphabets.length ≤ 3 := by simp [inM] at h2; omega
  have H2 := Lib.hid h2
  obtain ⟨i0, hi, hz0, hz1, hz2⟩ := info_parts infoStr
  go_enter Tryz.func4, Tryz.ntmps4
  go_wp2_with (go_at_call 18; refine (In_any _ _ _ _).mono ?_; rintro e w' ⟨rfl, rfl⟩)
  clear h1 h2
  go_loopw [5, 6] (fun v i wr => ∃ k : Nat, k ≤ b.alphabets.length ∧ i = .int .i64 k ∧ Ext w wr ∧ (wr.cell? ⟨w.heap.size, 0, none⟩ = some (.int .i64 b.sounds) ∧ wr.cell? ⟨w.heap.size, 1, none⟩ = some (.slice ba b.alphabets.length bc) ∧ wr.cell? ⟨w.heap.size, 2, none⟩ = some (.slice bs b.spellings.length bd)) ∧
    wr.ownsRow (w.heap.size + 1) 9 1 v (namesTo b.alphabets k).length ((namesTo b.alphabets k).map Value.string) ∧
    firstErrFrom (alphabetErrM b.sounds) (b.alphabets.take k) (b.alphabets.drop k) = alphErr b) (fun _ i _ => b.alphabets.length - (intOf i).toNat)
  case atStart => exact ⟨0, Nat.zero_le _, rfl, (by first | (with_reducible exact Ext.refl _) | (with_reducible assumption) | (show Below _ _ _; go_grown; done)), ⟨by simp [go_sem], by simp [go_sem], by simp [go_sem]⟩, World.ownsRow_nil _ _ _ _, rfl⟩
  case round =>
    obtain ⟨k, hk, rfl, hx, ⟨q0, q1, q2⟩, hown, hd⟩ := hrel
    have Hd := Lib.hid hd; clear hd
    by_cases hlt : k < b.alphabets.length
    · have hlen := namesTo_len b.alphabets k hk
      have hnm := hal.names k
      obtain ⟨_, _, he, -, -, hh⟩ := hal.ext hx
      obtain ⟨bb, off, rfl, c0, hns, lv, c1, hlv⟩ := hh k hlt
      cases he
      have hsucc := fun y hy => namesTo_succ b.alphabets k hlt y hy
      generalize hy : b.alphabets[k] = y at *
      have Hsucc := Lib.hid (hsucc y rfl)
      have Hy := Lib.hid hy
      clear hy hh hsucc
      obtain ⟨la, lc, rfl, -⟩ := hlv.shape
      have Hlen := Lib.hid hlen; clear hlen
      have hst := StrsAt.of_own hown hnm
      have z3 := cell_lt c0
      have z4 := cell_lt q0
      have hml : (namesTo b.alphabets k).length ≤ 5 := by rw [Hlen.out]; omega
      go_wp2_with fail
      refine (fresh_any _ y.name (namesTo b.alphabets k) wr hns hst).mono ?_
      rintro e w' ⟨rfl, rfl⟩
      clear hst
      generalize hf : freshM y.name (namesTo b.alphabets k) = f at *
      have heq : alphabetErrM b.sounds (b.alphabets.take k) y = if f = 0 then lettersErrM b.sounds y.letters else f := by rw [alphabetErr_eq, ← hf]; rfl
      have Heq := Lib.hid heq
      clear heq hf
      by_cases h0 : f = 0
      · subst h0
        have Heq0 : Hid (alphabetErrM b.sounds (b.alphabets.take k) y = lettersErrM b.sounds y.letters) := Lib.hid (by rw [Heq.out, if_pos rfl])
        clear Heq
        go_wp2_with ((at_builtin; refine wpList_append_own _ rfl _ _ 48 rfl (w.heap.size + 1) 9 i0 (.string ByteArray.empty) 1 16 Tryz.underlying48 hi hz0 hz1 hz2 rfl (by decide) _ _ _ rfl (hown.alloc _) ⟨wr.heap.size, 0, none⟩ 1 1 [.string y.name] rfl rfl (cell_one_new _ _ _) (by simp [Value.oneCell']) (by unfold maxLen; omega) (by omega) (by simp; omega) ?_; intro v' w2 hown' hgrow _))
        have hx3 : Ext w w2 := Ext.grown (hx.alloc _) hgrow fun k hk => Nat.le_trans (by omega) (hown.lt k hk).1
        have r0 : w2.cell? ⟨w.heap.size, 0, none⟩ = some (.int .i64 b.sounds) := hgrow.cell (by simpa [go_sem, z4] using q0) (fun e => by
          have := (hown.lt w.heap.size e.symm).1
          omega)
        have r1 : w2.cell? ⟨w.heap.size, 1, none⟩ = some (.slice (some ⟨bb, off, none⟩) b.alphabets.length bc) := hgrow.cell (by simpa [go_sem, z4] using q1) (fun e => by
          have := (hown.lt w.heap.size e.symm).1
          omega)
        have r2 : w2.cell? ⟨w.heap.size, 2, none⟩ = some (.slice bs b.spellings.length bd) := hgrow.cell (by simpa [go_sem, z4] using q2) (fun e => by
          have := (hown.lt w.heap.size e.symm).1
          omega)
        obtain ⟨_, _, he, -, -, hh⟩ := hal.ext hx3
        obtain ⟨bb', off', he', d0, -, lv', d1, hlv'⟩ := hh k hlt
        cases he
        cases he'
        rw [Hy.out] at d0 hlv'
        clear hh c0 c1 hlv q0 q1 q2 hown hgrow
        have k1 : (k : Int) < (b.alphabets.length : Int) := by omega
        apply Facts.wp_region [.val _, .val _, .val _, .val _, .val _, .val _, .val _, .val (.int .i64 (lettersErrM b.sounds y.letters)), .val _] (by kernel_rfl) (by kernel_rfl) trivial ?main
        case main =>
          iterate 7 (refine ⟨fun w1 hx hh => ?_, ?_⟩; focus (clear hh; have e0 := hx.cell r0; have e1 := hx.cell r1; have e2 := hx.cell r2; have e3 := hx.cell d1; go_simp; exact ⟨Ext.refl _, rfl⟩))
          refine ⟨fun w1 hx hh => ?_, ?_⟩
          · clear hh
            go_simp
            refine (refLetters_any _ _ b hS y.letters w1 ((hb.ext hx3).ext hx) (hlv'.ext hx)).mono ?_
            rintro e w' ⟨rfl, hx2⟩
            exact ⟨_, rfl, hx2, rfl⟩
          iterate 1 (refine ⟨fun w1 hx hh => ?_, ?_⟩; focus (clear hh; skip; go_simp; exact ⟨Ext.refl _, rfl⟩))
          intro w3 hx4 hh
          have hx5 := hx3.trans hx4
          have cs := And.intro (hx4.cell r0) (And.intro (hx4.cell r1) (hx4.cell r2))
          have hown3 := Ext.owns hown' hx4
          clear hh r0 r1 r2 d0 d1 hlv' hown'
          generalize lettersErrM b.sounds y.letters = g at *
          go_simp
          by_cases hg : (g != 0) = true
          · have Hg := Lib.hid hg
            go_wp2
            go_ret3
            have e1 : alphErr b = ((k : Int), alphabetErrM b.sounds (b.alphabets.take k) y) := by
              rw [← Hd.out]; exact firstErrFrom_hit _ _ k hlt y Hy.out (by rw [Heq0.out]; simpa using Hg.out)
            exact ⟨ret_three (by rw [checkM, if_neg (by rw [H1.out]; decide), if_neg (by rw [H2.out]; decide), e1, Heq0.out, if_pos (by simpa using Hg.out)]), hx5⟩
          · have hg' : (g != 0) = false := by simpa using hg
            have Hg := Lib.hid hg'
            clear hg
            go_wp2
            go_roundw
            case rel => exact ⟨k + 1, by omega, by go_num, hx5, cs, snoc_names Hsucc.out rfl hown3, (firstErrFrom_step _ _ k hlt y Hy.out (by rw [Heq0.out]; simpa using Hg.out)).trans Hd.out⟩
            case measure => simp [intOf]; omega
      · have h0' : (f == 0) = false := by simpa using h0
        have h0'' : (f != 0) = true := by simpa using h0
        have H0 := Lib.hid h0
        clear h0
        go_wp2_with ((at_builtin; refine wpList_append_own _ rfl _ _ 48 rfl (w.heap.size + 1) 9 i0 (.string ByteArray.empty) 1 16 Tryz.underlying48 hi hz0 hz1 hz2 rfl (by decide) _ _ _ rfl (hown.alloc _) ⟨wr.heap.size, 0, none⟩ 1 1 [.string y.name] rfl rfl (cell_one_new _ _ _) (by simp [Value.oneCell']) (by unfold maxLen; omega) (by omega) (by simp; omega) ?_; intro v' w2 hown' hgrow _))
        have hx3 : Ext w w2 := Ext.grown (hx.alloc _) hgrow fun k hk => Nat.le_trans (by omega) (hown.lt k hk).1
        go_ret3
        have e1 : alphErr b = ((k : Int), alphabetErrM b.sounds (b.alphabets.take k) y) := by
          rw [← Hd.out]; exact firstErrFrom_hit _ _ k hlt y Hy.out (by rw [Heq.out, if_neg H0.out]; exact H0.out)
        exact ⟨ret_three (by rw [checkM, if_neg (by rw [H1.out]; decide), if_neg (by rw [H2.out]; decide), e1, Heq.out, if_neg H0.out, if_pos H0.out]), hx3⟩
    · have e1 : alphErr b = (0, 0) := by rw [← Hd.out]; exact firstErrFrom_end _ _ _ (by omega)
      have E1 := Lib.hid e1
      clear e1
      by_cases h4 : (5 : Int) < b.spellings.length
      · go_wp2
        go_ret3
        exact ⟨ret_three (by rw [checkM, if_neg (by rw [H1.out]; decide), if_neg (by rw [H2.out]; decide), E1.out, if_neg (fun h => h rfl), if_pos (by omega)]), hx⟩
      go_wp2
      go_loopw [8] (fun i wq => ∃ m : Nat, m ≤ b.spellings.length ∧ i = .int .i64 m ∧ Ext w wq ∧ (wq.cell? ⟨w.heap.size, 0, none⟩ = some (.int .i64 b.sounds) ∧ wq.cell? ⟨w.heap.size, 1, none⟩ = some (.slice ba b.alphabets.length bc) ∧ wq.cell? ⟨w.heap.size, 2, none⟩ = some (.slice bs b.spellings.length bd)) ∧
        firstErrFrom (fun _ y => spellingErrM b.alphabets y) (b.spellings.take m) (b.spellings.drop m) = spelErr b) (fun i _ => b.spellings.length - (intOf i).toNat)
      case atStart => exact ⟨0, Nat.zero_le _, rfl, hx, ⟨q0, q1, q2⟩, rfl⟩
      case round =>
        clear hx q0 q1 q2
        obtain ⟨m, hm, rfl, hx, ⟨q0, q1, q2⟩, hd⟩ := hrel
        have Hd2 := Lib.hid hd; clear hd
        by_cases hmt : m < b.spellings.length
        · have m1 : (m : Int) < (b.spellings.length : Int) := by omega
          obtain ⟨_, _, he, -, -, hh⟩ := hsp.ext hx
          obtain ⟨sb, so, rfl, s0, s1, hai, hts⟩ := hh m hmt
          cases he
          generalize hz : b.spellings[m] = z at *
          have Hz := Lib.hid hz; clear hz hh
          go_wp2_with fail
          apply Facts.wp_region [.val _, .val _, .val _, .val _, .val _, .val _, .val (.int .i64 (spellingErrM b.alphabets z)), .val _] (by kernel_rfl) (by kernel_rfl) trivial ?main
          case main =>
            iterate 6 (refine ⟨fun w1 hx hh => ?_, ?_⟩; focus (clear hh; have e0 := hx.cell q0; have e1 := hx.cell q1; have e2 := hx.cell q2; have e3 := hx.cell s0; have e4 := hx.cell s1; go_simp; exact ⟨Ext.refl _, rfl⟩))
            refine ⟨fun w1 hxx hh => ?_, ?_⟩
            · clear hh
              go_simp
              refine (refSpelling_any _ _ b z w1 ((hb.ext hx).ext hxx) ⟨rfl, hai, hts⟩).mono ?_
              rintro e w' ⟨rfl, hx2⟩
              exact ⟨_, rfl, hx2, rfl⟩
            iterate 1 (refine ⟨fun w1 hx hh => ?_, ?_⟩; focus (clear hh; skip; go_simp; exact ⟨Ext.refl _, rfl⟩))
            intro w3 hx4 hh
            have hx5 := hx.trans hx4
            have cs := And.intro (hx4.cell q0) (And.intro (hx4.cell q1) (hx4.cell q2))
            clear hh q0 q1 q2 s0 s1
            generalize hgg : spellingErrM b.alphabets z = g at *
            have Hgg := Lib.hid hgg; clear hgg
            go_simp
            by_cases hg : (g != 0) = true
            · have Hg := Lib.hid hg
              go_wp2
              go_ret3
              have e1 : spelErr b = ((m : Int), spellingErrM b.alphabets z) := by
                rw [← Hd2.out]; exact firstErrFrom_hit _ _ m hmt z Hz.out (by rw [Hgg.out]; simpa using Hg.out)
              exact ⟨ret_three (by rw [checkM, if_neg (by rw [H1.out]; decide), if_neg (by rw [H2.out]; decide), E1.out, if_neg (fun h => h rfl), if_neg (by omega), e1, Hgg.out, if_pos (by simpa using Hg.out)]), hx5⟩
            · have hg' : (g != 0) = false := by simpa using hg
              have Hg := Lib.hid hg'
              clear hg
              go_wp2
              go_roundw
              case rel => exact ⟨m + 1, by omega, by go_num, hx5, cs, (firstErrFrom_step _ _ m hmt z Hz.out (by rw [Hgg.out]; simpa using Hg.out)).trans Hd2.out⟩
              case measure => simp [intOf]; omega
        · have e1 : spelErr b = (0, 0) := by rw [← Hd2.out]; exact firstErrFrom_end _ _ _ (by omega)
          go_wp2
          go_ret3
          exact ⟨ret_three (by rw [checkM, if_neg (by rw [H1.out]; decide), if_neg (by rw [H2.out]; decide), E1.out, if_neg (fun h => h rfl), if_neg (by omega), e1, if_neg (fun h => h rfl)]), hx⟩
end Go.Proofs.YtnfbhicoknpojaaGreat
