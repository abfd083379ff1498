/-
  THE FEWEST CORRECTIONS BETWEEN WHAT IS LEFT OF A LETTER AND OF A SHAPE, plain: from the end, and the marks that they tell.
  THE SHAPES OF A FORM, plain: what rooms with so many words make of it; the fewest corrections to a shape are those to the form's slots.
  THE WAYS IN WHICH A LETTER IS OF A FORM are the shapes that it matches, in the same order, plain.
  THE TABLE OF THE FEWEST CORRECTIONS, of the reference: rows that the call makes itself, filled from the end.
  LetterMended: a letter is of a form just if Mend says 0; no letter of the form is nearer than Mend says; one correction changes Mend by at most 1.
  Shape and Far of the reference.
  filled of the reference: what a letter has in the rooms of a form.
-/
import Derived.Test.YtcamegaimleomaaGreatBunAE
import Derived.Test.YtcamegaimleomaaGreatBunAK
import Derived.Test.YtcamegaimleomaaGreatBunAN
import Derived.Test.YtcamegaimleomaaGreatBunAD
import Derived.Laws.OwnMore
import Derived.Test.YtcamegaimleomaaGreatBunAG
import Derived.Test.YtcamegaimleomaaGreatBunAL
namespace Go.Proofs.YtcamegaimleomaaGreat
set_option linter.unusedSimpArgs false
set_option linter.unusedVariables false
set_option linter.unusedVariables false

def lsM (ws ss : List ByteArray) : Nat := (costM ws (givenM ss)).2
theorem pickC_one (a : Ch) : pickC [a] = a := rfl
theorem pickC_three (a b c : Ch) : pickC [a, b, c] = if a.2 ≤ b.2 ∧ a.2 ≤ c.2 then a else if b.2 ≤ c.2 then b else c := by
  unfold pickC pickB fewCh
  simp only [List.foldl_cons, List.foldl_nil, true_or, if_true, Nat.zero_add]
  by_cases h1 : b.2 < a.2
  · rw [if_neg (show ¬ (a.2 ≤ b.2 ∧ a.2 ≤ c.2) from by omega)]
    simp only [h1, decide_true, or_true, if_true]
    by_cases h2 : c.2 < b.2
    · rw [if_neg (show ¬ (b.2 ≤ c.2) from by omega)]
      simp [h2]
    · rw [if_pos (show b.2 ≤ c.2 from by omega)]
      simp [h2]
  · simp only [h1, decide_false, Nat.one_ne_zero, Bool.false_eq_true, or_self, if_false]
    by_cases h2 : c.2 < a.2
    · rw [if_neg (show ¬ (a.2 ≤ b.2 ∧ a.2 ≤ c.2) from by omega), if_neg (show ¬ (b.2 ≤ c.2) from by omega)]
      simp [h2]
    · rw [if_pos (show a.2 ≤ b.2 ∧ a.2 ≤ c.2 from by omega)]
      simp [h2]
theorem ls_end : ∀ ss : List ByteArray, lsM [] ss = ss.length
  | [] => rfl
  | s :: ss => by
    have ih := ls_end ss
    unfold lsM at ih ⊢
    show (costM [] (⟨s, false⟩ :: givenM ss)).2 = _
    rw [costM_put]
    simp only [Bool.false_eq_true, if_false, List.append_nil, pickC_one, ih, List.length_cons]
    omega
theorem ls_drop : ∀ ws : List ByteArray, lsM ws [] = ws.length
  | [] => rfl
  | x :: ws => by
    have ih := ls_drop ws
    unfold lsM at ih ⊢
    show (costM (x :: ws) []).2 = _
    rw [costM_drop, pickC_one]
    show 1 + (costM ws []).2 = _
    rw [show (costM ws []).2 = ws.length from ih, List.length_cons]
    omega
theorem cost_three (x : ByteArray) (ws : List ByteArray) (s : ByteArray) (ss : List ByteArray) :
    costM (x :: ws) (givenM (s :: ss)) = pickC [if takesM ⟨s, false⟩ x then (0, lsM ws ss) else (1, 1 + lsM ws ss), (2, 1 + lsM ws (s :: ss)), (3, 1 + lsM (x :: ws) ss)] := by
  show costM (x :: ws) (⟨s, false⟩ :: givenM ss) = _
  rw [costM_all]
  rfl
theorem ls_all (x : ByteArray) (ws : List ByteArray) (s : ByteArray) (ss : List ByteArray) :
    lsM (x :: ws) (s :: ss) = if takesM ⟨s, false⟩ x then min (1 + min (min (lsM ws (s :: ss)) (lsM (x :: ws) ss)) (lsM ws ss)) (lsM ws ss) else 1 + min (min (lsM ws (s :: ss)) (lsM (x :: ws) ss)) (lsM ws ss) := by
  show (costM (x :: ws) (givenM (s :: ss))).2 = _
  rw [cost_three]
  generalize lsM ws ss = p
  generalize lsM ws (s :: ss) = q
  generalize lsM (x :: ws) ss = r
  cases takesM ⟨s, false⟩ x
  · simp only [Bool.false_eq_true, if_false, pickC_three]
    split
    · show 1 + p = _; omega
    · split
      · show 1 + q = _; omega
      · show 1 + r = _; omega
  · simp only [if_true, pickC_three]
    split
    · show p = _; omega
    · split
      · show 1 + q = _; omega
      · show 1 + r = _; omega
/-- which mark comes first -/
theorem cost_first (x : ByteArray) (ws : List ByteArray) (s : ByteArray) (ss : List ByteArray) :
    (costM (x :: ws) (givenM (s :: ss))).1 = if takesM ⟨s, false⟩ x = true ∧ lsM ws ss = lsM (x :: ws) (s :: ss) then 0 else if takesM ⟨s, false⟩ x = false ∧ lsM ws ss + 1 = lsM (x :: ws) (s :: ss) then 1 else if lsM ws (s :: ss) + 1 = lsM (x :: ws) (s :: ss) then 2 else 3 := by
  have e : lsM (x :: ws) (s :: ss) = (costM (x :: ws) (givenM (s :: ss))).2 := rfl
  rw [e, cost_three]
  generalize lsM ws ss = p
  generalize lsM ws (s :: ss) = q
  generalize lsM (x :: ws) ss = r
  cases takesM ⟨s, false⟩ x
  · simp only [Bool.false_eq_true, if_false, pickC_three, false_and, true_and]
    by_cases h1 : 1 + p ≤ 1 + q ∧ 1 + p ≤ 1 + r
    · rw [if_pos h1, if_pos (by show p + 1 = 1 + p; omega)]
    · rw [if_neg h1]
      by_cases h2 : 1 + q ≤ 1 + r
      · rw [if_pos h2, if_neg (by show ¬ p + 1 = 1 + q; omega), if_pos (by show q + 1 = 1 + q; omega)]
      · rw [if_neg h2, if_neg (by show ¬ p + 1 = 1 + r; omega), if_neg (by show ¬ q + 1 = 1 + r; omega)]
  · simp only [if_true, pickC_three, Bool.true_eq_false, false_and, true_and, if_false]
    by_cases h1 : p ≤ 1 + q ∧ p ≤ 1 + r
    · rw [if_pos h1, if_pos rfl]
    · rw [if_neg h1]
      by_cases h2 : 1 + q ≤ 1 + r
      · rw [if_pos h2, if_neg (by show ¬ p = 1 + q; omega), if_pos (by show q + 1 = 1 + q; omega)]
      · rw [if_neg h2, if_neg (by show ¬ p = 1 + r; omega), if_neg (by show ¬ q + 1 = 1 + r; omega)]
theorem ls_le (ws ss : List ByteArray) : lsM ws ss ≤ ws.length + ss.length := by
  have := costM_le ws (givenM ss)
  rw [show (givenM ss).length = ss.length from by simp [givenM]] at this
  exact this
/-- at a place -/
def lsAt (from_ shape : List ByteArray) (i k : Nat) : Nat := lsM (from_.drop i) (shape.drop k)
theorem lsAt_end (f s : List ByteArray) (k : Nat) : lsAt f s f.length k = s.length - k := by
  unfold lsAt; rw [List.drop_length, ls_end, List.length_drop]
theorem lsAt_drop (f s : List ByteArray) (i : Nat) : lsAt f s i s.length = f.length - i := by
  unfold lsAt; rw [List.drop_length, ls_drop, List.length_drop]
theorem lsAt_all (f s : List ByteArray) {i k : Nat} (hi : i < f.length) (hk : k < s.length) :
    lsAt f s i k = if takesM ⟨s[k], false⟩ f[i] then min (1 + min (min (lsAt f s (i + 1) k) (lsAt f s i (k + 1))) (lsAt f s (i + 1) (k + 1))) (lsAt f s (i + 1) (k + 1)) else 1 + min (min (lsAt f s (i + 1) k) (lsAt f s i (k + 1))) (lsAt f s (i + 1) (k + 1)) := by
  unfold lsAt
  rw [List.drop_eq_getElem_cons hi, List.drop_eq_getElem_cons hk, ls_all]
theorem lsAt_le (f s : List ByteArray) (i k : Nat) : lsAt f s i k ≤ f.length + s.length := by
  have := ls_le (f.drop i) (s.drop k)
  rw [List.length_drop, List.length_drop] at this
  unfold lsAt; omega
end Go.Proofs.YtcamegaimleomaaGreat

namespace Go.Proofs.YtcamegaimleomaaGreat
set_option linter.unusedSimpArgs false
set_option linter.unusedVariables false
set_option linter.unusedVariables false

def blank (n : Nat) : List ByteArray := List.replicate n ByteArray.empty
def shapeR (ps : List Part) (ns : List Nat) : List ByteArray := builtR ps (ns.map blank)
/-- slots, some of the free ones left out -/
inductive Skips : List Slot → List Slot → Prop where
  | nil : Skips [] []
  | keep (s : Slot) {a b : List Slot} : Skips a b → Skips (s :: a) (⟨s.word, false⟩ :: b)
  | skip (s : Slot) {a b : List Slot} : s.free = true → Skips a b → Skips (s :: a) b
theorem skips_more {ss tt : List Slot} (h : Skips ss tt) : MoreS tt ss := by
  induction h with
  | nil => exact .nil
  | keep s _ ih => exact .same ⟨s.word, false⟩ s rfl (fun h => by cases h) ih
  | skip s hf _ ih => exact .more s hf ih
theorem skips_out {l : List ByteArray} {ss : List Slot} {n : Nat} (h : EdS l ss n) : ∃ tt, Skips ss tt ∧ EdS l tt n := by
  induction h with
  | nil => exact ⟨[], .nil, .nil⟩
  | keep x s ht _ ih => obtain ⟨tt, h1, h2⟩ := ih; exact ⟨_, .keep s h1, .keep x _ ht h2⟩
  | turn x s _ ih => obtain ⟨tt, h1, h2⟩ := ih; exact ⟨_, .keep s h1, .turn x _ h2⟩
  | drop x _ ih => obtain ⟨tt, h1, h2⟩ := ih; exact ⟨tt, h1, .drop x h2⟩
  | put s _ ih => obtain ⟨tt, h1, h2⟩ := ih; exact ⟨_, .keep s h1, .put _ h2⟩
  | skip s hf _ ih => obtain ⟨tt, h1, h2⟩ := ih; exact ⟨tt, .skip s hf h1, h2⟩
theorem Skips.append {a b c d : List Slot} (h : Skips a b) (g : Skips c d) : Skips (a ++ c) (b ++ d) := by
  induction h with
  | nil => exact g
  | keep s _ ih => exact .keep s ih
  | skip s hf _ ih => exact .skip s hf ih
theorem skips_split : ∀ (a : List Slot) {c t : List Slot}, Skips (a ++ c) t → ∃ x y, t = x ++ y ∧ Skips a x ∧ Skips c y
  | [], c, t, h => ⟨[], t, rfl, .nil, h⟩
  | s :: a, c, t, h => by
    rw [List.cons_append] at h
    cases h with
    | keep _ h => obtain ⟨x, y, rfl, h1, h2⟩ := skips_split a h; exact ⟨_ :: x, y, rfl, .keep s h1, h2⟩
    | skip _ hf h => obtain ⟨x, y, rfl, h1, h2⟩ := skips_split a h; exact ⟨x, y, rfl, .skip s hf h1, h2⟩
theorem skips_given : ∀ (w : List ByteArray) {t : List Slot}, Skips (givenM w) t ↔ t = givenM w
  | [], t => ⟨fun h => by cases h; rfl, fun h => by subst h; exact .nil⟩
  | s :: w, t => by
    constructor
    · intro h
      have e : givenM (s :: w) = ⟨s, false⟩ :: givenM w := rfl
      rw [e] at h
      cases h with
      | keep _ h => rw [(skips_given w).1 h]; rfl
      | skip _ hf h => cases hf
    · rintro rfl
      exact .keep ⟨s, false⟩ ((skips_given w).2 rfl)
theorem skips_free : ∀ (r : List Slot) {t : List Slot}, (∀ s ∈ r, s = ⟨ByteArray.empty, true⟩) → (Skips r t ↔ ∃ m, m ≤ r.length ∧ t = givenM (blank m))
  | [], t, _ => ⟨fun h => by cases h; exact ⟨0, Nat.le_refl _, rfl⟩, fun ⟨m, hm, e⟩ => by
    have : m = 0 := by simpa using hm
    subst this; rw [e]; exact .nil⟩
  | s :: r, t, hr => by
    have ih := fun t => skips_free r (t := t) fun x hx => hr x (List.mem_cons_of_mem _ hx)
    have hs := hr s List.mem_cons_self
    subst hs
    constructor
    · intro h
      cases h with
      | keep _ h =>
        obtain ⟨m, hm, rfl⟩ := (ih _).1 h
        exact ⟨m + 1, by simpa using hm, rfl⟩
      | skip _ hf h =>
        obtain ⟨m, hm, rfl⟩ := (ih _).1 h
        exact ⟨m, by simp; omega, rfl⟩
    · rintro ⟨m, hm, rfl⟩
      cases m with
      | zero => exact .skip _ rfl ((ih _).2 ⟨0, Nat.zero_le _, rfl⟩)
      | succ m => exact .keep ⟨ByteArray.empty, true⟩ ((ih _).2 ⟨m, by simpa using hm, rfl⟩)
theorem given_blank (a b : Nat) : givenM (blank (a + b)) = givenM (blank a) ++ givenM (blank b) := by
  unfold blank givenM
  rw [← List.replicate_append_replicate, List.map_append]
theorem room_split (lo n : Nat) (h : lo ≤ n) : roomSlotsM (lo : Int) n = givenM (blank lo) ++ List.replicate (n - lo) ⟨ByteArray.empty, true⟩ := by
  obtain ⟨d, rfl⟩ := Nat.exists_eq_add_of_le h
  unfold roomSlotsM
  rw [List.range_add, List.map_append, List.map_map, Nat.add_sub_cancel_left]
  congr 1
  · refine List.ext_getElem (by simp [givenM, blank]) fun i h1 h2 => ?_
    have hi : i < lo := by simpa using h1
    simp only [List.getElem_map, List.getElem_range, givenM, blank, List.getElem_replicate]
    rw [decide_eq_false (by omega)]
  · refine List.ext_getElem (by simp) fun i h1 h2 => ?_
    simp only [List.getElem_map, List.getElem_range, Function.comp, List.getElem_replicate]
    rw [decide_eq_true (by omega)]
theorem skips_room {lo n : Nat} (h : lo ≤ n) {t : List Slot} : Skips (roomSlotsM (lo : Int) n) t ↔ ∃ m, lo ≤ m ∧ m ≤ n ∧ t = givenM (blank m) := by
  rw [room_split lo n h]
  have hfr : ∀ s ∈ List.replicate (n - lo) (⟨ByteArray.empty, true⟩ : Slot), s = ⟨ByteArray.empty, true⟩ := fun s hs => List.eq_of_mem_replicate hs
  constructor
  · intro hs
    obtain ⟨x, y, rfl, h1, h2⟩ := skips_split _ hs
    rw [(skips_given _).1 h1]
    obtain ⟨m, hm, rfl⟩ := (skips_free _ hfr).1 h2
    rw [List.length_replicate] at hm
    exact ⟨lo + m, by omega, by omega, (given_blank lo m).symm⟩
  · rintro ⟨m, h1, h2, rfl⟩
    obtain ⟨d, rfl⟩ := Nat.exists_eq_add_of_le h1
    rw [given_blank]
    exact ((skips_given _).2 rfl).append ((skips_free _ hfr).2 ⟨d, by rw [List.length_replicate]; omega, rfl⟩)
theorem given_app (a b : List ByteArray) : givenM (a ++ b) = givenM a ++ givenM b := by simp [givenM]
/-- all shapes, and no others, are the form's slots with some free ones left out -/
theorem skips_form : ∀ (ps : List Part), (∀ p ∈ ps, ValidPart p) → ∀ t, Skips (formSlotsM ps) t ↔ ∃ ns, ns ∈ countsR (roomsM ps) ∧ t = givenM (shapeR ps ns)
  | [], _, t => by
    constructor
    · intro h; cases h; exact ⟨[], by simp [roomsM, countsR], rfl⟩
    · rintro ⟨ns, h, rfl⟩
      have : ns = [] := by simpa [roomsM, countsR] using h
      subst this
      exact .nil
  | p :: ps, hv, t => by
    have ih := skips_form ps fun q hq => hv q (List.mem_cons_of_mem _ hq)
    have hvp := hv p List.mem_cons_self
    have e : formSlotsM (p :: ps) = partSlotsM p ++ formSlotsM ps := by simp [formSlotsM]
    rw [e]
    cases hr : roomyM p
    · have hrm : roomsM (p :: ps) = roomsM ps := by simp [roomsM, hr]
      obtain ⟨e1, e2⟩ := part_given hvp hr
      have hb : ∀ ns, shapeR (p :: ps) ns = p.words ++ shapeR ps ns := fun ns => by unfold shapeR; rw [builtR, hr]; rfl
      rw [hrm, e1]
      constructor
      · intro h
        obtain ⟨x, y, rfl, h1, h2⟩ := skips_split _ h
        obtain ⟨ns, hn, rfl⟩ := (ih _).1 h2
        exact ⟨ns, hn, by rw [(skips_given _).1 h1, hb, given_app]⟩
      · rintro ⟨ns, hn, rfl⟩
        rw [hb, given_app]
        exact ((skips_given _).2 rfl).append ((ih _).2 ⟨ns, hn, rfl⟩)
    · have hrm : roomsM (p :: ps) = p :: roomsM ps := by simp [roomsM, hr]
      obtain ⟨e1, e2, e3, e4, e5⟩ := part_room hvp hr
      have hb : ∀ n ns, shapeR (p :: ps) (n :: ns) = blank n ++ shapeR ps ns := fun n ns => by unfold shapeR; rw [builtR, hr]; rfl
      obtain ⟨lo, hlo⟩ : ∃ lo : Nat, p.lo = lo := ⟨p.lo.toNat, by omega⟩
      rw [hrm, e1, hlo, countsR, hlo]
      have hle : lo ≤ p.hi.toNat := by omega
      constructor
      · intro h
        obtain ⟨x, y, rfl, h1, h2⟩ := skips_split _ h
        obtain ⟨m, m1, m2, rfl⟩ := (skips_room hle).1 h1
        obtain ⟨ns, hn, rfl⟩ := (ih _).1 h2
        refine ⟨m :: ns, List.mem_flatMap.2 ⟨m, ?_, List.mem_map.2 ⟨ns, hn, rfl⟩⟩, by rw [hb, given_app]⟩
        rw [List.mem_range'_1, Int.toNat_natCast]; omega
      · rintro ⟨ns, hn, rfl⟩
        obtain ⟨m, hm, hn1⟩ := List.mem_flatMap.1 hn
        obtain ⟨ns, hn2, rfl⟩ := List.mem_map.1 hn1
        rw [List.mem_range'_1, Int.toNat_natCast] at hm
        rw [hb, given_app]
        exact ((skips_room hle).2 ⟨m, by omega, by omega, rfl⟩).append ((ih _).2 ⟨ns, hn2, rfl⟩)
/-- the least of the first k -/
def bestF (g : Nat → Nat) : Nat → Nat
  | 0 => g 0
  | k + 1 => min (bestF g k) (g k)
theorem bestF_one (g : Nat → Nat) : bestF g 1 = g 0 := by simp [bestF]
theorem bestF_le (g : Nat → Nat) : ∀ k j, j < k → bestF g k ≤ g j
  | 0, j, h => by omega
  | k + 1, j, h => by
    rw [bestF]
    by_cases e : j = k
    · subst e; exact Nat.min_le_right _ _
    · exact Nat.le_trans (Nat.min_le_left _ _) (bestF_le g k j (by omega))
theorem bestF_is (g : Nat → Nat) : ∀ k, 0 < k → ∃ j, j < k ∧ bestF g k = g j
  | 0, h => by omega
  | k + 1, _ => by
    rw [bestF]
    rcases Nat.le_total (bestF g k) (g k) with h | h
    · rw [Nat.min_eq_left h]
      by_cases hk : k = 0
      · subst hk; exact ⟨0, by omega, rfl⟩
      · obtain ⟨j, hj, e⟩ := bestF_is g k (by omega)
        exact ⟨j, by omega, e⟩
    · rw [Nat.min_eq_right h]; exact ⟨k, by omega, rfl⟩
theorem rooms_ok {ps : List Part} (h : ∀ p ∈ ps, ValidPart p) : ∀ p ∈ roomsM ps, RoomOk p := fun p hp => by
  have hm := List.mem_filter.1 hp
  obtain ⟨e1, e2, e3, e4, e5⟩ := part_room (h p hm.1) hm.2
  exact ⟨e2, e3, e5⟩
/-- the fewest corrections to the form's slots are those to the nearest shape -/
theorem cost_shapes {ps : List Part} (hv : ∀ p ∈ ps, ValidPart p) (l : List ByteArray) :
    (costM l (formSlotsM ps)).2 = bestF (fun j => lsM l (shapeR ps ((countsM (roomsM ps)).getD j []))) (countsM (roomsM ps)).length := by
  have hne : 0 < (countsM (roomsM ps)).length := List.length_pos_iff.2 (cntTo_ne (rooms_ok hv) _)
  apply Nat.le_antisymm
  · obtain ⟨j, hj, e⟩ := bestF_is (fun j => lsM l (shapeR ps ((countsM (roomsM ps)).getD j []))) _ hne
    rw [e]
    have hm : (countsM (roomsM ps)).getD j [] ∈ countsR (roomsM ps) := by
      rw [← counts_front, List.getD_eq_getElem?_getD, List.getElem?_eq_getElem hj]; exact List.getElem_mem hj
    exact cost_more (skips_more ((skips_form ps hv _).2 ⟨_, hm, rfl⟩)) l
  · obtain ⟨t, h1, h2⟩ := skips_out (cost_is l (formSlotsM ps))
    obtain ⟨ns, hn, rfl⟩ := (skips_form ps hv _).1 h1
    rw [← counts_front] at hn
    obtain ⟨j, hj, e⟩ := List.getElem_of_mem hn
    refine Nat.le_trans (bestF_le _ _ j hj) ?_
    show lsM l (shapeR ps ((countsM (roomsM ps)).getD j [])) ≤ _
    rw [List.getD_eq_getElem?_getD, List.getElem?_eq_getElem hj, Option.getD_some, e]
    exact cost_le h2
end Go.Proofs.YtcamegaimleomaaGreat

namespace Go.Proofs.YtcamegaimleomaaGreat
set_option linter.unusedSimpArgs false
set_option linter.unusedVariables false
set_option linter.unusedVariables false

/-- whether these words are those of a shape -/
def matchM : List ByteArray → List ByteArray → Bool
  | [], [] => true
  | s :: ss, x :: l => takesM ⟨s, false⟩ x && matchM ss l
  | _, _ => false
def filledR : List Part → List Nat → List ByteArray → List (List ByteArray)
  | [], _, _ => []
  | p :: ps, ms, l => if roomyM p then l.take (ms.headD 0) :: filledR ps ms.tail (l.drop (ms.headD 0)) else filledR ps ms (l.drop p.words.length)
theorem match_app : ∀ (a b l : List ByteArray), matchM (a ++ b) l = (matchM a (l.take a.length) && matchM b (l.drop a.length))
  | [], b, l => by simp [matchM]
  | s :: a, b, [] => by simp [matchM]
  | s :: a, b, x :: l => by
    rw [List.cons_append, matchM, match_app a b l, List.length_cons, List.take_succ_cons, List.drop_succ_cons, matchM, Bool.and_assoc]
theorem match_iff : ∀ (a l : List ByteArray), matchM a l = true ↔ a.length = l.length ∧ ∀ i, i < l.length → takesM ⟨a.getD i ByteArray.empty, false⟩ (l.getD i ByteArray.empty) = true
  | [], [] => by simp [matchM]
  | [], x :: l => by simp [matchM]
  | s :: a, [] => by simp [matchM]
  | s :: a, x :: l => by
    rw [matchM, Bool.and_eq_true, match_iff a l]
    constructor
    · rintro ⟨h1, h2, h3⟩
      refine ⟨by simp [h2], fun i hi => ?_⟩
      cases i with
      | zero => simpa using h1
      | succ i => simpa using h3 i (by simpa using hi)
    · rintro ⟨h1, h2⟩
      refine ⟨by simpa using h2 0 (by simp), by simpa using h1, fun i hi => ?_⟩
      simpa using h2 (i + 1) (by simpa using hi)
theorem match_given (w l : List ByteArray) : matchM w (l.take w.length) = sizeOk (givenM w) l w.length := by
  have hlen : (givenM w).length = w.length := by simp [givenM]
  rw [Bool.eq_iff_iff, match_iff, sizeOk_iff, hlen, List.length_take]
  have hg : ∀ i, i < w.length → (givenM w).getD i noSlot = ⟨w.getD i ByteArray.empty, false⟩ := fun i hi => by
    rw [List.getD_eq_getElem?_getD, List.getElem?_eq_getElem (by omega), List.getD_eq_getElem?_getD, List.getElem?_eq_getElem hi]; simp [givenM]
  have ht : ∀ i, i < w.length → (l.take w.length).getD i ByteArray.empty = l.getD i ByteArray.empty := fun i hi => by
    rw [List.getD_eq_getElem?_getD, List.getElem?_take, if_pos hi, List.getD_eq_getElem?_getD]
  constructor
  · rintro ⟨h1, h2⟩
    refine ⟨by omega, .inl (by omega), fun i hi => ?_⟩
    have := h2 i (by omega)
    rw [ht i hi] at this
    rw [hg i hi]; exact this
  · rintro ⟨h1, -, h3⟩
    refine ⟨by omega, fun i hi => ?_⟩
    have hi' : i < w.length := by omega
    have := h3 i hi'
    rw [hg i hi'] at this
    rw [ht i hi']; exact this
theorem match_blank (n : Nat) (l : List ByteArray) : matchM (blank n) (l.take (blank n).length) = decide (n ≤ l.length) := by
  have hb : (blank n).length = n := by simp [blank]
  rw [Bool.eq_iff_iff, match_iff, hb, List.length_take, decide_eq_true_iff]
  constructor
  · rintro ⟨h1, -⟩; omega
  · intro h
    refine ⟨by omega, fun i hi => ?_⟩
    have e : (blank n).getD i ByteArray.empty = ByteArray.empty := by
      rw [List.getD_eq_getElem?_getD, List.getElem?_eq_getElem (by rw [hb]; omega)]; simp [blank]
    rw [e]
    simp [takesM]
theorem size_room {lo hi : Int} {l : List ByteArray} {n : Nat} (h1 : 0 ≤ lo) (h2 : lo ≤ hi) (h : n ≤ hi.toNat) : sizeOk (roomSlotsM lo hi.toNat) l n = decide (n ≤ l.length ∧ lo ≤ n) := by
  have hlen : (roomSlotsM lo hi.toNat).length = hi.toNat := by simp [roomSlotsM]
  rw [Bool.eq_iff_iff, sizeOk_iff, hlen, decide_eq_true_iff]
  have e : ∀ i, i < hi.toNat → (roomSlotsM lo hi.toNat).getD i noSlot = ⟨ByteArray.empty, decide (lo ≤ (i : Int))⟩ := fun i hi' => by rw [List.getD_eq_getElem?_getD, List.getElem?_eq_getElem (by omega)]; simp [roomSlotsM]
  constructor
  · rintro ⟨g1, g2, -⟩
    refine ⟨g1, ?_⟩
    rcases g2 with g2 | g2
    · omega
    · by_cases hlt : n < hi.toNat
      · rw [e n hlt] at g2; exact of_decide_eq_true g2
      · omega
  · rintro ⟨g1, g2⟩
    refine ⟨g1, ?_, fun i hi' => by rw [e i (by omega)]; simp [takesM]⟩
    by_cases hlt : n < hi.toNat
    · right; rw [e n hlt]; exact decide_eq_true g2
    · left; omega
theorem flat_congr {α β : Type} : ∀ (l : List α) (f g : α → List β), (∀ x ∈ l, f x = g x) → l.flatMap f = l.flatMap g
  | [], _, _, _ => rfl
  | x :: l, f, g, h => by rw [List.flatMap_cons, List.flatMap_cons, h x List.mem_cons_self, flat_congr l f g fun y hy => h y (List.mem_cons_of_mem _ hy)]
/-- the fills by which a letter is of a form, in order -/
theorem ways_shapes : ∀ (ps : List Part) (l : List ByteArray), (∀ p ∈ ps, ValidPart p) →
    (waysL (ps.map partSlotsM) l).map (fun ns => fillsR ps ns l) = ((countsR (roomsM ps)).filter fun ms => matchM (shapeR ps ms) l).map fun ms => filledR ps ms l
  | [], l, _ => by
    have e : shapeR [] [] = [] := rfl
    cases l with
    | nil => simp [waysL, roomsM, countsR, fillsR, filledR, e, matchM]
    | cons x l => simp [waysL, roomsM, countsR, fillsR, filledR, e, matchM]
  | p :: ps, l, hv => by
    have hvp := hv p List.mem_cons_self
    have ih := fun l => ways_shapes ps l fun q hq => hv q (List.mem_cons_of_mem _ hq)
    rw [List.map_cons, waysL]
    cases hr : roomyM p
    · have hrm : roomsM (p :: ps) = roomsM ps := by simp [roomsM, hr]
      obtain ⟨e1, e2⟩ := part_given hvp hr
      have hb : ∀ ms, matchM (shapeR (p :: ps) ms) l = (sizeOk (givenM p.words) l p.words.length && matchM (shapeR ps ms) (l.drop p.words.length)) := fun ms => by
        have : shapeR (p :: ps) ms = p.words ++ shapeR ps ms := by unfold shapeR; rw [builtR, hr]; rfl
        rw [this, match_app, match_given]
      have hlen : (givenM p.words).length = p.words.length := by simp [givenM]
      rw [hrm, e1, hlen]
      have hone : ∀ n, n < p.words.length → sizeOk (givenM p.words) l n = false := fun n hn => by
        rw [Bool.eq_false_iff]; intro h
        have := (given_size e2 (by omega) h).1
        omega
      have hflat : (List.range (p.words.length + 1)).flatMap (fun n => if sizeOk (givenM p.words) l n = true then (waysL (ps.map partSlotsM) (l.drop n)).map (n :: ·) else []) = if sizeOk (givenM p.words) l p.words.length = true then (waysL (ps.map partSlotsM) (l.drop p.words.length)).map (p.words.length :: ·) else [] := by
        rw [List.range_succ, List.flatMap_append]
        have : (List.range p.words.length).flatMap (fun n => if sizeOk (givenM p.words) l n = true then (waysL (ps.map partSlotsM) (l.drop n)).map (n :: ·) else []) = [] := by
          rw [List.flatMap_eq_nil_iff]
          intro n hn
          rw [hone n (List.mem_range.1 hn)]
          simp
        rw [this]; simp
      rw [hflat]
      cases hs : sizeOk (givenM p.words) l p.words.length
      · have hf : ((countsR (roomsM ps)).filter fun ms => matchM (shapeR (p :: ps) ms) l) = [] := by
          rw [List.filter_eq_nil_iff]
          intro ms _
          rw [hb, hs]; simp
        rw [hf]; simp
      · simp only [if_true, List.map_map]
        have hf : ((countsR (roomsM ps)).filter fun ms => matchM (shapeR (p :: ps) ms) l) = (countsR (roomsM ps)).filter fun ms => matchM (shapeR ps ms) (l.drop p.words.length) := by
          congr 1
          funext ms
          rw [hb, hs, Bool.true_and]
        rw [hf]
        have hg : (fun ms => filledR (p :: ps) ms l) = fun ms => filledR ps ms (l.drop p.words.length) := by funext ms; rw [filledR, hr]; rfl
        rw [hg, ← ih]
        congr 1
        funext ns
        show fillsR (p :: ps) (p.words.length :: ns) l = _
        rw [fillsR, hr]; rfl
    · have hrm : roomsM (p :: ps) = p :: roomsM ps := by simp [roomsM, hr]
      obtain ⟨e1, e2, e3, e4, e5⟩ := part_room hvp hr
      obtain ⟨lo, hlo⟩ : ∃ lo : Nat, p.lo = lo := ⟨p.lo.toNat, by omega⟩
      have hlen : (roomSlotsM p.lo p.hi.toNat).length = p.hi.toNat := by simp [roomSlotsM]
      have hle : lo ≤ p.hi.toNat + 1 := by omega
      rw [hrm, e1, hlen, countsR, List.filter_flatMap, List.map_flatMap, List.map_flatMap]
      have hspl : List.range (p.hi.toNat + 1) = List.range lo ++ List.range' lo (p.hi.toNat + 1 - lo) := by
        conv => lhs; rw [show p.hi.toNat + 1 = lo + (p.hi.toNat + 1 - lo) from by omega]
        rw [List.range_add, List.range'_eq_map_range]
      rw [hspl, List.flatMap_append]
      have h0 : (List.range lo).flatMap (fun n => (if sizeOk (roomSlotsM p.lo p.hi.toNat) l n = true then (waysL (ps.map partSlotsM) (l.drop n)).map (n :: ·) else []).map fun ns => fillsR (p :: ps) ns l) = [] := by
        rw [List.flatMap_eq_nil_iff]
        intro n hn
        have hn' := List.mem_range.1 hn
        rw [size_room e2 e3 (by omega), decide_eq_false (by omega)]
        simp
      rw [h0, List.nil_append, hlo, Int.toNat_natCast]
      refine flat_congr _ _ _ fun n hn => ?_
      rw [List.mem_range'_1] at hn
      rw [← hlo, size_room e2 e3 (by omega)]
      have hb : ∀ ms, matchM (shapeR (p :: ps) (n :: ms)) l = (decide (n ≤ l.length) && matchM (shapeR ps ms) (l.drop n)) := fun ms => by
        have : shapeR (p :: ps) (n :: ms) = blank n ++ shapeR ps ms := by unfold shapeR; rw [builtR, hr]; rfl
        rw [this, match_app, match_blank]
        congr 2
        simp [blank]
      rw [List.filter_map, List.map_map]
      by_cases hn2 : n ≤ l.length
      · rw [decide_eq_true (by omega)]
        simp only [if_true, List.map_map]
        have hf : ((countsR (roomsM ps)).filter ((fun ms => matchM (shapeR (p :: ps) ms) l) ∘ (n :: ·))) = (countsR (roomsM ps)).filter fun ms => matchM (shapeR ps ms) (l.drop n) := by
          congr 1
          funext ms
          show matchM (shapeR (p :: ps) (n :: ms)) l = _
          rw [hb, decide_eq_true hn2, Bool.true_and]
        rw [hf]
        have hg : ((fun ms => filledR (p :: ps) ms l) ∘ (n :: ·)) = fun ms => l.take n :: filledR ps ms (l.drop n) := by
          funext ms
          show filledR (p :: ps) (n :: ms) l = _
          rw [filledR, hr]; rfl
        have hg2 : ((fun ns => fillsR (p :: ps) ns l) ∘ (n :: ·)) = fun ns => l.take n :: fillsR ps ns (l.drop n) := by
          funext ns
          show fillsR (p :: ps) (n :: ns) l = _
          rw [fillsR, hr]; rfl
        rw [hg, hg2]
        have := congrArg (List.map (l.take n :: ·)) (ih (l.drop n))
        rw [List.map_map, List.map_map] at this
        exact this
      · rw [decide_eq_false (by omega)]
        have hf : ((countsR (roomsM ps)).filter ((fun ms => matchM (shapeR (p :: ps) ms) l) ∘ (n :: ·))) = [] := by
          rw [List.filter_eq_nil_iff]
          intro ms _
          show ¬ matchM (shapeR (p :: ps) (n :: ms)) l = true
          rw [hb, decide_eq_false hn2]; simp
        rw [hf]; simp
/-- all fills -/
def allM (ps : List Part) (l : List ByteArray) : List (List (List ByteArray)) := ((countsM (roomsM ps)).filter fun ms => matchM (shapeR ps ms) l).map fun ms => filledR ps ms l
theorem all_ways {f : Form} (hv : ValidForm f) (l : List ByteArray) : (formWays f.parts l).length = (allM f.parts l).length ∧ ((formWays f.parts l).length ≠ 0 → fillsM f.parts (firstWayM f.parts l) l = (allM f.parts l).headD []) := by
  have h5 := hv.n
  have hways : formWays f.parts l = (waysL (f.parts.map partSlotsM) l).map (ovr (fun _ => 0) 0) := by unfold formWays; rw [ways_list]
  have hall : allM f.parts l = (waysL (f.parts.map partSlotsM) l).map fun ns => fillsR f.parts ns l := by
    unfold allM; rw [counts_front]; exact (ways_shapes f.parts l hv.parts).symm
  have hlen := fun m (hm : m ∈ waysL (f.parts.map partSlotsM) l) => (waysL_len _ _ _ hm).trans (List.length_map ..)
  have hsort := ways_sorted (f.parts.map partSlotsM) l
  refine ⟨by rw [hways, hall, List.length_map, List.length_map], fun hne => ?_⟩
  cases hW : waysL (f.parts.map partSlotsM) l with
  | nil => rw [hways, hW] at hne; exact absurd rfl hne
  | cons hd tl =>
    rw [hW] at hsort hlen hways hall
    have hhd := hlen hd List.mem_cons_self
    have hlt := (List.pairwise_cons.1 hsort).1
    have hfirst : firstWayM f.parts l = ovr (fun _ => 0) 0 hd := by
      unfold firstWayM
      rw [hways, List.map_cons]
      refine pick_head _ _ _ _ fun x hx => ?_
      obtain ⟨m, hm, rfl⟩ := List.mem_map.1 hx
      rw [before_lex (by rw [hlen m (List.mem_cons_of_mem _ hm)]; exact h5) (by rw [hhd, hlen m (List.mem_cons_of_mem _ hm)])]
      exact lexL_asym _ _ (hlt m hm)
    rw [hfirst, fills_is _ _ _ hhd, hall]; rfl
end Go.Proofs.YtcamegaimleomaaGreat

namespace Go.Proofs.YtcamegaimleomaaGreat
set_option linter.unusedSimpArgs false
set_option linter.unusedVariables false
open Go.RowKit
set_option linter.unusedVariables false

set_option maxRecDepth 100000 in
theorem fits_any (s x : ByteArray) (w : World) :
    Calls Tryz.prog 104 #[.string s, .string x] w fun e w' => e = .returned (.bool (takesM ⟨s, false⟩ x)) ∧ Ext w w' := by
  have hk : takesM ⟨s, false⟩ x = (s.toList == [] || s.toList == x.toList) := by
    unfold takesM
    show (s.toList.isEmpty || _) = _
    cases s.toList <;> rfl
  rw [hk]
  cases h : s.toList == []
  · go_enter Tryz.func104, Tryz.ntmps104
    go_wp2
    go_ret
    exact ⟨ret_bool (by simp), (by first | (with_reducible exact Ext.refl _) | (with_reducible assumption) | (show Below _ _ _; go_grown; done))⟩
  · go_enter Tryz.func104, Tryz.ntmps104
    go_wp2
    go_ret
    exact ⟨ret_bool (by simp), (by first | (with_reducible exact Ext.refl _) | (with_reducible assumption) | (show Below _ _ _; go_grown; done))⟩
/-- a row of one's own, cell by cell -/
def RowAtV (w : World) (g n : Nat) (f : Nat → Value) : Prop := ∀ d, d < n → w.cell? ⟨g, d, none⟩ = some (f d) ∧ w.frozen? ⟨g, d, none⟩ = false
theorem RowAtV.ext {w w' : World} {g n : Nat} {f : Nat → Value} (h : RowAtV w g n f) (hx : Ext w w') : RowAtV w' g n f := fun d hd =>
  ⟨hx.cell (h d hd).1, by rw [hx.frozen (cell_lt (h d hd).1)]; exact (h d hd).2⟩
theorem RowAtV.set {w : World} {g n : Nat} {f : Nat → Value} (h : RowAtV w g n f) {j : Nat} (hj : j < n) (u : Value) : RowAtV (w.setCell ⟨g, j, none⟩ u) g n (fun d => if d = j then u else f d) := by
  intro d hd
  refine ⟨?_, by rw [World.frozen?_setCell]; exact (h d hd).2⟩
  by_cases e : d = j
  · subst e; simp only [if_true]; exact set_cell (h d hd).1 _
  · simp only [if_neg e]; exact set_other (h d hd).1 (.inr (fun e' => e e'.symm)) _
theorem RowAtV.other {w : World} {g n : Nat} {f : Nat → Value} (h : RowAtV w g n f) {p : Addr} (hp : p.block ≠ g) (u : Value) : RowAtV (w.setCell p u) g n f := fun d hd =>
  ⟨set_other (h d hd).1 (.inl hp) _, by rw [World.frozen?_setCell]; exact (h d hd).2⟩
/-- make -/
theorem make_row {t e : TypeId} {z : Value} {bytes : Nat} (ht : Tryz.prog.underlying t = some (.slice e)) (hinfo : (Tryz.prog.info? e).map (fun i => (i.zero, i.size, i.bytes)) = some (some z, 1, bytes)) (hz : z.cells = #[z]) (hb : bytes ≤ 24) (w : World) (n : Nat) (hn : n ≤ 1000) :
    ∃ w', (Instr.makeSlice t (.int .i64 (n : Int)) (.int .i64 (n : Int))).run Tryz.prog w = .ok (.slice (some ⟨w.heap.size, 0, none⟩) n n) w' ∧ RowAtV w' w.heap.size n (fun _ => z) ∧ Ext w w' ∧ w'.heap.size = w.heap.size + 1 := by
  obtain ⟨i0, hi, hz0, hz1, hz2⟩ := info_parts hinfo
  have hr := run_make (P := Tryz.prog) w t e i0 z ht hi hz0 .i64 .i64 n n (by omega) (Int.le_refl _) (by
    have : i0.bytes * n ≤ 24 * 1000 := Nat.mul_le_mul (by omega) hn
    have h2 : ((i0.bytes * n : Nat) : Int) ≤ 24 * 1000 := by omega
    rw [Int.natCast_mul] at h2
    omega) (by omega)
  refine ⟨_, hr, ?_, ext_alloc _ _, by simp⟩
  intro d hd
  have hsz : (madeCells z.cells ((n : Int).toNat * i0.size)).toList = List.replicate n z := by
    rw [hz, hz1, Nat.mul_one, Int.toNat_natCast]; exact toList_madeCells_one _ _
  refine ⟨?_, frozen_of_row _ _ _ _ e (heap_alloc_new w _)⟩
  have : (madeCells z.cells ((n : Int).toNat * i0.size))[d]? = some z := by
    rw [← Array.getElem?_toList, hsz, List.getElem?_replicate, if_pos hd]
  simpa [go_sem] using this
theorem infoRow : (Tryz.prog.info? 26).map (fun i => (i.zero, i.size, i.bytes)) = some (some (.slice none 0 0), 1, 24) := by kernel_rfl
/-- the rows: those behind the place i are filled -/
def RowsF (from_ shape : List ByteArray) (w : World) (G : Nat) (f : Nat → Value) (i : Nat) : Prop :=
  ∀ j, i ≤ j → j ≤ from_.length → ∃ g, f j = .slice (some ⟨g, 0, none⟩) (shape.length + 1) (shape.length + 1) ∧ G < g ∧ RowAtV w g (shape.length + 1) (fun k => .int .i64 (lsAt from_ shape j k : Nat))
theorem RowsF.ext {from_ shape : List ByteArray} {w w' : World} {G : Nat} {f : Nat → Value} {i : Nat} (h : RowsF from_ shape w G f i) (hx : Ext w w') : RowsF from_ shape w' G f i := fun j h1 h2 => by
  obtain ⟨g, e, h3, h4⟩ := h j h1 h2
  exact ⟨g, e, h3, h4.ext hx⟩
theorem RowsF.step {from_ shape : List ByteArray} {w : World} {G : Nat} {f : Nat → Value} {i g : Nat} (h : RowsF from_ shape w G f (i + 1)) (hG : G < g) (hr : RowAtV w g (shape.length + 1) (fun k => .int .i64 (lsAt from_ shape i k : Nat))) :
    RowsF from_ shape (w.setCell ⟨G, i, none⟩ (.slice (some ⟨g, 0, none⟩) (shape.length + 1) (shape.length + 1))) G (fun d => if d = i then .slice (some ⟨g, 0, none⟩) (shape.length + 1) (shape.length + 1) else f d) i := fun j h1 h2 => by
  by_cases e : j = i
  · subst e
    exact ⟨g, by simp, hG, hr.other (by show G ≠ g; omega) _⟩
  · obtain ⟨g', e', h3, h4⟩ := h j (by omega) h2
    exact ⟨g', by simp only [if_neg e]; exact e', h3, h4.other (by show G ≠ g'; omega) _⟩
set_option maxRecDepth 100000 in
set_option maxHeartbeats 8000000 in
theorem least_any (fv sv : Value) (f s : List ByteArray) (w : World) (hf : StrsAt w fv f) (hs : StrsAt w sv s) (hfn : f.length ≤ 100) (hsn : s.length ≤ 100) :
    Calls Tryz.prog 112 #[fv, sv] w fun e w' => ∃ G h, e = .returned (.slice (some ⟨G, 0, none⟩) (f.length + 1) (f.length + 1)) ∧ RowAtV w' G (f.length + 1) h ∧ RowsF f s w' G h 0 ∧ Ext w w' := by
  obtain ⟨fa, fc, rfl, -⟩ := hf.shape
  obtain ⟨sa, sc, rfl, -⟩ := hs.shape
  obtain ⟨n, hn⟩ : ∃ n, n = f.length := ⟨_, rfl⟩
  obtain ⟨m, hm⟩ : ∃ m, m = s.length := ⟨_, rfl⟩
  have hn1 : n ≤ 100 := by omega
  have hm1 : m ≤ 100 := by omega
  have Hn := Lib.hid hn
  have Hm := Lib.hid hm
  obtain ⟨w1, mk1, rows1, x1, z1⟩ := make_row Tryz.underlying176 infoRow rfl (by decide) w (n + 1) (by omega)
  have wn : IntKind.i64.wrap ((n : Int) + 1) = (n : Int) + 1 := IntWalk.i64_in _ (by omega)
  have wm : IntKind.i64.wrap ((m : Int) + 1) = (m : Int) + 1 := IntWalk.i64_in _ (by omega)
  rw [show ((n + 1 : Nat) : Int) = (n : Int) + 1 from by omega] at mk1
  rw [← hn] at hf ⊢
  rw [← hm] at hs ⊢
  clear hn hm
  go_enter Tryz.func112, Tryz.ntmps112
  go_wp2_with fail
  go_loopw [6] (fun iv wr => ∃ (r : Nat) (h : Nat → Value), r ≤ n + 1 ∧ iv = .int .i64 ((n : Int) - r) ∧ RowAtV wr w.heap.size (n + 1) h ∧ RowsF f s wr w.heap.size h (n + 1 - r) ∧ Ext w wr) (fun i _ => (intOf i + 1).toNat)
  case atStart => exact ⟨0, _, Nat.zero_le _, by simp, rows1, fun j h1 h2 => by have := Hn.out; omega, x1⟩
  case round =>
    obtain ⟨r, h, hr, rfl, hrow, hrs, hxr⟩ := hrel
    by_cases hlt : r ≤ n
    · obtain ⟨i, hi⟩ : ∃ i : Nat, i + r = n := ⟨n - r, by omega⟩
      have ei : (n : Int) - r = (i : Int) := by omega
      have ei2 : n + 1 - r = i + 1 := by omega
      rw [ei]
      rw [ei2] at hrs
      have ge0 : (0 : Int) ≤ (i : Int) := by omega
      obtain ⟨w2, mk2, row2, x2, z2⟩ := make_row Tryz.underlying26 infoInt rfl (by decide) wr (m + 1) (by omega)
      rw [show ((m + 1 : Nat) : Int) = (m : Int) + 1 from by omega] at mk2
      have Hi := Lib.hid hi
      obtain ⟨wo, hwo⟩ : ∃ wo : World, wo = wr := ⟨_, rfl⟩
      subst hwo
      clear ei ei2 hr
      go_wp2_with fail
      go_loopw [8] (fun kv wi => ∃ (q : Nat) (u : Nat → Nat), q ≤ m + 1 ∧ kv = .int .i64 ((m : Int) - q) ∧ RowAtV wi wo.heap.size (m + 1) (fun k => .int .i64 (u k : Nat)) ∧ (∀ k, m + 1 ≤ k + q → k ≤ m → u k = lsAt f s i k) ∧ Ext wo wi) (fun k _ => (intOf k + 1).toNat)
      case atStart => exact ⟨0, fun _ => 0, Nat.zero_le _, by simp, row2, fun k h1 h2 => by omega, x2⟩
      case round =>
        obtain ⟨q, u, hq, rfl, hrw, hu, hxi⟩ := hrel
        by_cases hltq : q ≤ m
        · obtain ⟨k, hk⟩ : ∃ k : Nat, k + q = m := ⟨m - q, by omega⟩
          have ek : (m : Int) - q = (k : Int) := by omega
          rw [ek]
          have ge1 : (0 : Int) ≤ (k : Int) := by omega
          have Hk := Lib.hid hk
          clear ek hq
          obtain ⟨c1, f1⟩ := hrw k (by omega)
          have hfin : ∀ (wz : World), Ext wr wz → ∀ V : Int, V = (lsAt f s i k : Nat) → ∃ (q : Nat) (u : Nat → Nat), q ≤ m + 1 ∧ Value.int .i64 ((k : Int) - 1) = .int .i64 ((m : Int) - q) ∧ RowAtV (wz.setCell ⟨wo.heap.size, k, none⟩ (.int .i64 V)) wo.heap.size (m + 1) (fun k => .int .i64 (u k : Nat)) ∧ (∀ k, m + 1 ≤ k + q → k ≤ m → u k = lsAt f s i k) ∧ Ext wo (wz.setCell ⟨wo.heap.size, k, none⟩ (.int .i64 V)) := fun wz hz V hV => by
            subst hV
            refine ⟨q + 1, fun d => if d = k then lsAt f s i k else u d, by omega, by congr 1; omega, ?_, fun d h1 h2 => ?_, (hxi.trans hz).setCell (Nat.le_refl _) _⟩
            · have := (hrw.ext hz).set (j := k) (by omega) (.int .i64 (lsAt f s i k : Nat))
              intro d hd
              obtain ⟨g1, g2⟩ := this d hd
              refine ⟨?_, g2⟩
              rw [g1]
              by_cases e : d = k
              · simp [e]
              · simp [e]
            · by_cases e : d = k
              · simp [e]
              · simp only [if_neg e]; exact hu d (by omega) h2
          have Hfin := Lib.hid hfin
          clear hfin
          by_cases h1 : i = n
          · have h1' : ((i : Int) == (n : Int)) = true := by rw [h1]; simp
            have wv : IntKind.i64.wrap ((m : Int) - k) = (m : Int) - k := IntWalk.i64_in _ (by omega)
            have hval : (m : Int) - k = (lsAt f s i k : Nat) := by
              rw [h1, Hn.out, lsAt_end, ← Hm.out]; omega
            have Hval := Lib.hid hval
            clear hval h1
            go_wp2_with fail
            exact ⟨Hfin.out _ (Ext.refl _) _ Hval.out, by simp [intOf]⟩
          · have h1' : ((i : Int) == (n : Int)) = false := by simp; omega
            by_cases h2 : k = m
            · have h2' : ((k : Int) == (m : Int)) = true := by rw [h2]; simp
              have wv : IntKind.i64.wrap ((n : Int) - i) = (n : Int) - i := IntWalk.i64_in _ (by omega)
              have hval : (n : Int) - i = (lsAt f s i k : Nat) := by
                rw [h2, Hm.out, lsAt_drop, ← Hn.out]; have := Hi.out; omega
              have Hval := Lib.hid hval
              clear hval h1 h2
              go_wp2_with fail
              exact ⟨Hfin.out _ (Ext.refl _) _ Hval.out, by simp [intOf]⟩
            · have h2' : ((k : Int) == (m : Int)) = false := by simp; omega
              have hiN : i < n := by have := Hi.out; omega
              have hkM : k < m := by have := Hk.out; omega
              obtain ⟨g, eg, hGg, hrg⟩ := (hrs.ext hxi) (i + 1) (Nat.le_refl _) (by have := Hn.out; omega)
              have r0 := hxi.cell (hrow (i + 1) (by omega)).1
              rw [eg] at r0
              have c10 := (hrg k (by have := Hm.out; omega)).1
              have c11 := (hrg (k + 1) (by have := Hm.out; omega)).1
              have c01 := (hrw (k + 1) (by omega)).1
              simp only at c10 c11 c01
              rw [hu (k + 1) (by have := Hk.out; omega) (by omega)] at c01
              rw [← Hm.out] at r0
              have hv := lsAt_all f s (i := i) (k := k) (by have := Hn.out; omega) (by have := Hm.out; omega)
              have b10 := lsAt_le f s (i + 1) k
              have b11 := lsAt_le f s (i + 1) (k + 1)
              have b01 := lsAt_le f s i (k + 1)
              obtain ⟨sb, so, rfl, d0, -⟩ := SliceAt.get (hs.ext (hxr.trans hxi)) (i := k) (by have := Hm.out; omega)
              obtain ⟨fb, fo, rfl, d1, -⟩ := SliceAt.get (hf.ext (hxr.trans hxi)) (i := i) (by have := Hn.out; omega)
              rw [Nat.mul_one] at d0 d1
              generalize lsAt f s (i + 1) k = a10 at *
              generalize lsAt f s (i + 1) (k + 1) = a11 at *
              generalize lsAt f s i (k + 1) = a01 at *
              generalize s[k] = sw at *
              generalize f[i] = fw at *
              obtain ⟨i1, hi1⟩ : ∃ i1, i1 = i + 1 := ⟨_, rfl⟩
              obtain ⟨k1, hk1⟩ : ∃ k1, k1 = k + 1 := ⟨_, rfl⟩
              rw [← hi1] at r0
              rw [← hk1] at c11 c01
              have wi1 : IntKind.i64.wrap ((i : Int) + 1) = (i1 : Int) := by rw [hi1]; exact IntWalk.i64_in _ (by omega)
              have wk1 : IntKind.i64.wrap ((k : Int) + 1) = (k1 : Int) := by rw [hk1]; exact IntWalk.i64_in _ (by omega)
              have li1 : (i1 : Int) < (n : Int) + 1 := by omega
              have lk1 : (k1 : Int) < (m : Int) + 1 := by omega
              have lk : (k : Int) < (m : Int) + 1 := by omega
              have li : (i : Int) < (n : Int) := by omega
              have lkm : (k : Int) < (m : Int) := by omega
              obtain ⟨mn, hmn⟩ : ∃ mn, mn = min (min a10 a01) a11 := ⟨_, rfl⟩
              rw [← hmn] at hv
              have Hmn := Lib.hid hmn
              obtain ⟨m1, hm1'⟩ : ∃ m1, m1 = 1 + mn := ⟨_, rfl⟩
              have wm1 : IntKind.i64.wrap (1 + (mn : Int)) = (m1 : Int) := by rw [hm1']; exact IntWalk.i64_in _ (by omega)
              rw [← hm1'] at hv
              have Hm1 := Lib.hid hm1'
              have Hv := Lib.hid hv
              clear h1 h2 hrg hrow hrs hrw hu hv eg hi1 hk1 hmn hm1'
              go_wp2_with fail
              apply Facts.wp_region [.val _, .val _, .val _, .val _, .val _, .val _, .val _, .val _, .val _, .val _, .val _, .val _, .val _, .val _, .val _, .val _, .val _, .val _, .val _, .val _, .val _, .val _, .val (.int .i64 (mn : Nat)), .val _, .val _] (by kernel_rfl) (by kernel_rfl) trivial ?main
              case main =>
                iterate 22 (refine ⟨fun w1 hx hh => ?_, ?_⟩; focus (clear hh; have e0 := hx.cell r0; have e1 := hx.cell c10; have e2 := hx.cell c11; have e3 := hx.cell c01; go_simp; first | exact ⟨Ext.refl _, rfl⟩ | exact Ext.refl _))
                refine ⟨fun w1 hx hh => ?_, ?_⟩
                · clear hh
                  go_simp
                  exact ⟨Ext.refl _, by have := Hmn.out; congr 1; split <;> split <;> omega⟩
                iterate 2 (refine ⟨fun w1 hx hh => ?_, ?_⟩; focus (clear hh; skip; go_simp; first | exact ⟨Ext.refl _, rfl⟩ | exact Ext.refl _))
                intro w4 hx4 hh
                clear hh
                replace f1 := (hx4.frozen (cell_lt c1)).trans f1
                replace c1 := hx4.cell c1
                replace d0 := hx4.cell d0
                replace d1 := hx4.cell d1
                replace r0 := hx4.cell r0
                replace c11 := hx4.cell c11
                clear c10 c01
                go_simp
                go_wp2_with fail
                apply Facts.wp_region [.val _, .val _, .val _, .val _, .val _, .val _, .val _, .val _, .val (.bool (takesM ⟨sw, false⟩ fw))] (by kernel_rfl) (by kernel_rfl) trivial ?main
                case main =>
                  iterate 8 (refine ⟨fun w1 hx hh => ?_, ?_⟩; focus (clear hh; have e0 := hx.cell d0; have e1 := hx.cell d1; go_simp; first | exact ⟨Ext.refl _, rfl⟩ | exact Ext.refl _))
                  refine ⟨fun w1 hx hh => ?_, ?_⟩
                  · clear hh
                    go_simp
                    refine (fits_any sw fw _).mono ?_
                    rintro e w' ⟨rfl, hx'⟩
                    exact ⟨_, rfl, hx', rfl⟩
                  intro w5 hx5 hh
                  clear hh
                  replace f1 := (hx5.frozen (cell_lt c1)).trans f1
                  replace c1 := hx5.cell c1
                  replace r0 := hx5.cell r0
                  replace c11 := hx5.cell c11
                  have hx45 := hx4.trans hx5
                  clear d0 d1 hx4 hx5
                  go_simp
                  cases ht : takesM ⟨sw, false⟩ fw
                  · have hval : (m1 : Int) = (lsAt f s i k : Nat) := by
                      have := Hv.out; rw [ht] at this; simp only [Bool.false_eq_true, if_false] at this; omega
                    have Hval := Lib.hid hval
                    clear hval ht
                    go_wp2_with fail
                    exact ⟨Hfin.out _ hx45 _ Hval.out, by simp [intOf]⟩
                  · have hval : lsAt f s i k = min m1 a11 := by
                      have := Hv.out; rw [ht] at this; simpa using this
                    have Hval := Lib.hid hval
                    clear hval ht
                    go_wp2_with fail
                    refine ⟨Hfin.out _ hx45 _ ?_, by simp [intOf]⟩
                    have := Hval.out
                    first | omega | (split <;> omega)
        · obtain rfl : q = m + 1 := by omega
          have ek : (m : Int) - ((m + 1 : Nat) : Int) = -1 := by omega
          rw [ek]
          obtain ⟨cG, fG⟩ := hrow i (by have := Hi.out; omega)
          have zG := cell_lt cG
          have fG' := (hxi.frozen zG).trans fG
          have cG' := hxi.cell cG
          have hrow2 : RowAtV wr wo.heap.size (s.length + 1) (fun k => .int .i64 (lsAt f s i k : Nat)) := fun d hd => by
            have hd' : d < m + 1 := by rw [Hm.out]; exact hd
            obtain ⟨g1, g2⟩ := hrw d hd'
            exact ⟨by rw [g1]; show some (Value.int .i64 (u d : Nat)) = _; rw [hu d (by omega) (by omega)], g2⟩
          have hst := (hrs.ext hxi).step zG hrow2
          rw [← Hm.out] at hst
          have hset := (hrow.ext hxi).set (j := i) (by have := Hi.out; omega) (.slice (some ⟨wo.heap.size, 0, none⟩) (m + 1) (m + 1))
          have hxs := (hxr.trans hxi).setCell (p := ⟨w.heap.size, i, none⟩) (Nat.le_refl _) (.slice (some ⟨wo.heap.size, 0, none⟩) (m + 1) (m + 1))
          have eir : n + 1 - (r + 1) = i := by have := Hi.out; omega
          have li : (i : Int) < (n : Int) + 1 := by have := Hi.out; omega
          have er : (i : Int) - 1 = (n : Int) - ((r + 1 : Nat) : Int) := by have := Hi.out; omega
          have Hst := Lib.hid hst
          have Hset := Lib.hid hset
          have Hxs := Lib.hid hxs
          have Er := Lib.hid er
          clear hrow hrs hrw hu cG fG hst hset hxs hrow2 er
          go_wp2_with fail
          exact ⟨⟨r + 1, _, by omega, by rw [Er.out], Hset.out, by rw [eir]; exact Hst.out, Hxs.out⟩, by simp [intOf]⟩
    · obtain rfl : r = n + 1 := by omega
      have ei : (n : Int) - ((n + 1 : Nat) : Int) = -1 := by omega
      rw [ei]
      rw [show n + 1 - (n + 1) = 0 from by omega] at hrs
      go_wp2
      go_ret
      exact ⟨_, h, rfl, hrow, hrs, hxr⟩
end Go.Proofs.YtcamegaimleomaaGreat

namespace Go.Proofs.YtcamegaimleomaaGreat
set_option linter.unusedSimpArgs false
set_option linter.unusedVariables false
open Go.RowKit
set_option linter.unusedVariables false

set_option maxRecDepth 100000 in
theorem which_any (sv : Value) (s : Shelf) (x : Nat) (hx : x ≤ 255) (w : World) (hs : ShelfAt w sv s) (h0 : s.forms.length ≠ 0) (h4 : s.forms.length ≤ 4) :
    Calls Tryz.prog 27 #[sv, .int .u8 x] w fun e w' => e = .returned (.int .i64 ((x % s.forms.length : Nat) : Int)) ∧ Ext w w' := by
  obtain ⟨fa, fc, rfl, -⟩ := hs.open
  have mq := mod_nat x s.forms.length
  have q1 : x % s.forms.length < s.forms.length := Nat.mod_lt _ (by omega)
  generalize x % s.forms.length = q at *
  have wq : IntKind.i64.wrap (q : Int) = q := IntWalk.i64_in _ (by omega)
  have wx : IntKind.i64.wrap (x : Int) = x := IntWalk.i64_in _ (by omega)
  have h0' : ((s.forms.length : Int) == 0) = false := by simpa using h0
  go_enter Tryz.func27, Tryz.ntmps27
  go_wp2
  go_ret
  exact ⟨rfl, (by first | (with_reducible exact Ext.refl _) | (with_reducible assumption) | (show Below _ _ _; go_grown; done))⟩
theorem few_le30 (a b : List ByteArray) (ha : a.length ≤ 15) (hb : b.length ≤ 15) : fewManyM a b ≤ 30 := by
  unfold fewManyM
  split
  · have := costM_le a (givenM b)
    have hg : (givenM b).length = b.length := by simp [givenM]
    omega
  · omega
/-- fills that are right for these rooms -/
def AnyF (rooms : List Part) (u : Value) (w : World) : Prop := ∃ fs, FillsAt w u fs ∧ PutOk rooms fs ∧ fs.length = rooms.length
noncomputable def AnyF.fs {rooms : List Part} {u : Value} {w : World} (h : AnyF rooms u w) : List (List ByteArray) := Exists.choose h
theorem AnyF.spec {rooms : List Part} {u : Value} {w : World} (h : AnyF rooms u w) : FillsAt w u h.fs ∧ PutOk rooms h.fs ∧ h.fs.length = rooms.length := Exists.choose_spec h
theorem AnyF.ext {rooms : List Part} {u : Value} {w w' : World} (h : AnyF rooms u w) (hx : Ext w w') : AnyF rooms u w' := by
  obtain ⟨fs, h1, h2⟩ := h; exact ⟨fs, h1.ext hx, h2⟩
theorem putOk_len {f : Form} (hv : ValidForm f) {fs : List (List ByteArray)} (hp : PutOk (roomsM f.parts) fs) : ∀ l ∈ fs, l.length ≤ 15 := by
  intro l hl
  obtain ⟨i, hi, rfl⟩ := List.getElem_of_mem hl
  have h2 : i < (roomsM f.parts).length := by have := hp.le; omega
  have h3 := (hp.at_ i hi h2).2
  have hm := List.mem_filter.1 (List.getElem_mem h2)
  have hr := (hv.parts _ hm.1).room hm.2
  omega
/-- a letter of the form -/
def MadeF (f : Form) (l : List ByteArray) (u : Value) (w : World) : Prop := ∃ m, StrsAt w u m ∧ letterErrL m = 0 ∧ fewErrM l m = 0 ∧ (costM l (formSlotsM f.parts)).2 ≤ fewManyM l m
theorem MadeF.ext {f : Form} {l : List ByteArray} {u : Value} {w w' : World} (h : MadeF f l u w) (hx : Ext w w') : MadeF f l u w' := by
  obtain ⟨m, h1, h2⟩ := h; exact ⟨m, h1.ext hx, h2⟩
end Go.Proofs.YtcamegaimleomaaGreat

namespace Go.Proofs.YtcamegaimleomaaGreat
set_option linter.unusedSimpArgs false
set_option linter.unusedVariables false
open Go.RowKit
set_option linter.unusedVariables false
set_option linter.unusedSimpArgs false

theorem infoStringL : (Tryz.prog.info? 9).map (fun i => (i.zero, i.size, i.bytes)) = some (some (.string ByteArray.empty), 1, 16) := by kernel_rfl
theorem blank_at {w : World} {g n : Nat} (h : RowAtV w g n (fun _ => .string ByteArray.empty)) (hn : n ≤ 100) : StrsAt w (.slice (some ⟨g, 0, none⟩) n n) (blank n) := by
  have hl : (blank n).length = n := by simp [blank]
  refine ⟨_, _, by rw [hl], by rw [hl]; exact Nat.le_refl _, by omega, fun i hi => ⟨g, 0, rfl, ?_⟩⟩
  rw [hl] at hi
  have e : (blank n)[i]'(by rw [hl]; exact hi) = ByteArray.empty := by simp [blank]
  refine ⟨?_, by rw [e]; simp⟩
  rw [e, Nat.zero_add, Nat.mul_one]
  exact (h i hi).1
theorem blank_snoc (ns : List Nat) (k : Nat) (h : k < ns.length) : (ns.take (k + 1)).map blank = (ns.take k).map blank ++ [blank ns[k]] := by
  rw [List.take_succ_eq_append_getElem h, List.map_append]; rfl
set_option maxRecDepth 100000 in
set_option maxHeartbeats 2000000 in
theorem shape_any (fv mv : Value) (f : Form) (ns : List Nat) (w : World) (hV : ValidForm f) (hf : FormV w fv f) (hm : IntsAt w mv (ints ns)) (hn : (roomsM f.parts).length = ns.length) (h3 : ∀ n ∈ ns, n ≤ 3) :
    Calls Tryz.prog 103 #[fv, mv] w fun e w' => ∃ u, e = .returned u ∧ StrsAt w' u (shapeR f.parts ns) ∧ Ext w w' := by
  have hf0 := hf
  obtain ⟨pv, rfl, hns, hp⟩ := hf
  obtain ⟨pa, pc, rfl, -⟩ := hp.shape
  have hil : (ints ns).length = ns.length := by simp [ints]
  obtain ⟨ma, mc, rfl, -⟩ := hm.shape
  rw [hil] at hm ⊢
  obtain ⟨i0, hi, hz0, hz1, hz2⟩ := info_parts infoStrs
  have hrl : (roomsM f.parts).length ≤ 5 := Nat.le_trans (List.length_filter_le _ _) hV.n
  obtain ⟨N, hN⟩ : ∃ N, N = ns.length := ⟨_, rfl⟩
  rw [← hN] at hm hn ⊢
  have hN5 : N ≤ 5 := by omega
  have HN := Lib.hid hN
  have H3 := Lib.hid h3
  clear h3 hN hrl
  go_enter Tryz.func103, Tryz.ntmps103
  go_wp2_with fail
  obtain ⟨W, hW⟩ : ∃ W, W = w.alloc (.cells #[.string f.name, .slice pa f.parts.length pc] 55) := ⟨_, rfl⟩
  have xW : Ext w W := by rw [hW]; exact ext_alloc _ _
  have b0 : W.cell? ⟨w.heap.size, 0, none⟩ = some (.string f.name) := by rw [hW]; simp [go_sem]
  have b1 : W.cell? ⟨w.heap.size, 1, none⟩ = some (.slice pa f.parts.length pc) := by rw [hW]; simp [go_sem]
  rw [← hW]
  clear hW
  go_loopw [5, 6] (fun v iv wr => ∃ k : Nat, k ≤ N ∧ iv = .int .i64 k ∧ Ext W wr ∧ RowF W.heap.size ((ns.take k).map blank) v wr) (fun _ i _ => N - (intOf i).toNat)
  case atStart => exact ⟨0, Nat.zero_le _, rfl, Ext.refl _, [], World.ownsRow_nil _ _ _ _, fun i x L h => by simp at h⟩
  case round =>
    obtain ⟨k, hk, rfl, hxr, hown⟩ := hrel
    by_cases hlt : k < N
    · have k1 : (k : Int) < (N : Int) := by omega
      have hlt' : k < ns.length := by have := HN.out; omega
      obtain ⟨mb, mo, rfl, c0, -⟩ := SliceAt.get ((hm.ext xW).ext hxr) (by rw [hil]; exact hlt')
      have ce : (ints ns)[k]'(by rw [hil]; exact hlt') = ((ns[k] : Nat) : Int) := by simp [ints]
      rw [ce, Nat.mul_one] at c0
      have hsn := blank_snoc ns k hlt'
      have hn3 := H3.out _ (List.getElem_mem hlt')
      generalize ns[k] = n at *
      have hpl : ((ns.take k).map blank).length = k := by rw [List.length_map, List.length_take]; omega
      generalize (ns.take k).map blank = fl at *
      obtain ⟨w2, mk, row2, x2, z2⟩ := make_row Tryz.underlying25 infoStringL rfl (by decide) wr n (by omega)
      have hbl := blank_at row2 (by omega)
      obtain ⟨vals, hv2, hv3⟩ := hown
      have Hsn := Lib.hid hsn
      have Hv2 := Lib.hid hv2
      have Hv3 := Lib.hid hv3
      have Hbl := Lib.hid hbl
      have own2 := Ext.owns hv2 x2
      rw [hpl] at own2
      have Own2 := Lib.hid own2
      have Hpl := Lib.hid hpl
      have hszr := hxr.size
      have hszW := xW.size
      have Z2 := Lib.hid z2
      clear ce hsn hv2 hv3 hbl own2 row2 hpl z2
      go_wp2_with (at_builtin; go_loud (refine wpList_append_own_at _ rfl _ _ 31 rfl W.heap.size 25 i0 (.slice none 0 0) 1 24 Tryz.underlying31 hi hz0 hz1 hz2 rfl (by decide) u5 k vals rfl (World.ownsRow.alloc Own2.out _) ⟨w2.heap.size, 0, none⟩ 1 1 [.slice (some ⟨wr.heap.size, 0, none⟩) n n] rfl rfl (cell_one_at (by simp [go_sem])) (by simp [Value.oneCell']) (by unfold maxLen; omega) (by omega) (by have := x2.size; simp; omega) ?_; intro v' w4 hown' hgrow _ hblk))
      have hx4 : Ext W w4 := Ext.grown ((hxr.trans x2).alloc _) hgrow fun k hk => (Own2.out.lt k hk).1
      have hrow := rowF_push (L := blank n) Hv2.out Hv3.out x2 ⟨some ⟨wr.heap.size, 0, none⟩, n, by simp [blank], Hbl.out, fun ad e => by
        obtain rfl := Option.some.inj e
        have := Z2.out; exact ⟨by simp, by show wr.heap.size < w2.heap.size; omega⟩⟩ (by rw [Hpl.out]; exact hown') hgrow (by simpa using hblk)
      go_roundw
      case rel => exact ⟨k + 1, by omega, by go_num, hx4, by rw [Hsn.out]; exact hrow⟩
      case measure => simp [intOf]; omega
    · obtain rfl : k = N := by omega
      have hF := hown.at_
      rw [show ns.take k = ns from List.take_of_length_le (by rw [← HN.out]; exact Nat.le_refl _)] at hF
      obtain ⟨va, vc, rfl, -⟩ := hF.shape
      rw [List.length_map, ← HN.out] at hF ⊢
      replace b0 := hxr.cell b0
      replace b1 := hxr.cell b1
      have z1 := cell_lt b0
      have hfW := (hf0.ext xW).ext hxr
      have hx := xW.trans hxr
      go_wp2_with fail
      refine (refBuilt_any _ _ f (ns.map blank) hV.n (fun p hp => by have := (hV.parts p hp).n; omega) (fun l hl => by
        obtain ⟨n, hn, rfl⟩ := List.mem_map.1 hl
        have := H3.out n hn
        simp [blank]; omega) (by rw [List.length_map, ← HN.out]; exact hn) _ hfW hF).mono ?_
      rintro e w' ⟨u, rfl, hu, -, hx'⟩
      rw [built_is] at hu
      go_wp2
      go_ret
      exact ⟨_, rfl, hu, hx.trans hx'⟩
set_option maxRecDepth 100000 in
theorem far_any (fv sv : Value) (f s : List ByteArray) (w : World) (hf : StrsAt w fv f) (hs : StrsAt w sv s) (hfn : f.length ≤ 100) (hsn : s.length ≤ 100) :
    Calls Tryz.prog 115 #[fv, sv] w fun e w' => e = .returned (.int .i64 (lsM f s : Nat)) ∧ Ext w w' := by
  have h1 := least_any fv sv f s w hf hs hfn hsn
  obtain ⟨fa, fc, rfl, -⟩ := hf.shape
  obtain ⟨sa, sc, rfl, -⟩ := hs.shape
  go_enter Tryz.func115, Tryz.ntmps115
  go_wp2_with fail
  refine h1.mono ?_
  rintro e w1 ⟨G, h, rfl, hrow, hrs, x1⟩
  obtain ⟨g, eg, hGg, hrg⟩ := hrs 0 (Nat.le_refl _) (Nat.zero_le _)
  have r0 := (hrow 0 (by omega)).1
  rw [eg] at r0
  have c0 := (hrg 0 (by omega)).1
  have e0 : lsAt f s 0 0 = lsM f s := by unfold lsAt; rw [List.drop_zero, List.drop_zero]
  simp only [e0] at c0
  have l1 : (0 : Int) < (f.length : Int) + 1 := by omega
  have l2 : (0 : Int) < (s.length : Int) + 1 := by omega
  obtain ⟨n, hn⟩ : ∃ n, lsM f s = n := ⟨_, rfl⟩
  rw [hn] at c0
  have Hn := Lib.hid hn
  clear hn hrow hrs hrg eg e0 h1
  go_wp2
  go_ret
  exact ⟨by rw [Hn.out]; rfl, x1⟩
end Go.Proofs.YtcamegaimleomaaGreat

namespace Go.Proofs.YtcamegaimleomaaGreat
set_option linter.unusedSimpArgs false
set_option linter.unusedVariables false
open Go.RowKit
set_option linter.unusedVariables false
set_option linter.unusedSimpArgs false

/-- a row of fills of the call's own, the words of which are its own, too -/
def RowFB (base : Nat) (fl : List (List ByteArray)) (u : Value) (w : World) : Prop :=
  ∃ vs : List Value, w.ownsRow base 25 1 u fl.length vs ∧ ∀ (i : Nat) (x : Value) (L : List ByteArray), vs[i]? = some x → fl[i]? = some L → ElemS w u.ownBlock x L ∧ ∀ ad n c, x = .slice (some ad) n c → base ≤ ad.block
theorem RowFB.ext {base : Nat} {fl : List (List ByteArray)} {u : Value} {w w' : World} (h : RowFB base fl u w) (hx : Ext w w') : RowFB base fl u w' := by
  obtain ⟨vs, h1, h2⟩ := h
  exact ⟨vs, Ext.owns h1 hx, fun i x L hi hL => ⟨(h2 i x L hi hL).1.ext hx, (h2 i x L hi hL).2⟩⟩
theorem RowFB.at_ {base : Nat} {fl : List (List ByteArray)} {u : Value} {w : World} (h : RowFB base fl u w) : FillsAt w u fl := by
  obtain ⟨vs, h1, h2⟩ := h
  exact RowF.at_ (base := base) ⟨vs, h1, fun i x L hi hL => (h2 i x L hi hL).1⟩
theorem RowFB.lower {base b2 : Nat} {fl : List (List ByteArray)} {u : Value} {w : World} (h : RowFB base fl u w) (hb : b2 ≤ base) : RowFB b2 fl u w := by
  obtain ⟨vs, h1, h2⟩ := h
  exact ⟨vs, ⟨h1.1, h1.2.imp id fun ⟨g, cap, cur, e, hb2, h⟩ => ⟨g, cap, cur, e, Nat.le_trans hb hb2, h⟩⟩, fun i x L hi hL => ⟨(h2 i x L hi hL).1, fun ad n c e => Nat.le_trans hb ((h2 i x L hi hL).2 ad n c e)⟩⟩
theorem rowFB_push {w wA w' : World} {base : Nat} {v v' x : Value} {LL : List (List ByteArray)} {L : List ByteArray} {vs : List Value} (h1 : w.ownsRow base 25 1 v LL.length vs) (h2 : ∀ (i : Nat) (x : Value) (L : List ByteArray), vs[i]? = some x → LL[i]? = some L → ElemS w v.ownBlock x L ∧ ∀ ad n c, x = .slice (some ad) n c → base ≤ ad.block) (hbw : base ≤ w.heap.size) (hx : Ext w wA) {t : TypeId}
    (hv : ∃ sa sc, x = .slice sa L.length sc ∧ StrsAt wA x L ∧ ∀ ad, sa = some ad → w.heap.size ≤ ad.block ∧ ad.block < wA.heap.size)
    (hown : w'.ownsRow base 25 1 v' (LL.length + 1) (vs ++ [x])) (hg : (wA.alloc (.cells #[x] t)).grownBy w' v.ownBlock) (hb : v'.ownBlock = v.ownBlock ∨ v'.ownBlock = some (wA.heap.size + 1)) :
    RowFB base (LL ++ [L]) v' w' := by
  have hlt := fun k hk => h1.lt k hk
  have hlen : vs.length = LL.length := by have := h1.1; omega
  have hg0 : wA.grownBy (wA.alloc (.cells #[x] t)) v.ownBlock := World.grownBy_alloc _ _ _
  have hsz : (wA.alloc (.cells #[x] t)).heap.size = wA.heap.size + 1 := by simp
  have hsz2 := hg.size
  have keep : ∀ (sa : Option Addr) (n sc : Nat) (l : List ByteArray), StrsAt wA (.slice sa n sc) l → (∀ ad, sa = some ad → ad.block < wA.heap.size ∧ some ad.block ≠ v.ownBlock) → StrsAt w' (.slice sa n sc) l ∧ ∀ ad, sa = some ad → ad.block < w'.heap.size ∧ some ad.block ≠ v'.ownBlock := fun sa n sc l hi hne => by
    refine ⟨(hi.grownBy hg0 fun ad e => (hne ad e).2).grownBy hg fun ad e => (hne ad e).2, fun ad e => ⟨by have := (hne ad e).1; omega, ?_⟩⟩
    rcases hb with hb | hb
    · rw [hb]; exact (hne ad e).2
    · rw [hb]; intro e2; have := (hne ad e).1; have := Option.some.inj e2; omega
  refine ⟨vs ++ [x], by rw [List.length_append]; exact hown, fun i y M hi hM => ?_⟩
  rcases Nat.lt_or_ge i vs.length with h3 | h3
  · rw [List.getElem?_append_left h3] at hi
    rw [List.getElem?_append_left (by omega)] at hM
    obtain ⟨g1, g2⟩ := h2 i y M hi hM
    obtain ⟨sa, sc, rfl, h4, h5⟩ := g1.ext hx
    obtain ⟨k1, k2⟩ := keep sa _ sc _ h4 h5
    exact ⟨⟨sa, sc, rfl, k1, k2⟩, g2⟩
  · rw [List.getElem?_append_right h3] at hi
    rw [List.getElem?_append_right (by omega)] at hM
    have hi0 : i - vs.length = 0 := by
      rcases Nat.eq_zero_or_pos (i - vs.length) with h6 | h6
      · exact h6
      · rw [List.getElem?_eq_none (by simp; omega)] at hi; cases hi
    rw [hi0] at hi
    rw [show i - LL.length = 0 from by omega] at hM
    obtain rfl : x = y := by simpa using hi
    obtain rfl : L = M := by simpa using hM
    obtain ⟨sa, sc, rfl, h4, h5⟩ := hv
    obtain ⟨k1, k2⟩ := keep sa _ sc _ h4 fun ad e => ⟨(h5 ad e).2, fun e2 => by have := (hlt ad.block e2.symm).2; have := (h5 ad e).1; omega⟩
    exact ⟨⟨sa, sc, rfl, k1, k2⟩, fun ad n c e => by obtain ⟨rfl, -, -⟩ := Value.slice.inj e; exact Nat.le_trans hbw (h5 ad rfl).1⟩
theorem strs_sz {w : World} {v : Value} {l : List ByteArray} (h : StrsAt w v l) : ∀ s ∈ l, s.size ≤ 9223372036854775807 := fun s hs => by
  obtain ⟨i, hi, rfl⟩ := List.getElem_of_mem hs
  obtain ⟨a, c, rfl, -⟩ := h.shape
  obtain ⟨b, o, -, -, h2⟩ := h.get hi
  exact h2
theorem rowW_shp {base : Nat} {l : List ByteArray} {u : Value} {w : World} (h : RowW base l u w) : ∃ a c, u = .slice a l.length c := by
  rcases h.2 with ⟨rfl, hn⟩ | ⟨g, cap, cur, rfl, -⟩
  · exact ⟨_, _, by rw [hn]⟩
  · exact ⟨_, _, rfl⟩
theorem match_len {a l : List ByteArray} (h : matchM a l = true) : a.length = l.length := ((match_iff a l).1 h).1
theorem filled_given {p : Part} {rest : List Part} {ms : List Nat} {l : List ByteArray} (hr : roomyM p = false) (hm : matchM (shapeR (p :: rest) ms) l = true) :
    filledR (p :: rest) ms l = filledR rest ms (l.drop p.words.length) ∧ p.words.length ≤ l.length ∧ matchM (shapeR rest ms) (l.drop p.words.length) = true ∧ roomsM (p :: rest) = roomsM rest := by
  have hb : shapeR (p :: rest) ms = p.words ++ shapeR rest ms := by unfold shapeR; rw [builtR, hr]; rfl
  rw [hb, match_app, Bool.and_eq_true] at hm
  have h1 := match_len hm.1
  rw [List.length_take] at h1
  exact ⟨by rw [filledR, hr]; rfl, by omega, hm.2, by simp [roomsM, hr]⟩
theorem filled_room {p : Part} {rest : List Part} {m : Nat} {ms : List Nat} {l : List ByteArray} (hr : roomyM p = true) (hm : matchM (shapeR (p :: rest) (m :: ms)) l = true) :
    filledR (p :: rest) (m :: ms) l = l.take m :: filledR rest ms (l.drop m) ∧ m ≤ l.length ∧ matchM (shapeR rest ms) (l.drop m) = true ∧ roomsM (p :: rest) = p :: roomsM rest := by
  have hb : shapeR (p :: rest) (m :: ms) = blank m ++ shapeR rest ms := by unfold shapeR; rw [builtR, hr]; rfl
  have hl : (blank m).length = m := by simp [blank]
  rw [hb, match_app, Bool.and_eq_true, hl] at hm
  have h1 := match_len hm.1
  rw [List.length_take, hl] at h1
  exact ⟨by rw [filledR, hr]; rfl, by omega, hm.2, by simp [roomsM, hr]⟩
set_option maxRecDepth 100000 in
set_option maxHeartbeats 4000000 in
theorem refFilled_any (fv mv lv : Value) (f : Form) (ns : List Nat) (l : List ByteArray) (w : World) (hV : ValidForm f) (hf : FormV w fv f) (hm : IntsAt w mv (ints ns)) (hl : StrsAt w lv l) (h15 : l.length ≤ 15) (hn : (roomsM f.parts).length = ns.length) (h3 : ∀ n ∈ ns, n ≤ 3) (hma : matchM (shapeR f.parts ns) l = true) :
    Calls Tryz.prog 105 #[fv, mv, lv] w fun e w' => ∃ u, e = .returned u ∧ RowFB w.heap.size (filledR f.parts ns l) u w' ∧ Ext w w' := by
  have hf0 := hf
  obtain ⟨pv, rfl, hns, hp⟩ := hf
  obtain ⟨pa, pc, rfl, -⟩ := hp.shape
  obtain ⟨la, lc, rfl, hlc, hlm⟩ := hl.shape
  have hil : (ints ns).length = ns.length := by simp [ints]
  obtain ⟨ma, mc, rfl, -⟩ := hm.shape
  rw [hil] at hm ⊢
  obtain ⟨i0, hi, hz0, hz1, hz2⟩ := info_parts infoStringL
  obtain ⟨j0, hj, hj0, hj1, hj2⟩ := info_parts infoStrs
  have hrl : (roomsM f.parts).length ≤ 5 := Nat.le_trans (List.length_filter_le _ _) hV.n
  have h5 := hV.n
  have H3 := Lib.hid h3
  have HV := Lib.hid hV
  clear h3 hV
  go_enter Tryz.func105, Tryz.ntmps105
  go_wp2_with fail
  obtain ⟨W, hW⟩ : ∃ W, W = w.alloc (.cells #[.string f.name, .slice pa f.parts.length pc] 55) := ⟨_, rfl⟩
  have xW : Ext w W := by rw [hW]; exact ext_alloc _ _
  have b1 : W.cell? ⟨w.heap.size, 1, none⟩ = some (.slice pa f.parts.length pc) := by rw [hW]; simp [go_sem]
  rw [← hW]
  clear hW
  replace hp := hp.ext xW
  replace hl := hl.ext xW
  replace hm := hm.ext xW
  go_loopw [7, 8, 9] (fun ov av jv wr => ∃ (j at_ : Nat) (fl : List (List ByteArray)), j ≤ f.parts.length ∧ at_ ≤ l.length ∧ av = .int .i64 at_ ∧ jv = .int .i64 j ∧ Ext W wr ∧ RowFB W.heap.size fl ov wr ∧ fl.length ≤ ns.length ∧ fl ++ filledR (f.parts.drop j) (ns.drop fl.length) (l.drop at_) = filledR f.parts ns l ∧ matchM (shapeR (f.parts.drop j) (ns.drop fl.length)) (l.drop at_) = true ∧ (roomsM (f.parts.drop j)).length = (ns.drop fl.length).length) (fun _ _ j _ => f.parts.length - (intOf j).toNat)
  case atStart => exact ⟨0, 0, [], Nat.zero_le _, Nat.zero_le _, rfl, rfl, Ext.refl _, ⟨[], World.ownsRow_nil _ _ _ _, fun i x L h => by simp at h⟩, Nat.zero_le _, rfl, hma, hn⟩
  case round =>
    obtain ⟨j, at_, fl, hjp, hat, rfl, rfl, hxr, hown, hfl, hrest, hmat, hrm⟩ := hrel
    have c1 := hxr.cell b1
    have z1 := cell_lt c1
    by_cases hlt : j < f.parts.length
    · have l1 : (j : Int) < (f.parts.length : Int) := by omega
      rw [List.drop_eq_getElem_cons hlt] at hrest hmat hrm
      obtain ⟨pb, po, rfl, ⟨u, g0, gs⟩, g1, g2, -⟩ := (hp.ext hxr).get hlt
      have hvp := HV.out.parts _ (List.getElem_mem hlt)
      have hpn := hvp.n
      obtain ⟨ua, uc, rfl, -⟩ := gs.shape
      generalize f.parts[j] = p at *
      obtain ⟨fn, hfn⟩ : ∃ fn, fn = fl.length := ⟨_, rfl⟩
      have hro := hown
      obtain ⟨oa, oc, hou⟩ : ∃ a c, u7 = .slice a fl.length c := by
        obtain ⟨vs, h1, -⟩ := hown
        rcases h1.2 with ⟨e, hn0⟩ | ⟨g, cap, cur, e, -⟩
        · exact ⟨_, _, by rw [e, hn0]⟩
        · exact ⟨_, _, e⟩
      clear hro
      cases hr : roomyM p
      · obtain ⟨q1, q2, q3, q4⟩ := filled_given hr hmat
        rw [q1] at hrest
        rw [q4] at hrm
        rw [List.length_drop] at q2
        rw [List.drop_drop] at hrest q3
        have hw0 : p.words.length ≠ 0 := fun e => by unfold roomyM at hr; rw [e] at hr; simp at hr
        have hw0' : ((p.words.length : Int) == 0) = false := by simpa using hw0
        have wat : IntKind.i64.wrap ((at_ : Int) + p.words.length) = (at_ : Int) + p.words.length := IntWalk.i64_in _ (by omega)
        have Hrest := Lib.hid hrest
        have Hq3 := Lib.hid q3
        have Hrm := Lib.hid hrm
        generalize p.words.length = wn at *
        clear q1 q3 q4 hrest hmat hrm hr hw0 hou
        go_wp2_with fail
        refine (refRoomy_any _ _ _ _ _ _).mono ?_
        rintro e w2 ⟨rfl, hx⟩
        rw [hw0']
        replace c1 := hx.cell c1
        go_wp2
        go_roundw
        case rel => exact ⟨j + 1, at_ + wn, fl, by omega, by omega, by go_num, by go_num, hxr.trans hx, hown.ext hx, hfl, Hrest.out, Hq3.out, Hrm.out⟩
        case measure => simp [intOf]; omega
      · have hrm0 : 0 < (ns.drop fl.length).length := by
          rw [← hrm]
          simp [roomsM, hr]
        rw [List.length_drop] at hrm0
        have hfl' : fl.length < ns.length := by omega
        rw [List.drop_eq_getElem_cons hfl'] at hrest hmat hrm
        have hm3 := H3.out _ (List.getElem_mem hfl')
        obtain ⟨mb, mo, rfl, cm, -⟩ := SliceAt.get (hm.ext hxr) (i := fl.length) (by rw [hil]; exact hfl')
        have ce : (ints ns)[fl.length]'(by rw [hil]; exact hfl') = ((ns[fl.length] : Nat) : Int) := by simp [ints]
        rw [ce, Nat.mul_one] at cm
        generalize ns[fl.length] = m at *
        obtain ⟨q1, q2, q3, q4⟩ := filled_room hr hmat
        rw [q1] at hrest
        rw [q4, List.length_cons, List.length_cons] at hrm
        rw [List.length_drop] at q2
        rw [List.drop_drop] at hrest q3
        have hw0 : p.words.length = 0 := by unfold roomyM at hr; simpa using hr
        have hw0' : ((p.words.length : Int) == 0) = true := by rw [hw0]; rfl
        have wat : IntKind.i64.wrap ((at_ : Int) + m) = (at_ : Int) + m := IntWalk.i64_in _ (by omega)
        have lfl : (fl.length : Int) < (ns.length : Int) := by omega
        have hsl := ((hl.ext hxr).sliced at_ hat).take m (by omega)
        have Hrest := Lib.hid hrest
        have Hq3 := Lib.hid q3
        have Hrm := Lib.hid hrm
        have Hsl := Lib.hid hsl
        have t1 : (at_ : Int) ≤ (at_ : Int) + m := by omega
        have t2 : (at_ : Int) + m ≤ (lc : Int) := by omega
        have hlen : ((l.drop at_).take m).length = m := by rw [List.length_take, List.length_drop]; omega
        have Hlen := Lib.hid hlen
        have hszr := hxr.size
        generalize p.words.length = wn at *
        clear q1 q3 q4 hrest hmat hrm hr hw0 hsl ce hlen
        subst hou
        go_wp2_with fail
        refine (refRoomy_any _ _ _ _ _ _).mono ?_
        rintro e w2 ⟨rfl, hx⟩
        rw [hw0']
        replace c1 := hx.cell c1
        replace cm := hx.cell cm
        have zc := cell_lt c1
        have zm := cell_lt cm
        have rowE : RowW w2.heap.size [] (.slice (some ⟨w2.heap.size, 0, none⟩) 0 0) (w2.alloc (.cells #[] 9)) := World.ownsRow_made w2 #[] 0 (Nat.le_refl _) (by unfold maxLen; omega) rfl
        obtain ⟨vals, hv2, hv3⟩ := hown
        have hx2 := hxr.trans hx
        have Hv2 := Lib.hid hv2
        have Hv3 := Lib.hid hv3
        have tok1 : True := trivial
        have hsl2 : StrsAt (w2.alloc (.cells #[] 9)) (.slice (if lc = at_ then la else la.map fun x => x.add (at_ * 1)) m (lc - at_)) ((l.drop at_).take m) := StrsAt.ext (StrsAt.ext Hsl.out hx) (ext_alloc _ _)
        have Hsl2 := Lib.hid hsl2
        clear hv2 hv3 hsl2
        by_cases hm0 : m = 0
        · have hL0 : (l.drop at_).take m = [] := by rw [hm0, List.take_zero]
          have hnil : ∀ X n c, n = m → c ≤ 9223372036854775807 → StrsAt (w2.alloc (.cells #[] 9)) (.slice X n c) ((l.drop at_).take m) := fun X n c hn hc => by
            rw [hL0, hn, hm0]; exact ⟨X, c, rfl, Nat.zero_le _, hc, fun i hi => absurd hi (by simp)⟩
          have Hnil := Lib.hid hnil
          clear hnil hL0 hm0
          cases la with
          | none =>
            by_cases hc : lc = at_
            · obtain rfl : at_ = lc := hc.symm
              (go_wp2_with (at_builtin; first | (have _t := tok1; go_loud (refine wpList_append_strs rfl _ _ 25 rfl w2.heap.size i0 Tryz.underlying25 hi hz0 hz1 hz2 (.slice (some ⟨w2.heap.size, 0, none⟩) 0 0) [] rfl rowE _ rfl (((l.drop at_).take m)) ?_ (by first | (simp; done) | (simp; omega)) (by simp) ?_; (exact Hnil.out _ _ _ (by omega) (by omega)); intro v2 w3 hrow2 hgrow2 hblk2; have x3 : Ext w2 w3 := Ext.grown (ext_alloc _ _) hgrow2 (fun k hk => Nat.le_of_eq (Option.some.inj (show some w2.heap.size = some k from hk))); have own3 := Ext.owns Hv2.out (hx.trans x3); have hx3s := x3.size; have hx2s := hx.size; have hat := RowW.at_ hrow2 (fun s hs => strs_sz hl s (List.mem_of_mem_drop (List.mem_of_mem_take hs))); have hlt2 := hrow2.lt; obtain ⟨sa, sc, e2⟩ := rowW_shp hrow2; rw [List.nil_append, Hlen.out] at e2; subst e2; have Hat := Lib.hid hat; have Hlt2 := Lib.hid hlt2; clear hat hlt2 hrow2 hgrow2 hblk2); clear tok1) | (go_loud (refine wpList_append_own_at _ rfl _ _ 31 rfl W.heap.size 25 j0 (.slice none 0 0) 1 24 Tryz.underlying31 hj hj0 hj1 hj2 rfl (by decide) (.slice oa fl.length oc) fl.length vals rfl (World.ownsRow.alloc own3 _) ⟨w3.heap.size, 0, none⟩ 1 1 [.slice sa m sc] rfl rfl (cell_one_at (by simp [go_sem])) (by simp [Value.oneCell']) (by unfold maxLen; omega) (by omega) (by simp; omega) ?_; intro v' w4 hown' hgrow _ hblk))))
              (have x4 : Ext W w4 := Ext.grown ((hx2.trans x3).alloc _) hgrow (fun k hk => (own3.lt k hk).1); have hpush := rowFB_push (L := (l.drop at_).take m) Hv2.out Hv3.out hxr.size (hx.trans x3) ⟨sa, sc, (by rw [Hlen.out]), Hat.out, (fun ad e3 => (by have := Hlt2.out ad.block (by rw [e3]; rfl); omega))⟩ hown' hgrow (by simpa using hblk); go_roundw; (case rel => exact ⟨j + 1, at_ + m, fl ++ [(l.drop at_).take m], by omega, by omega, by go_num, by go_num, x4, hpush, by simp; omega, (by have := Hrest.out; rw [List.length_append, List.length_singleton, List.append_assoc]; exact this), (by have := Hq3.out; rw [List.length_append, List.length_singleton]; exact this), (by have := Hrm.out; rw [List.length_append, List.length_singleton]; omega)⟩); (case measure => simp [intOf]; omega))
            · (go_wp2_with (at_builtin; first | (have _t := tok1; go_loud (refine wpList_append_strs rfl _ _ 25 rfl w2.heap.size i0 Tryz.underlying25 hi hz0 hz1 hz2 (.slice (some ⟨w2.heap.size, 0, none⟩) 0 0) [] rfl rowE _ rfl (((l.drop at_).take m)) ?_ (by first | (simp; done) | (simp; omega)) (by simp) ?_; (exact Hnil.out _ _ _ (by omega) (by omega)); intro v2 w3 hrow2 hgrow2 hblk2; have x3 : Ext w2 w3 := Ext.grown (ext_alloc _ _) hgrow2 (fun k hk => Nat.le_of_eq (Option.some.inj (show some w2.heap.size = some k from hk))); have own3 := Ext.owns Hv2.out (hx.trans x3); have hx3s := x3.size; have hx2s := hx.size; have hat := RowW.at_ hrow2 (fun s hs => strs_sz hl s (List.mem_of_mem_drop (List.mem_of_mem_take hs))); have hlt2 := hrow2.lt; obtain ⟨sa, sc, e2⟩ := rowW_shp hrow2; rw [List.nil_append, Hlen.out] at e2; subst e2; have Hat := Lib.hid hat; have Hlt2 := Lib.hid hlt2; clear hat hlt2 hrow2 hgrow2 hblk2); clear tok1) | (go_loud (refine wpList_append_own_at _ rfl _ _ 31 rfl W.heap.size 25 j0 (.slice none 0 0) 1 24 Tryz.underlying31 hj hj0 hj1 hj2 rfl (by decide) (.slice oa fl.length oc) fl.length vals rfl (World.ownsRow.alloc own3 _) ⟨w3.heap.size, 0, none⟩ 1 1 [.slice sa m sc] rfl rfl (cell_one_at (by simp [go_sem])) (by simp [Value.oneCell']) (by unfold maxLen; omega) (by omega) (by simp; omega) ?_; intro v' w4 hown' hgrow _ hblk))))
              (have x4 : Ext W w4 := Ext.grown ((hx2.trans x3).alloc _) hgrow (fun k hk => (own3.lt k hk).1); have hpush := rowFB_push (L := (l.drop at_).take m) Hv2.out Hv3.out hxr.size (hx.trans x3) ⟨sa, sc, (by rw [Hlen.out]), Hat.out, (fun ad e3 => (by have := Hlt2.out ad.block (by rw [e3]; rfl); omega))⟩ hown' hgrow (by simpa using hblk); go_roundw; (case rel => exact ⟨j + 1, at_ + m, fl ++ [(l.drop at_).take m], by omega, by omega, by go_num, by go_num, x4, hpush, by simp; omega, (by have := Hrest.out; rw [List.length_append, List.length_singleton, List.append_assoc]; exact this), (by have := Hq3.out; rw [List.length_append, List.length_singleton]; exact this), (by have := Hrm.out; rw [List.length_append, List.length_singleton]; omega)⟩); (case measure => simp [intOf]; omega))
          | some ad =>
            by_cases hc : lc = at_
            · obtain rfl : at_ = lc := hc.symm
              (go_wp2_with (at_builtin; first | (have _t := tok1; go_loud (refine wpList_append_strs rfl _ _ 25 rfl w2.heap.size i0 Tryz.underlying25 hi hz0 hz1 hz2 (.slice (some ⟨w2.heap.size, 0, none⟩) 0 0) [] rfl rowE _ rfl (((l.drop at_).take m)) ?_ (by first | (simp; done) | (simp; omega)) (by simp) ?_; (exact Hnil.out _ _ _ (by omega) (by omega)); intro v2 w3 hrow2 hgrow2 hblk2; have x3 : Ext w2 w3 := Ext.grown (ext_alloc _ _) hgrow2 (fun k hk => Nat.le_of_eq (Option.some.inj (show some w2.heap.size = some k from hk))); have own3 := Ext.owns Hv2.out (hx.trans x3); have hx3s := x3.size; have hx2s := hx.size; have hat := RowW.at_ hrow2 (fun s hs => strs_sz hl s (List.mem_of_mem_drop (List.mem_of_mem_take hs))); have hlt2 := hrow2.lt; obtain ⟨sa, sc, e2⟩ := rowW_shp hrow2; rw [List.nil_append, Hlen.out] at e2; subst e2; have Hat := Lib.hid hat; have Hlt2 := Lib.hid hlt2; clear hat hlt2 hrow2 hgrow2 hblk2); clear tok1) | (go_loud (refine wpList_append_own_at _ rfl _ _ 31 rfl W.heap.size 25 j0 (.slice none 0 0) 1 24 Tryz.underlying31 hj hj0 hj1 hj2 rfl (by decide) (.slice oa fl.length oc) fl.length vals rfl (World.ownsRow.alloc own3 _) ⟨w3.heap.size, 0, none⟩ 1 1 [.slice sa m sc] rfl rfl (cell_one_at (by simp [go_sem])) (by simp [Value.oneCell']) (by unfold maxLen; omega) (by omega) (by simp; omega) ?_; intro v' w4 hown' hgrow _ hblk))))
              (have x4 : Ext W w4 := Ext.grown ((hx2.trans x3).alloc _) hgrow (fun k hk => (own3.lt k hk).1); have hpush := rowFB_push (L := (l.drop at_).take m) Hv2.out Hv3.out hxr.size (hx.trans x3) ⟨sa, sc, (by rw [Hlen.out]), Hat.out, (fun ad e3 => (by have := Hlt2.out ad.block (by rw [e3]; rfl); omega))⟩ hown' hgrow (by simpa using hblk); go_roundw; (case rel => exact ⟨j + 1, at_ + m, fl ++ [(l.drop at_).take m], by omega, by omega, by go_num, by go_num, x4, hpush, by simp; omega, (by have := Hrest.out; rw [List.length_append, List.length_singleton, List.append_assoc]; exact this), (by have := Hq3.out; rw [List.length_append, List.length_singleton]; exact this), (by have := Hrm.out; rw [List.length_append, List.length_singleton]; omega)⟩); (case measure => simp [intOf]; omega))
            · (go_wp2_with (at_builtin; first | (have _t := tok1; go_loud (refine wpList_append_strs rfl _ _ 25 rfl w2.heap.size i0 Tryz.underlying25 hi hz0 hz1 hz2 (.slice (some ⟨w2.heap.size, 0, none⟩) 0 0) [] rfl rowE _ rfl (((l.drop at_).take m)) ?_ (by first | (simp; done) | (simp; omega)) (by simp) ?_; (exact Hnil.out _ _ _ (by omega) (by omega)); intro v2 w3 hrow2 hgrow2 hblk2; have x3 : Ext w2 w3 := Ext.grown (ext_alloc _ _) hgrow2 (fun k hk => Nat.le_of_eq (Option.some.inj (show some w2.heap.size = some k from hk))); have own3 := Ext.owns Hv2.out (hx.trans x3); have hx3s := x3.size; have hx2s := hx.size; have hat := RowW.at_ hrow2 (fun s hs => strs_sz hl s (List.mem_of_mem_drop (List.mem_of_mem_take hs))); have hlt2 := hrow2.lt; obtain ⟨sa, sc, e2⟩ := rowW_shp hrow2; rw [List.nil_append, Hlen.out] at e2; subst e2; have Hat := Lib.hid hat; have Hlt2 := Lib.hid hlt2; clear hat hlt2 hrow2 hgrow2 hblk2); clear tok1) | (go_loud (refine wpList_append_own_at _ rfl _ _ 31 rfl W.heap.size 25 j0 (.slice none 0 0) 1 24 Tryz.underlying31 hj hj0 hj1 hj2 rfl (by decide) (.slice oa fl.length oc) fl.length vals rfl (World.ownsRow.alloc own3 _) ⟨w3.heap.size, 0, none⟩ 1 1 [.slice sa m sc] rfl rfl (cell_one_at (by simp [go_sem])) (by simp [Value.oneCell']) (by unfold maxLen; omega) (by omega) (by simp; omega) ?_; intro v' w4 hown' hgrow _ hblk))))
              (have x4 : Ext W w4 := Ext.grown ((hx2.trans x3).alloc _) hgrow (fun k hk => (own3.lt k hk).1); have hpush := rowFB_push (L := (l.drop at_).take m) Hv2.out Hv3.out hxr.size (hx.trans x3) ⟨sa, sc, (by rw [Hlen.out]), Hat.out, (fun ad e3 => (by have := Hlt2.out ad.block (by rw [e3]; rfl); omega))⟩ hown' hgrow (by simpa using hblk); go_roundw; (case rel => exact ⟨j + 1, at_ + m, fl ++ [(l.drop at_).take m], by omega, by omega, by go_num, by go_num, x4, hpush, by simp; omega, (by have := Hrest.out; rw [List.length_append, List.length_singleton, List.append_assoc]; exact this), (by have := Hq3.out; rw [List.length_append, List.length_singleton]; exact this), (by have := Hrm.out; rw [List.length_append, List.length_singleton]; omega)⟩); (case measure => simp [intOf]; omega))
        · have hlp : 0 < l.length := by omega
          obtain ⟨lb, lo, rfl, -⟩ := SliceAt.get hl hlp
          have hc : ¬ lc = at_ := by omega
          have hsl3 : StrsAt (w2.alloc (.cells #[] 9)) (.slice (some ⟨lb, lo + at_, none⟩) m (lc - at_)) ((l.drop at_).take m) := by
            have := Hsl2.out
            have e : (⟨lb, lo, none⟩ : Addr).add (at_ * 1) = ⟨lb, lo + at_, none⟩ := by unfold Addr.add; split <;> simp_all
            rw [if_neg hc, Option.map_some, e] at this
            exact this
          have Hsl3 := Lib.hid (fun n (hn : n = m) => (hn ▸ hsl3 : StrsAt (w2.alloc (.cells #[] 9)) (.slice (some ⟨lb, lo + at_, none⟩) n (lc - at_)) ((l.drop at_).take m)))
          clear hsl3
          (go_wp2_with (at_builtin; first | (have _t := tok1; go_loud (refine wpList_append_strs rfl _ _ 25 rfl w2.heap.size i0 Tryz.underlying25 hi hz0 hz1 hz2 (.slice (some ⟨w2.heap.size, 0, none⟩) 0 0) [] rfl rowE _ rfl (((l.drop at_).take m)) ?_ (by first | (simp; done) | (simp; omega)) (by simp) ?_; (exact Hsl3.out _ (by omega)); intro v2 w3 hrow2 hgrow2 hblk2; have x3 : Ext w2 w3 := Ext.grown (ext_alloc _ _) hgrow2 (fun k hk => Nat.le_of_eq (Option.some.inj (show some w2.heap.size = some k from hk))); have own3 := Ext.owns Hv2.out (hx.trans x3); have hx3s := x3.size; have hx2s := hx.size; have hat := RowW.at_ hrow2 (fun s hs => strs_sz hl s (List.mem_of_mem_drop (List.mem_of_mem_take hs))); have hlt2 := hrow2.lt; obtain ⟨sa, sc, e2⟩ := rowW_shp hrow2; rw [List.nil_append, Hlen.out] at e2; subst e2; have Hat := Lib.hid hat; have Hlt2 := Lib.hid hlt2; clear hat hlt2 hrow2 hgrow2 hblk2); clear tok1) | (go_loud (refine wpList_append_own_at _ rfl _ _ 31 rfl W.heap.size 25 j0 (.slice none 0 0) 1 24 Tryz.underlying31 hj hj0 hj1 hj2 rfl (by decide) (.slice oa fl.length oc) fl.length vals rfl (World.ownsRow.alloc own3 _) ⟨w3.heap.size, 0, none⟩ 1 1 [.slice sa m sc] rfl rfl (cell_one_at (by simp [go_sem])) (by simp [Value.oneCell']) (by unfold maxLen; omega) (by omega) (by simp; omega) ?_; intro v' w4 hown' hgrow _ hblk))))
          (have x4 : Ext W w4 := Ext.grown ((hx2.trans x3).alloc _) hgrow (fun k hk => (own3.lt k hk).1); have hpush := rowFB_push (L := (l.drop at_).take m) Hv2.out Hv3.out hxr.size (hx.trans x3) ⟨sa, sc, (by rw [Hlen.out]), Hat.out, (fun ad e3 => (by have := Hlt2.out ad.block (by rw [e3]; rfl); omega))⟩ hown' hgrow (by simpa using hblk); go_roundw; (case rel => exact ⟨j + 1, at_ + m, fl ++ [(l.drop at_).take m], by omega, by omega, by go_num, by go_num, x4, hpush, by simp; omega, (by have := Hrest.out; rw [List.length_append, List.length_singleton, List.append_assoc]; exact this), (by have := Hq3.out; rw [List.length_append, List.length_singleton]; exact this), (by have := Hrm.out; rw [List.length_append, List.length_singleton]; omega)⟩); (case measure => simp [intOf]; omega))
    · obtain rfl : j = f.parts.length := by omega
      rw [List.drop_length] at hrest
      rw [filledR, List.append_nil] at hrest
      have Hrest := Lib.hid hrest
      clear hrest hmat hrm
      go_wp2
      go_ret
      exact ⟨_, rfl, by rw [← Hrest.out]; exact hown.lower xW.size, xW.trans hxr⟩
end Go.Proofs.YtcamegaimleomaaGreat
