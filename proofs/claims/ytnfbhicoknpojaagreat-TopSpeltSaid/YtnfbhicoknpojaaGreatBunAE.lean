/-
  THE WAYS IN WHICH A LETTER IS OF A FORM, plain: how many words are in each part, one list of counts for each way, in their order.
  HOW THE WORDS OF A LETTER COME TO STAND IN SLOTS, plain: for what is left of the letter and of the slots, the first kind of mark with the fewest corrections from there on, and how many these are; and the marks.
  WHAT THE FUNCTIONS IN THE TABLE OF KINDS RETURN.
  A RANGE OVER A FUNCTION whose iterator has cells of its own, which it writes between two rounds: the list that it yields is known; the caller's invariant speaks of what was there when the loop began. No round leaves the loop.
  THE RULE FOR A REGION THAT DRAWS ITS ORDER, WITH A PIVOT: one operation with which each other one is in order (it waits for it, or is waited for), and that may turn more than the others do. Over any program.
  WHAT IS KEPT ACROSS A ROUND OF A LOOP OVER AN ITERATOR: all cells but those of some blocks, the loop's own variables.
-/
import Derived.Test.YtnfbhicoknpojaaGreatBunAD
import Derived.Test.YtnfbhicoknpojaaGreatBunAA
import Derived.RangeFuncNested
import Derived.RangeFuncBound
import Derived.RangeFuncLeaves
import Derived.TacticsInMore
import Derived.LoopIn
import Derived.OrdersIn
import Derived.OwnWalkIn
namespace Go.Proofs.YtnfbhicoknpojaaGreat
set_option linter.unusedSimpArgs false
set_option linter.unusedVariables false
set_option linter.unusedVariables false

def noSlot : Slot := ⟨ByteArray.empty, false⟩
/-- whether the first n words of a letter can be those of a part -/
def sizeOk (sl : List Slot) (left : List ByteArray) (n : Nat) : Bool :=
  decide (n ≤ left.length) && (decide (sl.length ≤ n) || (sl.getD n noSlot).free) && (List.range n).all fun i => takesM (sl.getD i noSlot) (left.getD i ByteArray.empty)
def updC (c : Nat → Int) (k : Nat) (v : Int) : Nat → Int := fun j => if j = k then v else c j
/-- what comes of the first k sizes of a part -/
def waysTo (step : Nat → List (Nat → Int)) (sl : List Slot) (left : List ByteArray) : Nat → List (Nat → Int)
  | 0 => []
  | k + 1 => waysTo step sl left k ++ if sizeOk sl left k then step k else []
def waysF : List (List Slot) → Nat → List ByteArray → (Nat → Int) → List (Nat → Int)
  | [], _, left, c => if left.length = 0 then [c] else []
  | sl :: r, k, left, c => waysTo (fun n => waysF r (k + 1) (left.drop n) (updC c k n)) sl left (sl.length + 1)
theorem waysTo_mono (step : Nat → List (Nat → Int)) (sl : List Slot) (left : List ByteArray) {k m : Nat} (h : k ≤ m) : waysTo step sl left k <+: waysTo step sl left m := by
  obtain ⟨d, rfl⟩ := Nat.exists_eq_add_of_le h
  clear h
  induction d with
  | zero => exact List.prefix_rfl
  | succ d ih => exact ih.trans ⟨_, rfl⟩
theorem waysTo_hit (step : Nat → List (Nat → Int)) (sl : List Slot) (left : List ByteArray) (k : Nat) (h : sizeOk sl left k = true) : waysTo step sl left (k + 1) = waysTo step sl left k ++ step k := by
  rw [waysTo, if_pos h]
theorem waysTo_miss (step : Nat → List (Nat → Int)) (sl : List Slot) (left : List ByteArray) (k : Nat) (h : sizeOk sl left k = false) : waysTo step sl left (k + 1) = waysTo step sl left k := by
  rw [waysTo, if_neg (by rw [h]; decide), List.append_nil]
theorem waysTo_mem {step : Nat → List (Nat → Int)} {sl : List Slot} {left : List ByteArray} {c : Nat → Int} : ∀ {k : Nat}, c ∈ waysTo step sl left k → ∃ n, n < k ∧ sizeOk sl left n = true ∧ c ∈ step n
  | 0, h => by simp [waysTo] at h
  | k + 1, h => by
    rw [waysTo] at h
    rcases List.mem_append.1 h with h | h
    · obtain ⟨n, h1, h2⟩ := waysTo_mem h
      exact ⟨n, by omega, h2⟩
    · by_cases hs : sizeOk sl left k = true
      · rw [if_pos hs] at h; exact ⟨k, by omega, hs, h⟩
      · rw [if_neg hs] at h; cases h
theorem sizeOk_le {sl : List Slot} {left : List ByteArray} {n : Nat} (h : sizeOk sl left n = true) : n ≤ left.length := by
  simp [sizeOk] at h; exact h.1.1
/-- what is counted is what there is -/
theorem waysF_fine : ∀ (ss : List (List Slot)) (k : Nat) (left : List ByteArray) (c d : Nat → Int), d ∈ waysF ss k left c → (∀ j, j < k → d j = c j) ∧ (∀ j, k + ss.length ≤ j → d j = c j) ∧ (∀ j, k ≤ j → j < k + ss.length → 0 ≤ d j ∧ d j ≤ left.length)
  | [], k, left, c, d, h => by
    unfold waysF at h
    split at h
    · simp only [List.mem_singleton] at h; subst h; exact ⟨fun _ _ => rfl, fun _ _ => rfl, fun j h1 h2 => by simp at h2; omega⟩
    · cases h
  | sl :: r, k, left, c, d, h => by
    unfold waysF at h
    obtain ⟨n, hn, hs, hd⟩ := waysTo_mem h
    obtain ⟨h1, h2, h3⟩ := waysF_fine r (k + 1) _ _ d hd
    have hle := sizeOk_le hs
    refine ⟨fun j hj => (h1 j (by omega)).trans (by simp [updC]; omega), fun j hj => (h2 j (by simp at hj; omega)).trans (by simp at hj; simp [updC]; omega), fun j hj hj2 => ?_⟩
    simp only [List.length_cons] at hj2
    by_cases e : j = k
    · subst e
      rw [h1 j (by omega)]
      simp only [updC, if_true]
      omega
    · have := h3 j (by omega) (by omega)
      simp only [List.length_drop] at this
      omega
theorem waysTo_len {step : Nat → List (Nat → Int)} {sl : List Slot} {left : List ByteArray} {N : Nat} (h : ∀ n, (step n).length ≤ N) : ∀ k, (waysTo step sl left k).length ≤ k * N
  | 0 => by simp [waysTo]
  | k + 1 => by
    have ih := waysTo_len (sl := sl) (left := left) h k
    have hk := h k
    rw [waysTo, List.length_append, Nat.succ_mul]
    split
    · omega
    · simp; omega
theorem waysF_len : ∀ (ss : List (List Slot)) (k : Nat) (left : List ByteArray) (c : Nat → Int), (∀ sl ∈ ss, sl.length ≤ 3) → (waysF ss k left c).length ≤ 4 ^ ss.length
  | [], k, left, c, _ => by unfold waysF; split <;> simp
  | sl :: r, k, left, c, h => by
    have h3 := h sl List.mem_cons_self
    have := waysTo_len (sl := sl) (left := left) (N := 4 ^ r.length) (step := fun n => waysF r (k + 1) (left.drop n) (updC c k n)) (fun n => waysF_len r (k + 1) _ _ fun s hs => h s (List.mem_cons_of_mem _ hs)) (sl.length + 1)
    rw [waysF, List.length_cons, Nat.pow_succ]
    refine Nat.le_trans this ?_
    rw [Nat.mul_comm]
    exact Nat.mul_le_mul_left _ (by omega)
/-- the ways of a form -/
def formWays (ps : List Part) (l : List ByteArray) : List (Nat → Int) := waysF (ps.map partSlotsM) 0 l (fun _ => 0)
/-- the first of some things that none comes before, and how many there are -/
def pickB {α : Type} (bf : α → α → Bool) (z : α) (xs : List α) : α × Nat := xs.foldl (fun s x => (if s.2 = 0 ∨ bf x s.1 = true then x else s.1, s.2 + 1)) (z, 0)
theorem pickB_snoc {α : Type} (bf : α → α → Bool) (z : α) (xs : List α) (x : α) : pickB bf z (xs ++ [x]) = (if (pickB bf z xs).2 = 0 ∨ bf x (pickB bf z xs).1 = true then x else (pickB bf z xs).1, (pickB bf z xs).2 + 1) := by
  unfold pickB
  rw [List.foldl_append]
  rfl
theorem snoc_ind {α : Type} {p : List α → Prop} (h0 : p []) (h1 : ∀ xs x, p xs → p (xs ++ [x])) (xs : List α) : p xs := by
  have h : ∀ ys : List α, p ys.reverse := by
    intro ys
    induction ys with
    | nil => exact h0
    | cons y ys ih => rw [List.reverse_cons]; exact h1 _ _ ih
  have := h xs.reverse
  rwa [List.reverse_reverse] at this
theorem pickB_many {α : Type} (bf : α → α → Bool) (z : α) (xs : List α) : (pickB bf z xs).2 = xs.length := by
  refine snoc_ind (p := fun xs => (pickB bf z xs).2 = xs.length) rfl (fun xs x ih => ?_) xs
  show (pickB bf z (xs ++ [x])).2 = (xs ++ [x]).length
  rw [pickB_snoc, List.length_append]; simp [ih]
theorem pickB_mem {α : Type} (bf : α → α → Bool) (z : α) (xs : List α) : (pickB bf z xs).1 = z ∧ xs = [] ∨ (pickB bf z xs).1 ∈ xs := by
  refine snoc_ind (p := fun xs => (pickB bf z xs).1 = z ∧ xs = [] ∨ (pickB bf z xs).1 ∈ xs) (.inl ⟨rfl, rfl⟩) (fun xs x ih => .inr ?_) xs
  rw [pickB_snoc]
  by_cases h : (pickB bf z xs).2 = 0 ∨ bf x (pickB bf z xs).1 = true
  · rw [if_pos h]; simp
  · rw [if_neg h]
    rcases ih with ⟨-, rfl⟩ | ih
    · exact absurd (.inl rfl) h
    · exact List.mem_append_left _ ih
end Go.Proofs.YtnfbhicoknpojaaGreat

namespace Go.Proofs.YtnfbhicoknpojaaGreat
set_option linter.unusedSimpArgs false
set_option linter.unusedVariables false
set_option linter.unusedVariables false

/-- a choice: which kind, and how many corrections -/
abbrev Ch := Nat × Nat
def fewCh (a b : Ch) : Bool := decide (a.2 < b.2)
def pickC (l : List Ch) : Ch := (pickB fewCh (0, 0) l).1
def lastRow : List Slot → List Ch
  | [] => [(0, 0)]
  | s :: ss => pickC ([(3, 1 + ((lastRow ss).headD (0, 0)).2)] ++ if s.free then [(4, ((lastRow ss).headD (0, 0)).2)] else []) :: lastRow ss
def nextRow (x : ByteArray) : List Slot → List Ch → List Ch
  | [], below => [pickC [(2, 1 + (below.headD (0, 0)).2)]]
  | s :: ss, below => pickC ([if takesM s x then (0, (below.tail.headD (0, 0)).2) else (1, 1 + (below.tail.headD (0, 0)).2), (2, 1 + (below.headD (0, 0)).2), (3, 1 + ((nextRow x ss below.tail).headD (0, 0)).2)] ++ if s.free then [(4, ((nextRow x ss below.tail).headD (0, 0)).2)] else []) :: nextRow x ss below.tail
def rowM : List ByteArray → List Slot → List Ch
  | [], ss => lastRow ss
  | x :: ws, ss => nextRow x ss (rowM ws ss)
/-- the choice for what is left -/
def costM (ws : List ByteArray) (ss : List Slot) : Ch := (rowM ws ss).headD (0, 0)
theorem rowM_ne (ws : List ByteArray) (ss : List Slot) : rowM ws ss ≠ [] := by
  cases ws with
  | nil => cases ss <;> simp [rowM, lastRow]
  | cons x ws => cases ss <;> simp [rowM, nextRow]
theorem rowM_tail (ws : List ByteArray) (s : Slot) (ss : List Slot) : (rowM ws (s :: ss)).tail = rowM ws ss := by
  induction ws with
  | nil => rfl
  | cons x ws ih => show nextRow x ss (rowM ws (s :: ss)).tail = _; rw [ih]; rfl
theorem costM_end : costM [] [] = (0, 0) := rfl
theorem costM_put (s : Slot) (ss : List Slot) : costM [] (s :: ss) = pickC ([(3, 1 + (costM [] ss).2)] ++ if s.free then [(4, (costM [] ss).2)] else []) := rfl
theorem costM_drop (x : ByteArray) (ws : List ByteArray) : costM (x :: ws) [] = pickC [(2, 1 + (costM ws []).2)] := rfl
theorem costM_all (x : ByteArray) (ws : List ByteArray) (s : Slot) (ss : List Slot) :
    costM (x :: ws) (s :: ss) = pickC ([if takesM s x then (0, (costM ws ss).2) else (1, 1 + (costM ws ss).2), (2, 1 + (costM ws (s :: ss)).2), (3, 1 + (costM (x :: ws) ss).2)] ++ if s.free then [(4, (costM (x :: ws) ss).2)] else []) := by
  show (nextRow x (s :: ss) (rowM ws (s :: ss))).headD (0, 0) = _
  rw [nextRow, rowM_tail]
  rfl
/-- how many words, slots and corrections each kind takes, and whether it writes -/
def kW : Nat → Nat
  | 0 | 1 | 2 => 1
  | _ => 0
def kS : Nat → Nat
  | 2 => 0
  | _ => 1
def kC : Nat → Nat
  | 1 | 2 | 3 => 1
  | _ => 0
def kWr : Nat → Bool
  | 1 | 3 => true
  | _ => false
/-- whether it can be done, so that these words come to these slots -/
def canM' : Nat → List ByteArray → List Slot → Bool
  | 0, ws, ss => takesM (ss.headD noSlot) (ws.headD ByteArray.empty)
  | 1, ws, ss => !takesM (ss.headD noSlot) (ws.headD ByteArray.empty)
  | 4, _, ss => (ss.headD noSlot).free
  | _, _, _ => true
/-- what can be done by one kind at a place, if what is found is F -/
def choiceK (F : Nat → Nat → Option Ch) (ws : List ByteArray) (ss : List Slot) (i j k : Nat) : List Ch :=
  match F (i + kW k) (j + kS k) with
  | none => []
  | some b => if canM' k (ws.drop i) (ss.drop j) then [(k, kC k + b.2)] else []
def choicesTo (F : Nat → Nat → Option Ch) (ws : List ByteArray) (ss : List Slot) (i j : Nat) : Nat → List Ch
  | 0 => []
  | k + 1 => choicesTo F ws ss i j k ++ choiceK F ws ss i j k
def choicesM (F : Nat → Nat → Option Ch) (ws : List ByteArray) (ss : List Slot) (i j : Nat) : List Ch := choicesTo F ws ss i j 5
/-- the choice at a place -/
def valM (ws : List ByteArray) (ss : List Slot) (i j : Nat) : Ch := costM (ws.drop i) (ss.drop j)
/-- a place at which all that can be done is found gets what is due -/
theorem choices_val (F : Nat → Nat → Option Ch) (ws : List ByteArray) (ss : List Slot) (i j : Nat) (hi : i ≤ ws.length) (hj : j ≤ ss.length)
    (hF : ∀ a b, (i < a ∧ j ≤ b ∨ i ≤ a ∧ j < b) → F a b = if a ≤ ws.length ∧ b ≤ ss.length then some (valM ws ss a b) else none) : pickC (choicesM F ws ss i j) = valM ws ss i j := by
  have e1 := hF (i + 1) (j + 1) (by omega)
  have e2 := hF (i + 1) j (by omega)
  have e3 := hF i (j + 1) (by omega)
  have hd : choicesM F ws ss i j = choiceK F ws ss i j 0 ++ choiceK F ws ss i j 1 ++ choiceK F ws ss i j 2 ++ choiceK F ws ss i j 3 ++ choiceK F ws ss i j 4 := by simp [choicesM, choicesTo]
  rw [hd]
  unfold choiceK
  simp only [kW, kS, Nat.add_zero, e1, e2, e3]
  unfold valM
  by_cases h1 : i < ws.length
  · have d1 : ws.drop i = ws[i] :: ws.drop (i + 1) := List.drop_eq_getElem_cons h1
    by_cases h2 : j < ss.length
    · have d2 : ss.drop j = ss[j] :: ss.drop (j + 1) := List.drop_eq_getElem_cons h2
      rw [if_pos (by omega), if_pos (by omega), if_pos (by omega)]
      simp only [d1, d2, costM_all, canM', List.headD_cons, kC]
      congr 1
      cases takesM ss[j] ws[i] <;> cases (ss[j]).free <;> simp
    · have d2 : ss.drop j = [] := List.drop_eq_nil_of_le (by omega)
      have d3 : ss.drop (j + 1) = [] := List.drop_eq_nil_of_le (by omega)
      rw [if_neg (by omega), if_pos (by omega), if_neg (by omega)]
      simp only [d1, d2, d3, costM_drop, canM', kC]
      congr 1
  · have d1 : ws.drop i = [] := List.drop_eq_nil_of_le (by omega)
    by_cases h2 : j < ss.length
    · have d2 : ss.drop j = ss[j] :: ss.drop (j + 1) := List.drop_eq_getElem_cons h2
      rw [if_neg (by omega), if_neg (by omega), if_pos (by omega)]
      simp only [d1, d2, costM_put, canM', List.headD_cons, kC]
      congr 1
      cases (ss[j]).free <;> simp
    · have d2 : ss.drop j = [] := List.drop_eq_nil_of_le (by omega)
      rw [if_neg (by omega), if_neg (by omega), if_neg (by omega)]
      simp only [d1, d2, costM_end]
      rfl
/-- the fewest corrections are no more than all that is left -/
theorem pickC_le (l : List Ch) (x : Ch) (h : x ∈ l) : (pickC l).2 ≤ x.2 := by
  unfold pickC
  revert h
  refine snoc_ind (p := fun l => x ∈ l → (pickB fewCh (0, 0) l).1.2 ≤ x.2) (by simp) (fun l y ih h => ?_) l
  rw [pickB_snoc, pickB_many]
  by_cases hc : l.length = 0 ∨ fewCh y (pickB fewCh (0, 0) l).1 = true
  · rw [if_pos hc]
    rcases List.mem_append.1 h with h | h
    · rcases hc with hc | hc
      · rw [List.eq_nil_of_length_eq_zero hc] at h; cases h
      · have := ih h
        simp [fewCh] at hc
        show y.2 ≤ x.2
        omega
    · simp at h; subst h; exact Nat.le_refl _
  · rw [if_neg hc]
    rcases List.mem_append.1 h with h | h
    · exact ih h
    · simp at h; subst h
      simp [fewCh] at hc
      exact hc.2
theorem pickC_mem (l : List Ch) (h : l ≠ []) : pickC l ∈ l := by
  rcases pickB_mem fewCh (0, 0) l with ⟨-, e⟩ | e
  · exact absurd e h
  · exact e
theorem costM_le : ∀ (ws : List ByteArray) (ss : List Slot), (costM ws ss).2 ≤ ws.length + ss.length
  | [], [] => by rw [costM_end]; exact Nat.zero_le _
  | [], s :: ss => by
    have ih := costM_le [] ss
    have := pickC_le ([(3, 1 + (costM [] ss).2)] ++ if s.free then [(4, (costM [] ss).2)] else []) (3, 1 + (costM [] ss).2) (by simp)
    rw [costM_put]
    simp only [List.length_nil, List.length_cons] at *
    omega
  | x :: ws, [] => by
    have ih := costM_le ws []
    have := pickC_le [(2, 1 + (costM ws []).2)] (2, 1 + (costM ws []).2) (by simp)
    rw [costM_drop]
    simp only [List.length_nil, List.length_cons] at *
    omega
  | x :: ws, s :: ss => by
    have ih := costM_le ws (s :: ss)
    have := pickC_le ([if takesM s x then (0, (costM ws ss).2) else (1, 1 + (costM ws ss).2), (2, 1 + (costM ws (s :: ss)).2), (3, 1 + (costM (x :: ws) ss).2)] ++ if s.free then [(4, (costM (x :: ws) ss).2)] else []) (2, 1 + (costM ws (s :: ss)).2) (by simp)
    rw [costM_all]
    simp only [List.length_cons] at *
    omega
/-- what is done first can be done -/
theorem costM_which (ws : List ByteArray) (ss : List Slot) (h : 0 < ws.length + ss.length) : (costM ws ss).1 ≤ 4 ∧ kW (costM ws ss).1 ≤ ws.length ∧ kS (costM ws ss).1 ≤ ss.length ∧ 0 < kW (costM ws ss).1 + kS (costM ws ss).1 ∧ canM' (costM ws ss).1 ws ss = true ∧ (costM ws ss).2 = kC (costM ws ss).1 + (costM (ws.drop (kW (costM ws ss).1)) (ss.drop (kS (costM ws ss).1))).2 := by
  have key : ∀ l : List Ch, l ≠ [] → pickC l = costM ws ss → (∀ c ∈ l, c.1 ≤ 4 ∧ kW c.1 ≤ ws.length ∧ kS c.1 ≤ ss.length ∧ 0 < kW c.1 + kS c.1 ∧ canM' c.1 ws ss = true ∧ c.2 = kC c.1 + (costM (ws.drop (kW c.1)) (ss.drop (kS c.1))).2) → _ := fun l hl e hc => by
    have := hc _ (pickC_mem l hl)
    rwa [e] at this
  cases ws with
  | nil =>
    cases ss with
    | nil => simp at h
    | cons s ss =>
      refine key _ (by simp) (costM_put s ss).symm ?_
      intro c hc
      cases hf : s.free <;> simp [hf] at hc
      · subst hc; simp [kW, kS, kC, canM']
      · rcases hc with rfl | rfl <;> simp [kW, kS, kC, canM', hf]
  | cons x ws =>
    cases ss with
    | nil =>
      refine key _ (by simp) (costM_drop x ws).symm ?_
      intro c hc
      simp at hc
      subst hc; simp [kW, kS, kC, canM']
    | cons s ss =>
      refine key _ (by simp) (costM_all x ws s ss).symm ?_
      intro c hc
      cases ht : takesM s x <;> cases hf : s.free <;> simp [hf, ht] at hc
      · rcases hc with rfl | rfl | rfl <;> simp [kW, kS, kC, canM', ht]
      · rcases hc with rfl | rfl | rfl | rfl <;> simp [kW, kS, kC, canM', hf, ht]
      · rcases hc with rfl | rfl | rfl <;> simp [kW, kS, kC, canM', ht]
      · rcases hc with rfl | rfl | rfl | rfl <;> simp [kW, kS, kC, canM', hf, ht]
/-- the first marks with the fewest corrections -/
def marksF : Nat → List ByteArray → List Slot → List Mark
  | 0, _, _ => []
  | n + 1, ws, ss => if ws.length + ss.length = 0 then [] else
    ⟨((costM ws ss).1 : Nat), if kWr (costM ws ss).1 then (ss.headD noSlot).word else ByteArray.empty⟩ :: marksF n (ws.drop (kW (costM ws ss).1)) (ss.drop (kS (costM ws ss).1))
def marksM (ws : List ByteArray) (ss : List Slot) : List Mark := marksF (ws.length + ss.length) ws ss
end Go.Proofs.YtnfbhicoknpojaaGreat

namespace Go.Proofs.YtnfbhicoknpojaaGreat
set_option linter.unusedSimpArgs false
set_option linter.unusedVariables false
open Go.RowKit
set_option linter.unusedVariables false

theorem always_any (u v : Value) (w : World) : Calls Tryz.prog 120 #[u, v] w fun e w' => e = .returned (.bool true) ∧ Ext w w' := by
  go_enter Tryz.func120, Tryz.ntmps120
  go_wp2
  go_ret
  exact ⟨rfl, (by first | (with_reducible exact Ext.refl _) | (with_reducible assumption) | (show Below _ _ _; go_grown; done))⟩
theorem stays_any (a : Option Addr) (n c : Nat) (v : Value) (w : World) : Calls Tryz.prog 121 #[.slice a n c, v] w fun e w' => e = .returned (.slice a n c) ∧ Ext w w' := by
  go_enter Tryz.func121, Tryz.ntmps121
  go_wp2
  go_ret
  exact ⟨rfl, (by first | (with_reducible exact Ext.refl _) | (with_reducible assumption) | (show Below _ _ _; go_grown; done))⟩
theorem goes_any (u v : Value) (w : World) : Calls Tryz.prog 122 #[u, v] w fun e w' => e = .returned (.slice none 0 0) ∧ Ext w w' := by
  go_enter Tryz.func122, Tryz.ntmps122
  go_wp2
  go_ret
  exact ⟨rfl, (by first | (with_reducible exact Ext.refl _) | (with_reducible assumption) | (show Below _ _ _; go_grown; done))⟩
theorem comes_any (u : Value) (s : ByteArray) (hs : s.size ≤ 9223372036854775807) (w : World) : Calls Tryz.prog 123 #[u, .string s] w fun e w' => (∃ g, e = .returned (.slice (some ⟨g, 0, none⟩) 1 1) ∧ StrsAt w' (.slice (some ⟨g, 0, none⟩) 1 1) [s]) ∧ Ext w w' := by
  go_enter Tryz.func123, Tryz.ntmps123
  go_wp2
  go_ret
  refine ⟨⟨_, rfl, _, _, rfl, by simp, by decide, fun i hi => ⟨_, _, rfl, ?_⟩⟩, (by first | (with_reducible exact Ext.refl _) | (with_reducible assumption) | (show Below _ _ _; go_grown; done))⟩
  obtain rfl : i = 0 := by simp at hi; omega
  exact ⟨by simp [go_sem], hs⟩
theorem slot_head {w : World} {v : Value} {ss : List Slot} (h : SlotsAt w v ss) (h0 : 0 < ss.length) : ∃ b o c, v = .slice (some ⟨b, o, none⟩) ss.length c ∧ ss.length ≤ c ∧ w.cell? ⟨b, o, none⟩ = some (.string (ss.headD noSlot).word) ∧ w.cell? ⟨b, o + 1, none⟩ = some (.bool (ss.headD noSlot).free) := by
  obtain ⟨a, c, rfl, hc, -⟩ := h.shape
  obtain ⟨b, o, rfl, h1, h2, -⟩ := h.get h0
  cases ss with
  | nil => simp at h0
  | cons s ss => exact ⟨b, o, c, rfl, hc, by simpa using h1, by simpa using h2⟩
theorem word_head {w : World} {v : Value} {ws : List ByteArray} (h : StrsAt w v ws) (h0 : 0 < ws.length) : ∃ b o c, v = .slice (some ⟨b, o, none⟩) ws.length c ∧ ws.length ≤ c ∧ w.cell? ⟨b, o, none⟩ = some (.string (ws.headD ByteArray.empty)) := by
  obtain ⟨a, c, rfl, hc, -⟩ := h.shape
  obtain ⟨b, o, rfl, h1, -⟩ := h.get h0
  cases ws with
  | nil => simp at h0
  | cons s ws => exact ⟨b, o, c, rfl, hc, by simpa using h1⟩
set_option maxHeartbeats 1000000 in
set_option maxRecDepth 100000 in
theorem keepCan_any (u v : Value) (ws : List ByteArray) (ss : List Slot) (w : World) (hu : StrsAt w u ws) (hv : SlotsAt w v ss) (h1 : 0 < ws.length) (h2 : 0 < ss.length) :
    Calls Tryz.prog 124 #[u, v] w fun e w' => e = .returned (.bool (canM' 0 ws ss)) ∧ Ext w w' := by
  obtain ⟨b, o, c, rfl, hc, c0, c1⟩ := slot_head hv h2
  obtain ⟨b', o', c', rfl, hc', c2⟩ := word_head hu h1
  have k1 : (0 : Int) < (ws.length : Int) := by omega
  have k2 : (0 : Int) < (ss.length : Int) := by omega
  have hcan : canM' 0 ws ss = takesM (ss.headD noSlot) (ws.headD ByteArray.empty) := rfl
  rw [hcan]
  generalize ss.headD noSlot = s at *
  generalize ws.headD ByteArray.empty = x at *
  have ht := fun w => takes_any s x w
  unfold slotV at ht
  go_enter Tryz.func124, Tryz.ntmps124
  go_wp2_with fail
  apply Facts.wp_region [.val _, .val _, .val _, .val _, .val _, .val _, .val (.bool (takesM s x)), .val _] (by kernel_rfl) (by kernel_rfl) trivial ?main
  case main =>
    iterate 6 (refine ⟨fun w1 hx hh => ?_, ?_⟩; focus (clear hh; have e0 := hx.cell c0; have e1 := hx.cell c1; have e2 := hx.cell c2; go_simp; first | exact ⟨Ext.refl _, rfl⟩ | exact Ext.refl _))
    refine ⟨fun w1 hx hh => ?_, ?_⟩
    · clear hh
      go_simp
      refine (ht _).mono ?_
      rintro e w' ⟨rfl, hx2⟩
      exact ⟨_, rfl, hx2, rfl⟩
    iterate 1 (refine ⟨fun w1 hx hh => ?_, ?_⟩; focus (clear hh; skip; go_simp; first | exact ⟨Ext.refl _, rfl⟩ | exact Ext.refl _))
    intro w1 hx1 hh
    clear hh
    go_simp
    go_wp2
    go_ret
    exact ⟨rfl, hx1⟩
set_option maxHeartbeats 1000000 in
set_option maxRecDepth 100000 in
theorem turnCan_any (u v : Value) (ws : List ByteArray) (ss : List Slot) (w : World) (hu : StrsAt w u ws) (hv : SlotsAt w v ss) (h1 : 0 < ws.length) (h2 : 0 < ss.length) :
    Calls Tryz.prog 126 #[u, v] w fun e w' => e = .returned (.bool (canM' 1 ws ss)) ∧ Ext w w' := by
  obtain ⟨b, o, c, rfl, hc, c0, c1⟩ := slot_head hv h2
  obtain ⟨b', o', c', rfl, hc', c2⟩ := word_head hu h1
  have k1 : (0 : Int) < (ws.length : Int) := by omega
  have k2 : (0 : Int) < (ss.length : Int) := by omega
  have hcan : canM' 1 ws ss = !takesM (ss.headD noSlot) (ws.headD ByteArray.empty) := rfl
  rw [hcan]
  generalize ss.headD noSlot = s at *
  generalize ws.headD ByteArray.empty = x at *
  have ht := fun w => takes_any s x w
  unfold slotV at ht
  go_enter Tryz.func126, Tryz.ntmps126
  go_wp2_with fail
  apply Facts.wp_region [.val _, .val _, .val _, .val _, .val _, .val _, .val (.bool (takesM s x)), .val (.bool !takesM s x), .val _] (by kernel_rfl) (by kernel_rfl) trivial ?main
  case main =>
    iterate 6 (refine ⟨fun w1 hx hh => ?_, ?_⟩; focus (clear hh; have e0 := hx.cell c0; have e1 := hx.cell c1; have e2 := hx.cell c2; go_simp; first | exact ⟨Ext.refl _, rfl⟩ | exact Ext.refl _))
    refine ⟨fun w1 hx hh => ?_, ?_⟩
    · clear hh
      go_simp
      refine (ht _).mono ?_
      rintro e w' ⟨rfl, hx2⟩
      exact ⟨_, rfl, hx2, rfl⟩
    iterate 2 (refine ⟨fun w1 hx hh => ?_, ?_⟩; focus (clear hh; skip; go_simp; first | exact ⟨Ext.refl _, rfl⟩ | exact Ext.refl _))
    intro w1 hx1 hh
    clear hh
    go_simp
    go_wp2
    go_ret
    exact ⟨rfl, hx1⟩
set_option maxRecDepth 100000 in
theorem passCan_any (u v : Value) (ss : List Slot) (w : World) (hv : SlotsAt w v ss) (h2 : 0 < ss.length) :
    Calls Tryz.prog 127 #[u, v] w fun e w' => e = .returned (.bool (ss.headD noSlot).free) ∧ Ext w w' := by
  obtain ⟨b, o, c, rfl, hc, c0, c1⟩ := slot_head hv h2
  have k2 : (0 : Int) < (ss.length : Int) := by omega
  generalize ss.headD noSlot = s at *
  go_enter Tryz.func127, Tryz.ntmps127
  go_wp2
  go_ret
  exact ⟨rfl, (by first | (with_reducible exact Ext.refl _) | (with_reducible assumption) | (show Below _ _ _; go_grown; done))⟩
end Go.Proofs.YtnfbhicoknpojaaGreat

namespace Go.Proofs.YtnfbhicoknpojaaGreat
set_option linter.unusedSimpArgs false
set_option linter.unusedVariables false
open Go.RowKit
set_option linter.unusedVariables false

/-- AN ITERATOR THAT YIELDS JUST THESE, and may turn whatever has been laid since its call began; a round keeps what Kp says. -/
def SeqOwn {α : Type} (n : Nat) (P : Program) (g : Nat) (lb : Array Value) (encs : α → Array Value) (Kp : World → World → Prop) (xs : List α) (w : World) : Prop :=
  ∀ (l : Nat) (J : List α → World → Prop) (W : World), Below w.heap.size w W → (∀ s X Y, Below W.heap.size X Y → J s X → J s Y) →
    (∀ pre x W1, J pre W1 → pre ++ [x] <+: xs → YieldAt Fence.wide (n - 1) P l (encs x) W1 fun e W' => e = .returned (.bool true) ∧ J (pre ++ [x]) W' ∧ Kp W1 W') →
    J [] W → CallsIn Fence.wide n P g (#[.func (.yield l) #[] #[]] ++ lb) W fun e W' => (∃ v, e = .returned v) ∧ J xs W'

/-- how a round ends: it goes on -/
def goesOn {α : Type} (B : Nat) (Kp : World → World → Prop) (I : List α → World → Prop) (s : List α) (W : World) : Exit → Act → World → Prop
  | .normal, _, W' => KeepsFrom B W W' ∧ Kp W W' ∧ I s W'
  | _, _, _ => False

theorem below_put {B : Nat} {A : World} {l : Nat} {o : Obj} (h : B ≤ l) : Below B A (A.putObj l o) :=
  ⟨rfl, rfl, rfl, by simp [World.putObj], fun k hk => World.putObj_heap_other (by omega)⟩

theorem wpIn_seqOwn {P : Program} {α : Type} {n : Nat} {w : World} {g : Operand} {ps : Array Tmp} {assign body : Code} {Q : Exit → Act → World → Prop} {a : Act} (h1 : 1 ≤ n)
    {gf : Nat} {lb : Array Value} (hg : a.eval g = .func (.func gf) #[] lb) (eg : ∀ args w, (callFunc gf args).run P w = .ok (.enter gf args) w)
    {encs : α → Array Value} {Kp : World → World → Prop} {xs : List α} {w0 : World} (hseq : SeqOwn (n - 1) P gf lb encs Kp xs w0)
    (hKt : ∀ {A B C : World}, Kp A B → Kp B C → Kp A C) (hKb : ∀ (W : World) (l : Nat) (o o' : Obj), w.heap.size ≤ l → W.heap[l]? = some o → o.isCells = false → o.isWalk = false → Kp W (W.putObj l o')) (hb0 : Below w0.heap.size w0 w) (hps : ∀ x, (encs x).size = ps.size)
    (I : List α → World → Prop) (hI : ∀ s A B, Below w.heap.size A B → I s A → I s B) (h0 : I [] w) (Ax : α → Act → World → Prop) (hAx : ∀ x a' (A : World) l o', w.heap.size ≤ l → (∃ o, A.heap[l]? = some o ∧ o.isCells = false) → Ax x a' A → Ax x a' (A.putObj l o'))
    (hassign : ∀ (l : Nat) (pre : List α) (x : α) (W : World) (K : Act → World → Prop), I pre W → (∀ a' W', KeepsFrom w.heap.size W W' → Kp W W' → I pre W' → Ax x a' W' → K a' W') →
      assign.wpIn (Fence.wide.inRound l) (n - 1 - 1) P (Exit.then K (fun _ _ _ => False)) { tmps := (ps.zip (encs x)).foldl (fun t (p, v) => t.setIfInBounds p v) a.tmps, defers := [] } W)
    (hbody : ∀ (l : Nat) (pre : List α) (x : α) (a' : Act) (W : World), I pre W → Ax x a' W → pre ++ [x] <+: xs → body.wpIn (Fence.wide.inRound l) (n - 1 - 1) P (goesOn w.heap.size Kp I (pre ++ [x]) W) a' W)
    (hdone : ∀ (D : Nat) (W : World), w.heap.size ≤ D → I xs W → W.heap[D]? = some (.deferred (some [])) → Q .normal { a with defers := { target := .collected D, args := #[] } :: a.defers } W) :
    (Code.rangeFunc g ps assign body).wpIn Fence.wide n P Q a w := by
  refine wpIn_rangeFunc fun fn hfn => ?_
  let rec_ : LoopState → Option Code → Loop := fun st pe => { state := st, pending := pe, fn, tmps := a.tmps, params := ps, assign, body, defers := w.heap.size }
  have hrec : rec_ = fun st pe => { state := st, pending := pe, fn, tmps := a.tmps, params := ps, assign, body, defers := w.heap.size } := rfl
  clear_value rec_
  obtain ⟨W1, hW1⟩ : ∃ W1, (w.alloc (.deferred (some []))).alloc (.loop (rec_ .ready none)) = W1 := ⟨_, rfl⟩
  have z1 : W1.heap.size = w.heap.size + 1 + 1 := by rw [← hW1]; simp
  have hB1 : Below w.heap.size w W1 := by rw [← hW1]; exact ((Below.refl _ w).alloc (Nat.le_refl _) _).alloc (by simp) _
  have hL1 : W1.heap[w.heap.size + 1]? = some (.loop (rec_ .ready none)) := by
    have := World.alloc_heap_new (w.alloc (.deferred (some []))) (.loop (rec_ .ready none))
    rw [World.size_alloc, hW1] at this; exact this
  have hK1 : W1.heap[w.heap.size]? = some (.deferred (some [])) := by
    rw [← hW1]; exact (Below.heap_alloc _ _ _ (by simp)).trans (World.alloc_heap_new w _)
  -- what the law itself knows between two rounds
  let J : List α → World → Prop := fun pre W => I pre W ∧ W.heap[w.heap.size + 1]? = some (.loop (rec_ .ready none)) ∧ W.heap[w.heap.size]? = some (.deferred (some []))
  have hJ : ∀ s X Y, Below W1.heap.size X Y → J s X → J s Y := fun s X Y hx h =>
    ⟨hI s X Y (hx.mono (by omega)) h.1, (hx.block _ (by omega)).trans h.2.1, (hx.block _ (by omega)).trans h.2.2⟩
  refine ⟨w.heap.size + 1, [{ target := .collected w.heap.size, args := #[] }], W1, { target := .fn (.func gf) lb, args := #[.func (.yield (w.heap.size + 1)) #[] #[]] }, W1, gf,
    #[.func (.yield (w.heap.size + 1)) #[] #[]] ++ lb, W1, ?_, ?_, ?_, ?_, fun _ => h1, ?_⟩
  · rw [← hW1, hrec]; exact run_enterLoop_outer _ _ _ _ _
  · simp only [resolve, hg]; simp [go_sem]
  · exact fun f' hf' => trivial
  · simp [invoke, go_sem, eg]
  refine (hseq (w.heap.size + 1) J W1 (hb0.trans (hB1.mono hb0.size)) hJ ?round ⟨hI _ _ _ hB1 h0, hL1, hK1⟩).mono ?_
  case round =>
    rintro pre x W ⟨hi, hl, hk⟩ hpre
    have hy := run_yield (P := P) (args := encs x) hl (by rw [hrec]; exact hps x)
    rw [hrec] at hy
    refine ⟨fn, _, assign, body, hy, roundIn_of_wpIn hfn (hassign _ pre x W _ hi fun a' Wa hkf hkp hia hax => ?_)⟩
    clear hy
    have hla := hkf.same _ _ (by omega) hl rfl
    have hka := hkf.same _ _ (Nat.le_refl _) hk rfl
    have hlt : w.heap.size + 1 < Wa.heap.size := (Array.getElem?_eq_some_iff.1 hla).1
    refine ⟨_, run_beginRound hla (by rw [hrec]), ?_⟩
    obtain ⟨Wb, hWb⟩ : ∃ Wb, Wa.putObj (w.heap.size + 1) (.loop { rec_ .ready none with state := .busy }) = Wb := ⟨_, rfl⟩
    have hlb : Wb.heap[w.heap.size + 1]? = some (.loop { rec_ .ready none with state := .busy }) := by rw [← hWb]; exact World.putObj_heap_same hlt
    have hkb : Wb.heap[w.heap.size]? = some (.deferred (some [])) := by rw [← hWb]; exact (World.putObj_heap_other (by omega)).trans hka
    have hab : Kp Wa Wb := by rw [← hWb]; exact hKb _ _ _ _ (by omega) hla rfl rfl
    have hib : I pre Wb := by rw [← hWb]; exact hI _ _ _ (below_put (by omega)) hia
    have haxb : Ax x a' Wb := by rw [← hWb]; exact hAx _ _ _ _ _ (by omega) ⟨_, hla, rfl⟩ hax
    rw [hWb]
    refine wpIn_mono (hbody _ pre x a' Wb hib haxb hpre) ?_
    rintro e a3 W3 hp
    cases e with
    | normal =>
      obtain ⟨hk3, hkp3, hi3⟩ := hp
      have hl3 := hk3.same _ _ (by omega) hlb rfl
      have hd3 := hk3.same _ _ (Nat.le_refl _) hkb rfl
      have hr := run_endRound (P := P) none hl3
      refine ⟨_, _, hr, rfl, ⟨hI _ _ _ (below_put (by omega)) hi3, ?_, (World.putObj_heap_other (by omega)).trans hd3⟩, hKt hkp (hKt hab (hKt hkp3 (hKb _ _ _ _ (by omega) hl3 rfl rfl)))⟩
      rw [World.putObj_heap_same (Array.getElem?_eq_some_iff.1 hl3).1, hrec]
      rfl
    | _ => exact hp.elim
  rintro e W2 ⟨⟨v, rfl⟩, hi, hl, hk⟩
  refine ⟨none, _, by have := run_endLoop (P := P) hl (by rw [hrec]; simp); rw [hrec] at this; exact this, hdone _ _ (Nat.le_refl _) (hI _ _ _ (below_put (by omega)) hi) ((World.putObj_heap_other (by omega)).trans hk)⟩
end Go.Proofs.YtnfbhicoknpojaaGreat

namespace Go.Proofs.YtnfbhicoknpojaaGreat
set_option linter.unusedSimpArgs false
set_option linter.unusedVariables false
open Go.RowKit
namespace Facts.Piv

variable {P : Program} {ops : Array Oper}

def pivotB (ops : Array Oper) (p : Nat) : Bool := (List.range ops.size).all fun j => decide (j = p) || (depsOf ops ops.size p).contains j || (depsOf ops ops.size j).contains p
theorem pivotB_spec {p : Nat} (h : pivotB ops p = true) : ∀ j, j < ops.size → j ≠ p → j ∈ depsOf ops ops.size p ∨ p ∈ depsOf ops ops.size j := by
  intro j hj hne
  simp only [pivotB, List.all_eq_true, List.mem_range, Bool.or_eq_true, decide_eq_true_eq, List.contains_iff_mem] at h
  rcases h j hj with (h | h) | h
  · exact absurd h hne
  · exact .inl h
  · exact .inr h
/-- two relations of worlds: what each operation keeps, and what the pivot keeps -/
structure Two (E C : World → World → Prop) : Prop where
  sub : ∀ a b, E a b → C a b
  te : ∀ a b c, E a b → E b c → E a c
  tc : ∀ a b c, C a b → C b c → C a c
  r : ∀ a, E a a
  d : ∀ a : World, E a a.drew

/-- an operation, and a region in whatever order, none of which asks for room -/
def opS (P : Program) (ops : Array Oper) (Q : Exit → Act → World → Prop) (i : Nat) (K : Act → World → Prop) (a : Act) (w : World) : Prop :=
  match ops[i]? with
  | none => K a w
  | some o => if Region.wanted o (yielded ops a.tmps) then o.wp P a w K Q else K (a.put o.dst undef) w
def anyS (P : Program) (ops : Array Oper) (Q : Exit → Act → World → Prop) : Nat → Array Bool → Act → World → Prop
  | 0, listed, a, w => Region.ready .any ops listed = [] ∧ Q .normal a w
  | fuel + 1, listed, a, w =>
    (Region.ready .any ops listed = [] → Q .normal a w) ∧
    ∀ i ∈ Region.ready .any ops listed, opS P ops Q i (anyS P ops Q fuel (listed.setIfInBounds i true)) a w
theorem opS_of_stepG {i : Nat} {o : Oper} {a : Act} {w : World} {S : Value → World → Prop} {Q : Exit → Act → World → Prop} {K : Act → World → Prop} (hi : ops[i]? = some o) (h : stepG P ops o a w S)
    (hK : ∀ v w', S v w' → K (a.put o.dst v) w') : opS P ops Q i K a w := by
  unfold opS
  simp only [hi]
  unfold stepG at h
  split
  · rename_i hw
    rw [if_pos hw] at h
    unfold Oper.wp
    generalize (execOp a.eval o).run P w = r at *
    cases r with
    | halt x w' => exact h.elim
    | ok n w' =>
      cases n <;> simp only [upon] at h <;> simp only [Oper.upon]
      case value v => exact hK _ _ h
      case skip => exact hK _ _ h
      case enter f args => exact h.mono fun e w'' ⟨v, he, hs⟩ => by subst he; exact hK _ _ hs
  · rename_i hw
    rw [if_neg hw] at h
    exact hK _ _ h
theorem opS_mono {i : Nat} {a : Act} {w : World} {Q : Exit → Act → World → Prop} {K K' : Act → World → Prop} (hk : ∀ a w, K a w → K' a w) (h : opS P ops Q i K a w) : opS P ops Q i K' a w := by
  unfold opS at *
  cases ho : ops[i]? with
  | none => rw [ho] at h; exact hk _ _ h
  | some o =>
    rw [ho] at h
    simp only at h ⊢
    split
    · rename_i hw; rw [if_pos hw] at h; exact Oper.wp_mono hk h
    · rename_i hw; rw [if_neg hw] at h; exact hk _ _ h
theorem any_of_anyS {Q : Exit → Act → World → Prop} : ∀ (fuel : Nat) (listed : Array Bool) (a : Act) (w : World), anyS P ops Q fuel listed a w → wpAny P .any ops Q fuel listed a w
  | 0, _, _, _, h => h
  | fuel + 1, listed, a, w, h => by
    refine ⟨h.1, fun i hi => ?_⟩
    have h1 := opS_mono (fun a w => any_of_anyS fuel _ a w) (h.2 i hi)
    unfold opS at h1
    unfold wpOp
    cases ho : ops[i]? with
    | none => rw [ho] at h1; exact h1
    | some o =>
      rw [ho] at h1
      simp only at h1 ⊢
      split
      · rename_i hw; rw [if_pos hw] at h1; exact .inl h1
      · rename_i hw; rw [if_neg hw] at h1; exact h1

theorem any_facts {E C : World → World → Prop} (T : Two E C) (p : Nat) (hp : pivotB ops p = true) {Q : Exit → Act → World → Prop} {a : Act} {w : World} (Φ : Nat → Value → World → Prop) (fix : Nat → Option Value) (hfix : ∀ i v u w, fix i = some v → Φ i u w → u = v) (hB : okB ops = true)
    (hkeep : ∀ i u w1 w2, i < ops.size → E w1 w2 → Φ i u w1 → Φ i u w2) (hkeepC : ∀ i u w1 w2, i < ops.size → (depsOf ops ops.size p).contains i = true → C w1 w2 → Φ i u w1 → Φ i u w2)
    (hops : ∀ i o, ops[i]? = some o → ∀ (vs : Nat → Value) w1, (∀ j v, fix j = some v → vs j = v) → ((depsOf ops ops.size i).contains p = false → E w w1) → C w w1 → (∀ j ∈ depsOf ops ops.size i, Φ j (vs j) w1) → stepG P ops o (acts ops a vs (fun _ => true) i) w1 (fun u w2 => (if i = p then C w1 w2 else E w1 w2) ∧ Φ i u w2))
    (hend : ∀ (vs : Nat → Value) w1, (∀ j v, fix j = some v → vs j = v) → C w w1 → (∀ i, i < ops.size → Φ i (vs i) w1) → Q .normal (acts ops a vs (fun _ => true) ops.size) w1) : anyS P ops Q ops.size (Array.replicate ops.size false) a { w with drawn := w.drawn + 1 } := by
  have hsel : ∀ (j : Nat) (o : Oper) cs b, ops[j]? = some o → o.op ≠ .select cs b := by
    have h2 := hB
    simp only [okB, Bool.and_eq_true] at h2
    exact Region.noSelect_spec h2.1
  suffices key : ∀ (fuel : Nat) (listed : Array Bool) (vs : Nat → Value) (w1 : World), (∀ j v, fix j = some v → vs j = v) → listed.size = ops.size → listed.toList.count true + fuel = ops.size → (listed.getD p false = false → E w w1) → C w w1 →
      (∀ j, listed.getD j false = true → ∀ i ∈ direct ops j, listed.getD i false = true) → (∀ j, j < ops.size → listed.getD j false = true → Φ j (vs j) w1) →
      anyS P ops Q fuel listed (acts ops a vs (fun j => listed.getD j false) ops.size) w1 by
    have h0 := key ops.size (Array.replicate ops.size false) (fun j => (fix j).getD undef) { w with drawn := w.drawn + 1 } (fun j v h => by simp [h]) (by simp) (by simp [List.count_replicate]) (fun _ => T.d w) (T.sub _ _ (T.d w))
      (fun j hj => by rw [getD_rep] at hj; cases hj) (fun j _ hj => by rw [getD_rep] at hj; cases hj)
    have e : acts ops a (fun j => (fix j).getD undef) (fun j => (Array.replicate ops.size false).getD j false) ops.size = a := by
      have : ∀ n, acts ops a (fun j => (fix j).getD undef) (fun j => (Array.replicate ops.size false).getD j false) n = a := by
        intro n
        induction n with
        | zero => rfl
        | succ n ih => simp only [acts]; rw [if_neg (by rw [getD_rep]; exact Bool.false_ne_true)]; exact ih
      exact this _
    rw [e] at h0
    exact h0
  intro fuel
  have hdone : ∀ (listed : Array Bool) (vs : Nat → Value) (w1 : World), (∀ j v, fix j = some v → vs j = v) → (∀ j, j < ops.size → listed.getD j false = true) → C w w1 → (∀ j, j < ops.size → listed.getD j false = true → Φ j (vs j) w1) →
      Q .normal (acts ops a vs (fun j => listed.getD j false) ops.size) w1 := by
    intro listed vs w1 hfx hall hx hΦ
    have := hend vs w1 hfx hx fun i hi => hΦ i hi (hall i hi)
    rwa [acts_congr a vs vs (fun _ => true) (fun j => listed.getD j false) ops.size fun j hj => ⟨(hall j hj).symm, fun _ => rfl⟩] at this
  induction fuel with
  | zero =>
    intro listed vs w1 hfx hsz hc hxE hx hcl hΦ
    have hall : ∀ j, j < ops.size → listed.getD j false = true := by
      intro j hj
      have hlen : listed.toList.count true = listed.toList.length := by simp only [Array.length_toList]; omega
      have := List.count_eq_length.1 hlen (listed[j]'(by omega)) (by simp)
      rw [Array.getD_eq_getD_getElem?, Array.getElem?_eq_getElem (by omega)]
      exact this.symm
    refine ⟨?_, hdone listed vs w1 hfx hall hx hΦ⟩
    rw [List.eq_nil_iff_forall_not_mem]
    intro i hi
    have hi1 := (mem_ready.1 hi)
    obtain ⟨o, ho, -⟩ := hi1.2
    have hlt : i < ops.size := (Array.getElem?_eq_some_iff.1 ho).1
    have h1 := hall i hlt
    have h2 := hi1.1
    rw [Array.getD_eq_getD_getElem?, Array.getElem?_eq_getElem (by omega)] at h1 h2
    simp only [Option.getD_some] at h1 h2
    rw [h1] at h2; cases h2
  | succ fuel ih =>
    intro listed vs w1 hfx hsz hc hxE hx hcl hΦ
    refine ⟨fun h => hdone listed vs w1 hfx (all_listed hB hsz h) hx hΦ, fun i hi => ?_⟩
    obtain ⟨hi0, o, ho, hafter⟩ := mem_ready.1 hi
    have hlt : i < ops.size := (Array.getElem?_eq_some_iff.1 ho).1
    have hnot : listed.getD i false = false := by
      rw [Array.getD_eq_getD_getElem?, Array.getElem?_eq_getElem (by omega)] at hi0 ⊢
      exact hi0
    have hdir := direct_ready ho hafter
    have hdeps := dep_in hcl ops.size i hdir
    have hdl : ∀ j ∈ depsOf ops ops.size i, j < ops.size := fun j hj => by
      have := hdeps j hj
      rcases Nat.lt_or_ge j listed.size with h' | h'
      · omega
      · simp [Array.getD_eq_getD_getElem?, Array.getElem?_eq_none h'] at this
    have hnp : (depsOf ops ops.size i).contains p = false → i ≠ p → listed.getD p false = false := fun hcp hip => by
      cases hlp : listed.getD p false with
      | false => rfl
      | true =>
        exfalso
        rcases pivotB_spec hp i hlt hip with h | h
        · have := dep_in hcl ops.size p (hcl p hlp) i h
          rw [hnot] at this; cases this
        · rw [← List.contains_iff_mem, hcp] at h; cases h
    have hxE' : (depsOf ops ops.size i).contains p = false → E w w1 := fun hcp => by
      by_cases hip : i = p
      · exact hxE (by rw [← hip]; exact hnot)
      · exact hxE (hnp hcp hip)
    have hst := hops i o ho vs w1 hfx hxE' hx fun j hj => hΦ j (hdl j hj) (hdeps j hj)
    -- a later one that has come up is apart from this one
    have hlater : ∀ j, i < j → j < ops.size → listed.getD j false = true → apartB ops i j = true := fun j h1 h2 h3 =>
      ((okB_spec hB j h2).2 i h1).resolve_right fun hmem => by
        have := dep_in hcl ops.size j (hcl j h3) i hmem
        rw [hnot] at this; cases this
    have hearlier : ∀ j, j < i → listed.getD j false = false → apartB ops j i = true := fun j h1 h3 =>
      ((okB_spec hB i hlt).2 j h1).resolve_right fun hmem => by
        have := hdeps j hmem
        rw [h3] at this; cases this
    have hacts : ∀ n, i ≤ n → n ≤ ops.size → ∀ t, t ∈ o.looksAt ops → (acts ops a vs (fun j => listed.getD j false) n).tmps[t]? = (acts ops a vs (fun _ => true) i).tmps[t]? := by
      intro n hin
      obtain ⟨k, rfl⟩ := Nat.exists_eq_add_of_le hin
      clear hin
      induction k with
      | zero =>
        intro _ t ht
        refine acts_slot a vs _ _ t i fun j hj hd => ?_
        cases hl : listed.getD j false with
        | true => rfl
        | false =>
          have hap := hearlier j hj hl
          have hoj : ops[j]? = some (ops[j]'(by omega)) := by simp [show j < ops.size from by omega]
          rw [hoj] at hd
          simp only [apartB, hoj, ho] at hap
          exact absurd ht ((Oper.apart_spec hap).1 t hd)
      | succ k ih2 =>
        intro hle t ht
        have ih2 := ih2 (by omega) t ht
        obtain ⟨n, hn⟩ : ∃ n, n = i + k := ⟨_, rfl⟩
        rw [← hn] at ih2
        rw [show i + (k + 1) = n + 1 from by omega]
        simp only [acts]
        by_cases hl : listed.getD n false = true
        · rw [if_pos hl]
          have hni : i ≠ n := fun e => by subst e; rw [hnot] at hl; cases hl
          have hap := hlater n (by omega) (by omega) hl
          have hon : ops[n]? = some (ops[n]'(by omega)) := by simp [show n < ops.size from by omega]
          simp only [apartB, hon, ho] at hap
          rw [put_other _ _ _ _ (fun hd => (Oper.apart_spec hap).2.2 t (by rw [hon] at hd; exact hd) ht)]
          exact ih2
        · rw [if_neg hl]; exact ih2
    have hst2 : stepG P ops o (acts ops a vs (fun j => listed.getD j false) ops.size) w1 (fun u w2 => (if i = p then C w1 w2 else E w1 w2) ∧ Φ i u w2) :=
      stepG_same (hsel i o · · ho) (fun t ht => (hacts ops.size (by omega) (Nat.le_refl _) t ht).symm) hst
    refine opS_of_stepG ho hst2 ?_
    rintro v w2 ⟨hx2, hv⟩
    have hod : (ops[i]?).bind (·.dst) = o.dst := by rw [ho]; rfl
    rw [← hod, acts_put a vs (fun j => listed.getD j false) i v hnot ops.size hlt (fun j h1 h2 h3 d hd hd2 => by
      have hap := hlater j h1 h2 h3
      have hoj : ops[j]? = some (ops[j]'h2) := by simp [h2]
      simp only [apartB, hoj, ho] at hap
      rw [ho] at hd; rw [hoj] at hd2
      exact (Oper.apart_spec hap).2.1 d hd hd2)]
    have hget : ∀ j, (listed.setIfInBounds i true).getD j false = (listed.getD j false || decide (j = i)) := by
      intro j
      by_cases hji : j = i
      · subst hji; simp [Array.getD_eq_getD_getElem?, show j < listed.size from by omega]
      · rw [getD_set_ne false (Ne.symm hji)]; simp [hji]
    have := ih (listed.setIfInBounds i true) (fun j => if j = i then v else vs j) w2 (fun j u hj => by
        by_cases hji : j = i
        · subst hji; simpa using hfix j u v w2 hj hv
        · simpa [hji] using hfx j u hj) (by simpa using hsz) (by
        rw [Array.toList_setIfInBounds, List.count_set (by simpa using (by omega : i < listed.size))]
        have e : (listed.toList[i]'(by simpa using (by omega : i < listed.size))) = false := by
          rw [Array.getD_eq_getD_getElem?, Array.getElem?_eq_getElem (by omega)] at hnot
          simpa using hnot
        have e' : (listed.toList[i]'(by simpa using (by omega : i < listed.size)) == true) = false := by rw [e]; rfl
        rw [e']; simp only [Bool.false_eq_true, if_false, beq_self_eq_true, if_true]; omega) (fun hl => by
          rw [hget] at hl
          simp only [Bool.or_eq_false_iff, decide_eq_false_iff_not] at hl
          rw [if_neg (fun e => hl.2 e.symm)] at hx2
          exact T.te _ _ _ (hxE hl.1) hx2) (by
          split at hx2
          · exact T.tc _ _ _ hx hx2
          · exact T.tc _ _ _ hx (T.sub _ _ hx2))
      (by
        intro j hj k hk
        rw [hget] at hj ⊢
        by_cases hji : j = i
        · subst hji; rw [hdir k hk]; rfl
        · simp only [hji, decide_false, Bool.or_false] at hj
          rw [hcl j hj k hk]; rfl)
      (by
        intro j hj hl
        by_cases hji : j = i
        · subst hji; simpa using hv
        · rw [hget] at hl
          simp only [hji, decide_false, Bool.or_false] at hl
          simp only [hji, if_false]
          split at hx2
          · rename_i hip
            subst hip
            refine hkeepC j _ _ _ hj ?_ hx2 (hΦ j hj hl)
            rw [List.contains_iff_mem]
            refine (pivotB_spec hp j hj hji).resolve_right fun h => ?_
            have := dep_in hcl ops.size j (hcl j hl) i h
            rw [hnot] at this; cases this
          · exact hkeep j _ _ _ hj hx2 (hΦ j hj hl))
    have e2 : (fun j => (listed.setIfInBounds i true).getD j false) = fun j => listed.getD j false || decide (j = i) := funext hget
    rw [e2] at this
    exact this

def Walk (E C : World → World → Prop) (p : Nat) (P : Program) (ops : Array Oper) (w : World) (Q : Exit → Act → World → Prop) : Nat → List Oper → List Spec → List (Nat × (World → Prop)) → Act → Prop
  | _, [], _, env, a => ∀ w1, C w w1 → (∀ j f, (j, f) ∈ env → f w1) → Q .normal a w1
  | _, _ :: _, [], _, _ => False
  | i, o :: rest, .val v :: ss, env, a => (∀ w1, ((depsOf ops ops.size i).contains p = false → E w w1) → C w w1 → Have ops i env w1 → stepG P ops o a w1 (fun u w2 => (if i = p then C w1 w2 else E w1 w2) ∧ u = v)) ∧ Walk E C p P ops w Q (i + 1) rest ss env (a.put o.dst v)
  | i, o :: rest, .fact f :: ss, env, a => (∀ w1, ((depsOf ops ops.size i).contains p = false → E w w1) → C w w1 → Have ops i env w1 → stepG P ops o a w1 (fun u w2 => (if i = p then C w1 w2 else E w1 w2) ∧ f u w2)) ∧ ∀ u, Walk E C p P ops w Q (i + 1) rest ss ((i, f u) :: env) (a.put o.dst u)

def keepsS (E C : World → World → Prop) (ops : Array Oper) (p : Nat) : Nat → List Spec → Prop
  | _, [] => True
  | i, .val _ :: r => keepsS E C ops p (i + 1) r
  | i, .fact f :: r => (∀ u w1 w2, E w1 w2 → f u w1 → f u w2) ∧ ((depsOf ops ops.size p).contains i = true → ∀ u w1 w2, C w1 w2 → f u w1 → f u w2) ∧ keepsS E C ops p (i + 1) r
theorem keepsS_get {E C : World → World → Prop} {p : Nat} : ∀ (ss : List Spec) (k i : Nat) (s : Spec), keepsS E C ops p k ss → ss[i]? = some s →
    (∀ u w1 w2, E w1 w2 → s.holds u w1 → s.holds u w2) ∧ ((depsOf ops ops.size p).contains (k + i) = true → ∀ u w1 w2, C w1 w2 → s.holds u w1 → s.holds u w2)
  | [], _, _, _, _, h => by simp at h
  | .val v :: r, k, 0, s, _, h => by simp at h; subst h; exact ⟨fun _ _ _ _ h => h, fun _ _ _ _ _ h => h⟩
  | .val v :: r, k, i + 1, s, hk, h => by
    have := keepsS_get r (k + 1) i s hk (by simpa using h)
    rwa [show k + 1 + i = k + (i + 1) from by omega] at this
  | .fact f :: r, k, 0, s, hk, h => by simp at h; subst h; exact ⟨hk.1, hk.2.1⟩
  | .fact f :: r, k, i + 1, s, hk, h => by
    have := keepsS_get r (k + 1) i s hk.2.2 (by simpa using h)
    rwa [show k + 1 + i = k + (i + 1) from by omega] at this

theorem walk_at {E C : World → World → Prop} {p : Nat} {w : World} {Q : Exit → Act → World → Prop} {a0 : Act} (ss : List Spec) (vs : Nat → Value) (hfx : ∀ j s v, ss[j]? = some s → s.fixed = some v → vs j = v) :
    ∀ (n k : Nat) (rest : List Oper) (env : List (Nat × (World → Prop))) (a : Act), n + k = ops.size → (∀ j, rest[j]? = ops[k + j]?) → rest.length = n → a = acts ops a0 vs (fun _ => true) k →
      (∀ j q, (j, q) ∈ env → ∃ f, ss[j]? = some (.fact f) ∧ j < k ∧ q = f (vs j)) → (∀ j f, ss[j]? = some (.fact f) → j < k → (j, f (vs j)) ∈ env) → Walk E C p P ops w Q k rest (ss.drop k) env a →
      (∀ i o, k ≤ i → ops[i]? = some o → ∃ s, ss[i]? = some s ∧ ∀ w1, ((depsOf ops ops.size i).contains p = false → E w w1) → C w w1 → (∀ j ∈ depsOf ops ops.size i, j < i → ∀ s, ss[j]? = some s → s.holds (vs j) w1) → stepG P ops o (acts ops a0 vs (fun _ => true) i) w1 (fun u w2 => (if i = p then C w1 w2 else E w1 w2) ∧ s.holds u w2)) ∧
      (∀ w1, C w w1 → (∀ i s, i < ops.size → ss[i]? = some s → s.holds (vs i) w1) → Q .normal (acts ops a0 vs (fun _ => true) ops.size) w1) := by
  intro n
  induction n with
  | zero =>
    intro k rest env a hk hr hl ha henv henv2 hw
    obtain rfl : rest = [] := List.length_eq_zero_iff.1 hl
    have e : k = ops.size := by omega
    subst e
    refine ⟨fun i o hi ho => by have := (Array.getElem?_eq_some_iff.1 ho).1; omega, fun w1 hx hall => ?_⟩
    simp only [Walk] at hw
    rw [← ha]
    refine hw w1 hx fun j q hq => ?_
    obtain ⟨f, hf, hj, rfl⟩ := henv j q hq
    exact hall j _ hj hf
  | succ n ih =>
    intro k rest env a hk hr hl ha henv henv2 hw
    obtain ⟨o, rest, rfl⟩ : ∃ o r, rest = o :: r := by cases rest with | nil => simp at hl | cons o r => exact ⟨o, r, rfl⟩
    have hok : ops[k]? = some o := by simpa using (hr 0).symm
    have hact : ∀ v, vs k = v → a.put o.dst v = acts ops a0 vs (fun _ => true) (k + 1) := fun v hv => by
      simp only [acts, if_true]; rw [← ha, hok, hv]; rfl
    cases hs : ss[k]? with
    | none =>
      rw [List.drop_eq_nil_of_le (by rcases Nat.lt_or_ge k ss.length with h | h; · rw [List.getElem?_eq_getElem h] at hs; cases hs
                                     · exact h)] at hw
      simp only [Walk] at hw
    | some s =>
      have hlt : k < ss.length := (List.getElem?_eq_some_iff.1 hs).1
      rw [List.drop_eq_getElem_cons hlt, (List.getElem?_eq_some_iff.1 hs).2] at hw
      have hlean : ∀ w1, (∀ j ∈ depsOf ops ops.size k, j < k → ∀ s, ss[j]? = some s → s.holds (vs j) w1) → Have ops k env w1 := by
        intro w1 h j q hq hc
        obtain ⟨f, hf, hj, rfl⟩ := henv j q hq
        exact h j (by simpa using hc) hj _ hf
      have hr' : ∀ j, rest[j]? = ops[k + 1 + j]? := fun j => by have := hr (j + 1); simpa [Nat.add_assoc, Nat.add_comm 1 j] using this
      cases s with
      | val v =>
        simp only [Walk] at hw
        have hv : vs k = v := hfx k _ v hs rfl
        obtain ⟨h1, h2⟩ := ih (k + 1) rest env _ (by omega) hr' (by simpa using hl) (hact v hv) (fun j q hq => by obtain ⟨f, hf, hj, e⟩ := henv j q hq; exact ⟨f, hf, by omega, e⟩)
          (fun j f hf hj => henv2 j f hf (by rcases Nat.lt_or_ge j k with h | h; · exact h
                                             · obtain rfl : j = k := by omega
                                               rw [hs] at hf; cases hf)) hw.2
        refine ⟨fun i o' hi ho => ?_, h2⟩
        rcases Nat.lt_or_ge k i with h | h
        · exact h1 i o' (by omega) ho
        · obtain rfl : i = k := by omega
          rw [hok] at ho; cases ho
          exact ⟨_, hs, fun w1 hE hx hd => by rw [← ha]; exact hw.1 w1 hE hx (hlean w1 hd)⟩
      | fact f =>
        simp only [Walk] at hw
        obtain ⟨h1, h2⟩ := ih (k + 1) rest ((k, f (vs k)) :: env) _ (by omega) hr' (by simpa using hl) (hact (vs k) rfl) (fun j q hq => by
            rcases List.mem_cons.1 hq with e | hq
            · cases e; exact ⟨f, hs, by omega, rfl⟩
            · obtain ⟨f, hf, hj, e⟩ := henv j q hq; exact ⟨f, hf, by omega, e⟩)
          (fun j g hg hj => by
            rcases Nat.lt_or_ge j k with h | h
            · exact List.mem_cons_of_mem _ (henv2 j g hg h)
            · obtain rfl : j = k := by omega
              rw [hs] at hg; cases hg
              exact List.mem_cons_self) (hw.2 (vs k))
        refine ⟨fun i o' hi ho => ?_, h2⟩
        rcases Nat.lt_or_ge k i with h | h
        · exact h1 i o' (by omega) ho
        · obtain rfl : i = k := by omega
          rw [hok] at ho; cases ho
          exact ⟨_, hs, fun w1 hE hx hd => by rw [← ha]; exact hw.1 w1 hE hx (hlean w1 hd)⟩

/-- THE RULE, for a region whose operations are written out: a spec for each operation, the walk in the text's order. -/
theorem any_region {E C : World → World → Prop} (T : Two E C) (p : Nat) {Q : Exit → Act → World → Prop} {a : Act} {w : World} {l : List Oper} (ss : List Spec) (hB : okB l.toArray = true) (hpv : pivotB l.toArray p = true) (hk : keepsS E C l.toArray p 0 ss)
    (h : Walk E C p P l.toArray w Q 0 l ss [] a) : anyS P l.toArray Q l.toArray.size (Array.replicate l.toArray.size false) a { w with drawn := w.drawn + 1 } := by
  have base := fun vs hfx => walk_at (E := E) (C := C) (p := p) (P := P) (ops := l.toArray) (w := w) (Q := Q) (a0 := a) ss vs hfx l.length 0 l [] a (by simp) (by simp) rfl rfl (fun _ _ h => by cases h) (fun _ _ _ h => by omega) h
  refine any_facts T p hpv (fun i => match ss[i]? with | some s => s.holds | none => fun _ _ => False) (fun i => (ss[i]?).bind Spec.fixed) ?_ hB ?_ ?_ ?_ ?_
  · intro i v u w hv hu
    cases hs : ss[i]? with
    | none => simp [hs] at hv
    | some s => cases s with
      | val x => simp only [hs, Option.bind_some, Spec.fixed, Option.some.injEq] at hv; subst hv; simpa [hs, Spec.holds] using hu
      | fact f => simp [hs, Spec.fixed] at hv
  · intro i u w1 w2 _ hx hu
    cases hs : ss[i]? with
    | none => simp [hs] at hu
    | some s => simp only [hs] at hu ⊢; exact (keepsS_get ss 0 i s hk hs).1 u w1 w2 hx hu
  · intro i u w1 w2 _ hc hx hu
    cases hs : ss[i]? with
    | none => simp [hs] at hu
    | some s => simp only [hs] at hu ⊢; exact (keepsS_get ss 0 i s hk hs).2 (by rw [Nat.zero_add]; exact hc) u w1 w2 hx hu
  · intro i o ho vs w1 hfx hE hx hd
    obtain ⟨h1, -⟩ := base vs fun j s v hs hv => hfx j v (by simp [hs, hv])
    obtain ⟨s, hs, hst⟩ := h1 i o (Nat.zero_le _) ho
    simp only [hs]
    refine hst w1 hE hx fun j hj _ s' hs' => ?_
    have := hd j hj
    simpa only [hs'] using this
  · intro vs w1 hfx hx hall
    obtain ⟨-, h2⟩ := base vs fun j s v hs hv => hfx j v (by simp [hs, hv])
    refine h2 w1 hx fun i s hi hs => ?_
    have := hall i hi
    simpa only [hs] using this
theorem wp_region {E C : World → World → Prop} (T : Two E C) (p : Nat) {id : Nat} {Q : Exit → Act → World → Prop} {a : Act} {w : World} {l : List Oper} (ss : List Spec) (hm : P.follows .mixedOrders = true) (hB : okB l.toArray = true) (hpv : pivotB l.toArray p = true) (hk : keepsS E C l.toArray p 0 ss)
    (h : Walk E C p P l.toArray w Q 0 l ss [] a) : (Code.region id l.toArray true).wp P Q a w :=
  wp_region_any hm (any_of_anyS _ _ _ _ (any_region T p ss hB hpv hk h))

/-! ### The same within a fence, for operations that call nothing -/
def quietOp : Op → Bool
  | .move .. | .assign .. | .pick .. | .alloc .. | .box .. | .load .. | .store .. | .binOp .. | .unOp .. | .fieldAddr .. | .indexAddr .. | .index .. | .lookup .. | .mapEntry .. | .entryStore .. | .extract .. => true
  | _ => false
def tame : Result Next → Prop
  | .ok (.value _) _ => True
  | .ok .skip _ => True
  | .ok _ _ => False
  | .halt _ _ => True
theorem tame_v (s : Sem Value) (w : World) : tame ((do pure (.value (← s)) : Sem Next).run P w) := by
  simp only [Sem.run_bind]
  cases s.run P w <;> simp [Result.andThen, tame]
theorem tame_u (s : Sem Unit) (w : World) : tame ((do s; pure .skip : Sem Next).run P w) := by
  simp only [Sem.run_bind]
  cases s.run P w <;> simp [Result.andThen, tame]
theorem tame_exec {o : Oper} (h : quietOp o.op = true) (ρ : Operand → Value) (w : World) : tame ((execOp ρ o).run P w) := by
  obtain ⟨guard, op, dst, ty, after, pos⟩ := o
  unfold execOp
  cases op <;> simp only [quietOp, Bool.false_eq_true] at h <;> first
    | exact tame_v _ w
    | exact tame_u _ w
    | (simp [tame]; done)
    | (simp only [Sem.run_bind]; cases (asBool (ρ _)).run P w <;> simp [Result.andThen, tame]; done)
theorem wpIn_of_wp {F : Fence} {n : Nat} {o : Oper} {a : Act} {w : World} {K : Act → World → Prop} {Q : Exit → Act → World → Prop} (hq : quietOp o.op = true) (h : o.wp P a w K Q) : o.wpIn F n P a w K Q := by
  unfold Oper.wpIn
  refine ⟨fun f hf => ?_, ?_⟩
  · unfold Oper.about at hf
    cases ho : o.op <;> rw [ho] at hf hq <;> simp [quietOp] at hf hq
  · rw [Oper.semAt_plain F _ _ (fun c hc => by rw [hc] at hq; simp [quietOp] at hq)]
    have ht := tame_exec (P := P) hq a.eval w
    unfold Oper.wp at h
    generalize (execOp a.eval o).run P w = r at *
    cases r with
    | ok x w' => cases x <;> simp only [tame] at ht <;> exact h
    | halt x w' => cases x <;> simp only [Oper.upon] at h <;> simp only [Oper.uponIn] <;> exact h
theorem anyIn_of_any {F : Fence} {n : Nat} {Q : Exit → Act → World → Prop} (hq : ∀ (i : Nat) (o : Oper), ops[i]? = some o → quietOp o.op = true) : ∀ (fuel : Nat) (listed : Array Bool) (a : Act) (w : World), anyS P ops Q fuel listed a w → wpAnyIn F n P .any ops Q fuel listed a w
  | 0, _, _, _, h => h
  | fuel + 1, listed, a, w, h => by
    refine ⟨h.1, fun i hi => ?_⟩
    have h1 := opS_mono (fun a w => anyIn_of_any (F := F) (n := n) hq fuel _ a w) (h.2 i hi)
    unfold opS at h1
    unfold wpOpIn
    cases ho : ops[i]? with
    | none => rw [ho] at h1; exact h1
    | some o =>
      rw [ho] at h1
      simp only at h1 ⊢
      split
      · rename_i hw
        rw [if_pos hw] at h1
        exact wpIn_of_wp (hq i o ho) h1
      · rename_i hw
        rw [if_neg hw] at h1
        refine ⟨fun f hf => ?_, h1⟩
        have hqo := hq i o ho
        unfold Oper.about at hf
        cases hop : o.op <;> rw [hop] at hf hqo <;> simp [quietOp] at hf hqo
theorem wpIn_region {F : Fence} {n : Nat} {E C : World → World → Prop} (T : Two E C) (p : Nat) {id : Nat} {Q : Exit → Act → World → Prop} {a : Act} {w : World} {l : List Oper} (ss : List Spec) (hm : P.follows .mixedOrders = true) (hB : okB l.toArray = true) (hpv : pivotB l.toArray p = true)
    (hq : (l.all fun o => quietOp o.op) = true) (hk : keepsS E C l.toArray p 0 ss)
    (h : Walk E C p P l.toArray w Q 0 l ss [] a) : (Code.region id l.toArray true).wpIn F n P Q a w := by
  refine wpIn_region_any hm (anyIn_of_any (fun i o ho => ?_) _ _ _ _ (any_region T p ss hB hpv hk h))
  rw [List.all_eq_true] at hq
  exact hq o (List.mem_of_getElem? (i := i) (by simpa using ho))
end Facts.Piv
end Go.Proofs.YtnfbhicoknpojaaGreat

namespace Go.Proofs.YtnfbhicoknpojaaGreat
set_option linter.unusedSimpArgs false
set_option linter.unusedVariables false
open Go.RowKit
set_option linter.unusedVariables false

/-- all cells outside the blocks from lo to hi are as they were -/
structure KeptO (lo hi : Nat) (w w' : World) : Prop where
  size : w.heap.size ≤ w'.heap.size
  all : ∀ p v, (p.block < lo ∨ hi ≤ p.block) → w.cell? p = some v → w'.cell? p = some v ∧ w'.frozen? p = w.frozen? p
theorem KeptO.refl (lo hi : Nat) (w : World) : KeptO lo hi w w := ⟨Nat.le_refl _, fun _ _ _ h => ⟨h, rfl⟩⟩
theorem KeptO.trans {lo hi : Nat} {a b c : World} (h : KeptO lo hi a b) (k : KeptO lo hi b c) : KeptO lo hi a c := ⟨Nat.le_trans h.size k.size, fun p v hb hp => by
  obtain ⟨h1, h2⟩ := h.all p v hb hp
  obtain ⟨k1, k2⟩ := k.all p v hb h1
  exact ⟨k1, k2.trans h2⟩⟩
theorem Ext.kept {w w' : World} (lo hi : Nat) (h : Ext w w') : KeptO lo hi w w' := ⟨h.size, fun _ _ _ hp => ⟨h.cell hp, h.frozen (cell_lt hp)⟩⟩
theorem KeptO.cell {lo hi : Nat} {w w' : World} (h : KeptO lo hi w w') {p : Addr} {v : Value} (hb : p.block < lo ∨ hi ≤ p.block) (hc : w.cell? p = some v) : w'.cell? p = some v := (h.all p v hb hc).1
theorem KeptO.frozen {lo hi : Nat} {w w' : World} (h : KeptO lo hi w w') {p : Addr} {v : Value} (hb : p.block < lo ∨ hi ≤ p.block) (hc : w.cell? p = some v) : w'.frozen? p = w.frozen? p := (h.all p v hb hc).2
/-- a store into a block of one's own keeps what lay before -/
theorem KeptO.setNew {lo hi : Nat} {a w : World} (h : KeptO lo hi a w) {p : Addr} (hp : a.heap.size ≤ p.block) (v : Value) : KeptO lo hi a (w.setCell p v) := ⟨Nat.le_trans h.size (by simp [World.setCell]), fun q u hb hq => by
  obtain ⟨h1, h2⟩ := h.all q u hb hq
  have hne : q.block ≠ p.block := by have := cell_lt hq; omega
  have he := Below.heap_setCell w p v q.block hne
  exact ⟨(World.cell?_of_block (w := w) he).trans h1, (World.frozen?_of_block (w := w) he).trans h2⟩⟩
theorem KeptO.putObj {lo hi : Nat} {W : World} {l : Nat} {o o' : Obj} (h : W.heap[l]? = some o) (hc : o.isCells = false) : KeptO lo hi W (W.putObj l o') :=
  ⟨by simp [World.putObj], fun p v _ hp => ⟨cell_kept hp (grownBy_putObj' W l o') (fun r e => by cases e; exact ⟨o, h, hc⟩), frozen_kept hp (grownBy_putObj' W l o') (fun r e => by cases e; exact ⟨o, h, hc⟩)⟩⟩
/-- what lay in an earlier world still lies -/
def Lies (w w' : World) : Prop := ∀ p v, w.cell? p = some v → w'.cell? p = some v
theorem KeptO.lies {lo hi : Nat} {w w' : World} (h : KeptO lo hi w w') (hw : w.heap.size ≤ lo) : Lies w w' := fun p v hp => h.cell (.inl (Nat.lt_of_lt_of_le (cell_lt hp) hw)) hp
theorem Ext.lies {w w' : World} (h : Ext w w') : Lies w w' := fun _ _ hp => h.cell hp
theorem Lies.trans {a b c : World} (h : Lies a b) (k : Lies b c) : Lies a c := fun p v hp => k p v (h p v hp)
theorem SliceAt.lies {α : Type} {sz : Nat} {R : World → Nat → Nat → α → Prop} (hR : ∀ w w' b o x, Lies w w' → R w b o x → R w' b o x) {w w' : World} {v : Value} {l : List α} (h : SliceAt sz R w v l) (hx : Lies w w') : SliceAt sz R w' v l := by
  obtain ⟨a, cap, h1, h2, h3, h4⟩ := h
  exact ⟨a, cap, h1, h2, h3, fun i hi => by obtain ⟨b, off, e, r⟩ := h4 i hi; exact ⟨b, off, e, hR _ _ _ _ _ hx r⟩⟩
theorem StrsAt.lies {w w' : World} {v : Value} {l : List ByteArray} (h : StrsAt w v l) (hx : Lies w w') : StrsAt w' v l :=
  SliceAt.lies (fun _ _ _ _ _ hx h => ⟨hx _ _ h.1, h.2⟩) h hx
theorem PartsAt.lies {w w' : World} {v : Value} {l : List Part} (h : PartsAt w v l) (hx : Lies w w') : PartsAt w' v l :=
  SliceAt.lies (fun _ _ _ _ _ hx h => ⟨by obtain ⟨u, h1, h2⟩ := h.1; exact ⟨u, hx _ _ h1, h2.lies hx⟩, hx _ _ h.2.1, hx _ _ h.2.2.1, h.2.2.2⟩) h hx
/-- what lies behind the first n words -/
theorem StrsAt.drop {w : World} {a : Option Addr} {m c : Nat} {l : List ByteArray} (h : StrsAt w (.slice a m c) l) (n : Nat) (hn : n ≤ l.length) : ∀ v, (v = .slice none 0 0 ∧ l.drop n = [] ∨ ∃ b o, a = some ⟨b, o, none⟩ ∧ v = .slice (some ⟨b, o + n, none⟩) (m - n) (c - n)) → StrsAt w v (l.drop n) := by
  obtain ⟨a', c', e, h2, h3, h4⟩ := h
  obtain ⟨rfl, rfl, rfl⟩ := Value.slice.inj e
  rintro v (⟨rfl, h0⟩ | ⟨b, o, rfl, rfl⟩)
  · rw [h0]; exact SliceAt.nil
  · refine ⟨_, _, by rw [List.length_drop], by rw [List.length_drop]; omega, by omega, fun i hi => ?_⟩
    rw [List.length_drop] at hi
    obtain ⟨b', o', e', r⟩ := h4 (n + i) (by omega)
    simp only [Option.some.injEq, Addr.mk.injEq, and_true] at e'
    obtain ⟨rfl, rfl⟩ := e'
    refine ⟨b, o + n, rfl, ?_⟩
    rw [List.getElem_drop, show o + n + i * 1 = o + (n + i) * 1 by omega]
    exact r
/-- the block of a row of slots that holds something -/
theorem rowS_lie {base : Nat} {l : List Slot} {u : Value} {w : World} (h : RowS base l u w) (hn : 1 ≤ l.length) : ∃ g c, u = .slice (some ⟨g, 0, none⟩) l.length c ∧ l.length ≤ c ∧ base ≤ g ∧ ∀ i, i < l.length → w.cell? ⟨g, i * 2, none⟩ = some (.string (l.getD i noSlot).word) ∧ w.cell? ⟨g, i * 2 + 1, none⟩ = some (.bool (l.getD i noSlot).free) := by
  have hcells := fun g hg => h.cells (g := g) hg
  rcases h.2 with ⟨rfl, h0⟩ | ⟨g, cap, cur, rfl, hb, hg, hnc, hcm, hcs, htake⟩
  · omega
  · refine ⟨g, cap, rfl, hnc, hb, fun i hi => ?_⟩
    obtain ⟨c0, c1⟩ := cellsS_get l i hi
    have r0 := hcells g rfl _ _ c0
    have r1 := hcells g rfl _ _ c1
    have ea : ∀ j, (⟨g, 0, none⟩ : Addr).add j = ⟨g, 0 + j, none⟩ := fun j => by unfold Addr.add; split <;> simp_all
    rw [ea, Nat.zero_add] at r0 r1
    have e : l.getD i noSlot = l[i] := by rw [List.getD_eq_getElem?_getD, List.getElem?_eq_getElem hi]; rfl
    rw [e]
    exact ⟨r0, r1⟩
theorem StrsAt.sliced {w : World} {a : Option Addr} {m c : Nat} {l : List ByteArray} (h : StrsAt w (.slice a m c) l) (n : Nat) (hn : n ≤ l.length) : StrsAt w (.slice (if c = n then a else a.map fun x => x.add (n * 1)) (l.length - n) (c - n)) (l.drop n) := by
  obtain ⟨a', c', e, h2, h3, h4⟩ := h
  obtain ⟨rfl, rfl, rfl⟩ := Value.slice.inj e
  refine ⟨_, _, by rw [List.length_drop], by rw [List.length_drop]; omega, by omega, fun i hi => ?_⟩
  rw [List.length_drop] at hi
  obtain ⟨b, o, rfl, r⟩ := h4 (n + i) (by omega)
  refine ⟨b, o + n, ?_, ?_⟩
  · rw [if_neg (by omega)]
    simp [Addr.add]
  · rw [List.getElem_drop, show o + n + i * 1 = o + (n + i) * 1 by omega]
    exact r
theorem two_free : Facts.Piv.Two Ext (fun _ _ => True) := ⟨fun _ _ _ => trivial, fun _ _ _ h k => h.trans k, fun _ _ _ _ _ => trivial, Ext.refl, fun a => ext_drew a⟩
/-- a bool that has come, and what is so then -/
def Came (G : World → Prop) (v : Value) (u : Value) (w : World) : Prop := u = v ∧ G w
theorem Came.keeps {G : World → Prop} {v : Value} (hG : ∀ A B, Ext A B → G A → G B) (u : Value) (w1 w2 : World) (h : Ext w1 w2) (hg : Came G v u w1) : Came G v u w2 := ⟨hg.1, hG _ _ h hg.2⟩
end Go.Proofs.YtnfbhicoknpojaaGreat
