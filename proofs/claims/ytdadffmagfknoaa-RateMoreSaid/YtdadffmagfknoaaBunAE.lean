/-
  HOW THE WORDS OF A LETTER COME TO STAND IN SLOTS, plain: for what is left of the letter and of the slots, the first kind of mark with the fewest corrections from there on, and how many these are; and the marks.
  WHAT THE FUNCTIONS IN THE TABLE OF KINDS RETURN.
  A RANGE OVER A FUNCTION whose iterator has cells of its own, which it writes between two rounds: the list that it yields is known; the caller's invariant speaks of what was there when the loop began. No round leaves the loop.
  WHAT IS KEPT ACROSS A ROUND OF A LOOP OVER AN ITERATOR: all cells but those of some blocks, the loop's own variables.
  A HOUSE THAT IS LOOKED AT, with what its agents pay for each entry at each rate: look of the program.
  WHAT A HOUSE THAT IS LOOKED AT TELLS OF AN ENTRY: isTold, paidFor, agrees of the program.
  WHICH RATES A DAY CAN HAVE by the day before: ratesOf of the program.
  AN append ONTO A ROW OF THE CALL's OWN, and what it leaves of that row: its first cells. For a region that draws its order and makes and grows several rows. Over any program.
  AN append ONTO A ROW OF THE CALL's OWN, and what it leaves: all blocks but the row's, and of this its first cells. For a region that draws its order. Over any program.
-/
import Derived.Test.YtdadffmagfknoaaBunAD
import Derived.Test.YtdadffmagfknoaaBunAA
import Derived.RangeFuncNested
import Derived.RangeFuncBound
import Derived.RangeFuncLeaves
import Derived.TacticsInMore
import Derived.LoopIn
import Derived.Test.YtdadffmagfknoaaBunAB
import Derived.Test.YtdadffmagfknoaaBunAC
import Derived.Laws.OwnMore
namespace Go.Proofs.Ytdadffmagfknoaa
set_option linter.unusedSimpArgs false
set_option linter.unusedVariables false
set_option linter.unusedVariables false

/-- a choice: which kind, and how many corrections -/
abbrev Ch := Nat × Nat
def fewCh (a b : Ch) : Bool := decide (a.2 < b.2)
def pickC (l : List Ch) : Ch := (pickB fewCh (0, 0) l).1
def lastRow : List Slot → List Ch
  | [] => [(0, 0)]
  | s :: ss => pickC ([(3, 1 + ((lastRow ss).headD (0, 0)).2)] ++ if s.free then [(4, ((lastRow ss).headD (0, 0)).2)] else []) :: lastRow ss
def nextRow (x : ByteArray) : List Slot → List Ch → List Ch
  | [], below => [pickC [(2, 1 + (below.headD (0, 0)).2)]]
  | s :: ss, below => pickC ([if takesM s x then (0, (below.tail.headD (0, 0)).2) else (1, 1 + (below.tail.headD (0, 0)).2), (2, 1 + (below.headD (0, 0)).2), (3, 1 + ((nextRow x ss below.tail).headD (0, 0)).2)] ++ if s.free then [(4, ((nextRow x ss below.tail).headD (0, 0)).2)] else []) :: nextRow x ss below.tail
def rowM : List ByteArray → List Slot → List Ch
  | [], ss => lastRow ss
  | x :: ws, ss => nextRow x ss (rowM ws ss)
/-- the choice for what is left -/
def costM (ws : List ByteArray) (ss : List Slot) : Ch := (rowM ws ss).headD (0, 0)
theorem rowM_ne (ws : List ByteArray) (ss : List Slot) : rowM ws ss ≠ [] := by
  cases ws with
  | nil => cases ss <;> simp [rowM, lastRow]
  | cons x ws => cases ss <;> simp [rowM, nextRow]
theorem rowM_tail (ws : List ByteArray) (s : Slot) (ss : List Slot) : (rowM ws (s :: ss)).tail = rowM ws ss := by
  induction ws with
  | nil => rfl
  | cons x ws ih => show nextRow x ss (rowM ws (s :: ss)).tail = _; rw [ih]; rfl
theorem costM_end : costM [] [] = (0, 0) := rfl
theorem costM_put (s : Slot) (ss : List Slot) : costM [] (s :: ss) = pickC ([(3, 1 + (costM [] ss).2)] ++ if s.free then [(4, (costM [] ss).2)] else []) := rfl
theorem costM_drop (x : ByteArray) (ws : List ByteArray) : costM (x :: ws) [] = pickC [(2, 1 + (costM ws []).2)] := rfl
theorem costM_all (x : ByteArray) (ws : List ByteArray) (s : Slot) (ss : List Slot) :
    costM (x :: ws) (s :: ss) = pickC ([if takesM s x then (0, (costM ws ss).2) else (1, 1 + (costM ws ss).2), (2, 1 + (costM ws (s :: ss)).2), (3, 1 + (costM (x :: ws) ss).2)] ++ if s.free then [(4, (costM (x :: ws) ss).2)] else []) := by
  show (nextRow x (s :: ss) (rowM ws (s :: ss))).headD (0, 0) = _
  rw [nextRow, rowM_tail]
  rfl
/-- how many words, slots and corrections each kind takes, and whether it writes -/
def kW : Nat → Nat
  | 0 | 1 | 2 => 1
  | _ => 0
def kS : Nat → Nat
  | 2 => 0
  | _ => 1
def kC : Nat → Nat
  | 1 | 2 | 3 => 1
  | _ => 0
def kWr : Nat → Bool
  | 1 | 3 => true
  | _ => false
/-- whether it can be done, so that these words come to these slots -/
def canM' : Nat → List ByteArray → List Slot → Bool
  | 0, ws, ss => takesM (ss.headD noSlot) (ws.headD ByteArray.empty)
  | 1, ws, ss => !takesM (ss.headD noSlot) (ws.headD ByteArray.empty)
  | 4, _, ss => (ss.headD noSlot).free
  | _, _, _ => true
/-- what can be done by one kind at a place, if what is found is F -/
def choiceK (F : Nat → Nat → Option Ch) (ws : List ByteArray) (ss : List Slot) (i j k : Nat) : List Ch :=
  match F (i + kW k) (j + kS k) with
  | none => []
  | some b => if canM' k (ws.drop i) (ss.drop j) then [(k, kC k + b.2)] else []
def choicesTo (F : Nat → Nat → Option Ch) (ws : List ByteArray) (ss : List Slot) (i j : Nat) : Nat → List Ch
  | 0 => []
  | k + 1 => choicesTo F ws ss i j k ++ choiceK F ws ss i j k
def choicesM (F : Nat → Nat → Option Ch) (ws : List ByteArray) (ss : List Slot) (i j : Nat) : List Ch := choicesTo F ws ss i j 5
/-- the choice at a place -/
def valM (ws : List ByteArray) (ss : List Slot) (i j : Nat) : Ch := costM (ws.drop i) (ss.drop j)
/-- a place at which all that can be done is found gets what is due -/
theorem choices_val (F : Nat → Nat → Option Ch) (ws : List ByteArray) (ss : List Slot) (i j : Nat) (hi : i ≤ ws.length) (hj : j ≤ ss.length)
    (hF : ∀ a b, (i < a ∧ j ≤ b ∨ i ≤ a ∧ j < b) → F a b = if a ≤ ws.length ∧ b ≤ ss.length then some (valM ws ss a b) else none) : pickC (choicesM F ws ss i j) = valM ws ss i j := by
  have e1 := hF (i + 1) (j + 1) (by omega)
  have e2 := hF (i + 1) j (by omega)
  have e3 := hF i (j + 1) (by omega)
  have hd : choicesM F ws ss i j = choiceK F ws ss i j 0 ++ choiceK F ws ss i j 1 ++ choiceK F ws ss i j 2 ++ choiceK F ws ss i j 3 ++ choiceK F ws ss i j 4 := by simp [choicesM, choicesTo]
  rw [hd]
  unfold choiceK
  simp only [kW, kS, Nat.add_zero, e1, e2, e3]
  unfold valM
  by_cases h1 : i < ws.length
  · have d1 : ws.drop i = ws[i] :: ws.drop (i + 1) := List.drop_eq_getElem_cons h1
    by_cases h2 : j < ss.length
    · have d2 : ss.drop j = ss[j] :: ss.drop (j + 1) := List.drop_eq_getElem_cons h2
      rw [if_pos (by omega), if_pos (by omega), if_pos (by omega)]
      simp only [d1, d2, costM_all, canM', List.headD_cons, kC]
      congr 1
      cases takesM ss[j] ws[i] <;> cases (ss[j]).free <;> simp
    · have d2 : ss.drop j = [] := List.drop_eq_nil_of_le (by omega)
      have d3 : ss.drop (j + 1) = [] := List.drop_eq_nil_of_le (by omega)
      rw [if_neg (by omega), if_pos (by omega), if_neg (by omega)]
      simp only [d1, d2, d3, costM_drop, canM', kC]
      congr 1
  · have d1 : ws.drop i = [] := List.drop_eq_nil_of_le (by omega)
    by_cases h2 : j < ss.length
    · have d2 : ss.drop j = ss[j] :: ss.drop (j + 1) := List.drop_eq_getElem_cons h2
      rw [if_neg (by omega), if_neg (by omega), if_pos (by omega)]
      simp only [d1, d2, costM_put, canM', List.headD_cons, kC]
      congr 1
      cases (ss[j]).free <;> simp
    · have d2 : ss.drop j = [] := List.drop_eq_nil_of_le (by omega)
      rw [if_neg (by omega), if_neg (by omega), if_neg (by omega)]
      simp only [d1, d2, costM_end]
      rfl
/-- the fewest corrections are no more than all that is left -/
theorem pickC_le (l : List Ch) (x : Ch) (h : x ∈ l) : (pickC l).2 ≤ x.2 := by
  unfold pickC
  revert h
  refine snoc_ind (p := fun l => x ∈ l → (pickB fewCh (0, 0) l).1.2 ≤ x.2) (by simp) (fun l y ih h => ?_) l
  rw [pickB_snoc, pickB_many]
  by_cases hc : l.length = 0 ∨ fewCh y (pickB fewCh (0, 0) l).1 = true
  · rw [if_pos hc]
    rcases List.mem_append.1 h with h | h
    · rcases hc with hc | hc
      · rw [List.eq_nil_of_length_eq_zero hc] at h; cases h
      · have := ih h
        simp [fewCh] at hc
        show y.2 ≤ x.2
        omega
    · simp at h; subst h; exact Nat.le_refl _
  · rw [if_neg hc]
    rcases List.mem_append.1 h with h | h
    · exact ih h
    · simp at h; subst h
      simp [fewCh] at hc
      exact hc.2
theorem pickC_mem (l : List Ch) (h : l ≠ []) : pickC l ∈ l := by
  rcases pickB_mem fewCh (0, 0) l with ⟨-, e⟩ | e
  · exact absurd e h
  · exact e
theorem costM_le : ∀ (ws : List ByteArray) (ss : List Slot), (costM ws ss).2 ≤ ws.length + ss.length
  | [], [] => by rw [costM_end]; exact Nat.zero_le _
  | [], s :: ss => by
    have ih := costM_le [] ss
    have := pickC_le ([(3, 1 + (costM [] ss).2)] ++ if s.free then [(4, (costM [] ss).2)] else []) (3, 1 + (costM [] ss).2) (by simp)
    rw [costM_put]
    simp only [List.length_nil, List.length_cons] at *
    omega
  | x :: ws, [] => by
    have ih := costM_le ws []
    have := pickC_le [(2, 1 + (costM ws []).2)] (2, 1 + (costM ws []).2) (by simp)
    rw [costM_drop]
    simp only [List.length_nil, List.length_cons] at *
    omega
  | x :: ws, s :: ss => by
    have ih := costM_le ws (s :: ss)
    have := pickC_le ([if takesM s x then (0, (costM ws ss).2) else (1, 1 + (costM ws ss).2), (2, 1 + (costM ws (s :: ss)).2), (3, 1 + (costM (x :: ws) ss).2)] ++ if s.free then [(4, (costM (x :: ws) ss).2)] else []) (2, 1 + (costM ws (s :: ss)).2) (by simp)
    rw [costM_all]
    simp only [List.length_cons] at *
    omega
/-- what is done first can be done -/
theorem costM_which (ws : List ByteArray) (ss : List Slot) (h : 0 < ws.length + ss.length) : (costM ws ss).1 ≤ 4 ∧ kW (costM ws ss).1 ≤ ws.length ∧ kS (costM ws ss).1 ≤ ss.length ∧ 0 < kW (costM ws ss).1 + kS (costM ws ss).1 ∧ canM' (costM ws ss).1 ws ss = true ∧ (costM ws ss).2 = kC (costM ws ss).1 + (costM (ws.drop (kW (costM ws ss).1)) (ss.drop (kS (costM ws ss).1))).2 := by
  have key : ∀ l : List Ch, l ≠ [] → pickC l = costM ws ss → (∀ c ∈ l, c.1 ≤ 4 ∧ kW c.1 ≤ ws.length ∧ kS c.1 ≤ ss.length ∧ 0 < kW c.1 + kS c.1 ∧ canM' c.1 ws ss = true ∧ c.2 = kC c.1 + (costM (ws.drop (kW c.1)) (ss.drop (kS c.1))).2) → _ := fun l hl e hc => by
    have := hc _ (pickC_mem l hl)
    rwa [e] at this
  cases ws with
  | nil =>
    cases ss with
    | nil => simp at h
    | cons s ss =>
      refine key _ (by simp) (costM_put s ss).symm ?_
      intro c hc
      cases hf : s.free <;> simp [hf] at hc
      · subst hc; simp [kW, kS, kC, canM']
      · rcases hc with rfl | rfl <;> simp [kW, kS, kC, canM', hf]
  | cons x ws =>
    cases ss with
    | nil =>
      refine key _ (by simp) (costM_drop x ws).symm ?_
      intro c hc
      simp at hc
      subst hc; simp [kW, kS, kC, canM']
    | cons s ss =>
      refine key _ (by simp) (costM_all x ws s ss).symm ?_
      intro c hc
      cases ht : takesM s x <;> cases hf : s.free <;> simp [hf, ht] at hc
      · rcases hc with rfl | rfl | rfl <;> simp [kW, kS, kC, canM', ht]
      · rcases hc with rfl | rfl | rfl | rfl <;> simp [kW, kS, kC, canM', hf, ht]
      · rcases hc with rfl | rfl | rfl <;> simp [kW, kS, kC, canM', ht]
      · rcases hc with rfl | rfl | rfl | rfl <;> simp [kW, kS, kC, canM', hf, ht]
/-- the first marks with the fewest corrections -/
def marksF : Nat → List ByteArray → List Slot → List Mark
  | 0, _, _ => []
  | n + 1, ws, ss => if ws.length + ss.length = 0 then [] else
    ⟨((costM ws ss).1 : Nat), if kWr (costM ws ss).1 then (ss.headD noSlot).word else ByteArray.empty⟩ :: marksF n (ws.drop (kW (costM ws ss).1)) (ss.drop (kS (costM ws ss).1))
def marksM (ws : List ByteArray) (ss : List Slot) : List Mark := marksF (ws.length + ss.length) ws ss
end Go.Proofs.Ytdadffmagfknoaa

namespace Go.Proofs.Ytdadffmagfknoaa
set_option linter.unusedSimpArgs false
set_option linter.unusedVariables false
open Go.RowKit
set_option linter.unusedVariables false

theorem slot_head {w : World} {v : Value} {ss : List Slot} (h : SlotsAt w v ss) (h0 : 0 < ss.length) : ∃ b o c, v = .slice (some ⟨b, o, none⟩) ss.length c ∧ ss.length ≤ c ∧ w.cell? ⟨b, o, none⟩ = some (.string (ss.headD noSlot).word) ∧ w.cell? ⟨b, o + 1, none⟩ = some (.bool (ss.headD noSlot).free) := by
  obtain ⟨a, c, rfl, hc, -⟩ := h.shape
  obtain ⟨b, o, rfl, h1, h2, -⟩ := h.get h0
  cases ss with
  | nil => simp at h0
  | cons s ss => exact ⟨b, o, c, rfl, hc, by simpa using h1, by simpa using h2⟩
theorem word_head {w : World} {v : Value} {ws : List ByteArray} (h : StrsAt w v ws) (h0 : 0 < ws.length) : ∃ b o c, v = .slice (some ⟨b, o, none⟩) ws.length c ∧ ws.length ≤ c ∧ w.cell? ⟨b, o, none⟩ = some (.string (ws.headD ByteArray.empty)) := by
  obtain ⟨a, c, rfl, hc, -⟩ := h.shape
  obtain ⟨b, o, rfl, h1, -⟩ := h.get h0
  cases ws with
  | nil => simp at h0
  | cons s ws => exact ⟨b, o, c, rfl, hc, by simpa using h1⟩
end Go.Proofs.Ytdadffmagfknoaa

namespace Go.Proofs.Ytdadffmagfknoaa
set_option linter.unusedSimpArgs false
set_option linter.unusedVariables false
open Go.RowKit
set_option linter.unusedVariables false

/-- AN ITERATOR THAT YIELDS JUST THESE, and may turn whatever has been laid since its call began; a round keeps what Kp says. -/
def SeqOwn {α : Type} (n : Nat) (P : Program) (g : Nat) (lb : Array Value) (encs : α → Array Value) (Kp : World → World → Prop) (xs : List α) (w : World) : Prop :=
  ∀ (l : Nat) (J : List α → World → Prop) (W : World), Below w.heap.size w W → (∀ s X Y, Below W.heap.size X Y → J s X → J s Y) →
    (∀ pre x W1, J pre W1 → pre ++ [x] <+: xs → YieldAt Fence.wide (n - 1) P l (encs x) W1 fun e W' => e = .returned (.bool true) ∧ J (pre ++ [x]) W' ∧ Kp W1 W') →
    J [] W → CallsIn Fence.wide n P g (#[.func (.yield l) #[] #[]] ++ lb) W fun e W' => (∃ v, e = .returned v) ∧ J xs W'

/-- how a round ends: it goes on -/
def goesOn {α : Type} (B : Nat) (Kp : World → World → Prop) (I : List α → World → Prop) (s : List α) (W : World) : Exit → Act → World → Prop
  | .normal, _, W' => KeepsFrom B W W' ∧ Kp W W' ∧ I s W'
  | _, _, _ => False

theorem below_put {B : Nat} {A : World} {l : Nat} {o : Obj} (h : B ≤ l) : Below B A (A.putObj l o) :=
  ⟨rfl, rfl, rfl, by simp [World.putObj], fun k hk => World.putObj_heap_other (by omega)⟩

theorem wpIn_seqOwn {P : Program} {α : Type} {n : Nat} {w : World} {g : Operand} {ps : Array Tmp} {assign body : Code} {Q : Exit → Act → World → Prop} {a : Act} (h1 : 1 ≤ n)
    {gf : Nat} {lb : Array Value} (hg : a.eval g = .func (.func gf) #[] lb) (eg : ∀ args w, (callFunc gf args).run P w = .ok (.enter gf args) w)
    {encs : α → Array Value} {Kp : World → World → Prop} {xs : List α} {w0 : World} (hseq : SeqOwn (n - 1) P gf lb encs Kp xs w0)
    (hKt : ∀ {A B C : World}, Kp A B → Kp B C → Kp A C) (hKb : ∀ (W : World) (l : Nat) (o o' : Obj), w.heap.size ≤ l → W.heap[l]? = some o → o.isCells = false → o.isWalk = false → Kp W (W.putObj l o')) (hb0 : Below w0.heap.size w0 w) (hps : ∀ x, (encs x).size = ps.size)
    (I : List α → World → Prop) (hI : ∀ s A B, Below w.heap.size A B → I s A → I s B) (h0 : I [] w) (Ax : α → Act → World → Prop) (hAx : ∀ x a' (A : World) l o', w.heap.size ≤ l → (∃ o, A.heap[l]? = some o ∧ o.isCells = false) → Ax x a' A → Ax x a' (A.putObj l o'))
    (hassign : ∀ (l : Nat) (pre : List α) (x : α) (W : World) (K : Act → World → Prop), I pre W → (∀ a' W', KeepsFrom w.heap.size W W' → Kp W W' → I pre W' → Ax x a' W' → K a' W') →
      assign.wpIn (Fence.wide.inRound l) (n - 1 - 1) P (Exit.then K (fun _ _ _ => False)) { tmps := (ps.zip (encs x)).foldl (fun t (p, v) => t.setIfInBounds p v) a.tmps, defers := [] } W)
    (hbody : ∀ (l : Nat) (pre : List α) (x : α) (a' : Act) (W : World), I pre W → Ax x a' W → pre ++ [x] <+: xs → body.wpIn (Fence.wide.inRound l) (n - 1 - 1) P (goesOn w.heap.size Kp I (pre ++ [x]) W) a' W)
    (hdone : ∀ (D : Nat) (W : World), w.heap.size ≤ D → I xs W → W.heap[D]? = some (.deferred (some [])) → Q .normal { a with defers := { target := .collected D, args := #[] } :: a.defers } W) :
    (Code.rangeFunc g ps assign body).wpIn Fence.wide n P Q a w := by
  refine wpIn_rangeFunc fun fn hfn => ?_
  let rec_ : LoopState → Option Code → Loop := fun st pe => { state := st, pending := pe, fn, tmps := a.tmps, params := ps, assign, body, defers := w.heap.size }
  have hrec : rec_ = fun st pe => { state := st, pending := pe, fn, tmps := a.tmps, params := ps, assign, body, defers := w.heap.size } := rfl
  clear_value rec_
  obtain ⟨W1, hW1⟩ : ∃ W1, (w.alloc (.deferred (some []))).alloc (.loop (rec_ .ready none)) = W1 := ⟨_, rfl⟩
  have z1 : W1.heap.size = w.heap.size + 1 + 1 := by rw [← hW1]; simp
  have hB1 : Below w.heap.size w W1 := by rw [← hW1]; exact ((Below.refl _ w).alloc (Nat.le_refl _) _).alloc (by simp) _
  have hL1 : W1.heap[w.heap.size + 1]? = some (.loop (rec_ .ready none)) := by
    have := World.alloc_heap_new (w.alloc (.deferred (some []))) (.loop (rec_ .ready none))
    rw [World.size_alloc, hW1] at this; exact this
  have hK1 : W1.heap[w.heap.size]? = some (.deferred (some [])) := by
    rw [← hW1]; exact (Below.heap_alloc _ _ _ (by simp)).trans (World.alloc_heap_new w _)
  -- what the law itself knows between two rounds
  let J : List α → World → Prop := fun pre W => I pre W ∧ W.heap[w.heap.size + 1]? = some (.loop (rec_ .ready none)) ∧ W.heap[w.heap.size]? = some (.deferred (some []))
  have hJ : ∀ s X Y, Below W1.heap.size X Y → J s X → J s Y := fun s X Y hx h =>
    ⟨hI s X Y (hx.mono (by omega)) h.1, (hx.block _ (by omega)).trans h.2.1, (hx.block _ (by omega)).trans h.2.2⟩
  refine ⟨w.heap.size + 1, [{ target := .collected w.heap.size, args := #[] }], W1, { target := .fn (.func gf) lb, args := #[.func (.yield (w.heap.size + 1)) #[] #[]] }, W1, gf,
    #[.func (.yield (w.heap.size + 1)) #[] #[]] ++ lb, W1, ?_, ?_, ?_, ?_, fun _ => h1, ?_⟩
  · rw [← hW1, hrec]; exact run_enterLoop_outer _ _ _ _ _
  · simp only [resolve, hg]; simp [go_sem]
  · exact fun f' hf' => trivial
  · simp [invoke, go_sem, eg]
  refine (hseq (w.heap.size + 1) J W1 (hb0.trans (hB1.mono hb0.size)) hJ ?round ⟨hI _ _ _ hB1 h0, hL1, hK1⟩).mono ?_
  case round =>
    rintro pre x W ⟨hi, hl, hk⟩ hpre
    have hy := run_yield (P := P) (args := encs x) hl (by rw [hrec]; exact hps x)
    rw [hrec] at hy
    refine ⟨fn, _, assign, body, hy, roundIn_of_wpIn hfn (hassign _ pre x W _ hi fun a' Wa hkf hkp hia hax => ?_)⟩
    clear hy
    have hla := hkf.same _ _ (by omega) hl rfl
    have hka := hkf.same _ _ (Nat.le_refl _) hk rfl
    have hlt : w.heap.size + 1 < Wa.heap.size := (Array.getElem?_eq_some_iff.1 hla).1
    refine ⟨_, run_beginRound hla (by rw [hrec]), ?_⟩
    obtain ⟨Wb, hWb⟩ : ∃ Wb, Wa.putObj (w.heap.size + 1) (.loop { rec_ .ready none with state := .busy }) = Wb := ⟨_, rfl⟩
    have hlb : Wb.heap[w.heap.size + 1]? = some (.loop { rec_ .ready none with state := .busy }) := by rw [← hWb]; exact World.putObj_heap_same hlt
    have hkb : Wb.heap[w.heap.size]? = some (.deferred (some [])) := by rw [← hWb]; exact (World.putObj_heap_other (by omega)).trans hka
    have hab : Kp Wa Wb := by rw [← hWb]; exact hKb _ _ _ _ (by omega) hla rfl rfl
    have hib : I pre Wb := by rw [← hWb]; exact hI _ _ _ (below_put (by omega)) hia
    have haxb : Ax x a' Wb := by rw [← hWb]; exact hAx _ _ _ _ _ (by omega) ⟨_, hla, rfl⟩ hax
    rw [hWb]
    refine wpIn_mono (hbody _ pre x a' Wb hib haxb hpre) ?_
    rintro e a3 W3 hp
    cases e with
    | normal =>
      obtain ⟨hk3, hkp3, hi3⟩ := hp
      have hl3 := hk3.same _ _ (by omega) hlb rfl
      have hd3 := hk3.same _ _ (Nat.le_refl _) hkb rfl
      have hr := run_endRound (P := P) none hl3
      refine ⟨_, _, hr, rfl, ⟨hI _ _ _ (below_put (by omega)) hi3, ?_, (World.putObj_heap_other (by omega)).trans hd3⟩, hKt hkp (hKt hab (hKt hkp3 (hKb _ _ _ _ (by omega) hl3 rfl rfl)))⟩
      rw [World.putObj_heap_same (Array.getElem?_eq_some_iff.1 hl3).1, hrec]
      rfl
    | _ => exact hp.elim
  rintro e W2 ⟨⟨v, rfl⟩, hi, hl, hk⟩
  refine ⟨none, _, by have := run_endLoop (P := P) hl (by rw [hrec]; simp); rw [hrec] at this; exact this, hdone _ _ (Nat.le_refl _) (hI _ _ _ (below_put (by omega)) hi) ((World.putObj_heap_other (by omega)).trans hk)⟩
end Go.Proofs.Ytdadffmagfknoaa

namespace Go.Proofs.Ytdadffmagfknoaa
set_option linter.unusedSimpArgs false
set_option linter.unusedVariables false
open Go.RowKit
set_option linter.unusedVariables false

/-- all cells outside the blocks from lo to hi are as they were -/
structure KeptO (lo hi : Nat) (w w' : World) : Prop where
  size : w.heap.size ≤ w'.heap.size
  all : ∀ p v, (p.block < lo ∨ hi ≤ p.block) → w.cell? p = some v → w'.cell? p = some v ∧ w'.frozen? p = w.frozen? p
theorem KeptO.refl (lo hi : Nat) (w : World) : KeptO lo hi w w := ⟨Nat.le_refl _, fun _ _ _ h => ⟨h, rfl⟩⟩
theorem KeptO.trans {lo hi : Nat} {a b c : World} (h : KeptO lo hi a b) (k : KeptO lo hi b c) : KeptO lo hi a c := ⟨Nat.le_trans h.size k.size, fun p v hb hp => by
  obtain ⟨h1, h2⟩ := h.all p v hb hp
  obtain ⟨k1, k2⟩ := k.all p v hb h1
  exact ⟨k1, k2.trans h2⟩⟩
theorem Ext.kept {w w' : World} (lo hi : Nat) (h : Ext w w') : KeptO lo hi w w' := ⟨h.size, fun _ _ _ hp => ⟨h.cell hp, h.frozen (cell_lt hp)⟩⟩
theorem KeptO.cell {lo hi : Nat} {w w' : World} (h : KeptO lo hi w w') {p : Addr} {v : Value} (hb : p.block < lo ∨ hi ≤ p.block) (hc : w.cell? p = some v) : w'.cell? p = some v := (h.all p v hb hc).1
theorem KeptO.frozen {lo hi : Nat} {w w' : World} (h : KeptO lo hi w w') {p : Addr} {v : Value} (hb : p.block < lo ∨ hi ≤ p.block) (hc : w.cell? p = some v) : w'.frozen? p = w.frozen? p := (h.all p v hb hc).2
/-- a store into a block of one's own keeps what lay before -/
theorem KeptO.setNew {lo hi : Nat} {a w : World} (h : KeptO lo hi a w) {p : Addr} (hp : a.heap.size ≤ p.block) (v : Value) : KeptO lo hi a (w.setCell p v) := ⟨Nat.le_trans h.size (by simp [World.setCell]), fun q u hb hq => by
  obtain ⟨h1, h2⟩ := h.all q u hb hq
  have hne : q.block ≠ p.block := by have := cell_lt hq; omega
  have he := Below.heap_setCell w p v q.block hne
  exact ⟨(World.cell?_of_block (w := w) he).trans h1, (World.frozen?_of_block (w := w) he).trans h2⟩⟩
theorem KeptO.putObj {lo hi : Nat} {W : World} {l : Nat} {o o' : Obj} (h : W.heap[l]? = some o) (hc : o.isCells = false) : KeptO lo hi W (W.putObj l o') :=
  ⟨by simp [World.putObj], fun p v _ hp => ⟨cell_kept hp (grownBy_putObj' W l o') (fun r e => by cases e; exact ⟨o, h, hc⟩), frozen_kept hp (grownBy_putObj' W l o') (fun r e => by cases e; exact ⟨o, h, hc⟩)⟩⟩
/-- what lay in an earlier world still lies -/
def Lies (w w' : World) : Prop := ∀ p v, w.cell? p = some v → w'.cell? p = some v
theorem KeptO.lies {lo hi : Nat} {w w' : World} (h : KeptO lo hi w w') (hw : w.heap.size ≤ lo) : Lies w w' := fun p v hp => h.cell (.inl (Nat.lt_of_lt_of_le (cell_lt hp) hw)) hp
theorem Ext.lies {w w' : World} (h : Ext w w') : Lies w w' := fun _ _ hp => h.cell hp
theorem Lies.trans {a b c : World} (h : Lies a b) (k : Lies b c) : Lies a c := fun p v hp => k p v (h p v hp)
theorem SliceAt.lies {α : Type} {sz : Nat} {R : World → Nat → Nat → α → Prop} (hR : ∀ w w' b o x, Lies w w' → R w b o x → R w' b o x) {w w' : World} {v : Value} {l : List α} (h : SliceAt sz R w v l) (hx : Lies w w') : SliceAt sz R w' v l := by
  obtain ⟨a, cap, h1, h2, h3, h4⟩ := h
  exact ⟨a, cap, h1, h2, h3, fun i hi => by obtain ⟨b, off, e, r⟩ := h4 i hi; exact ⟨b, off, e, hR _ _ _ _ _ hx r⟩⟩
theorem StrsAt.lies {w w' : World} {v : Value} {l : List ByteArray} (h : StrsAt w v l) (hx : Lies w w') : StrsAt w' v l :=
  SliceAt.lies (fun _ _ _ _ _ hx h => ⟨hx _ _ h.1, h.2⟩) h hx
theorem PartsAt.lies {w w' : World} {v : Value} {l : List Part} (h : PartsAt w v l) (hx : Lies w w') : PartsAt w' v l :=
  SliceAt.lies (fun _ _ _ _ _ hx h => ⟨by obtain ⟨u, h1, h2⟩ := h.1; exact ⟨u, hx _ _ h1, h2.lies hx⟩, hx _ _ h.2.1, hx _ _ h.2.2.1, h.2.2.2⟩) h hx
/-- what lies behind the first n words -/
theorem StrsAt.drop {w : World} {a : Option Addr} {m c : Nat} {l : List ByteArray} (h : StrsAt w (.slice a m c) l) (n : Nat) (hn : n ≤ l.length) : ∀ v, (v = .slice none 0 0 ∧ l.drop n = [] ∨ ∃ b o, a = some ⟨b, o, none⟩ ∧ v = .slice (some ⟨b, o + n, none⟩) (m - n) (c - n)) → StrsAt w v (l.drop n) := by
  obtain ⟨a', c', e, h2, h3, h4⟩ := h
  obtain ⟨rfl, rfl, rfl⟩ := Value.slice.inj e
  rintro v (⟨rfl, h0⟩ | ⟨b, o, rfl, rfl⟩)
  · rw [h0]; exact SliceAt.nil
  · refine ⟨_, _, by rw [List.length_drop], by rw [List.length_drop]; omega, by omega, fun i hi => ?_⟩
    rw [List.length_drop] at hi
    obtain ⟨b', o', e', r⟩ := h4 (n + i) (by omega)
    simp only [Option.some.injEq, Addr.mk.injEq, and_true] at e'
    obtain ⟨rfl, rfl⟩ := e'
    refine ⟨b, o + n, rfl, ?_⟩
    rw [List.getElem_drop, show o + n + i * 1 = o + (n + i) * 1 by omega]
    exact r
theorem StrsAt.sliced {w : World} {a : Option Addr} {m c : Nat} {l : List ByteArray} (h : StrsAt w (.slice a m c) l) (n : Nat) (hn : n ≤ l.length) : StrsAt w (.slice (if c = n then a else a.map fun x => x.add (n * 1)) (l.length - n) (c - n)) (l.drop n) := by
  obtain ⟨a', c', e, h2, h3, h4⟩ := h
  obtain ⟨rfl, rfl, rfl⟩ := Value.slice.inj e
  refine ⟨_, _, by rw [List.length_drop], by rw [List.length_drop]; omega, by omega, fun i hi => ?_⟩
  rw [List.length_drop] at hi
  obtain ⟨b, o, rfl, r⟩ := h4 (n + i) (by omega)
  refine ⟨b, o + n, ?_, ?_⟩
  · rw [if_neg (by omega)]
    simp [Addr.add]
  · rw [List.getElem_drop, show o + n + i * 1 = o + (n + i) * 1 by omega]
    exact r
theorem two_free : Facts.Piv.Two Ext (fun _ _ => True) := ⟨fun _ _ _ => trivial, fun _ _ _ h k => h.trans k, fun _ _ _ _ _ => trivial, Ext.refl, fun a => ext_drew a⟩
/-- a bool that has come, and what is so then -/
def Came (G : World → Prop) (v : Value) (u : Value) (w : World) : Prop := u = v ∧ G w
theorem Came.keeps {G : World → Prop} {v : Value} (hG : ∀ A B, Ext A B → G A → G B) (u : Value) (w1 w2 : World) (h : Ext w1 w2) (hg : Came G v u w1) : Came G v u w2 := ⟨hg.1, hG _ _ h hg.2⟩
end Go.Proofs.Ytdadffmagfknoaa

namespace Go.Proofs.Ytdadffmagfknoaa
set_option linter.unusedSimpArgs false
set_option linter.unusedVariables false
open Go.RowKit
set_option linter.unusedVariables false
set_option maxRecDepth 100000

/-- the map has what is paid for the first entries, at all rates of their days, and for one more at the first rates -/
def PaysTo (h : House) (k : Nat) (j : Int) (M : Sums) : Prop :=
  (∀ i, i < k → ∀ r, (spanAt h (entAt h i).day.toNat).1 ≤ r → r ≤ (spanAt h (entAt h i).day.toNat).2 → getS ((i : Int), r) M = some (entPay h (entAt h i) r)) ∧
  (∀ r, (spanAt h (entAt h k).day.toNat).1 ≤ r → r < j → getS ((k : Int), r) M = some (entPay h (entAt h k) r)) ∧ (∀ r, j ≤ r → getS ((k : Int), r) M = none) ∧ (∀ i : Nat, k < i → ∀ r, getS ((i : Int), r) M = none)
theorem PaysTo.start (h : House) : PaysTo h 0 (spanAt h (entAt h 0).day.toNat).1 [] := ⟨fun i hi => by omega, fun r h1 h2 => by omega, fun r _ => rfl, fun i _ r => rfl⟩
theorem PaysTo.step {h : House} {k : Nat} {j : Int} {M : Sums} (p : PaysTo h k j M) : PaysTo h k (j + 1) (M ++ [(((k : Int), j), entPay h (entAt h k) j)]) := by
  obtain ⟨p1, p2, p3, p4⟩ := p
  refine ⟨fun i hi r h1 h2 => ?_, fun r h1 h2 => ?_, fun r hr => ?_, fun i hi r => ?_⟩
  · rw [getS_snoc, p1 i hi r h1 h2]; rfl
  · rw [getS_snoc]
    by_cases e : r = j
    · subst e
      rw [p3 r (by omega)]; simp
    · rw [p2 r h1 (by omega)]; rfl
  · rw [getS_snoc, p3 r (by omega), if_neg (by intro e; have := (Prod.mk.inj e).2; omega)]; rfl
  · rw [getS_snoc, p4 i hi r, if_neg (by intro e; have := (Prod.mk.inj e).1; omega)]; rfl
theorem PaysTo.next {h : House} {k : Nat} {j : Int} {M : Sums} (p : PaysTo h k j M) (hj : (spanAt h (entAt h k).day.toNat).2 < j) (hl : ∀ r, r < (spanAt h (entAt h (k + 1)).day.toNat).1 → True) : PaysTo h (k + 1) (spanAt h (entAt h (k + 1)).day.toNat).1 M := by
  obtain ⟨p1, p2, p3, p4⟩ := p
  refine ⟨fun i hi r h1 h2 => ?_, fun r h1 h2 => by omega, fun r hr => ?_, fun i hi r => p4 i (by omega) r⟩
  · by_cases e : i = k
    · subst e; exact p2 r h1 (by omega)
    · exact p1 i (by omega) r h1 h2
  · have := p4 (k + 1) (by omega) r
    exact this
/-- what agents pay, as the map has it -/
def PaysM (h : House) (M : Sums) : Prop := ∀ i, i < h.entries.length → ∀ r, (spanAt h (entAt h i).day.toNat).1 ≤ r → r ≤ (spanAt h (entAt h i).day.toNat).2 → getS ((i : Int), r) M = some (entPay h (entAt h i) r)
theorem PaysTo.all {h : House} {j : Int} {M : Sums} (p : PaysTo h h.entries.length j M) : PaysM h M := p.1
/-- a house that is looked at, in memory -/
def LookAt (w : World) (v : Value) (h : House) : Prop :=
  ∃ ra rc aa ac ea ec B M, v = houseV h ra aa ea rc ac ec (.map (some B)) ∧ SpansAt w (.slice ra h.rates.length rc) h.rates ∧ AgentsAt w (.slice aa h.agents.length ac) h.agents ∧ EntriesAt w (.slice ea h.entries.length ec) h.entries ∧ MapS w B M ∧ PaysM h M
theorem LookAt.ext {w w' : World} {v : Value} {h : House} (hh : LookAt w v h) (hx : Ext w w') : LookAt w' v h := by
  obtain ⟨ra, rc, aa, ac, ea, ec, B, M, e, h1, h2, h3, h4, h5⟩ := hh
  exact ⟨ra, rc, aa, ac, ea, ec, B, M, e, h1.ext hx, h2.ext hx, h3.ext hx, h4.kept (Below.block hx _ h4.lt), h5⟩
/-- .. whose map is new, and whose rows were there before -/
def LookG (w0 : World) (n : Nat) (w : World) (v : Value) (h : House) : Prop :=
  ∃ ra rc aa ac ea ec B M, v = houseV h ra aa ea rc ac ec (.map (some B)) ∧ SpansAt w0 (.slice ra h.rates.length rc) h.rates ∧ AgentsAt w0 (.slice aa h.agents.length ac) h.agents ∧ EntriesAt w0 (.slice ea h.entries.length ec) h.entries ∧ n ≤ B ∧ MapS w B M ∧ PaysM h M
theorem LookG.kept {w0 w w' : World} {n : Nat} {v : Value} {h : House} (hh : LookG w0 n w v h) (hk : ∀ (B : Nat) es k, w.heap[B]? = some (Obj.map es k) → w'.heap[B]? = some (Obj.map es k)) : LookG w0 n w' v h := by
  obtain ⟨ra, rc, aa, ac, ea, ec, B, M, e, h1, h2, h3, hn, ⟨es, k, hb, h4⟩, h5⟩ := hh
  exact ⟨ra, rc, aa, ac, ea, ec, B, M, e, h1, h2, h3, hn, ⟨es, k, hk _ _ _ hb, h4⟩, h5⟩
theorem Ext.maps {w w' : World} (hx : Ext w w') : ∀ (B : Nat) es k, w.heap[B]? = some (Obj.map es k) → w'.heap[B]? = some (Obj.map es k) := fun B es k hb => (Below.block hx B (Array.getElem?_eq_some_iff.1 hb).1).trans hb
theorem LookG.look {w0 : World} {n : Nat} {w : World} {v : Value} {h : House} (hh : LookG w0 n w v h) (hx : Ext w0 w) : LookAt w v h := by
  obtain ⟨ra, rc, aa, ac, ea, ec, B, M, e, h1, h2, h3, hn, h4, h5⟩ := hh
  exact ⟨ra, rc, aa, ac, ea, ec, B, M, e, h1.ext hx, h2.ext hx, h3.ext hx, h4, h5⟩
theorem MapS.ext {w w' : World} {B : Nat} {M : Sums} (h : MapS w B M) (hx : Ext w w') : MapS w' B M := h.kept (Below.block hx _ h.lt)
theorem SpansAt.lies {w w' : World} {v : Value} {l : List (Int × Int)} (h : SpansAt w v l) (hx : Lies w w') : SpansAt w' v l :=
  SliceAt.lies (fun _ _ _ _ _ hx h => ⟨hx _ _ h.1, hx _ _ h.2.1, h.2.2⟩) h hx
theorem AgentsAt.lies {w w' : World} {v : Value} {l : List Agt} (h : AgentsAt w v l) (hx : Lies w w') : AgentsAt w' v l :=
  SliceAt.lies (fun _ _ _ _ _ hx h => ⟨hx _ _ h.1, hx _ _ h.2.1, hx _ _ h.2.2.1, h.2.2.2⟩) h hx
theorem EntriesAt.lies {w w' : World} {v : Value} {l : List Ent} (h : EntriesAt w v l) (hx : Lies w w') : EntriesAt w' v l :=
  SliceAt.lies (fun _ _ _ _ _ hx h => ⟨hx _ _ h.1, hx _ _ h.2.1, hx _ _ h.2.2.1, hx _ _ h.2.2.2.1, h.2.2.2.2⟩) h hx
theorem but_cell {w w' : World} {n : Nat} (h : Facts.App.But (some n) w w') {p : Addr} {v : Value} (hc : w.cell? p = some v) (hne : p.block ≠ n) : w'.cell? p = some v :=
  World.grownBy.cell h hc (fun e => hne (Option.some.inj e))
set_option maxHeartbeats 4000000 in
theorem look2_any (hv : Value) (h : House) (hV : ValidH h) (w0 w : World) (hh : HouseAt w0 hv h) (hx00 : Ext w0 w) :
    Calls Try.prog 100 #[hv] w fun e w' => ∃ u, e = .returned u ∧ LookG w0 w.heap.size w' u h ∧ Ext w w' := by
  obtain ⟨ra, rc, aa, ac, ea, ec, rfl, hdi, hsi, hr0, ha0, he0⟩ := hh
  have hr := hr0.ext hx00
  have ha := ha0.ext hx00
  have he := he0.ext hx00
  have HR0 := Lib.hid hr0
  have HA0 := Lib.hid ha0
  have HE0 := Lib.hid he0
  clear hr0 ha0 he0 hx00
  have hmm := @run_makeMap Try.prog
  have hH : HouseAt w (.agg #[.int .i64 h.days, .slice ra h.rates.length rc, .int .i64 h.step, .slice aa h.agents.length ac, .slice ea h.entries.length ec]) h := ⟨ra, rc, aa, ac, ea, ec, rfl, hdi, hsi, hr, ha, he⟩
  have hle := he.le
  have hlr := hr.le
  go_enter Try.func100, Try.ntmps100
  go_wp2_with fail
  obtain ⟨W0, hW0⟩ : ∃ W0, W0 = ((((w.alloc (.cells #[.int .i64 h.days, .slice ra h.rates.length rc, .int .i64 h.step, .slice aa h.agents.length ac, .slice ea h.entries.length ec] 26)).alloc (.cells #[.int .i64 0, .slice none 0 0, .int .i64 0, .slice none 0 0, .slice none 0 0, .map none] 85)).alloc (.map #[] 0)).alloc (.cells #[.int .i64 h.days, .slice ra h.rates.length rc, .int .i64 h.step, .slice aa h.agents.length ac, .slice ea h.entries.length ec, .map (some (w.heap.size + 1 + 1))] 85)) := ⟨_, rfl⟩
  have x0 : Ext w W0 := by rw [hW0]; exact (((ext_alloc _ _).alloc _).alloc _).alloc _
  have z0 : W0.heap.size = w.heap.size + 4 := by rw [hW0]; simp
  have m0 : MapS W0 (w.heap.size + 2) [] := by
    rw [hW0]
    exact MapS.ext (w := ((w.alloc _).alloc _).alloc (.map #[] 0)) ⟨#[], 0, by have := World.alloc_heap_new ((w.alloc (.cells #[.int .i64 h.days, .slice ra h.rates.length rc, .int .i64 h.step, .slice aa h.agents.length ac, .slice ea h.entries.length ec] 26)).alloc (.cells #[.int .i64 0, .slice none 0 0, .int .i64 0, .slice none 0 0, .slice none 0 0, .map none] 85)) (.map #[] 0); simpa using this, rfl⟩ (ext_alloc _ _)
  have c0 : W0.cell? ⟨w.heap.size + 3, 0, none⟩ = some (.int .i64 h.days) := by rw [hW0]; simp [go_sem]
  have c1 : W0.cell? ⟨w.heap.size + 3, 1, none⟩ = some (.slice ra h.rates.length rc) := by rw [hW0]; simp [go_sem]
  have c2 : W0.cell? ⟨w.heap.size + 3, 2, none⟩ = some (.int .i64 h.step) := by rw [hW0]; simp [go_sem]
  have c3 : W0.cell? ⟨w.heap.size + 3, 3, none⟩ = some (.slice aa h.agents.length ac) := by rw [hW0]; simp [go_sem]
  have c4 : W0.cell? ⟨w.heap.size + 3, 4, none⟩ = some (.slice ea h.entries.length ec) := by rw [hW0]; simp [go_sem]
  have c5 : W0.cell? ⟨w.heap.size + 3, 5, none⟩ = some (.map (some (w.heap.size + 2))) := by rw [hW0]; simp [go_sem]
  have hB : BoxIs W0 (w.heap.size + 1) [.int .i64 0, .slice none 0 0, .int .i64 0, .slice none 0 0, .slice none 0 0, .map none] := by
    intro j v hj
    rw [hW0]
    match j, hj with
    | 0, hj => simp at hj; subst hj; simp [go_sem]
    | 1, hj => simp at hj; subst hj; simp [go_sem]
    | 2, hj => simp at hj; subst hj; simp [go_sem]
    | 3, hj => simp at hj; subst hj; simp [go_sem]
    | 4, hj => simp at hj; subst hj; simp [go_sem]
    | 5, hj => simp at hj; subst hj; simp [go_sem]
  have fz : ∀ j, W0.frozen? ⟨w.heap.size + 1, j, none⟩ = false := fun j => by rw [hW0]; simp [go_sem]
  rw [← hW0]
  clear hW0 hmm
  have hr0 := hr.ext x0
  have ha0 := ha.ext x0
  have he0 := he.ext x0
  clear hH
  go_loopw [15] (fun ix wr => ∃ (k : Nat) (M : Sums), k ≤ h.entries.length ∧ ix = .int .i64 k ∧ Facts.App.But (some (w.heap.size + 2)) W0 wr ∧ PaysTo h k (spanAt h (entAt h k).day.toNat).1 M ∧ MapS wr (w.heap.size + 2) M) (fun ix _ => h.entries.length - (intOf ix).toNat)
  case atStart => exact ⟨0, [], Nat.zero_le _, rfl, Facts.App.But.of_ext (Ext.refl _), PaysTo.start h, m0⟩
  case round =>
    obtain ⟨k, M0, hk, rfl, hp, hT0, hM0⟩ := hrel
    obtain ⟨wo, hwo⟩ : ∃ wo : World, wo = wr := ⟨_, rfl⟩
    subst hwo
    have hL : Lies w wo := fun p v hc => but_cell hp (x0.cell hc) (by have := cell_lt hc; omega)
    have d0 := but_cell hp c0 (by simp)
    have d1 := but_cell hp c1 (by simp)
    have d2 := but_cell hp c2 (by simp)
    have d3 := but_cell hp c3 (by simp)
    have d4 := but_cell hp c4 (by simp)
    have d5 := but_cell hp c5 (by simp)
    by_cases hlt : k < h.entries.length
    · obtain ⟨xb, xo, rfl, e0, e1, e2, e3, i0, i1, i2, i3⟩ := (he.lies hL).get hlt
      have k1 : (k : Int) < (h.entries.length : Int) := by omega
      have hen := hV.entry _ (List.getElem_mem hlt)
      have hea : entAt h k = h.entries[k] := entAt_get hlt
      have zz := cell_lt d0
      generalize h.entries[k] = x at *
      obtain ⟨⟨g1, g2⟩, ⟨g3, g4⟩, ⟨g5, g6⟩, g7, g8⟩ := hen
      obtain ⟨ai, hai⟩ : ∃ ai : Nat, x.agent = ai := ⟨x.agent.toNat, by omega⟩
      have hal : ai < h.agents.length := by omega
      obtain ⟨di, hdi⟩ : ∃ di : Nat, x.day = di := ⟨x.day.toNat, by omega⟩
      have hdl : di < h.rates.length := by have := hV.many; omega
      have hag := hV.agent _ (List.getElem_mem hal)
      have hgt : agtAt h x.agent = h.agents[ai] := by unfold agtAt; rw [hai, Int.toNat_natCast, List.getD_eq_getElem?_getD, List.getElem?_eq_getElem hal]; rfl
      have hent := fun wq (hw : AgentsAt wq (.slice aa h.agents.length ac) h.agents) => entry_any h ra aa (some ⟨xb, xo, none⟩) rc ac ec (.map (some (w.heap.size + 2))) x h.agents[ai] wq hw ai hal hai rfl hag.2
      have hsp := hV.span hdl
      have hpy := fun r (hr : 0 ≤ r ∧ r ≤ 20) w => pays_any x h.agents[ai] r hag.1 hag.2 ⟨g5, g6⟩ hr w
      have hpe : ∀ r, entPay h (entAt h k) r = payM h.agents[ai] x.near r := fun r => by unfold entPay; rw [hea, hgt]
      have hse : spanAt h (entAt h k).day.toNat = spanAt h di := by rw [hea, hdi]; rfl
      obtain ⟨rb, ro, rfl, s0, s1, -, -⟩ := (hr.lies hL).get hdl
      have hspg : h.rates[di] = spanAt h di := by unfold spanAt; rw [List.getD_eq_getElem?_getD, List.getElem?_eq_getElem hdl]; rfl
      rw [hspg] at s0 s1
      rw [hse] at hT0
      generalize h.agents[ai] = a at *
      generalize spanAt h di = sp at *
      obtain ⟨slo, shi⟩ := sp
      simp only at hsp s0 s1 hT0
      have HT := Lib.hid hT0
      have Hpe := Lib.hid hpe
      have Hse := Lib.hid hse
      have Hea := Lib.hid hea
      have hAg := ha.lies hL
      unfold houseV entV at hent
      simp only [hai, hdi] at hent
      clear hT0 hpe hse hea hgt hspg hag hL
      go_wp2_with fail
      refine (hent _ (hAg.ext (ext_alloc _ _))).mono ?_
      rintro e w5 ⟨rfl, hx5⟩
      have x5 : Ext wo w5 := hx5.of_alloc
      have q1 : w5.cell? ⟨wo.heap.size, 1, none⟩ = some (.int .i64 di) := hx5.cell (by simp [go_sem])
      replace d0 := x5.cell d0
      replace d1 := x5.cell d1
      replace d2 := x5.cell d2
      replace d3 := x5.cell d3
      replace d4 := x5.cell d4
      replace d5 := x5.cell d5
      replace s0 := x5.cell s0
      replace s1 := x5.cell s1
      have zs : rb < w5.heap.size := cell_lt s0
      have hM5 := hM0.ext x5
      have hp5 : Facts.App.But (some (w.heap.size + 2)) W0 w5 := hp.trans (Facts.App.But.of_ext x5)
      have zrb : rb ≠ w.heap.size + 2 := by obtain ⟨_, _, e, h7, -⟩ := (hr.get hdl); cases e; have := cell_lt h7; simp at this; omega
      have zq : wo.heap.size ≠ w.heap.size + 2 := by have := cell_lt (but_cell hp c0 (by simp)); simp at this; omega
      have kd : (di : Int) < (h.rates.length : Int) := by omega
      have HM := Lib.hid hM5
      generalize hev : entryV x a = ev at *
      clear hx5 hent hM0 hM5 hAg hev
      go_wp2
      go_loopw [7] (fun rv wr => ∃ (j : Nat) (M : Sums), (j : Int) ≤ shi + 1 - slo ∧ rv = .int .i64 (slo + j) ∧ Facts.App.But (some (w.heap.size + 2)) w5 wr ∧ PaysTo h k (slo + j) M ∧ MapS wr (w.heap.size + 2) M) (fun rv _ => (shi + 1 - intOf rv).toNat)
      case atStart => exact ⟨0, M0, by omega, by simp, Facts.App.But.of_ext (Ext.refl _), by simpa using HT.out, HM.out⟩
      case round =>
        obtain ⟨j, M, hj, rfl, hq, hT, hM⟩ := hrel
        replace d0 := but_cell hq d0 (by simp)
        replace d1 := but_cell hq d1 (by simp)
        replace d2 := but_cell hq d2 (by simp)
        replace d3 := but_cell hq d3 (by simp)
        replace d4 := but_cell hq d4 (by simp)
        replace d5 := but_cell hq d5 (by simp)
        replace s0 := but_cell hq s0 zrb
        replace s1 := but_cell hq s1 zrb
        replace q1 := but_cell hq q1 zq
        obtain ⟨rj, hrj⟩ : ∃ rj, rj = slo + (j : Int) := ⟨_, rfl⟩
        rw [← hrj] at hT ⊢
        have Hrj := Lib.hid hrj
        clear hrj
        by_cases hle : rj ≤ shi
        · have hpw := hpy rj (by have := Hrj.out; omega)
          have wr1 : IntKind.i64.wrap (rj + 1) = rj + 1 := IntWalk.i64_in _ (by have := Hrj.out; omega)
          have hno := hT.2.2.1 rj (Int.le_refl _)
          have hst := hT.step
          rw [Hpe.out] at hst
          generalize payM a x.near rj = pj at *
          have Hst := Lib.hid hst
          have Hno := Lib.hid hno
          clear hst hno hT hpy
          go_wp2_with fail
          apply Facts.Peel.wp_regionL two_ee 8 7 [.val _, .val (.map (some (w.heap.size + 2))), .val (.int .i64 k), .val (.int .i64 rj), .val (.agg #[.int .i64 k, .int .i64 rj]), .val _, .val _, .val (.int .i64 pj)] (by kernel_rfl) (by kernel_rfl) (by kernel_rfl) (by kernel_rfl) (by kernel_rfl) (by kernel_rfl) trivial ?main
          case main =>
            simp only [List.take_succ_cons, List.take_zero, List.getD_cons_succ, List.getD_cons_zero]
            iterate 7 (refine ⟨fun w1 hC hh => ?_, ?_⟩; focus (have hx := hC; clear hh hC; have f5 := hx.cell d5; go_simp; first | exact ⟨Ext.refl _, rfl⟩ | exact Ext.refl _))
            refine ⟨fun w1 hx hh => ?_, ?_⟩
            · clear hh
              go_simp
              refine (hpw w1).mono ?_
              rintro e w' ⟨rfl, hx2⟩
              exact ⟨_, rfl, hx2, rfl⟩
            intro w7 hx7 hh
            clear hh
            have hM7 := hM.ext hx7
            have hup := run_update_s ((k : Int), rj) pj hM7 Hno.out
            have hu2 := hup.choose_spec
            generalize hup.choose = w8 at hu2
            have hrun := hu2.1
            have hM8 := hu2.2.1
            have hg := hu2.2.2.1
            clear hu2 hup
            unfold sumV at hrun
            refine ⟨rfl, ?_⟩
            go_simp
            go_wp2
            go_roundw
            case rel => exact ⟨j + 1, _, by have := Hrj.out; omega, by rw [show slo + ((j + 1 : Nat) : Int) = rj + 1 from by have := Hrj.out; omega], (hq.trans (Facts.App.But.of_ext hx7)).trans hg, by rw [show slo + ((j + 1 : Nat) : Int) = rj + 1 from by have := Hrj.out; omega]; exact Hst.out, hM8⟩
            case measure => have := Hrj.out; simp [intOf]; omega
        · have hnx := hT.next (by have := Hse.out; rw [this]; simp only; omega) (fun _ _ => trivial)
          have Hnx := Lib.hid hnx
          clear hnx hT
          go_wp2
          go_roundw
          case rel => exact ⟨k + 1, M, by omega, by go_num, hp5.trans hq, Hnx.out, hM⟩
          case measure => simp [intOf]; omega
    · have hke : k = h.entries.length := by omega
      subst hke
      have hB2 : BoxIs wo (w.heap.size + 1) [.int .i64 0, .slice none 0 0, .int .i64 0, .slice none 0 0, .slice none 0 0, .map none] := fun j v hj => but_cell hp (hB j v hj) (by simp)
      have q0 := hB2 0 _ rfl
      have q1 := hB2 1 _ rfl
      have q2 := hB2 2 _ rfl
      have q3 := hB2 3 _ rfl
      have q4 := hB2 4 _ rfl
      have q5 := hB2 5 _ rfl
      have zB : w.heap.size + 1 < wo.heap.size := hB2.lt
      have fz2 : ∀ j, wo.frozen? ⟨w.heap.size + 1, j, none⟩ = false := fun j => by
        have := hp.block (w.heap.size + 1) (by have := hB.lt; omega) (by simp)
        rw [World.frozen?_of_block (w := W0) this]; exact fz j
      have xo : Ext w wo := Ext.grown x0 hp (fun r e => by have := Option.some.inj e; omega)
      have hS := (((((hB2.set 0 (by simp) (.int .i64 h.days)).set 1 (by simp) (.slice ra h.rates.length rc)).set 2 (by simp) (.int .i64 h.step)).set 3 (by simp) (.slice aa h.agents.length ac)).set 4 (by simp) (.slice ea h.entries.length ec)).set 5 (by simp) (.map (some (w.heap.size + 2)))
      simp only [List.set_cons_zero, List.set_cons_succ] at hS
      have xS : Ext w ((((((wo.setCell ⟨w.heap.size + 1, 0, none⟩ (.int .i64 h.days)).setCell ⟨w.heap.size + 1, 1, none⟩ (.slice ra h.rates.length rc)).setCell ⟨w.heap.size + 1, 2, none⟩ (.int .i64 h.step)).setCell ⟨w.heap.size + 1, 3, none⟩ (.slice aa h.agents.length ac)).setCell ⟨w.heap.size + 1, 4, none⟩ (.slice ea h.entries.length ec)).setCell ⟨w.heap.size + 1, 5, none⟩ (.map (some (w.heap.size + 2)))) :=
        (((((xo.setCell (by simp) _).setCell (by simp) _).setCell (by simp) _).setCell (by simp) _).setCell (by simp) _).setCell (by simp) _
      have hMS : MapS ((((((wo.setCell ⟨w.heap.size + 1, 0, none⟩ (.int .i64 h.days)).setCell ⟨w.heap.size + 1, 1, none⟩ (.slice ra h.rates.length rc)).setCell ⟨w.heap.size + 1, 2, none⟩ (.int .i64 h.step)).setCell ⟨w.heap.size + 1, 3, none⟩ (.slice aa h.agents.length ac)).setCell ⟨w.heap.size + 1, 4, none⟩ (.slice ea h.entries.length ec)).setCell ⟨w.heap.size + 1, 5, none⟩ (.map (some (w.heap.size + 2)))) (w.heap.size + 2) M0 := by
        refine hM0.kept ?_
        iterate 5 rw [Below.heap_setCell _ _ _ _ (by simp)]
        exact Below.heap_setCell _ _ _ _ (by simp)
      have r0 := hS 0 _ rfl
      have r1 := hS 1 _ rfl
      have r2 := hS 2 _ rfl
      have r3 := hS 3 _ rfl
      have r4 := hS 4 _ rfl
      have r5 := hS 5 _ rfl
      have HS := Lib.hid xS
      have HM := Lib.hid hMS
      have HT := Lib.hid hT0.all
      clear hS hB2 xo xS hMS fz hT0 hM0 hL hB
      go_wp2_with fail
      refine bodyPost_ret (v := houseV h ra aa ea rc ac ec (.map (some (w.heap.size + 2)))) (by simp [results, Try.results100, go_sem, r0, r1, r2, r3, r4, r5, houseV]) rfl ⟨_, rfl, ⟨_, _, _, _, _, _, _, M0, rfl, HR0.out, HA0.out, HE0.out, by omega, HM.out, HT.out⟩, HS.out⟩
theorem look_any (hv : Value) (h : House) (hV : ValidH h) (w : World) (hh : HouseAt w hv h) :
    Calls Try.prog 100 #[hv] w fun e w' => ∃ u, e = .returned u ∧ LookAt w' u h ∧ Ext w w' := by
  refine (look2_any hv h hV w w hh (Ext.refl _)).mono ?_
  rintro e w' ⟨u, rfl, hu, hx⟩
  exact ⟨u, rfl, hu.look hx, hx⟩
end Go.Proofs.Ytdadffmagfknoaa

namespace Go.Proofs.Ytdadffmagfknoaa
set_option linter.unusedSimpArgs false
set_option linter.unusedVariables false
open Go.RowKit
set_option linter.unusedVariables false
set_option maxRecDepth 100000

/-- the rates of all days -/
def rateV (r : List Int) : Value := .agg #[.int .i64 (r.getD 0 0), .int .i64 (r.getD 1 0), .int .i64 (r.getD 2 0)]
theorem isTold_any (hv : Value) (h : House) (i : Nat) (hi : i < h.entries.length) (w : World) (hl : LookAt w hv h) :
    Calls Try.prog 79 #[hv, .int .i64 i] w fun e w' => e = .returned (.bool (toldE (entAt h i))) ∧ Ext w w' := by
  obtain ⟨ra, rc, aa, ac, ea, ec, B, M, rfl, hr, ha, he, hM, hP⟩ := hl
  obtain ⟨b, o, rfl, e0, e1, e2, e3, -⟩ := he.get hi
  rw [entAt_get hi]
  have k1 : (i : Int) < (h.entries.length : Int) := by omega
  have z0 : b < w.heap.size := cell_lt e0
  have b3 : ∀ o1, (w.alloc o1).cell? ⟨b, o + i * 4 + 3, none⟩ = some (.int .i64 (h.entries[i]).far) := fun o1 => (ext_alloc w o1).cell e3
  generalize h.entries[i] = x at *
  unfold houseV toldE
  clear hr ha he hM hP e0 e1 e2 e3
  go_enter Try.func79, Try.ntmps79
  go_wp2
  go_ret
  exact ⟨rfl, (by first | (with_reducible exact Ext.refl _) | (with_reducible assumption) | (show Below _ _ _; go_grown; done))⟩
/-- the rate of an entry's day is one that it could have -/
def RateIn (h : House) (i : Nat) (r : List Int) : Prop := (spanAt h (entAt h i).day.toNat).1 ≤ r.getD (entAt h i).day.toNat 0 ∧ r.getD (entAt h i).day.toNat 0 ≤ (spanAt h (entAt h i).day.toNat).2
set_option maxHeartbeats 2000000 in
theorem paidFor_any (hv : Value) (h : House) (hV : ValidH h) (i : Nat) (hi : i < h.entries.length) (r : List Int) (hr : RateIn h i r) (w : World) (hl : LookAt w hv h) :
    Calls Try.prog 109 #[hv, .int .i64 i, rateV r] w fun e w' => e = .returned (.int .i64 (entPay h (entAt h i) (r.getD (entAt h i).day.toNat 0))) ∧ Ext w w' := by
  obtain ⟨ra, rc, aa, ac, ea, ec, B, M, rfl, -, -, he, hM, hP⟩ := hl
  have hget := hP i hi _ hr.1 hr.2
  obtain ⟨b, o, rfl, e0, e1, e2, e3, -⟩ := he.get hi
  have hen := hV.entry _ (entAt_mem hi)
  have hdv := hV.days
  have hea := entAt_get hi
  rw [← hea] at e1
  have k1 : (i : Int) < (h.entries.length : Int) := by omega
  obtain ⟨d, hd⟩ : ∃ d : Nat, (entAt h i).day = d := ⟨(entAt h i).day.toNat, by omega⟩
  have hd3 : d < 3 := by omega
  have k2 : (d : Int) < 3 := by omega
  rw [hd, Int.toNat_natCast] at hget ⊢
  rw [hd] at e1
  have hrd : ∀ (w : World) (B : Nat), w.cell? ⟨B, 0, none⟩ = some (.int .i64 (r.getD 0 0)) → w.cell? ⟨B, 1, none⟩ = some (.int .i64 (r.getD 1 0)) → w.cell? ⟨B, 2, none⟩ = some (.int .i64 (r.getD 2 0)) → w.cell? ⟨B, d, none⟩ = some (.int .i64 (r.getD d 0)) := by
    intro w B h0 h1 h2
    have : d = 0 ∨ d = 1 ∨ d = 2 := by omega
    rcases this with rfl | rfl | rfl
    · exact h0
    · exact h1
    · exact h2
  generalize entPay h (entAt h i) (r.getD d 0) = pj at *
  generalize hrj : r.getD d 0 = rj at *
  unfold houseV rateV
  obtain ⟨W, hW⟩ : ∃ W, W = (w.alloc (.cells #[.int .i64 h.days, .slice ra h.rates.length rc, .int .i64 h.step, .slice aa h.agents.length ac, .slice (some ⟨b, o, none⟩) h.entries.length ec, .map (some B)] 85)).alloc (.cells #[.int .i64 (r.getD 0 0), .int .i64 (r.getD 1 0), .int .i64 (r.getD 2 0)] 94) := ⟨_, rfl⟩
  have xW : Ext w W := by rw [hW]; exact (ext_alloc _ _).alloc _
  have f4 : W.cell? ⟨w.heap.size, 4, none⟩ = some (.slice (some ⟨b, o, none⟩) h.entries.length ec) := by rw [hW]; simp [go_sem]
  have f5 : W.cell? ⟨w.heap.size, 5, none⟩ = some (.map (some B)) := by rw [hW]; simp [go_sem]
  have g0 : W.cell? ⟨w.heap.size + 1, d, none⟩ = some (.int .i64 rj) := hrd W _ (by rw [hW]; simp [go_sem]) (by rw [hW]; simp [go_sem]) (by rw [hW]; simp [go_sem])
  have e1' := xW.cell e1
  have hMW := hM.ext xW
  have Hget := Lib.hid hget
  have HW := Lib.hid hW
  clear hget hP hM he e0 e1 e2 e3 hea hen hr hrd hd hrj hW
  generalize r.getD 0 0 = r0 at *
  generalize r.getD 1 0 = r1 at *
  generalize r.getD 2 0 = r2 at *
  go_enter Try.func109, Try.ntmps109
  go_wp2_with fail
  rw [← HW.out]
  apply Facts.wp_region [.val _, .val (.map (some B)), .val (.int .i64 i), .val _, .val _, .val (.slice (some ⟨b, o, none⟩) h.entries.length ec), .val _, .val (.pointer (some ⟨b, o + i * 4, none⟩)), .val _, .val (.int .i64 d), .val (.pointer (some ⟨w.heap.size + 1, d, none⟩)), .val (.int .i64 rj), .val (.agg #[.int .i64 i, .int .i64 rj]), .val (.int .i64 pj), .val _] (by kernel_rfl) (by kernel_rfl) trivial ?main
  case main =>
    iterate 13 (refine ⟨fun w1 hx hh => ?_, ?_⟩; focus (clear hh; (have q0 := hx.cell f4; have q1 := hx.cell f5; have q2 := hx.cell g0; have q3 := hx.cell e1'); go_simp; first | exact ⟨Ext.refl _, rfl⟩ | exact Ext.refl _))
    refine ⟨fun w1 hx hh => ?_, ?_⟩
    · clear hh
      have hrun := run_lookup_s ((i : Int), rj) (hMW.ext hx) false
      rw [Hget.out] at hrun
      unfold sumV at hrun
      simp only [Option.getD_some, Bool.false_eq_true, if_false] at hrun
      go_simp
      first | exact ⟨Ext.refl _, rfl⟩ | exact Ext.refl _
    iterate 1 (refine ⟨fun w1 hx hh => ?_, ?_⟩; focus (clear hh; skip; go_simp; first | exact ⟨Ext.refl _, rfl⟩ | exact Ext.refl _))
    intro w1 hx1 hh
    clear hh
    go_simp
    go_wp2
    go_ret
    exact ⟨rfl, xW.trans hx1⟩
set_option maxHeartbeats 2000000 in
theorem agrees_any (hv : Value) (h : House) (hV : ValidH h) (i : Nat) (hi : i < h.entries.length) (r : List Int) (hr : RateIn h i r) (w : World) (hl : LookAt w hv h) :
    Calls Try.prog 83 #[hv, .int .i64 i, rateV r] w fun e w' => e = .returned (.bool (agreesM h (entAt h i) r)) ∧ Ext w w' := by
  have hl0 := hl
  obtain ⟨ra, rc, aa, ac, ea, ec, B, M, rfl, -, -, he, hM, hP⟩ := hl
  have hpf := fun w hl => paidFor_any (houseV h ra aa ea rc ac ec (.map (some B))) h hV i hi r hr w hl
  obtain ⟨b, o, rfl, e0, e1, e2, e3, -⟩ := he.get hi
  have hea := entAt_get hi
  rw [← hea] at e3
  have k1 : (i : Int) < (h.entries.length : Int) := by omega
  have hdef : agreesM h (entAt h i) r = (entPay h (entAt h i) (r.getD (entAt h i).day.toNat 0) == (entAt h i).far) := rfl
  rw [hdef]
  generalize entPay h (entAt h i) (r.getD (entAt h i).day.toNat 0) = pj at *
  generalize (entAt h i).far = fj at *
  unfold houseV rateV at *
  obtain ⟨W, hW⟩ : ∃ W, W = (w.alloc (.cells #[.int .i64 h.days, .slice ra h.rates.length rc, .int .i64 h.step, .slice aa h.agents.length ac, .slice (some ⟨b, o, none⟩) h.entries.length ec, .map (some B)] 85)).alloc (.cells #[.int .i64 (r.getD 0 0), .int .i64 (r.getD 1 0), .int .i64 (r.getD 2 0)] 94) := ⟨_, rfl⟩
  have xW : Ext w W := by rw [hW]; exact (ext_alloc _ _).alloc _
  have f0 : W.cell? ⟨w.heap.size, 0, none⟩ = some (.int .i64 h.days) := by rw [hW]; simp [go_sem]
  have f1 : W.cell? ⟨w.heap.size, 1, none⟩ = some (.slice ra h.rates.length rc) := by rw [hW]; simp [go_sem]
  have f2 : W.cell? ⟨w.heap.size, 2, none⟩ = some (.int .i64 h.step) := by rw [hW]; simp [go_sem]
  have f3 : W.cell? ⟨w.heap.size, 3, none⟩ = some (.slice aa h.agents.length ac) := by rw [hW]; simp [go_sem]
  have f4 : W.cell? ⟨w.heap.size, 4, none⟩ = some (.slice (some ⟨b, o, none⟩) h.entries.length ec) := by rw [hW]; simp [go_sem]
  have f5 : W.cell? ⟨w.heap.size, 5, none⟩ = some (.map (some B)) := by rw [hW]; simp [go_sem]
  have g0 : W.cell? ⟨w.heap.size + 1, 0, none⟩ = some (.int .i64 (r.getD 0 0)) := by rw [hW]; simp [go_sem]
  have g1 : W.cell? ⟨w.heap.size + 1, 1, none⟩ = some (.int .i64 (r.getD 1 0)) := by rw [hW]; simp [go_sem]
  have g2 : W.cell? ⟨w.heap.size + 1, 2, none⟩ = some (.int .i64 (r.getD 2 0)) := by rw [hW]; simp [go_sem]
  have e3' := xW.cell e3
  have hlW := hl0.ext xW
  have HW := Lib.hid hW
  clear hP hM he e0 e1 e2 e3 hea hr hW hl0 hdef
  generalize r.getD 0 0 = r0 at *
  generalize r.getD 1 0 = r1 at *
  generalize r.getD 2 0 = r2 at *
  go_enter Try.func83, Try.ntmps83
  go_wp2_with fail
  rw [← HW.out]
  apply Facts.wp_region [.val _, .val _, .val _, .val (.int .i64 pj), .val _, .val _, .val (.slice (some ⟨b, o, none⟩) h.entries.length ec), .val _, .val (.pointer (some ⟨b, o + i * 4, none⟩)), .val _, .val (.int .i64 fj), .val (.bool (pj == fj)), .val _] (by kernel_rfl) (by kernel_rfl) trivial ?main
  case main =>
    iterate 3 (refine ⟨fun w1 hx hh => ?_, ?_⟩; focus (clear hh; (have q0 := hx.cell f0; have q1 := hx.cell f1; have q2 := hx.cell f2; have q3 := hx.cell f3; have q4 := hx.cell f4; have q5 := hx.cell f5; have q6 := hx.cell g0; have q7 := hx.cell g1; have q8 := hx.cell g2); go_simp; first | exact ⟨Ext.refl _, rfl⟩ | exact Ext.refl _))
    refine ⟨fun w1 hx hh => ?_, ?_⟩
    · clear hh
      go_simp
      refine (hpf w1 (hlW.ext hx)).mono ?_
      rintro e w' ⟨rfl, hx2⟩
      exact ⟨_, rfl, hx2, rfl⟩
    iterate 9 (refine ⟨fun w1 hx hh => ?_, ?_⟩; focus (clear hh; (have q4 := hx.cell f4; have q9 := hx.cell e3'); go_simp; first | exact ⟨Ext.refl _, rfl⟩ | exact Ext.refl _))
    intro w1 hx1 hh
    clear hh
    go_simp
    go_wp2
    go_ret
    exact ⟨rfl, xW.trans hx1⟩
end Go.Proofs.Ytdadffmagfknoaa

namespace Go.Proofs.Ytdadffmagfknoaa
set_option linter.unusedSimpArgs false
set_option linter.unusedVariables false
open Go.RowKit
set_option linter.unusedVariables false
set_option maxRecDepth 100000

def spanV (a b : Int) : Value := .agg #[.int .i64 a, .int .i64 b]
set_option maxHeartbeats 2000000 in
theorem ratesOf_any (hv : Value) (h : House) (hV : ValidH h) (d : Nat) (hd : d < h.rates.length) (r : List Int) (hr : ∀ j, 0 ≤ r.getD j 0 ∧ r.getD j 0 ≤ 20) (w : World) (hl : LookAt w hv h) :
    Calls Try.prog 104 #[hv, .int .i64 d, rateV r] w fun e w' => e = .returned (spanV (loAt h d r) (hiAt h d r)) ∧ Ext w w' := by
  obtain ⟨ra, rc, aa, ac, ea, ec, B, M, rfl, hra, -, -, hM, -⟩ := hl
  obtain ⟨b, o, rfl, e0, e1, -⟩ := hra.get hd
  have hsp := hV.span hd
  have hspg : h.rates[d] = spanAt h d := by unfold spanAt; rw [List.getD_eq_getElem?_getD, List.getElem?_eq_getElem hd]; rfl
  have hst := hV.step
  rw [hspg] at e0 e1
  have k1 : (d : Int) < (h.rates.length : Int) := by omega
  have hd3 : d < 3 := by have := hV.many; have := hV.days; omega
  have z0 : b < w.heap.size := cell_lt e0
  have b0 : ∀ o1 o2 o3, (((w.alloc o1).alloc o2).alloc o3).cell? ⟨b, o + d * 2, none⟩ = some (.int .i64 (spanAt h d).1) := fun o1 o2 o3 => (((ext_alloc _ _).alloc _).alloc _ : Ext w _).cell e0
  have b1 : ∀ o1 o2 o3, (((w.alloc o1).alloc o2).alloc o3).cell? ⟨b, o + d * 2 + 1, none⟩ = some (.int .i64 (spanAt h d).2) := fun o1 o2 o3 => (((ext_alloc _ _).alloc _).alloc _ : Ext w _).cell e1
  by_cases h0 : d = 0
  · subst h0
    have el : loAt h 0 r = (spanAt h 0).1 := if_pos rfl
    have eh : hiAt h 0 r = (spanAt h 0).2 := if_pos rfl
    rw [el, eh]
    generalize spanAt h 0 = sp at *
    obtain ⟨slo, shi⟩ := sp
    simp only [Int.natCast_zero, Nat.zero_mul, Nat.add_zero] at *
    unfold houseV rateV spanV
    generalize r.getD 0 0 = r0 at *
    generalize r.getD 1 0 = r1 at *
    generalize r.getD 2 0 = r2 at *
    clear e0 e1 el eh hsp hspg hr hra hM
    go_enter Try.func104, Try.ntmps104
    go_wp2_with fail
    refine bodyPost_ret (v := .agg #[.int .i64 slo, .int .i64 shi]) (by simp [results, Try.results104, go_sem]) rfl ⟨rfl, (by first | (with_reducible exact Ext.refl _) | (with_reducible assumption) | (show Below _ _ _; go_grown; done))⟩
  · obtain ⟨m, rfl⟩ : ∃ m, d = m + 1 := ⟨d - 1, by omega⟩
    have el : loAt h (m + 1) r = max (spanAt h (m + 1)).1 (r.getD m 0 - h.step) := by unfold loAt; rw [if_neg h0]; simp
    have eh : hiAt h (m + 1) r = min (spanAt h (m + 1)).2 (r.getD m 0 + h.step) := by unfold hiAt; rw [if_neg h0]; simp
    rw [el, eh]
    have hrm := hr m
    have hrd : ∀ (w : World) (B : Nat), w.cell? ⟨B, 0, none⟩ = some (.int .i64 (r.getD 0 0)) → w.cell? ⟨B, 1, none⟩ = some (.int .i64 (r.getD 1 0)) → w.cell? ⟨B, 2, none⟩ = some (.int .i64 (r.getD 2 0)) → w.cell? ⟨B, m, none⟩ = some (.int .i64 (r.getD m 0)) := by
      intro w B j0 j1 j2
      have : m = 0 ∨ m = 1 ∨ m = 2 := by omega
      rcases this with rfl | rfl | rfl
      · exact j0
      · exact j1
      · exact j2
    generalize spanAt h (m + 1) = sp at *
    obtain ⟨slo, shi⟩ := sp
    simp only at *
    generalize hrj : r.getD m 0 = rj at *
    have w1 : IntKind.i64.wrap (m : Int) = m := IntWalk.i64_in _ (by omega)
    have w2 : IntKind.i64.wrap (rj - h.step) = rj - h.step := IntWalk.i64_in _ (by omega)
    have w3 : IntKind.i64.wrap (rj + h.step) = rj + h.step := IntWalk.i64_in _ (by omega)
    have k2 : (m : Int) < 3 := by omega
    unfold houseV rateV spanV
    obtain ⟨W, hW⟩ : ∃ W, W = ((((w.alloc (.cells #[.int .i64 h.days, .slice (some ⟨b, o, none⟩) h.rates.length rc, .int .i64 h.step, .slice aa h.agents.length ac, .slice ea h.entries.length ec, .map (some B)] 85)).alloc (.cells #[.int .i64 (r.getD 0 0), .int .i64 (r.getD 1 0), .int .i64 (r.getD 2 0)] 94)).alloc (.cells #[.int .i64 0, .int .i64 0] 35)).alloc (.cells #[.int .i64 slo, .int .i64 shi] 35)) := ⟨_, rfl⟩
    have xW : Ext w W := by rw [hW]; exact (((ext_alloc _ _).alloc _).alloc _).alloc _
    have c2 : W.cell? ⟨w.heap.size, 2, none⟩ = some (.int .i64 h.step) := by rw [hW]; simp [go_sem]
    have g0 : W.cell? ⟨w.heap.size + 1, m, none⟩ = some (.int .i64 rj) := by
      have := hrd W (w.heap.size + 1) (by rw [hW]; simp [go_sem]) (by rw [hW]; simp [go_sem]) (by rw [hW]; simp [go_sem])
      exact this
    have q0 : W.cell? ⟨w.heap.size + 2, 0, none⟩ = some (.int .i64 0) := by rw [hW]; simp [go_sem]
    have q1 : W.cell? ⟨w.heap.size + 2, 1, none⟩ = some (.int .i64 0) := by rw [hW]; simp [go_sem]
    have fz : ∀ j, W.frozen? ⟨w.heap.size + 2, j, none⟩ = false := fun j => by rw [hW]; simp [go_sem]
    have s0 : W.cell? ⟨w.heap.size + 3, 0, none⟩ = some (.int .i64 slo) := by rw [hW]; simp [go_sem]
    have s1 : W.cell? ⟨w.heap.size + 3, 1, none⟩ = some (.int .i64 shi) := by rw [hW]; simp [go_sem]
    have HW := Lib.hid hW
    generalize r.getD 0 0 = r0 at *
    generalize r.getD 1 0 = r1 at *
    generalize r.getD 2 0 = r2 at *
    clear e0 e1 el eh hspg hra hM hrd hr hW hrj h0
    go_enter Try.func104, Try.ntmps104
    go_wp2_with fail
    rw [← HW.out]
    apply Facts.Peel.wp_regionL two_ee 23 22 [.val _, .val (.int .i64 slo), .val _, .val _, .val _, .val (.int .i64 rj), .val _, .val _, .val (.int .i64 h.step), .val (.int .i64 (rj - h.step)), .val (.int .i64 (max slo (rj - h.step))), .val _, .val (.int .i64 shi), .val _, .val _, .val _, .val (.int .i64 rj), .val _, .val _, .val (.int .i64 h.step), .val (.int .i64 (rj + h.step)), .val (.int .i64 (min shi (rj + h.step))), .val (.agg #[.int .i64 (max slo (rj - h.step)), .int .i64 (min shi (rj + h.step))])] (by kernel_rfl) (by kernel_rfl) (by kernel_rfl) (by kernel_rfl) (by kernel_rfl) (by kernel_rfl) trivial ?main
    case main =>
      simp only [List.take_succ_cons, List.take_zero, List.getD_cons_succ, List.getD_cons_zero]
      iterate 10 (refine ⟨fun w1 hC hh => ?_, ?_⟩; focus (have hx := hC; clear hh hC; (have f0 := hx.cell s0; have f1 := hx.cell s1; have f2 := hx.cell g0; have f3 := hx.cell c2); go_simp; first | exact ⟨Ext.refl _, rfl⟩ | exact Ext.refl _))
      refine ⟨fun w1 hx hh => ?_, ?_⟩
      · clear hh
        go_simp
        exact ⟨Ext.refl _, by split <;> omega⟩
      iterate 10 (refine ⟨fun w1 hC hh => ?_, ?_⟩; focus (have hx := hC; clear hh hC; (have f0 := hx.cell s0; have f1 := hx.cell s1; have f2 := hx.cell g0; have f3 := hx.cell c2); go_simp; first | exact ⟨Ext.refl _, rfl⟩ | exact Ext.refl _))
      refine ⟨fun w1 hx hh => ?_, ?_⟩
      · clear hh
        go_simp
        exact ⟨Ext.refl _, by split <;> omega⟩
      iterate 1 (refine ⟨fun w1 hC hh => ?_, ?_⟩; focus (have hx := hC; clear hh hC; skip; go_simp; first | exact ⟨Ext.refl _, rfl⟩ | exact Ext.refl _))
      intro w5 hx5 hh
      clear hh
      obtain ⟨lo, hlo⟩ : ∃ lo, max slo (rj - h.step) = lo := ⟨_, rfl⟩
      obtain ⟨hi, hhi⟩ : ∃ hi, min shi (rj + h.step) = hi := ⟨_, rfl⟩
      rw [hlo, hhi]
      have Hlo := Lib.hid hlo
      have Hhi := Lib.hid hhi
      clear hlo hhi
      have p0 := hx5.cell q0
      have p1 := hx5.cell q1
      have zB : w.heap.size + 2 < W.heap.size := cell_lt q0
      have fz5 : ∀ j, w5.frozen? ⟨w.heap.size + 2, j, none⟩ = false := fun j => by rw [hx5.frozen zB]; exact fz j
      have xx := xW.trans hx5
      have r0 := set_other (set_cell p0 (.int .i64 lo)) (p := ⟨w.heap.size + 2, 1, none⟩) (.inr (by simp)) (.int .i64 hi)
      have r1 := set_cell (set_other p1 (p := ⟨w.heap.size + 2, 0, none⟩) (.inr (by simp)) (.int .i64 lo)) (.int .i64 hi)
      have xS : Ext w ((w5.setCell ⟨w.heap.size + 2, 0, none⟩ (.int .i64 lo)).setCell ⟨w.heap.size + 2, 1, none⟩ (.int .i64 hi)) := (xx.setCell (by simp) _).setCell (by simp) _
      have HS := Lib.hid xS
      clear xS xx hx5 fz
      refine ⟨rfl, ?_⟩
      go_simp
      go_wp2
      refine bodyPost_ret (v := .agg #[.int .i64 lo, .int .i64 hi]) (by simp [results, Try.results104, go_sem, r0, r1]) rfl ⟨by rw [Hlo.out, Hhi.out], HS.out⟩
end Go.Proofs.Ytdadffmagfknoaa

namespace Go.Proofs.Ytdadffmagfknoaa
set_option linter.unusedSimpArgs false
set_option linter.unusedVariables false
open Go.RowKit
set_option linter.unusedVariables false
namespace Facts.App
variable {P : Program} {ops : Array Oper}

/-- a later world in which new rows, from a block on, may have been written behind their first n cells -/
structure Grew (n0 n : Nat) (w w' : World) : Prop where
  os : w'.os = w.os
  tape : w'.tape = w.tape
  output : w'.output = w.output
  size : w.heap.size ≤ w'.heap.size
  block : ∀ k, k < w.heap.size → w'.heap[k]? = w.heap[k]? ∨ (n0 ≤ k ∧ ∃ cur cur' e, w.heap[k]? = some (.cells cur e (0, 0)) ∧ w'.heap[k]? = some (.cells cur' e (0, 0)) ∧ cur'.size = cur.size ∧ cur'.toList.take n = cur.toList.take n)
theorem Grew.of_ext {n0 n : Nat} {w w' : World} (h : Ext w w') : Grew n0 n w w' := ⟨Below.os h, Below.tape h, Below.output h, Below.size h, fun k hk => .inl (Below.block h k hk)⟩
theorem Grew.trans {n0 n : Nat} {a b c : World} (h : Grew n0 n a b) (k : Grew n0 n b c) : Grew n0 n a c :=
  ⟨k.os.trans h.os, k.tape.trans h.tape, k.output.trans h.output, Nat.le_trans h.size k.size, fun i hi => by
    rcases h.block i hi with h1 | ⟨h0, c1, c2, e, g1, g2, g3, g4⟩
    · rcases k.block i (Nat.lt_of_lt_of_le hi h.size) with h2 | ⟨h0, c1, c2, e, g1, g2, g3, g4⟩
      · exact .inl (h2.trans h1)
      · exact .inr ⟨h0, c1, c2, e, by rw [← h1]; exact g1, g2, g3, g4⟩
    · rcases k.block i (Nat.lt_of_lt_of_le hi h.size) with h2 | ⟨-, c3, c4, e', f1, f2, f3, f4⟩
      · exact .inr ⟨h0, c1, c2, e, g1, by rw [h2]; exact g2, g3, g4⟩
      · rw [g2] at f1
        simp only [Option.some.injEq, Obj.cells.injEq, and_true] at f1
        obtain ⟨rfl, rfl⟩ := f1
        exact .inr ⟨h0, c1, c4, e, g1, f2, f3.trans g3, f4.trans g4⟩⟩
theorem Grew.below {n0 n : Nat} {w w' : World} (h : Grew n0 n w w') {u : World} (hu : u.heap.size = n0) (hx : Ext u w) : Ext u w' := by
  subst hu
  exact ⟨h.os.trans (Below.os hx), h.tape.trans (Below.tape hx), h.output.trans (Below.output hx), Nat.le_trans (Below.size hx) h.size, fun k hk => by
    rcases h.block k (Nat.lt_of_lt_of_le hk (Below.size hx)) with h1 | ⟨h0, -⟩
    · exact h1.trans (Below.block hx k hk)
    · omega⟩
theorem two_grew (n0 n : Nat) : Piv.Two Ext (Grew n0 n) :=
  ⟨fun _ _ h => Grew.of_ext h, fun _ _ _ h k => h.trans k, fun _ _ _ h k => Grew.trans h k, fun _ => Ext.refl _, fun w => ext_drew w⟩
/-- a row of so many cells at most is kept -/
theorem Grew.owns {n0 n : Nat} {w w' : World} (h : Grew n0 n w w') {base size m : Nat} {e : TypeId} {v : Value} {xs : List Value} (ho : w.ownsRow base e size v m xs) (hm : m * size ≤ n) : w'.ownsRow base e size v m xs := by
  refine ⟨ho.1, ?_⟩
  rcases ho.2 with h1 | ⟨g, cap, cur, rfl, hb, hg, hnc, hcm, hcs, htake⟩
  · exact .inl h1
  · have hlt : g < w.heap.size := (Array.getElem?_eq_some_iff.1 hg).1
    rcases h.block g hlt with h1 | ⟨-, c1, c2, e', g1, g2, g3, g4⟩
    · exact .inr ⟨g, cap, cur, rfl, hb, by rw [h1]; exact hg, hnc, hcm, hcs, htake⟩
    · rw [hg] at g1
      simp only [Option.some.injEq, Obj.cells.injEq, and_true] at g1
      obtain ⟨rfl, rfl⟩ := g1
      refine .inr ⟨g, cap, c2, rfl, hb, g2, hnc, hcm, g3.trans hcs, ?_⟩
      have := congrArg (List.take (m * size)) g4
      rw [List.take_take, List.take_take, Nat.min_eq_left hm] at this
      rw [this]; exact htake
theorem Grew.cell {n0 n : Nat} {w w' : World} (h : Grew n0 n w w') {B j : Nat} {v : Value} (hc : w.cell? ⟨B, j, none⟩ = some v) (hj : j < n) : w'.cell? ⟨B, j, none⟩ = some v := by
  have hlt : B < w.heap.size := cell_lt hc
  rcases h.block B hlt with h1 | ⟨-, c1, c2, e', g1, g2, g3, g4⟩
  · rw [World.cell?_of_block (a := ⟨B, j, none⟩) h1]; exact hc
  · unfold World.cell? at hc ⊢
    simp only [g1] at hc
    simp only [g2]
    have e1 : c1[j]? = some v := by simpa using hc
    have e2 : c2[j]? = c1[j]? := by
      have a1 : c2.toList[j]? = (c2.toList.take n)[j]? := by rw [List.getElem?_take_of_lt hj]
      have a2 : c1.toList[j]? = (c1.toList.take n)[j]? := by rw [List.getElem?_take_of_lt hj]
      rw [← Array.getElem?_toList, ← Array.getElem?_toList, a1, a2, g4]
    simpa [e2] using e1
theorem run_append_grew {w : World} (base : Nat) (t ty e : TypeId) (i : TypeInfo) (z : Value) (size bytes : Nat) (ht : P.underlying t = some (.slice e)) (hi : P.info? e = some i) (hz : i.zero = some z)
    (hsize : i.size = size) (hby : i.bytes = bytes) (hzs : z.cells.size = size) (hsz : 0 < size)
    (v : Value) (n : Nat) (xs : List Value) (hown : w.ownsRow base e size v n xs)
    (a : Addr) (m c : Nat) (news : List Value) (hl : news.length = m * size) (hnews : ∀ j u, news[j]? = some u → w.cell? (a.add j) = some u) (h1 : ∀ u ∈ news, u.oneCell' = true)
    (h63 : n + m ≤ maxLen) (hbytes : (n + m) * bytes ≤ 140737488355328) (hbase : base ≤ w.heap.size) :
    ∃ v' w', (Builtin.append_ #[t, t] ty #[v, .slice (some a) m c]).run P w = .ok v' w' ∧ w'.ownsRow base e size v' (n + m) (xs ++ news) ∧ Grew base (n * size) w w' ∧
      ((∀ g cap, v = .slice (some ⟨g, 0, none⟩) n cap → cap < n + m) → Ext w w') := by
  obtain ⟨v', w', hr, ho, hg, -, -⟩ := run_append_own_at (P := P) w base t ty e i z size bytes ht hi hz hsize hby hzs hsz v n xs hown a m c news hl hnews h1 h63 hbytes hbase
  refine ⟨v', w', hr, ho, ?_⟩
  rcases hown.2 with ⟨rfl, rfl⟩ | ⟨g, cap, cur, rfl, hbg, hg0, hnc, hcm, hcs, htake⟩
  · have hx : Ext w w' := ⟨hg.os, hg.tape, hg.output, hg.size, fun k hk => hg.block k hk (by simp [Value.ownBlock])⟩
    exact ⟨Grew.of_ext hx, fun _ => hx⟩
  · by_cases hroom : n + m ≤ cap
    · obtain ⟨w2, hr2, ho2, hg2⟩ := run_append_fits (P := P) (w := w) base t ty e i size ht hi hsize g n cap xs hown a m c news hl hnews h1 hroom
      rw [hr] at hr2
      simp only [Result.ok.injEq] at hr2
      obtain ⟨rfl, rfl⟩ := hr2
      refine ⟨⟨hg2.os, hg2.tape, hg2.output, hg2.size, fun k hk => ?_⟩, fun hf => by have := hf g cap rfl; omega⟩
      by_cases hkg : k = g
      · subst hkg
        right
        refine ⟨hbg, ?_⟩
        rcases ho2.2 with ⟨he, -⟩ | ⟨g', cap', cur', he, -, hg', -, -, hcs', ht'⟩
        · simp at he
        · simp only [Value.slice.injEq, Option.some.injEq, Addr.mk.injEq, and_true, true_and] at he
          obtain ⟨rfl, rfl⟩ := he
          refine ⟨cur, cur', e, hg0, hg', by rw [hcs, hcs'], ?_⟩
          have e1 := congrArg (List.take (n * size)) ht'
          rw [List.take_take, Nat.min_eq_left (Nat.mul_le_mul_right _ (Nat.le_add_right _ _)), ← hown.1, List.take_left] at e1
          rw [← hown.1, e1, hown.1]; exact htake.symm
      · exact .inl (hg2.block k hk (by simpa using hkg))
    · have hb2 : (n + m) * i.bytes ≤ 140737488355328 := by rw [hby]; exact hbytes
      have hr2 := run_append_grow (P := P) w t ty e i z ht hi hz ⟨g, 0, none⟩ n cap xs (by rw [hsize]; exact hown.1) (hown.cells (g := g) rfl) a m c news (by rw [hsize]; exact hl) hnews (by omega) (by simp only [maxLen] at h63; omega) (growslice_fits (by omega) hb2)
      rw [hr] at hr2
      simp only [Result.ok.injEq] at hr2
      obtain ⟨rfl, rfl⟩ := hr2
      have hx : Ext w (w.drew.alloc (.cells (xs.toArray ++ news.toArray ++ Builtin.zeroCells z.cells (grownCap w (n + m) cap e - (n + m))) e)) := (ext_drew w).alloc _
      exact ⟨Grew.of_ext hx, fun _ => hx⟩
theorem stepG_append_grew {o : Oper} {a : Act} {w : World} {S : Value → World → Prop} (hgd : o.guard = none) (s x : Operand) (t : TypeId)
    (ho : o.op = .call { callee := .builtin .append, args := #[s, x], argTypes := #[t, t] })
    (base : Nat) (e : TypeId) (i : TypeInfo) (z : Value) (size bytes : Nat) (ht : P.underlying t = some (.slice e)) (hi : P.info? e = some i) (hz : i.zero = some z)
    (hsize : i.size = size) (hby : i.bytes = bytes) (hzs : z.cells.size = size) (hsz : 0 < size)
    (v : Value) (n : Nat) (xs : List Value) (hs : a.eval s = v) (hown : w.ownsRow base e size v n xs)
    (ad : Addr) (m c : Nat) (news : List Value) (hx : a.eval x = .slice (some ad) m c) (hl : news.length = m * size) (hnews : ∀ j u, news[j]? = some u → w.cell? (ad.add j) = some u) (h1 : ∀ u ∈ news, u.oneCell' = true)
    (h63 : n + m ≤ maxLen) (hbytes : (n + m) * bytes ≤ 140737488355328) (hbase : base ≤ w.heap.size)
    (h : ∀ v' w', w'.ownsRow base e size v' (n + m) (xs ++ news) → Grew base (n * size) w w' → ((∀ g cap, v = .slice (some ⟨g, 0, none⟩) n cap → cap < n + m) → Ext w w') → S v' w') : stepG P ops o a w S := by
  obtain ⟨v', w', hr, h2, h3, h4⟩ := run_append_grew (P := P) base t o.type e i z size bytes ht hi hz hsize hby hzs hsz v n xs hown ad m c news hl hnews h1 h63 hbytes hbase
  unfold stepG
  have hw : Region.wanted o (yielded ops a.tmps) = true := by unfold Region.wanted; rw [hgd]
  rw [if_pos hw]
  unfold execOp
  simp only [ho, resolve, invoke, builtin, Sem.run_bind, Sem.run_pure, Result.andThen_ok, List.map_toArray, List.map_cons, List.map_nil, hs, hx, hr]
  exact h v' w' h2 h3 h4
/-- onto a row, of nothing -/
theorem stepG_append_none {o : Oper} {a : Act} {w : World} {S : Value → World → Prop} (hgd : o.guard = none) (s x : Operand) (t : TypeId)
    (ho : o.op = .call { callee := .builtin .append, args := #[s, x], argTypes := #[t, t] })
    (base : Nat) (e : TypeId) (i : TypeInfo) (size : Nat) (ht : P.underlying t = some (.slice e)) (hi : P.info? e = some i)
    (v : Value) (n : Nat) (xs : List Value) (hs : a.eval s = v) (hown : w.ownsRow base e size v n xs) (hx : a.eval x = .slice none 0 0)
    (h : S v w) : stepG P ops o a w S := by
  have hrun := run_append_owned_none (P := P) (w := w) base t o.type e i size ht hi v n xs hown
  unfold stepG
  have hw : Region.wanted o (yielded ops a.tmps) = true := by unfold Region.wanted; rw [hgd]
  rw [if_pos hw]
  unfold execOp
  simp only [ho, resolve, invoke, builtin, Sem.run_bind, Sem.run_pure, Result.andThen_ok, List.map_toArray, List.map_cons, List.map_nil, hs, hx, hrun]
  exact h
end Facts.App
end Go.Proofs.Ytdadffmagfknoaa

namespace Go.Proofs.Ytdadffmagfknoaa
set_option linter.unusedSimpArgs false
set_option linter.unusedVariables false
open Go.RowKit
set_option linter.unusedVariables false
namespace Facts.App
variable {P : Program} {ops : Array Oper}

/-- one row alone may have been written, behind its first n cells -/
def ButG (own : Option Nat) (n0 n : Nat) (w w' : World) : Prop := But own w w' ∧ Grew n0 n w w'
theorem ButG.of_ext {own : Option Nat} {n0 n : Nat} {w w' : World} (h : Ext w w') : ButG own n0 n w w' := ⟨But.of_ext h, Grew.of_ext h⟩
theorem two_butG (own : Option Nat) (n0 n : Nat) : Piv.Two Ext (ButG own n0 n) :=
  ⟨fun _ _ h => ButG.of_ext h, fun _ _ _ h k => h.trans k, fun _ _ _ h k => ⟨World.grownBy.trans h.1 k.1, Grew.trans h.2 k.2⟩, fun _ => Ext.refl _, fun w => ext_drew w⟩
theorem stepG_append_both {o : Oper} {a : Act} {w : World} {S : Value → World → Prop} (hgd : o.guard = none) (s x : Operand) (t : TypeId)
    (ho : o.op = .call { callee := .builtin .append, args := #[s, x], argTypes := #[t, t] })
    (base : Nat) (e : TypeId) (i : TypeInfo) (z : Value) (size bytes : Nat) (ht : P.underlying t = some (.slice e)) (hi : P.info? e = some i) (hz : i.zero = some z)
    (hsize : i.size = size) (hby : i.bytes = bytes) (hzs : z.cells.size = size) (hsz : 0 < size)
    (v : Value) (n : Nat) (xs : List Value) (hs : a.eval s = v) (hown : w.ownsRow base e size v n xs)
    (ad : Addr) (m c : Nat) (news : List Value) (hx : a.eval x = .slice (some ad) m c) (hl : news.length = m * size) (hnews : ∀ j u, news[j]? = some u → w.cell? (ad.add j) = some u) (h1 : ∀ u ∈ news, u.oneCell' = true)
    (h63 : n + m ≤ maxLen) (hbytes : (n + m) * bytes ≤ 140737488355328) (hbase : base ≤ w.heap.size)
    (h : ∀ v' w', w'.ownsRow base e size v' (n + m) (xs ++ news) → ButG v.ownBlock base (n * size) w w' → (v'.ownBlock = v.ownBlock ∨ v'.ownBlock = some w.heap.size) → S v' w') : stepG P ops o a w S := by
  obtain ⟨v', w', hr, h2, h3, -, h5⟩ := run_append_own_at (P := P) w base t o.type e i z size bytes ht hi hz hsize hby hzs hsz v n xs hown ad m c news hl hnews h1 h63 hbytes hbase
  obtain ⟨v2, w2, hr2, -, g3, -⟩ := run_append_grew (P := P) base t o.type e i z size bytes ht hi hz hsize hby hzs hsz v n xs hown ad m c news hl hnews h1 h63 hbytes hbase
  rw [hr] at hr2
  simp only [Result.ok.injEq] at hr2
  obtain ⟨rfl, rfl⟩ := hr2
  unfold stepG
  have hw : Region.wanted o (yielded ops a.tmps) = true := by unfold Region.wanted; rw [hgd]
  rw [if_pos hw]
  unfold execOp
  simp only [ho, resolve, invoke, builtin, Sem.run_bind, Sem.run_pure, Result.andThen_ok, List.map_toArray, List.map_cons, List.map_nil, hs, hx, hr]
  exact h v' w' h2 ⟨h3, g3⟩ h5
end Facts.App
end Go.Proofs.Ytdadffmagfknoaa
