/-
  A RANGE OVER A MAP BY SOUND STRINGS, in whatever order; and how sound strings are ordered.
  WHAT firstOf RETURNS: the first string that all of some spellings can be, and whether there is one.
  WHAT Count, Reads, Common, First, Alike AND Odd RETURN where there is no error.
  WHAT Common RETURNS where there is no error.
  WHAT First AND Alike RETURN where there is no error.
-/
import Derived.Test.YtoifmphpeflliaaBunE
import Derived.Maps.RangeWalk
import Derived.Test.YtoifmphpeflliaaBunC
import Derived.Test.YtoifmphpeflliaaBunD
namespace Go.Proofs.Ytoifmphpeflliaa
set_option linter.unusedVariables false
set_option linter.unusedSimpArgs false
open Go.RowKit
open Go.ChangeMaps (setBlock)

/-- the iterator in block r has handed out the entries with these numbers -/
def IterAt (w : World) (r B : Nat) (m : Nat) (seen : Array Nat) : Prop := w.heap[r]? = some (.mapIter (some B) m seen m)
/-- how many entries of m are still to come -/
def leftN (m : Nat) (seen : Array Nat) : Nat := ((List.range m).filter fun i => !seen.contains i).length
def leftW (m r : Nat) (w : World) : Nat := match w.heap[r]? with
  | some (.mapIter _ _ seen _) => leftN m seen
  | _ => 0
theorem leftW_eq {w : World} {r B m : Nat} {seen : Array Nat} (h : IterAt w r B m seen) : leftW m r w = leftN m seen := by
  unfold leftW; rw [h]
theorem filter_lt {α : Type} (p q : α → Bool) (x : α) (hq : ∀ y, q y = true → p y = true) (h1 : p x = true) (h2 : q x = false) : ∀ l : List α, x ∈ l → (l.filter q).length < (l.filter p).length
  | [], h => by cases h
  | y :: l, h => by
    have hle : ∀ l : List α, (l.filter q).length ≤ (l.filter p).length := by
      intro l
      induction l with
      | nil => exact Nat.le_refl _
      | cons z l ih =>
        cases hz : q z
        · cases hp : p z <;> simp [hz, hp] <;> omega
        · simp [hz, hq z hz]; omega
    rcases List.mem_cons.1 h with e | h
    · subst e
      have := hle l
      simp [h1, h2]; omega
    · have ih := filter_lt p q x hq h1 h2 l h
      cases hz : q y
      · cases hp : p y <;> simp [hz, hp] <;> omega
      · simp [hz, hq y hz]; omega
theorem leftN_push {m i : Nat} {seen : Array Nat} (hi : i < m) (h : seen.contains i = false) : leftN m (seen.push i) < leftN m seen := by
  refine filter_lt _ _ i (fun y hy => ?_) (by rw [h]; rfl) (by simp [Array.contains_push]) _ (by simpa using hi)
  simp only [Bool.not_eq_true', Array.contains_push, Bool.or_eq_false_iff] at hy ⊢
  exact hy.1
theorem left_entries {es : Array MapEntry} {M : Tally} (hE : EntriesAre es M) {seen : Array Nat} {e : MapEntry} (h : e ∈ (leftOf es seen).toList) : ∃ i, ∃ hi : i < M.length, e = { key := ssV (M[i]).1, val := .int .i64 ((M[i]).2 : Nat), born := i } ∧ seen.contains i = false := by
  unfold leftOf at h
  rw [Array.mem_toList_iff, Array.mem_filter] at h
  obtain ⟨h1, h2⟩ := h
  obtain ⟨i, hi, rfl⟩ := Array.getElem_of_mem h1
  have hi' : i < M.length := by rw [← hE.size]; exact hi
  obtain ⟨_, hat⟩ := hE.at i hi'
  refine ⟨i, hi', hat, ?_⟩
  rw [hat] at h2
  simpa using h2
theorem left_none {es : Array MapEntry} {M : Tally} (hE : EntriesAre es M) {seen : Array Nat} (h : (leftOf es seen).size = 0) : ∀ i, i < M.length → seen.contains i = true := by
  intro i hi
  obtain ⟨hi', hat⟩ := hE.at i hi
  unfold leftOf at h
  have h0 := Array.eq_empty_of_size_eq_zero h
  rw [Array.filter_eq_empty_iff] at h0
  have := h0 es[i] (Array.getElem_mem hi')
  rw [hat] at this
  simpa using this
section
variable {P : Program} (w : World) {ops : Array Oper} {rest : List Oper} {o : Oper} {a : Act} {Q : Exit → Act → World → Prop}
theorem wpList_range_ss (hg : o.guard = none) (m : Operand) (hop : o.op = Op.range 105 m) (B : Nat) (M : Tally) (hm : a.eval m = .map (some B)) (h : MapIs w B M) (r : Nat) (hs : w.heap.size = r)
    (hK : ∀ w', IterAt w' r B M.length #[] → Ext w w' → w'.heap.size = r + 1 → wpList Try.prog ops Q rest (a.put o.dst (.pointer (some ⟨r, 0, none⟩))) w') :
    wpList Try.prog ops Q (o :: rest) a w := by
  subst hs
  refine wpList_plain hg fun K' hK' => ?_
  obtain ⟨es, hb, hE⟩ := h
  have hrun := run_range_map (P := Try.prog) w 105 109 3 B es M.length Try.underlying105 hb
  unfold Oper.wp
  simp [execOp, hop, hm, hrun, Result.andThen]
  exact hK' _ _ (hK _ (heap_alloc_new w _) (ext_alloc w _) (by simp))
theorem wpList_next_ss (hg : o.guard = none) (it : Operand) (hop : o.op = Op.next it false) (B r : Nat) (M : Tally) (seen : Array Nat) (hit : a.eval it = .pointer (some ⟨r, 0, none⟩)) (hr : IterAt w r B M.length seen) (h : MapIs w B M)
    (hDone : (∀ i, i < M.length → seen.contains i = true) → wpList Try.prog ops Q rest (a.put o.dst (.tuple #[.bool false])) w)
    (hMore : ∀ (i : Nat) (hi : i < M.length) (w' : World), seen.contains i = false → IterAt w' r B M.length (seen.push i) → w.grownBy w' (some r) → w'.heap.size = w.heap.size →
      (Instr.entry (.pointer (some ⟨r, 0, none⟩))).run Try.prog w' = .ok (.tuple #[ssV (M[i]).1, .int .i64 ((M[i]).2 : Nat)]) w' → wpList Try.prog ops Q rest (a.put o.dst (.tuple #[.bool true, ssV (M[i]).1, .int .i64 ((M[i]).2 : Nat)])) w') :
    wpList Try.prog ops Q (o :: rest) a w := by
  refine wpList_plain hg fun K' hK' => ?_
  obtain ⟨es, hb, hE⟩ := h
  have hne : r ≠ B := by
    intro e; subst e; unfold IterAt at hr; rw [hr] at hb; cases hb
  have hlt : r < w.heap.size := (Array.getElem?_eq_some_iff.1 hr).1
  have hold : ∀ x ∈ es.toList, x.born < M.length := by
    intro x hx
    obtain ⟨i, hi, rfl⟩ := List.getElem_of_mem hx
    have hi' : i < M.length := by rw [← hE.size]; simpa using hi
    obtain ⟨_, hat⟩ := hE.at i hi'
    simp [hat, hi']
  unfold Oper.wp
  rcases run_next_at (P := Try.prog) w o.type r B M.length M.length seen es M.length hr hb hold (Nat.le_refl _) with ⟨h0, hrun⟩ | ⟨e, he, w1, hal, hrun⟩
  · simp [execOp, hop, hit, hrun, Result.andThen]
    exact hK' _ _ (hDone (left_none hE h0))
  · obtain ⟨i, hi, rfl, hse⟩ := left_entries hE he
    obtain ⟨hi', hat⟩ := hE.at i hi
    simp only [execOp, hop, hit, Sem.run_bind, hrun, Result.andThen, Sem.run_pure]
    have hh : w1.heap = w.heap := by rcases hal with rfl | rfl <;> rfl
    have hb1 : (setBlock w1 r (.mapIter (some B) M.length (seen.push i) M.length)).heap[B]? = some (.map es M.length) := by simp [setBlock, hh, Array.getElem?_setIfInBounds_ne hne, hb]
    have hr1 : IterAt (setBlock w1 r (.mapIter (some B) M.length (seen.push i) M.length)) r B M.length (seen.push i) := by simp [IterAt, setBlock, hh, hlt]
    refine hK' _ _ (hMore i hi _ hse hr1 ⟨?_, ?_, ?_, ?_, ?_⟩ ?_ ?_)
    · rcases hal with rfl | rfl <;> rfl
    · rcases hal with rfl | rfl <;> rfl
    · rcases hal with rfl | rfl <;> rfl
    · simp [setBlock, hh]
    · intro k hk hkr
      have : r ≠ k := fun e => hkr (by rw [e])
      simp [setBlock, hh, Array.getElem?_setIfInBounds_ne this]
    · simp [setBlock, hh]
    · have := run_entry_at (P := Try.prog) _ r B M.length seen es M.length { key := ssV (M[i]).1, val := .int .i64 ((M[i]).2 : Nat), born := i } hr1 hb1 (by rw [← hat]; simp) (by
        have hbn := hE.born
        rw [hbn]; exact List.nodup_range)
      simpa using this
end

theorem cmpM_neg {x y : Int} : cmpM x y < 0 ↔ x < y := by unfold cmpM; split <;> (try split) <;> omega
theorem cmpM_zero {x y : Int} : cmpM x y = 0 ↔ x = y := by unfold cmpM; split <;> (try split) <;> omega
theorem cmpL_trans : ∀ {a b c : List Int}, cmpL a b < 0 → cmpL b c < 0 → cmpL a c < 0
  | [], [], _, h, _ => by simp [cmpL] at h
  | [], _ :: _, [], _, k => by simp [cmpL] at k
  | [], _ :: _, _ :: _, _, _ => by simp [cmpL]
  | _ :: _, [], _, h, _ => by simp [cmpL] at h
  | _ :: _, _ :: _, [], _, k => by simp [cmpL] at k
  | x :: a, y :: b, z :: c, h, k => by
    unfold cmpL at h k ⊢
    by_cases h1 : cmpM x y = 0
    · rw [if_pos h1] at h
      have e := cmpM_zero.1 h1; subst e
      by_cases h2 : cmpM x z = 0
      · rw [if_pos h2] at k ⊢; exact cmpL_trans h k
      · rw [if_neg h2] at k ⊢; exact k
    · rw [if_neg h1] at h
      have h3 := cmpM_neg.1 h
      by_cases h2 : cmpM y z = 0
      · have e := cmpM_zero.1 h2; subst e
        rw [if_neg h1]; exact h
      · rw [if_neg h2] at k
        have k3 := cmpM_neg.1 k
        have h4 : cmpM x z < 0 := cmpM_neg.2 (by omega)
        rw [if_neg (by omega)]; exact h4
theorem cmpSS_trans {a b c : List Int} (h : cmpSS a b < 0) (k : cmpSS b c < 0) : cmpSS a c < 0 := by
  unfold cmpSS at *
  by_cases h1 : a.length = b.length
  · rw [if_pos h1] at h
    by_cases h2 : b.length = c.length
    · rw [if_pos h2] at k; rw [if_pos (by omega)]; exact cmpL_trans h k
    · rw [if_neg h2] at k
      have := cmpM_neg.1 k
      rw [if_neg (by omega)]; exact cmpM_neg.2 (by omega)
  · rw [if_neg h1] at h
    have h3 := cmpM_neg.1 h
    by_cases h2 : b.length = c.length
    · rw [if_neg (by omega)]; exact cmpM_neg.2 (by omega)
    · rw [if_neg h2] at k
      have := cmpM_neg.1 k
      rw [if_neg (by omega)]; exact cmpM_neg.2 (by omega)

/-- the first string, of some entries, whose bits have all of n -/
structure FirstIs (M : Tally) (on : Nat → Prop) (n : Nat) (k : List Int) (f : Bool) : Prop where
  no : f = false → k = [] ∧ ∀ i (hi : i < M.length), on i → (M[i]).2 &&& n ≠ n
  yes : f = true → (∃ i, ∃ hi : i < M.length, (M[i]).1 = k ∧ (M[i]).2 &&& n = n) ∧ ∀ i (hi : i < M.length), on i → (M[i]).2 &&& n = n → ¬ cmpSS (M[i]).1 k < 0
theorem FirstIs.start (M : Tally) (n : Nat) : FirstIs M (fun i => (#[] : Array Nat).contains i = true) n [] false :=
  ⟨fun _ => ⟨rfl, fun i _ h => by simp at h⟩, fun h => by cases h⟩
theorem FirstIs.skip {M : Tally} {seen : Array Nat} {n : Nat} {k : List Int} {f : Bool} (h : FirstIs M (fun i => seen.contains i = true) n k f) {j : Nat} (hj : j < M.length)
    (hs : (M[j]).2 &&& n ≠ n ∨ (f = true ∧ ¬ cmpSS (M[j]).1 k < 0)) : FirstIs M (fun i => (seen.push j).contains i = true) n k f := by
  refine ⟨fun hf => ⟨(h.no hf).1, fun i hi ho => ?_⟩, fun hf => ⟨(h.yes hf).1, fun i hi ho hb => ?_⟩⟩
  · rw [Array.contains_push, Bool.or_eq_true] at ho
    rcases ho with ho | ho
    · exact (h.no hf).2 i hi ho
    · obtain rfl : i = j := by simpa using ho
      rcases hs with hs | ⟨h1, -⟩
      · exact hs
      · rw [hf] at h1; cases h1
  · rw [Array.contains_push, Bool.or_eq_true] at ho
    rcases ho with ho | ho
    · exact (h.yes hf).2 i hi ho hb
    · obtain rfl : i = j := by simpa using ho
      rcases hs with hs | ⟨-, h1⟩
      · exact absurd hb hs
      · exact h1
theorem cmpSS_self (k : List Int) : cmpSS k k = 0 := by unfold cmpSS; rw [if_pos rfl, cmpL_self]
theorem FirstIs.take {M : Tally} {seen : Array Nat} {n : Nat} {k : List Int} {f : Bool} (h : FirstIs M (fun i => seen.contains i = true) n k f) {j : Nat} (hj : j < M.length)
    (hb : (M[j]).2 &&& n = n) (hs : f = false ∨ cmpSS (M[j]).1 k < 0) : FirstIs M (fun i => (seen.push j).contains i = true) n (M[j]).1 true := by
  refine ⟨fun hf => (by cases hf), fun _ => ⟨⟨j, hj, rfl, hb⟩, fun i hi ho hbi => ?_⟩⟩
  rw [Array.contains_push, Bool.or_eq_true] at ho
  rcases ho with ho | ho
  · cases f with
    | false => exact absurd hbi ((h.no rfl).2 i hi ho)
    | true =>
      have hs := hs.resolve_left (by simp)
      intro hlt
      exact (h.yes rfl).2 i hi ho hbi (cmpSS_trans hlt hs)
  · obtain rfl : i = j := by simpa using ho
    rw [cmpSS_self]; omega
/-- a sound string's six cells -/
structure SixAt (W : World) (u : Nat) (x : List Int) : Prop where
  c0 : W.cell? ⟨u, 0, none⟩ = some (.int .i64 x.length)
  c1 : W.cell? ⟨u, 1, none⟩ = some (.int .i64 (x.getD 0 0))
  c2 : W.cell? ⟨u, 2, none⟩ = some (.int .i64 (x.getD 1 0))
  c3 : W.cell? ⟨u, 3, none⟩ = some (.int .i64 (x.getD 2 0))
  c4 : W.cell? ⟨u, 4, none⟩ = some (.int .i64 (x.getD 3 0))
  c5 : W.cell? ⟨u, 5, none⟩ = some (.int .i64 (x.getD 4 0))
theorem SixAt.ck {W W' : World} {u : Nat} {x : List Int} (h : SixAt W u x) (hx : CK W W') : SixAt W' u x :=
  ⟨hx.cell h.c0, hx.cell h.c1, hx.cell h.c2, hx.cell h.c3, hx.cell h.c4, hx.cell h.c5⟩
theorem SixAt.new (W : World) (x : List Int) (t : TypeId) : SixAt (W.alloc (.cells #[.int .i64 x.length, .int .i64 (x.getD 0 0), .int .i64 (x.getD 1 0), .int .i64 (x.getD 2 0), .int .i64 (x.getD 3 0), .int .i64 (x.getD 4 0)] t)) W.heap.size x :=
  ⟨by simp [go_sem], by simp [go_sem], by simp [go_sem], by simp [go_sem], by simp [go_sem], by simp [go_sem]⟩

theorem six_set {w : World} {B : Nat} {x0 x1 x2 x3 x4 x5 : Value} (h0 : w.cell? ⟨B, 0, none⟩ = some x0) (h1 : w.cell? ⟨B, 1, none⟩ = some x1) (h2 : w.cell? ⟨B, 2, none⟩ = some x2) (h3 : w.cell? ⟨B, 3, none⟩ = some x3) (h4 : w.cell? ⟨B, 4, none⟩ = some x4) (h5 : w.cell? ⟨B, 5, none⟩ = some x5) (a b c d e f : Value) :
    (w.setCell ⟨B, 0, none⟩ a).cell? ⟨B, 0, none⟩ = some a ∧
    ((w.setCell ⟨B, 0, none⟩ a).setCell ⟨B, 1, none⟩ b).cell? ⟨B, 1, none⟩ = some b ∧
    (((w.setCell ⟨B, 0, none⟩ a).setCell ⟨B, 1, none⟩ b).setCell ⟨B, 2, none⟩ c).cell? ⟨B, 2, none⟩ = some c ∧
    ((((w.setCell ⟨B, 0, none⟩ a).setCell ⟨B, 1, none⟩ b).setCell ⟨B, 2, none⟩ c).setCell ⟨B, 3, none⟩ d).cell? ⟨B, 3, none⟩ = some d ∧
    (((((w.setCell ⟨B, 0, none⟩ a).setCell ⟨B, 1, none⟩ b).setCell ⟨B, 2, none⟩ c).setCell ⟨B, 3, none⟩ d).setCell ⟨B, 4, none⟩ e).cell? ⟨B, 4, none⟩ = some e ∧
    ((((((w.setCell ⟨B, 0, none⟩ a).setCell ⟨B, 1, none⟩ b).setCell ⟨B, 2, none⟩ c).setCell ⟨B, 3, none⟩ d).setCell ⟨B, 4, none⟩ e).setCell ⟨B, 5, none⟩ f).cell? ⟨B, 5, none⟩ = some f := by
  have o : ∀ {w : World} {i j : Nat} {x : Value} (v : Value), i ≠ j → w.cell? ⟨B, j, none⟩ = some x → (w.setCell ⟨B, i, none⟩ v).cell? ⟨B, j, none⟩ = some x := fun v hne h => set_other h (.inr hne) v
  refine ⟨set_cell h0 a, set_cell (o a (by decide) h1) b, set_cell (o b (by decide) (o a (by decide) h2)) c, set_cell (o c (by decide) (o b (by decide) (o a (by decide) h3))) d,
    set_cell (o d (by decide) (o c (by decide) (o b (by decide) (o a (by decide) h4)))) e, set_cell (o e (by decide) (o d (by decide) (o c (by decide) (o b (by decide) (o a (by decide) h5))))) f⟩
/-- the six cells behind six stores -/
theorem six_all {w : World} {B : Nat} {x0 x1 x2 x3 x4 x5 : Value} (h0 : w.cell? ⟨B, 0, none⟩ = some x0) (h1 : w.cell? ⟨B, 1, none⟩ = some x1) (h2 : w.cell? ⟨B, 2, none⟩ = some x2) (h3 : w.cell? ⟨B, 3, none⟩ = some x3) (h4 : w.cell? ⟨B, 4, none⟩ = some x4) (h5 : w.cell? ⟨B, 5, none⟩ = some x5) (k : List Int) :
    SixAt ((((((w.setCell ⟨B, 0, none⟩ (.int .i64 k.length)).setCell ⟨B, 1, none⟩ (.int .i64 (k.getD 0 0))).setCell ⟨B, 2, none⟩ (.int .i64 (k.getD 1 0))).setCell ⟨B, 3, none⟩ (.int .i64 (k.getD 2 0))).setCell ⟨B, 4, none⟩ (.int .i64 (k.getD 3 0))).setCell ⟨B, 5, none⟩ (.int .i64 (k.getD 4 0))) B k := by
  obtain ⟨t0, t1, t2, t3, t4, t5⟩ := six_set h0 h1 h2 h3 h4 h5 (.int .i64 k.length) (.int .i64 (k.getD 0 0)) (.int .i64 (k.getD 1 0)) (.int .i64 (k.getD 2 0)) (.int .i64 (k.getD 3 0)) (.int .i64 (k.getD 4 0))
  have o : ∀ {w : World} {i j : Nat} {x : Value} (v : Value), i ≠ j → w.cell? ⟨B, j, none⟩ = some x → (w.setCell ⟨B, i, none⟩ v).cell? ⟨B, j, none⟩ = some x := fun v hne h => set_other h (.inr hne) v
  exact ⟨o _ (by decide) (o _ (by decide) (o _ (by decide) (o _ (by decide) (o _ (by decide) t0)))), o _ (by decide) (o _ (by decide) (o _ (by decide) (o _ (by decide) t1))), o _ (by decide) (o _ (by decide) (o _ (by decide) t2)), o _ (by decide) (o _ (by decide) t3), o _ (by decide) t4, t5⟩
theorem six_grown (w : World) (B : Nat) (a b c d e f : Value) : w.grownBy ((((((w.setCell ⟨B, 0, none⟩ a).setCell ⟨B, 1, none⟩ b).setCell ⟨B, 2, none⟩ c).setCell ⟨B, 3, none⟩ d).setCell ⟨B, 4, none⟩ e).setCell ⟨B, 5, none⟩ f) (some B) := by
  have g : ∀ (w : World) (i : Nat) (v : Value), w.grownBy (w.setCell ⟨B, i, none⟩ v) (some B) := fun w i v =>
    ⟨rfl, rfl, rfl, (KeepsWalks.setCell w _ v).size, fun k _ hk => Below.heap_setCell _ _ _ k (fun e => hk (by rw [e]))⟩
  exact (((((g _ _ _).trans (g _ _ _)).trans (g _ _ _)).trans (g _ _ _)).trans (g _ _ _)).trans (g _ _ _)
/-- what the loop keeps -/
structure Range (w0 : World) (r B m a c : Nat) (seen : Array Nat) (M : Tally) (k : List Int) (W : World) : Prop where
  it : IterAt W r B m seen
  map : MapIs W B M
  six : SixAt W a k
  fr : ∀ o, W.frozen? ⟨a, o, none⟩ = false
  res : SixAt W c []
  frr : ∀ o, W.frozen? ⟨c, o, none⟩ = false
  ext : Ext w0 W
theorem Range.later {w0 : World} {r B m a c : Nat} {seen : Array Nat} {M : Tally} {k : List Int} {W W' : World} (h : Range w0 r B m a c seen M k W) (hx : Ext W W') : Range w0 r B m a c seen M k W' :=
  ⟨(Below.block hx r (Array.getElem?_eq_some_iff.1 h.it).1).trans h.it, h.map.kept (Below.block hx B h.map.lt), h.six.ck hx.ck, fun o => by rw [hx.frozen (p := ⟨a, o, none⟩) (cell_lt h.six.c0 : a < _)]; exact h.fr o, h.res.ck hx.ck, fun o => by rw [hx.frozen (p := ⟨c, o, none⟩) (cell_lt h.res.c0 : c < _)]; exact h.frr o, h.ext.trans hx⟩
theorem Range.next {w0 : World} {r B m a c : Nat} {seen : Array Nat} {M : Tally} {k : List Int} {W W' : World} (h : Range w0 r B m a c seen M k W) (hg : W.grownBy W' (some r)) {i : Nat} (hi : IterAt W' r B m (seen.push i)) (hra : r ≠ a) (hBr : B ≠ r) (hcr : c ≠ r) (h0 : w0.heap.size ≤ r) : Range w0 r B m a c (seen.push i) M k W' := by
  have hne : ∀ o, some (⟨c, o, none⟩ : Addr).block ≠ some r := fun o e => hcr (by cases e; rfl)
  have hna : ∀ o, some (⟨a, o, none⟩ : Addr).block ≠ some r := fun o e => hra (by cases e; rfl)
  exact ⟨hi, h.map.kept (hg.block B h.map.lt (fun e => hBr (by cases e; rfl))),
    ⟨hg.cell h.six.c0 (hna _), hg.cell h.six.c1 (hna _), hg.cell h.six.c2 (hna _), hg.cell h.six.c3 (hna _), hg.cell h.six.c4 (hna _), hg.cell h.six.c5 (hna _)⟩,
    fun o => (World.frozen?_of_block (hg.block a (cell_lt h.six.c0) (hna o))).trans (h.fr o),
    ⟨hg.cell h.res.c0 (hne _), hg.cell h.res.c1 (hne _), hg.cell h.res.c2 (hne _), hg.cell h.res.c3 (hne _), hg.cell h.res.c4 (hne _), hg.cell h.res.c5 (hne _)⟩,
    fun o => (World.frozen?_of_block (hg.block c (cell_lt h.res.c0) (hne o))).trans (h.frr o), h.ext.grown hg (fun _ e => by cases e; exact h0)⟩
theorem Range.took {w0 : World} {r B m a c : Nat} {seen : Array Nat} {M : Tally} {k : List Int} {W : World} (h : Range w0 r B m a c seen M k W) (hra : r ≠ a) (hBa : B ≠ a) (hca : c ≠ a) (h0 : w0.heap.size ≤ a) (q : List Int) :
    Range w0 r B m a c seen M q ((((((W.setCell ⟨a, 0, none⟩ (.int .i64 q.length)).setCell ⟨a, 1, none⟩ (.int .i64 (q.getD 0 0))).setCell ⟨a, 2, none⟩ (.int .i64 (q.getD 1 0))).setCell ⟨a, 3, none⟩ (.int .i64 (q.getD 2 0))).setCell ⟨a, 4, none⟩ (.int .i64 (q.getD 3 0))).setCell ⟨a, 5, none⟩ (.int .i64 (q.getD 4 0))) := by
  have g := six_grown W a (.int .i64 q.length) (.int .i64 (q.getD 0 0)) (.int .i64 (q.getD 1 0)) (.int .i64 (q.getD 2 0)) (.int .i64 (q.getD 3 0)) (.int .i64 (q.getD 4 0))
  have hc := cell_lt h.res.c0
  refine ⟨(g.block r (Array.getElem?_eq_some_iff.1 h.it).1 (fun e => hra (by cases e; rfl))).trans h.it, h.map.kept (g.block B h.map.lt (fun e => hBa (by cases e; rfl))), six_all h.six.c0 h.six.c1 h.six.c2 h.six.c3 h.six.c4 h.six.c5 q, fun o => ?_, ?_, fun o => ?_, h.ext.grown g (fun _ e => by cases e; exact h0)⟩
  · have := h.fr o
    simpa [go_sem] using this
  · have hne : ∀ o, some (⟨c, o, none⟩ : Addr).block ≠ some a := fun o e => hca (by cases e; rfl)
    exact ⟨g.cell h.res.c0 (hne _), g.cell h.res.c1 (hne _), g.cell h.res.c2 (hne _), g.cell h.res.c3 (hne _), g.cell h.res.c4 (hne _), g.cell h.res.c5 (hne _)⟩
  · have := h.frr o
    simpa [go_sem] using this
theorem and_small : ∀ (a b : Fin 32), bits BinOp.and IntKind.i64 ((a.1 : Nat) : Int) ((b.1 : Nat) : Int) = ((a.1 &&& b.1 : Nat) : Int) := by decide +kernel
end Go.Proofs.Ytoifmphpeflliaa

namespace Go.Proofs.Ytoifmphpeflliaa
open Go.RowKit
set_option linter.unusedVariables false

set_option maxRecDepth 100000 in
set_option maxHeartbeats 4000000 in
theorem firstOf_any (B : Nat) (M : Tally) (K : Nat) (hM : FineT K M) (hK : (K : Int) ≤ 5) (n : Nat) (hn : n < 32) (w : World) (hmap : MapIs w B M) :
    Calls Try.prog 55 #[.map (some B), .int .i64 n] w fun e w' => ∃ k f, e = .returned (.tuple #[ssV k, .bool f]) ∧ FirstIs M (fun _ => True) n k f ∧ Ext w w' := by
  go_enter Try.func55, Try.ntmps55
  go_wp2_with (at_range; refine wpList_range_ss _ rfl _ rfl B M rfl ((hmap.kept (Below.block (ext_alloc _ _) _ hmap.lt)).kept (Below.block (ext_alloc _ _) _ (by have := hmap.lt; simp; omega))) (w.heap.size + 1 + 1) (by simp) ?_; intro w0 hit0 hx0 hs0)
  go_frame
  have hm0 : MapIs w0 B M := ((hmap.kept (Below.block (ext_alloc _ _) _ hmap.lt)).kept (Below.block (ext_alloc _ _) _ (by have := hmap.lt; simp; omega))).kept (Below.block hx0 _ (by have := hmap.lt; simp; omega))
  have hBlt := hmap.lt
  have xw : Ext w w0 := ((ext_alloc _ _).alloc _).trans hx0
  have hz0 : SixAt w0 (w.heap.size + 1) [] := ⟨hx0.cell (by simp [go_sem]), hx0.cell (by simp [go_sem]), hx0.cell (by simp [go_sem]), hx0.cell (by simp [go_sem]), hx0.cell (by simp [go_sem]), hx0.cell (by simp [go_sem])⟩
  have hr0 : SixAt w0 w.heap.size [] := ⟨hx0.cell (by simp [go_sem]), hx0.cell (by simp [go_sem]), hx0.cell (by simp [go_sem]), hx0.cell (by simp [go_sem]), hx0.cell (by simp [go_sem]), hx0.cell (by simp [go_sem])⟩
  have hf0 : ∀ o, w0.frozen? ⟨w.heap.size + 1, o, none⟩ = false := fun o => by rw [hx0.frozen (by first | (simp; done) | (simp; omega))]; simp [go_sem]
  have hg0 : ∀ o, w0.frozen? ⟨w.heap.size, o, none⟩ = false := fun o => by rw [hx0.frozen (by first | (simp; done) | (simp; omega))]; simp [go_sem]
  go_loopw [7] (fun fv wr => ∃ (seen : Array Nat) (k : List Int) (f : Bool), fv = .bool f ∧ FirstIs M (fun i => seen.contains i = true) n k f ∧ Range w (w.heap.size + 1 + 1) B M.length (w.heap.size + 1) w.heap.size seen M k wr ∧ k.length ≤ 5 ∧ (∀ x ∈ k, I64 x)) (fun _ wr => leftW M.length (w.heap.size + 1 + 1) wr)
  case atStart => exact ⟨#[], [], false, rfl, FirstIs.start M n, ⟨hit0, hm0, hz0, hf0, hr0, hg0, xw⟩, by simp, by simp⟩
  case round =>
    obtain ⟨seen, k, f, rfl, hF, hR, hk5, hkI⟩ := hrel
    have hR0 := hR
    obtain ⟨hit, hm, hz, hf, hr, hg, hx⟩ := hR0
    obtain ⟨r0, r1, r2, r3, r4, r5⟩ := hr
    simp only [List.length_nil, List.getD_nil] at r0 r1 r2 r3 r4 r5
    obtain ⟨sn, s0, s1, s2, s3, s4, hsv, hsn, hs0, hs1, hs2, hs3, hs4⟩ : ∃ sn s0 s1 s2 s3 s4, ssV k = .agg #[.int .i64 sn, .int .i64 s0, .int .i64 s1, .int .i64 s2, .int .i64 s3, .int .i64 s4] ∧ (k.length : Int) = sn ∧ k.getD 0 0 = s0 ∧ k.getD 1 0 = s1 ∧ k.getD 2 0 = s2 ∧ k.getD 3 0 = s3 ∧ k.getD 4 0 = s4 :=
      ⟨_, _, _, _, _, _, rfl, rfl, rfl, rfl, rfl, rfl, rfl⟩
    obtain ⟨z0, z1, z2, z3, z4, z5⟩ := hz
    rw [hsn] at z0; rw [hs0] at z1; rw [hs1] at z2; rw [hs2] at z3; rw [hs3] at z4; rw [hs4] at z5
    clear hsn hs0 hs1 hs2 hs3 hs4
    have y0 : w.heap.size + 1 < wr.heap.size := cell_lt z0
    go_wp2_with (at_next; refine wpList_next_ss _ rfl _ rfl B (w.heap.size + 1 + 1) M seen rfl hit hm ?_ ?_)
    · intro hall
      have Hall := Lib.hid hall
      clear hall
      obtain ⟨t0, t1, t2, t3, t4, t5⟩ := six_set r0 r1 r2 r3 r4 r5 (.int .i64 sn) (.int .i64 s0) (.int .i64 s1) (.int .i64 s2) (.int .i64 s3) (.int .i64 s4)
      go_wp2
      refine bodyPost_ret (v := .tuple #[.agg #[.int .i64 sn, .int .i64 s0, .int .i64 s1, .int .i64 s2, .int .i64 s3, .int .i64 s4], .bool f]) (by simp [results, Try.results55, go_sem, t0, t1, t2, t3, t4, t5]) rfl ?_
      refine ⟨k, f, by rw [hsv], ⟨fun h => ⟨(hF.no h).1, fun i hi _ => (hF.no h).2 i hi (by simpa using Hall.out i hi)⟩, fun h => ⟨(hF.yes h).1, fun i hi _ => (hF.yes h).2 i hi (by simpa using Hall.out i hi)⟩⟩, ?_⟩
      exact (((((hx.setCell (by simp) _).setCell (by simp) _).setCell (by simp) _).setCell (by simp) _).setCell (by simp) _).setCell (by simp) _
    · intro i hi w' hse hit' hgr hsz hent
      have hse' : seen.contains i = false := by simpa using hse
      have hR' := hR.next hgr hit' (by omega) (by omega) (by omega) (by omega)
      have hlN : leftN M.length (seen.push i) < leftN M.length seen := leftN_push hi hse'
      have hlR := leftW_eq hit
      have kp := hM.keys _ (List.getElem_mem hi)
      have vl := hM.vals _ (List.getElem_mem hi)
      have hand := and_small ⟨(M[i]).2, vl⟩ ⟨n, hn⟩
      simp only at hand
      have hskip := fun hs => hF.skip hi hs
      have htake := fun hb hs => hF.take hi hb hs
      have hkI' : ∀ x ∈ (M[i]).1, I64 x := fun x hx => by have := kp.2 x hx; unfold I64; omega
      have hcmp := fun w => compare_any (M[i]).1 k kp.1 hkI' hkI w
      have htook := fun W (h : Range w (w.heap.size + 1 + 1) B M.length (w.heap.size + 1) w.heap.size (seen.push i) M k W) => h.took (by omega) (by omega) (by omega) (by omega) (M[i]).1
      generalize hq : (M[i]).1 = q at *
      obtain ⟨p0, p1, p2, p3, p4, p5, hpv, hpn, hp0, hp1, hp2, hp3, hp4⟩ : ∃ p0 p1 p2 p3 p4 p5, ssV q = .agg #[.int .i64 p0, .int .i64 p1, .int .i64 p2, .int .i64 p3, .int .i64 p4, .int .i64 p5] ∧ (q.length : Int) = p0 ∧ q.getD 0 0 = p1 ∧ q.getD 1 0 = p2 ∧ q.getD 2 0 = p3 ∧ q.getD 3 0 = p4 ∧ q.getD 4 0 = p5 :=
        ⟨_, _, _, _, _, _, rfl, rfl, rfl, rfl, rfl, rfl, rfl⟩
      rw [hpv] at hent hcmp ⊢
      rw [hsv] at hcmp
      rw [hpn, hp0, hp1, hp2, hp3, hp4] at htook
      clear hpn hp0 hp1 hp2 hp3 hp4
      obtain ⟨z0', z1', z2', z3', z4', z5'⟩ : w'.cell? ⟨w.heap.size + 1, 0, none⟩ = some (.int .i64 sn) ∧ w'.cell? ⟨w.heap.size + 1, 1, none⟩ = some (.int .i64 s0) ∧ w'.cell? ⟨w.heap.size + 1, 2, none⟩ = some (.int .i64 s1) ∧ w'.cell? ⟨w.heap.size + 1, 3, none⟩ = some (.int .i64 s2) ∧ w'.cell? ⟨w.heap.size + 1, 4, none⟩ = some (.int .i64 s3) ∧ w'.cell? ⟨w.heap.size + 1, 5, none⟩ = some (.int .i64 s4) :=
        ⟨hgr.cell z0 (by simp), hgr.cell z1 (by simp), hgr.cell z2 (by simp), hgr.cell z3 (by simp), hgr.cell z4 (by simp), hgr.cell z5 (by simp)⟩
      have y0' : w.heap.size + 1 < w'.heap.size := cell_lt z0'
      have hfr' := hR'.fr
      clear z0 z1 z2 z3 z4 z5 r0 r1 r2 r3 r4 r5 hf hg hit hm hx hz0 hf0 hr0 hg0 hit0 hm0 hx0 hgr
      generalize (M[i]).2 = v at *
      by_cases hb : v &&& n = n
      · rw [hb] at hand
        have Hb := Lib.hid hb
        cases f
        · have hres := (htook _ hR').later (ext_alloc _ (.cells #[.int .i64 p0, .int .i64 p1, .int .i64 p2, .int .i64 p3, .int .i64 p4, .int .i64 p5] 109))
          have Hres := Lib.hid hres
          clear hres htook
          go_wp2
          go_roundw
          case rel => exact ⟨_, q, true, rfl, htake Hb.out (.inl rfl), Hres.out, kp.1, hkI'⟩
          case measure => rw [leftW_eq Hres.out.it, hlR]; exact hlN
        · go_wp2_with fail
          refine (hcmp _).mono ?_
          rintro e w2 ⟨rfl, hx2⟩
          have g2 := (hR'.later (ext_alloc _ _)).later hx2
          have o0 : w2.cell? ⟨w'.heap.size, 0, none⟩ = some (.int .i64 p0) := hx2.cell (by simp [go_sem])
          have o1 : w2.cell? ⟨w'.heap.size, 1, none⟩ = some (.int .i64 p1) := hx2.cell (by simp [go_sem])
          have o2 : w2.cell? ⟨w'.heap.size, 2, none⟩ = some (.int .i64 p2) := hx2.cell (by simp [go_sem])
          have o3 : w2.cell? ⟨w'.heap.size, 3, none⟩ = some (.int .i64 p3) := hx2.cell (by simp [go_sem])
          have o4 : w2.cell? ⟨w'.heap.size, 4, none⟩ = some (.int .i64 p4) := hx2.cell (by simp [go_sem])
          have o5 : w2.cell? ⟨w'.heap.size, 5, none⟩ = some (.int .i64 p5) := hx2.cell (by simp [go_sem])
          rw [hsz] at o0 o1 o2 o3 o4 o5
          have hfq := g2.fr
          obtain ⟨b0, b1, b2, b3, b4, b5⟩ := g2.six
          clear hcmp hx2
          by_cases hlt : cmpSS q k < 0
          · have Hlt := Lib.hid hlt
            have hres := htook _ g2
            have Hres := Lib.hid hres
            clear hres htook
            generalize cmpSS q k = cc at *
            go_wp2
            go_roundw
            case rel => exact ⟨_, q, true, rfl, htake Hb.out (.inr Hlt.out), Hres.out, kp.1, hkI'⟩
            case measure => rw [leftW_eq Hres.out.it, hlR]; exact hlN
          · have Hlt := Lib.hid hlt
            generalize cmpSS q k = cc at *
            go_wp2
            go_roundw
            case rel => exact ⟨_, k, true, rfl, hskip (.inr (by have := Hlt.out; simp; omega)), g2, hk5, hkI⟩
            case measure => rw [leftW_eq g2.it, hlR]; exact hlN
      · have hne : (((v &&& n : Nat) : Int) == (n : Int)) = false := by
          rw [beq_eq_false_iff_ne]; exact fun e => hb (by exact_mod_cast e)
        have Hb := Lib.hid hb
        clear hb
        generalize v &&& n = x at *
        go_wp2
        go_roundw
        case rel => exact ⟨_, k, f, rfl, hskip (.inl Hb.out), hR'.later (ext_alloc _ _), hk5, hkI⟩
        case measure => rw [leftW_eq (hR'.later (ext_alloc _ _)).it, hlR]; exact hlN
end Go.Proofs.Ytoifmphpeflliaa

namespace Go.Proofs.Ytoifmphpeflliaa
open Go.RowKit
set_option linter.unusedVariables false

theorem run_len_ss {w : World} {B : Nat} {M : Tally} (h : MapIs w B M) (ty : TypeId) : (Builtin.len_ #[105] ty #[.map (some B)]).run Try.prog w = .ok (.int .i64 (M.length : Nat)) w := by
  obtain ⟨es, hb, hE⟩ := h
  have hu : Try.prog.underlying 105 = some (.map 109 3) := Try.underlying105
  simp [Builtin.len_, run_underlying hu, MapKept.run_getObj_map hb, hE.size, Result.andThen, goInt]
theorem openM_ok {b : Book} (h : errM b = 0) {l : List Int} (hl : ∀ x ∈ l, 0 ≤ x ∧ x < b.spellings.length) : openM b l = 0 := by
  unfold openM
  rw [if_neg (by rw [h]; exact fun e => e rfl), if_neg]
  rw [Bool.not_eq_false, withinM, List.all_eq_true]
  intro x hx
  have := hl x hx
  simp [inM]; omega

set_option maxRecDepth 100000 in
set_option maxHeartbeats 2000000 in
theorem count_ok (bv : Value) (b : Book) (he : errM b = 0) (n : Nat) (hn : n < b.spellings.length) (w : World) (hb : BookAt w bv b) :
    Calls Try.prog 19 #[bv, .int .i64 n] w fun e w' => e = .returned (.tuple #[.int .i64 ((canM b [n]).length : Nat), .int .i64 0]) ∧ Ext w w' := by
  have hv := valid_of he
  have hn5 : n < 5 := by have := hv.n; omega
  obtain ⟨ba, bc, bs, bd, rfl, -⟩ := hb.open
  have hop := openM_ok he (l := [(n : Int)]) (by simp; omega)
  go_enter Try.func19, Try.ntmps19
  go_wp2_with fail
  refine (open_any _ _ b [(n : Int)] _ (hb.ext (by first | (with_reducible exact Ext.refl _) | (with_reducible assumption) | (show Below _ _ _; go_grown; done))) (IntsAt.oneAt (by simp) (by omega))).mono ?_
  rintro e w1 ⟨u, rfl, ⟨uv, rfl, hok, -⟩, hx1⟩
  rw [hop] at hok ⊢
  have x1 : Ext w w1 := Ext.trans (by first | (with_reducible exact Ext.refl _) | (with_reducible assumption) | (show Below _ _ _; go_grown; done)) hx1
  have hub := hok rfl
  clear hok hop
  obtain ⟨ca, cc, cs, cd, rfl, -⟩ := hub.open
  go_wp2_with fail
  refine (canBe_any _ _ b hv [n] (by simpa using hn) _ (hub.ext (by first | (with_reducible exact Ext.refl _) | (with_reducible assumption) | (show Below _ _ _; go_grown; done))) (IntsAt.oneAt (n := (n : Int)) (by simp) (by omega))).mono ?_
  rintro e w2 ⟨B, rfl, -, hm, hx2⟩
  have hlen := run_len_ss hm
  have x2 : Ext w w2 := x1.trans (Ext.trans (by first | (with_reducible exact Ext.refl _) | (with_reducible assumption) | (show Below _ _ _; go_grown; done)) hx2)
  go_wp2
  go_ret2
  exact ⟨rfl, x2⟩

set_option maxRecDepth 100000 in
set_option maxHeartbeats 2000000 in
theorem reads_ok (bv hv : Value) (b : Book) (he : errM b = 0) (n : Nat) (hn : n < b.spellings.length) (heard : List Int) (hh : heardErrM b.sounds heard = 0) (w : World) (hb : BookAt w bv b) (hhv : IntsAt w hv heard) :
    Calls Try.prog 15 #[bv, .int .i64 n, hv] w fun e w' => e = .returned (.tuple #[.bool (getT heard (canM b [n])).isSome, .int .i64 0]) ∧ Ext w w' := by
  have hv := valid_of he
  have hn5 : n < 5 := by have := hv.n; omega
  have hS := hv.s
  have h5 : heard.length ≤ 5 := by unfold heardErrM at hh; split at hh; cases hh; omega
  have hfin : FineT (b.sounds.toNat + 1) (canM b [n]) := canM_fine hv [n] [] (by simpa using hn) (FineT.nil _)
  obtain ⟨ba, bc, bs, bd, rfl, -⟩ := hb.open
  obtain ⟨ha, hc, rfl, -⟩ := hhv.shape
  have hop := openM_ok he (l := [(n : Int)]) (by simp; omega)
  go_enter Try.func15, Try.ntmps15
  go_wp2_with fail
  refine (open_any _ _ b [(n : Int)] _ (hb.ext (by first | (with_reducible exact Ext.refl _) | (with_reducible assumption) | (show Below _ _ _; go_grown; done))) (IntsAt.oneAt (by simp) (by omega))).mono ?_
  rintro e w1 ⟨u, rfl, ⟨uv, rfl, hok, -⟩, hx1⟩
  rw [hop] at hok ⊢
  have x1 : Ext w w1 := Ext.trans (by first | (with_reducible exact Ext.refl _) | (with_reducible assumption) | (show Below _ _ _; go_grown; done)) hx1
  have hub := hok rfl
  clear hok hop hx1
  obtain ⟨ca, cc, cs, cd, rfl, -⟩ := hub.open
  go_wp2_with fail
  refine (heardError_any _ _ b hS heard _ (hub.ext (by first | (with_reducible exact Ext.refl _) | (with_reducible assumption) | (show Below _ _ _; go_grown; done))) (hhv.ext (x1.alloc _))).mono ?_
  rintro e w2 ⟨rfl, hx2⟩
  rw [hh]
  have x2 : Ext w1 w2 := hx2.of_alloc
  have q0 : w2.cell? ⟨w1.heap.size, 0, none⟩ = some (.int .i64 b.sounds) := hx2.cell (by simp [go_sem])
  have q1 : w2.cell? ⟨w1.heap.size, 1, none⟩ = some (.slice ca b.alphabets.length cc) := hx2.cell (by simp [go_sem])
  have q2 : w2.cell? ⟨w1.heap.size, 2, none⟩ = some (.slice cs b.spellings.length cd) := hx2.cell (by simp [go_sem])
  have z0 : w1.heap.size < w2.heap.size := cell_lt q0
  clear hx2
  go_wp2_with fail
  refine (canBe_any _ _ b hv [n] (by simpa using hn) _ (hub.ext (x2.alloc _)) (IntsAt.oneAt (n := (n : Int)) (by simp) (by omega))).mono ?_
  rintro e w3 ⟨B, rfl, -, hm, hx3⟩
  have x3 : Ext w w3 := x1.trans (x2.trans hx3.of_alloc)
  clear hx3
  go_wp2_with fail
  refine (heardAs_any heard h5 _ w3 (hhv.ext x3)).mono ?_
  rintro e w4 ⟨rfl, hx4⟩
  have hm4 := hm.kept (Below.block hx4 _ hm.lt)
  have hlook := run_lookup_ss heard h5 (fun p hp => (hfin.keys p hp).1) hm4 true
  simp only [if_true] at hlook
  go_wp2
  go_ret2
  exact ⟨rfl, x3.trans hx4⟩
end Go.Proofs.Ytoifmphpeflliaa

namespace Go.Proofs.Ytoifmphpeflliaa
open Go.RowKit
set_option linter.unusedVariables false

set_option maxRecDepth 100000 in
set_option maxHeartbeats 2000000 in
theorem common_ok (bv v : Value) (b : Book) (he : errM b = 0) (l : List Nat) (hl : ∀ n ∈ l, n < b.spellings.length) (hne : l ≠ []) (hasc : ascM (ints l) = true) (w : World) (hb : BookAt w bv b) (hlv : IntsAt w v (ints l)) :
    Calls Try.prog 48 #[bv, v] w fun e w' => ∃ k f u, FirstIs (canM b l) (fun _ => True) (bitsM l) k f ∧ e = .returned (.tuple #[u, .int .i64 (if f then 0 else 9)]) ∧ IntsAt w' u k ∧ Ext w w' := by
  have hv := valid_of he
  have hn := hv.n
  have hS := hv.s
  have hfin : FineT (b.sounds.toNat + 1) (canM b l) := canM_fine hv l [] hl (FineT.nil _)
  have hl5 : ∀ x ∈ l, x < 5 := fun x hx => by have := hl x hx; omega
  have hb32 := bitsM_lt l hl5
  obtain ⟨ba, bc, bs, bd, rfl, -⟩ := hb.open
  obtain ⟨la, lc, rfl, -⟩ := hlv.shape
  have hlen : (ints l).length = l.length := by simp [ints]
  have hpos : ((ints l).length : Int) ≠ 0 := by
    rw [hlen]
    intro h
    exact hne (List.eq_nil_of_length_eq_zero (by omega))
  have hpos' : (((ints l).length : Int) == 0) = false := by rw [beq_eq_false_iff_ne]; exact hpos
  have hop := openM_ok he (l := ints l) (by intro x hx; simp only [ints, List.mem_map] at hx; obtain ⟨m, hm, rfl⟩ := hx; have := hl m hm; omega)
  clear hlen
  go_enter Try.func48, Try.ntmps48
  go_wp2_with fail
  refine (open_any _ _ b (ints l) _ (hb.ext (by first | (with_reducible exact Ext.refl _) | (with_reducible assumption) | (show Below _ _ _; go_grown; done))) (hlv.ext (by first | (with_reducible exact Ext.refl _) | (with_reducible assumption) | (show Below _ _ _; go_grown; done)))).mono ?_
  rintro e w1 ⟨u, rfl, ⟨uv, rfl, hok, -⟩, hx1⟩
  rw [hop] at hok ⊢
  have x1 : Ext w w1 := Ext.trans (by first | (with_reducible exact Ext.refl _) | (with_reducible assumption) | (show Below _ _ _; go_grown; done)) hx1
  have hub := hok rfl
  clear hok hop hx1
  obtain ⟨ca, cc, cs, cd, rfl, -⟩ := hub.open
  have Hpos := Lib.hid hpos
  clear hpos
  go_wp2_with fail
  refine (ascending_any _ (ints l) _ (hlv.ext (x1.alloc _))).mono ?_
  rintro e w2 ⟨rfl, hx2⟩
  rw [hasc]
  have x2 : Ext w1 w2 := hx2.of_alloc
  have q0 : w2.cell? ⟨w1.heap.size, 0, none⟩ = some (.int .i64 b.sounds) := hx2.cell (by simp [go_sem])
  have q1 : w2.cell? ⟨w1.heap.size, 1, none⟩ = some (.slice ca b.alphabets.length cc) := hx2.cell (by simp [go_sem])
  have q2 : w2.cell? ⟨w1.heap.size, 2, none⟩ = some (.slice cs b.spellings.length cd) := hx2.cell (by simp [go_sem])
  clear hx2
  go_wp2_with fail
  refine (canBe_any _ _ b hv l hl _ (hub.ext x2) (hlv.ext (x1.trans x2))).mono ?_
  rintro e w3 ⟨B, rfl, -, hm, hx3⟩
  have x3 : Ext w w3 := x1.trans (x2.trans hx3)
  clear hx3
  go_wp2_with fail
  refine (bits_any _ l hl5 w3 (hlv.ext x3)).mono ?_
  rintro e w4 ⟨rfl, rfl⟩
  go_wp2_with fail
  refine (firstOf_any B (canM b l) (b.sounds.toNat + 1) hfin (by omega) (bitsM l) hb32 w3 hm).mono ?_
  rintro e w5 ⟨k, f, rfl, hF, hx5⟩
  have x5 := x3.trans hx5
  cases f
  · have hk := (hF.no rfl).1
    subst hk
    unfold ssV ssRaw
    go_wp2
    go_ret2
    exact ⟨_, false, _, hF, rfl, SliceAt.nil, x5.alloc _⟩
  · have hk : k.length ≤ 5 ∧ ∀ x ∈ k, I64 x := by
      obtain ⟨i, hi, e1, -⟩ := (hF.yes rfl).1
      have := hfin.keys _ (List.getElem_mem hi)
      rw [← e1]
      exact ⟨this.1, fun x hx => by have := this.2 x hx; unfold I64; omega⟩
    obtain ⟨p0, p1, p2, p3, p4, p5, hpv⟩ : ∃ p0 p1 p2 p3 p4 p5, ssV k = .agg #[.int .i64 p0, .int .i64 p1, .int .i64 p2, .int .i64 p3, .int .i64 p4, .int .i64 p5] := ⟨_, _, _, _, _, _, rfl⟩
    have hlist := fun w => list_any k hk.1 hk.2 w
    rw [hpv] at hlist ⊢
    go_wp2_with fail
    refine (hlist _).mono ?_
    rintro e w6 ⟨u, rfl, hu, hx6⟩
    obtain ⟨ua, uc, rfl, -⟩ := hu.shape
    go_wp2
    go_ret2
    exact ⟨k, true, _, hF, rfl, hu, x5.trans hx6.of_alloc⟩
end Go.Proofs.Ytoifmphpeflliaa

namespace Go.Proofs.Ytoifmphpeflliaa
open Go.RowKit
set_option linter.unusedVariables false

set_option maxRecDepth 100000 in
set_option maxHeartbeats 2000000 in
theorem first_ok (bv : Value) (b : Book) (he : errM b = 0) (n : Nat) (hn : n < b.spellings.length) (w : World) (hb : BookAt w bv b) :
    Calls Try.prog 21 #[bv, .int .i64 n] w fun e w' => ∃ k f u, FirstIs (canM b [n]) (fun _ => True) (bitsM [n]) k f ∧ e = .returned (.tuple #[u, .int .i64 (if f then 0 else 9)]) ∧ IntsAt w' u k ∧ Ext w w' := by
  have hv := valid_of he
  have hn5 : n < 5 := by have := hv.n; omega
  have hb0 := hb
  obtain ⟨ba, bc, bs, bd, rfl, -⟩ := hb.open
  go_enter Try.func21, Try.ntmps21
  go_wp2_with fail
  refine (common_ok _ _ b he [n] (by simpa using hn) (by simp) (by simp [ascM, ints]) _ (hb0.ext (by first | (with_reducible exact Ext.refl _) | (with_reducible assumption) | (show Below _ _ _; go_grown; done))) (IntsAt.oneAt (n := (n : Int)) (by simp) (by omega))).mono ?_
  rintro e w1 ⟨k, f, u, hF, rfl, hu, hx1⟩
  obtain ⟨ua, uc, rfl, -⟩ := hu.shape
  have x1 : Ext w w1 := Ext.trans (by first | (with_reducible exact Ext.refl _) | (with_reducible assumption) | (show Below _ _ _; go_grown; done)) hx1
  clear hx1
  generalize hcc : (if f = true then (0 : Int) else 9) = cc
  go_wp2
  go_ret2
  exact ⟨k, f, _, hF, by rw [hcc]; rfl, hu, x1⟩

theorem IntsAt.twoAt {w : World} {m n : Int} {t : TypeId} {B : Nat} (hB : w.heap.size = B) (h : -9223372036854775808 ≤ n ∧ n ≤ 9223372036854775807) (h' : -9223372036854775808 ≤ m ∧ m ≤ 9223372036854775807) : IntsAt (w.alloc (.cells #[.int .i64 n, .int .i64 m] t)) (.slice (some ⟨B, 0, none⟩) 2 2) [n, m] := by
  subst hB; exact IntsAt.two h h'
/-- whether the first string is common, and whether there is but one -/
def alikeV (M : Tally) (f : Bool) : Int := if f = false then 2 else if M.length = 1 then 1 else 0
set_option maxRecDepth 100000 in
set_option maxHeartbeats 2000000 in
theorem alike_ok (bv : Value) (b : Book) (he : errM b = 0) (i j : Nat) (hi : i < b.spellings.length) (hj : j < b.spellings.length) (hij : i ≠ j) (w : World) (hb : BookAt w bv b) :
    Calls Try.prog 20 #[bv, .int .i64 i, .int .i64 j] w fun e w' => ∃ k f, FirstIs (canM b [i, j]) (fun _ => True) (bitsM [i, j]) k f ∧ e = .returned (.tuple #[.int .i64 (alikeV (canM b [i, j]) f), .int .i64 0]) ∧ Ext w w' := by
  have hv := valid_of he
  have hi5 : i < 5 := by have := hv.n; omega
  have hj5 : j < 5 := by have := hv.n; omega
  have hS := hv.s
  have hl : ∀ n ∈ [i, j], n < b.spellings.length := by simp [hi, hj]
  have hl5 : ∀ n ∈ [i, j], n < 5 := by simp [hi5, hj5]
  have hfin : FineT (b.sounds.toNat + 1) (canM b [i, j]) := canM_fine hv [i, j] [] hl (FineT.nil _)
  have hb32 := bitsM_lt [i, j] hl5
  obtain ⟨ba, bc, bs, bd, rfl, -⟩ := hb.open
  have hop := openM_ok he (l := [(i : Int), (j : Int)]) (by simp; omega)
  have hne : ((i : Int) == (j : Int)) = false := by rw [beq_eq_false_iff_ne]; omega
  have Hij := Lib.hid hij
  clear hij
  go_enter Try.func20, Try.ntmps20
  go_wp2_with fail
  refine (open_any _ _ b [(i : Int), (j : Int)] _ (hb.ext (by first | (with_reducible exact Ext.refl _) | (with_reducible assumption) | (show Below _ _ _; go_grown; done))) (IntsAt.twoAt (m := (j : Int)) (n := (i : Int)) (by simp) (by omega) (by omega))).mono ?_
  rintro e w1 ⟨u, rfl, ⟨uv, rfl, hok, -⟩, hx1⟩
  rw [hop] at hok ⊢
  have x1 : Ext w w1 := Ext.trans (by first | (with_reducible exact Ext.refl _) | (with_reducible assumption) | (show Below _ _ _; go_grown; done)) hx1
  have hub := hok rfl
  clear hok hop hx1
  obtain ⟨ca, cc, cs, cd, rfl, -⟩ := hub.open
  go_wp2_with fail
  refine (canBe_any _ _ b hv [i, j] hl _ (hub.ext (by first | (with_reducible exact Ext.refl _) | (with_reducible assumption) | (show Below _ _ _; go_grown; done))) (IntsAt.twoAt (m := (j : Int)) (n := (i : Int)) (by simp) (by omega) (by omega))).mono ?_
  rintro e w2 ⟨B, rfl, -, hm, hx2⟩
  have x2 : Ext w w2 := x1.trans (Ext.trans (by first | (with_reducible exact Ext.refl _) | (with_reducible assumption) | (show Below _ _ _; go_grown; done)) hx2)
  clear hx2
  go_wp2_with fail
  refine (bits_any _ [i, j] hl5 _ (IntsAt.twoAt (m := (j : Int)) (n := (i : Int)) (by simp) (by omega) (by omega))).mono ?_
  rintro e w3 ⟨rfl, rfl⟩
  have hm3 := hm.kept (Below.block (ext_alloc w2 (.cells #[.int .i64 i, .int .i64 j] 3)) _ hm.lt)
  go_wp2_with fail
  refine (firstOf_any B (canM b [i, j]) (b.sounds.toNat + 1) hfin (by omega) (bitsM [i, j]) hb32 _ hm3).mono ?_
  rintro e w4 ⟨k, f, rfl, hF, hx4⟩
  have x4 : Ext w w4 := x2.trans hx4.of_alloc
  have hm4 := hm3.kept (Below.block hx4 _ hm3.lt)
  have hm5 := hm4.kept (Below.block (ext_alloc w4 (.cells #[.int .i64 (k.length : Nat), .int .i64 (k.getD 0 0), .int .i64 (k.getD 1 0), .int .i64 (k.getD 2 0), .int .i64 (k.getD 3 0), .int .i64 (k.getD 4 0)] 109)) _ hm4.lt)
  have hlen := run_len_ss hm5
  clear hm hm3 hm4 hm5 hfin
  unfold ssV ssRaw
  generalize (k.length : Int) = pn at *
  generalize k.getD 0 0 = p0 at *
  generalize k.getD 1 0 = p1 at *
  generalize k.getD 2 0 = p2 at *
  generalize k.getD 3 0 = p3 at *
  generalize k.getD 4 0 = p4 at *
  obtain ⟨M, hM⟩ : ∃ M, M = canM b [i, j] := ⟨_, rfl⟩
  rw [← hM] at hF hlen
  cases f
  · have Hv : Hid (alikeV (canM b [i, j]) false = 2) := Lib.hid rfl
    go_wp2
    go_ret2
    exact ⟨k, false, by rw [← hM]; exact hF, by rw [Hv.out]; rfl, x4.alloc _⟩
  · by_cases h1 : M.length = 1
    · have Hv : Hid (alikeV (canM b [i, j]) true = 1) := Lib.hid (by rw [alikeV, if_neg (by decide), ← hM, if_pos h1])
      rw [h1] at hlen
      go_wp2
      go_ret2
      exact ⟨k, true, by rw [← hM]; exact hF, by rw [Hv.out]; rfl, x4.alloc _⟩
    · have Hv : Hid (alikeV (canM b [i, j]) true = 0) := Lib.hid (by rw [alikeV, if_neg (by decide), ← hM, if_neg h1])
      have hne1 : ((M.length : Int) == 1) = false := by rw [beq_eq_false_iff_ne]; omega
      clear h1
      generalize M.length = len at *
      go_wp2
      go_ret2
      exact ⟨k, true, by rw [← hM]; exact hF, by rw [Hv.out]; rfl, x4.alloc _⟩
end Go.Proofs.Ytoifmphpeflliaa
