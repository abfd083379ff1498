/-
  A RANGE OVER A MAP BY SOUND STRINGS, in whatever order; and how sound strings are ordered.
  WHAT firstOf RETURNS: the first string that all of some spellings can be, and whether there is one.
  WHAT ear.Spell RETURNS, for any book, number and list: the text and the error that the document says.
  WHAT Count, Reads, Common, First, Alike AND Odd RETURN where there is no error.
  WHAT Common RETURNS where there is no error.
  WHAT First AND Alike RETURN where there is no error.
  WHAT fewestOdd AND Odd RETURN where there is no error.
-/
import Derived.Test.YtdadffmagfknoaaBunAH
import Derived.Maps.RangeWalk
import Derived.Test.YtdadffmagfknoaaBunAD
namespace Go.Proofs.Ytdadffmagfknoaa
set_option linter.unusedSimpArgs false
set_option linter.unusedVariables false
set_option linter.unusedVariables false
set_option linter.unusedSimpArgs false
open Go.RowKit
open Go.ChangeMaps (setBlock)

/-- the iterator in block r has handed out the entries with these numbers -/
def IterAt (w : World) (r B : Nat) (m : Nat) (seen : Array Nat) : Prop := w.heap[r]? = some (.mapIter (some B) m seen m)
/-- how many entries of m are still to come -/
def leftN (m : Nat) (seen : Array Nat) : Nat := ((List.range m).filter fun i => !seen.contains i).length
def leftW (m r : Nat) (w : World) : Nat := match w.heap[r]? with
  | some (.mapIter _ _ seen _) => leftN m seen
  | _ => 0
theorem leftW_eq {w : World} {r B m : Nat} {seen : Array Nat} (h : IterAt w r B m seen) : leftW m r w = leftN m seen := by
  unfold leftW; rw [h]
theorem filter_lt {α : Type} (p q : α → Bool) (x : α) (hq : ∀ y, q y = true → p y = true) (h1 : p x = true) (h2 : q x = false) : ∀ l : List α, x ∈ l → (l.filter q).length < (l.filter p).length
  | [], h => by cases h
  | y :: l, h => by
    have hle : ∀ l : List α, (l.filter q).length ≤ (l.filter p).length := by
      intro l
      induction l with
      | nil => exact Nat.le_refl _
      | cons z l ih =>
        cases hz : q z
        · cases hp : p z <;> simp [hz, hp] <;> omega
        · simp [hz, hq z hz]; omega
    rcases List.mem_cons.1 h with e | h
    · subst e
      have := hle l
      simp [h1, h2]; omega
    · have ih := filter_lt p q x hq h1 h2 l h
      cases hz : q y
      · cases hp : p y <;> simp [hz, hp] <;> omega
      · simp [hz, hq y hz]; omega
theorem leftN_push {m i : Nat} {seen : Array Nat} (hi : i < m) (h : seen.contains i = false) : leftN m (seen.push i) < leftN m seen := by
  refine filter_lt _ _ i (fun y hy => ?_) (by rw [h]; rfl) (by simp [Array.contains_push]) _ (by simpa using hi)
  simp only [Bool.not_eq_true', Array.contains_push, Bool.or_eq_false_iff] at hy ⊢
  exact hy.1
theorem left_entries {es : Array MapEntry} {M : Tally} (hE : EntriesAre es M) {seen : Array Nat} {e : MapEntry} (h : e ∈ (leftOf es seen).toList) : ∃ i, ∃ hi : i < M.length, e = { key := ssV (M[i]).1, val := .int .i64 ((M[i]).2 : Nat), born := i } ∧ seen.contains i = false := by
  unfold leftOf at h
  rw [Array.mem_toList_iff, Array.mem_filter] at h
  obtain ⟨h1, h2⟩ := h
  obtain ⟨i, hi, rfl⟩ := Array.getElem_of_mem h1
  have hi' : i < M.length := by rw [← hE.size]; exact hi
  obtain ⟨_, hat⟩ := hE.at i hi'
  refine ⟨i, hi', hat, ?_⟩
  rw [hat] at h2
  simpa using h2
theorem left_none {es : Array MapEntry} {M : Tally} (hE : EntriesAre es M) {seen : Array Nat} (h : (leftOf es seen).size = 0) : ∀ i, i < M.length → seen.contains i = true := by
  intro i hi
  obtain ⟨hi', hat⟩ := hE.at i hi
  unfold leftOf at h
  have h0 := Array.eq_empty_of_size_eq_zero h
  rw [Array.filter_eq_empty_iff] at h0
  have := h0 es[i] (Array.getElem_mem hi')
  rw [hat] at this
  simpa using this
section
variable {P : Program} (w : World) {ops : Array Oper} {rest : List Oper} {o : Oper} {a : Act} {Q : Exit → Act → World → Prop}
theorem wpList_next_ss (hg : o.guard = none) (it : Operand) (hop : o.op = Op.next it false) (B r : Nat) (M : Tally) (seen : Array Nat) (hit : a.eval it = .pointer (some ⟨r, 0, none⟩)) (hr : IterAt w r B M.length seen) (h : MapIs w B M)
    (hDone : (∀ i, i < M.length → seen.contains i = true) → wpList Try.prog ops Q rest (a.put o.dst (.tuple #[.bool false])) w)
    (hMore : ∀ (i : Nat) (hi : i < M.length) (w' : World), seen.contains i = false → IterAt w' r B M.length (seen.push i) → w.grownBy w' (some r) → w'.heap.size = w.heap.size →
      (Instr.entry (.pointer (some ⟨r, 0, none⟩))).run Try.prog w' = .ok (.tuple #[ssV (M[i]).1, .int .i64 ((M[i]).2 : Nat)]) w' → wpList Try.prog ops Q rest (a.put o.dst (.tuple #[.bool true, ssV (M[i]).1, .int .i64 ((M[i]).2 : Nat)])) w') :
    wpList Try.prog ops Q (o :: rest) a w := by
  refine wpList_plain hg fun K' hK' => ?_
  obtain ⟨es, hb, hE⟩ := h
  have hne : r ≠ B := by
    intro e; subst e; unfold IterAt at hr; rw [hr] at hb; cases hb
  have hlt : r < w.heap.size := (Array.getElem?_eq_some_iff.1 hr).1
  have hold : ∀ x ∈ es.toList, x.born < M.length := by
    intro x hx
    obtain ⟨i, hi, rfl⟩ := List.getElem_of_mem hx
    have hi' : i < M.length := by rw [← hE.size]; simpa using hi
    obtain ⟨_, hat⟩ := hE.at i hi'
    simp [hat, hi']
  unfold Oper.wp
  rcases run_next_at (P := Try.prog) w o.type r B M.length M.length seen es M.length hr hb hold (Nat.le_refl _) with ⟨h0, hrun⟩ | ⟨e, he, w1, hal, hrun⟩
  · simp [execOp, hop, hit, hrun, Result.andThen]
    exact hK' _ _ (hDone (left_none hE h0))
  · obtain ⟨i, hi, rfl, hse⟩ := left_entries hE he
    obtain ⟨hi', hat⟩ := hE.at i hi
    simp only [execOp, hop, hit, Sem.run_bind, hrun, Result.andThen, Sem.run_pure]
    have hh : w1.heap = w.heap := by rcases hal with rfl | rfl <;> rfl
    have hb1 : (setBlock w1 r (.mapIter (some B) M.length (seen.push i) M.length)).heap[B]? = some (.map es M.length) := by simp [setBlock, hh, Array.getElem?_setIfInBounds_ne hne, hb]
    have hr1 : IterAt (setBlock w1 r (.mapIter (some B) M.length (seen.push i) M.length)) r B M.length (seen.push i) := by simp [IterAt, setBlock, hh, hlt]
    refine hK' _ _ (hMore i hi _ hse hr1 ⟨?_, ?_, ?_, ?_, ?_⟩ ?_ ?_)
    · rcases hal with rfl | rfl <;> rfl
    · rcases hal with rfl | rfl <;> rfl
    · rcases hal with rfl | rfl <;> rfl
    · simp [setBlock, hh]
    · intro k hk hkr
      have : r ≠ k := fun e => hkr (by rw [e])
      simp [setBlock, hh, Array.getElem?_setIfInBounds_ne this]
    · simp [setBlock, hh]
    · have := run_entry_at (P := Try.prog) _ r B M.length seen es M.length { key := ssV (M[i]).1, val := .int .i64 ((M[i]).2 : Nat), born := i } hr1 hb1 (by rw [← hat]; simp) (by
        have hbn := hE.born
        rw [hbn]; exact List.nodup_range)
      simpa using this
end

theorem cmpM_neg {x y : Int} : cmpM x y < 0 ↔ x < y := by unfold cmpM; split <;> (try split) <;> omega
theorem cmpM_zero {x y : Int} : cmpM x y = 0 ↔ x = y := by unfold cmpM; split <;> (try split) <;> omega
theorem cmpL_trans : ∀ {a b c : List Int}, cmpL a b < 0 → cmpL b c < 0 → cmpL a c < 0
  | [], [], _, h, _ => by simp [cmpL] at h
  | [], _ :: _, [], _, k => by simp [cmpL] at k
  | [], _ :: _, _ :: _, _, _ => by simp [cmpL]
  | _ :: _, [], _, h, _ => by simp [cmpL] at h
  | _ :: _, _ :: _, [], _, k => by simp [cmpL] at k
  | x :: a, y :: b, z :: c, h, k => by
    unfold cmpL at h k ⊢
    by_cases h1 : cmpM x y = 0
    · rw [if_pos h1] at h
      have e := cmpM_zero.1 h1; subst e
      by_cases h2 : cmpM x z = 0
      · rw [if_pos h2] at k ⊢; exact cmpL_trans h k
      · rw [if_neg h2] at k ⊢; exact k
    · rw [if_neg h1] at h
      have h3 := cmpM_neg.1 h
      by_cases h2 : cmpM y z = 0
      · have e := cmpM_zero.1 h2; subst e
        rw [if_neg h1]; exact h
      · rw [if_neg h2] at k
        have k3 := cmpM_neg.1 k
        have h4 : cmpM x z < 0 := cmpM_neg.2 (by omega)
        rw [if_neg (by omega)]; exact h4
theorem cmpSS_trans {a b c : List Int} (h : cmpSS a b < 0) (k : cmpSS b c < 0) : cmpSS a c < 0 := by
  unfold cmpSS at *
  by_cases h1 : a.length = b.length
  · rw [if_pos h1] at h
    by_cases h2 : b.length = c.length
    · rw [if_pos h2] at k; rw [if_pos (by omega)]; exact cmpL_trans h k
    · rw [if_neg h2] at k
      have := cmpM_neg.1 k
      rw [if_neg (by omega)]; exact cmpM_neg.2 (by omega)
  · rw [if_neg h1] at h
    have h3 := cmpM_neg.1 h
    by_cases h2 : b.length = c.length
    · rw [if_neg (by omega)]; exact cmpM_neg.2 (by omega)
    · rw [if_neg h2] at k
      have := cmpM_neg.1 k
      rw [if_neg (by omega)]; exact cmpM_neg.2 (by omega)

/-- the first string, of some entries, whose bits have all of n -/
structure FirstIs (M : Tally) (on : Nat → Prop) (n : Nat) (k : List Int) (f : Bool) : Prop where
  no : f = false → k = [] ∧ ∀ i (hi : i < M.length), on i → (M[i]).2 &&& n ≠ n
  yes : f = true → (∃ i, ∃ hi : i < M.length, (M[i]).1 = k ∧ (M[i]).2 &&& n = n) ∧ ∀ i (hi : i < M.length), on i → (M[i]).2 &&& n = n → ¬ cmpSS (M[i]).1 k < 0
theorem FirstIs.start (M : Tally) (n : Nat) : FirstIs M (fun i => (#[] : Array Nat).contains i = true) n [] false :=
  ⟨fun _ => ⟨rfl, fun i _ h => by simp at h⟩, fun h => by cases h⟩
theorem FirstIs.skip {M : Tally} {seen : Array Nat} {n : Nat} {k : List Int} {f : Bool} (h : FirstIs M (fun i => seen.contains i = true) n k f) {j : Nat} (hj : j < M.length)
    (hs : (M[j]).2 &&& n ≠ n ∨ (f = true ∧ ¬ cmpSS (M[j]).1 k < 0)) : FirstIs M (fun i => (seen.push j).contains i = true) n k f := by
  refine ⟨fun hf => ⟨(h.no hf).1, fun i hi ho => ?_⟩, fun hf => ⟨(h.yes hf).1, fun i hi ho hb => ?_⟩⟩
  · rw [Array.contains_push, Bool.or_eq_true] at ho
    rcases ho with ho | ho
    · exact (h.no hf).2 i hi ho
    · obtain rfl : i = j := by simpa using ho
      rcases hs with hs | ⟨h1, -⟩
      · exact hs
      · rw [hf] at h1; cases h1
  · rw [Array.contains_push, Bool.or_eq_true] at ho
    rcases ho with ho | ho
    · exact (h.yes hf).2 i hi ho hb
    · obtain rfl : i = j := by simpa using ho
      rcases hs with hs | ⟨-, h1⟩
      · exact absurd hb hs
      · exact h1
theorem cmpSS_self (k : List Int) : cmpSS k k = 0 := by unfold cmpSS; rw [if_pos rfl, cmpL_self]
theorem FirstIs.take {M : Tally} {seen : Array Nat} {n : Nat} {k : List Int} {f : Bool} (h : FirstIs M (fun i => seen.contains i = true) n k f) {j : Nat} (hj : j < M.length)
    (hb : (M[j]).2 &&& n = n) (hs : f = false ∨ cmpSS (M[j]).1 k < 0) : FirstIs M (fun i => (seen.push j).contains i = true) n (M[j]).1 true := by
  refine ⟨fun hf => (by cases hf), fun _ => ⟨⟨j, hj, rfl, hb⟩, fun i hi ho hbi => ?_⟩⟩
  rw [Array.contains_push, Bool.or_eq_true] at ho
  rcases ho with ho | ho
  · cases f with
    | false => exact absurd hbi ((h.no rfl).2 i hi ho)
    | true =>
      have hs := hs.resolve_left (by simp)
      intro hlt
      exact (h.yes rfl).2 i hi ho hbi (cmpSS_trans hlt hs)
  · obtain rfl : i = j := by simpa using ho
    rw [cmpSS_self]; omega
/-- a sound string's six cells -/
structure SixAt (W : World) (u : Nat) (x : List Int) : Prop where
  c0 : W.cell? ⟨u, 0, none⟩ = some (.int .i64 x.length)
  c1 : W.cell? ⟨u, 1, none⟩ = some (.int .i64 (x.getD 0 0))
  c2 : W.cell? ⟨u, 2, none⟩ = some (.int .i64 (x.getD 1 0))
  c3 : W.cell? ⟨u, 3, none⟩ = some (.int .i64 (x.getD 2 0))
  c4 : W.cell? ⟨u, 4, none⟩ = some (.int .i64 (x.getD 3 0))
  c5 : W.cell? ⟨u, 5, none⟩ = some (.int .i64 (x.getD 4 0))
theorem SixAt.ck {W W' : World} {u : Nat} {x : List Int} (h : SixAt W u x) (hx : CK W W') : SixAt W' u x :=
  ⟨hx.cell h.c0, hx.cell h.c1, hx.cell h.c2, hx.cell h.c3, hx.cell h.c4, hx.cell h.c5⟩
theorem SixAt.new (W : World) (x : List Int) (t : TypeId) : SixAt (W.alloc (.cells #[.int .i64 x.length, .int .i64 (x.getD 0 0), .int .i64 (x.getD 1 0), .int .i64 (x.getD 2 0), .int .i64 (x.getD 3 0), .int .i64 (x.getD 4 0)] t)) W.heap.size x :=
  ⟨by simp [go_sem], by simp [go_sem], by simp [go_sem], by simp [go_sem], by simp [go_sem], by simp [go_sem]⟩

theorem six_set {w : World} {B : Nat} {x0 x1 x2 x3 x4 x5 : Value} (h0 : w.cell? ⟨B, 0, none⟩ = some x0) (h1 : w.cell? ⟨B, 1, none⟩ = some x1) (h2 : w.cell? ⟨B, 2, none⟩ = some x2) (h3 : w.cell? ⟨B, 3, none⟩ = some x3) (h4 : w.cell? ⟨B, 4, none⟩ = some x4) (h5 : w.cell? ⟨B, 5, none⟩ = some x5) (a b c d e f : Value) :
    (w.setCell ⟨B, 0, none⟩ a).cell? ⟨B, 0, none⟩ = some a ∧
    ((w.setCell ⟨B, 0, none⟩ a).setCell ⟨B, 1, none⟩ b).cell? ⟨B, 1, none⟩ = some b ∧
    (((w.setCell ⟨B, 0, none⟩ a).setCell ⟨B, 1, none⟩ b).setCell ⟨B, 2, none⟩ c).cell? ⟨B, 2, none⟩ = some c ∧
    ((((w.setCell ⟨B, 0, none⟩ a).setCell ⟨B, 1, none⟩ b).setCell ⟨B, 2, none⟩ c).setCell ⟨B, 3, none⟩ d).cell? ⟨B, 3, none⟩ = some d ∧
    (((((w.setCell ⟨B, 0, none⟩ a).setCell ⟨B, 1, none⟩ b).setCell ⟨B, 2, none⟩ c).setCell ⟨B, 3, none⟩ d).setCell ⟨B, 4, none⟩ e).cell? ⟨B, 4, none⟩ = some e ∧
    ((((((w.setCell ⟨B, 0, none⟩ a).setCell ⟨B, 1, none⟩ b).setCell ⟨B, 2, none⟩ c).setCell ⟨B, 3, none⟩ d).setCell ⟨B, 4, none⟩ e).setCell ⟨B, 5, none⟩ f).cell? ⟨B, 5, none⟩ = some f := by
  have o : ∀ {w : World} {i j : Nat} {x : Value} (v : Value), i ≠ j → w.cell? ⟨B, j, none⟩ = some x → (w.setCell ⟨B, i, none⟩ v).cell? ⟨B, j, none⟩ = some x := fun v hne h => set_other h (.inr hne) v
  refine ⟨set_cell h0 a, set_cell (o a (by decide) h1) b, set_cell (o b (by decide) (o a (by decide) h2)) c, set_cell (o c (by decide) (o b (by decide) (o a (by decide) h3))) d,
    set_cell (o d (by decide) (o c (by decide) (o b (by decide) (o a (by decide) h4)))) e, set_cell (o e (by decide) (o d (by decide) (o c (by decide) (o b (by decide) (o a (by decide) h5))))) f⟩
/-- the six cells behind six stores -/
theorem six_all {w : World} {B : Nat} {x0 x1 x2 x3 x4 x5 : Value} (h0 : w.cell? ⟨B, 0, none⟩ = some x0) (h1 : w.cell? ⟨B, 1, none⟩ = some x1) (h2 : w.cell? ⟨B, 2, none⟩ = some x2) (h3 : w.cell? ⟨B, 3, none⟩ = some x3) (h4 : w.cell? ⟨B, 4, none⟩ = some x4) (h5 : w.cell? ⟨B, 5, none⟩ = some x5) (k : List Int) :
    SixAt ((((((w.setCell ⟨B, 0, none⟩ (.int .i64 k.length)).setCell ⟨B, 1, none⟩ (.int .i64 (k.getD 0 0))).setCell ⟨B, 2, none⟩ (.int .i64 (k.getD 1 0))).setCell ⟨B, 3, none⟩ (.int .i64 (k.getD 2 0))).setCell ⟨B, 4, none⟩ (.int .i64 (k.getD 3 0))).setCell ⟨B, 5, none⟩ (.int .i64 (k.getD 4 0))) B k := by
  obtain ⟨t0, t1, t2, t3, t4, t5⟩ := six_set h0 h1 h2 h3 h4 h5 (.int .i64 k.length) (.int .i64 (k.getD 0 0)) (.int .i64 (k.getD 1 0)) (.int .i64 (k.getD 2 0)) (.int .i64 (k.getD 3 0)) (.int .i64 (k.getD 4 0))
  have o : ∀ {w : World} {i j : Nat} {x : Value} (v : Value), i ≠ j → w.cell? ⟨B, j, none⟩ = some x → (w.setCell ⟨B, i, none⟩ v).cell? ⟨B, j, none⟩ = some x := fun v hne h => set_other h (.inr hne) v
  exact ⟨o _ (by decide) (o _ (by decide) (o _ (by decide) (o _ (by decide) (o _ (by decide) t0)))), o _ (by decide) (o _ (by decide) (o _ (by decide) (o _ (by decide) t1))), o _ (by decide) (o _ (by decide) (o _ (by decide) t2)), o _ (by decide) (o _ (by decide) t3), o _ (by decide) t4, t5⟩
theorem six_grown (w : World) (B : Nat) (a b c d e f : Value) : w.grownBy ((((((w.setCell ⟨B, 0, none⟩ a).setCell ⟨B, 1, none⟩ b).setCell ⟨B, 2, none⟩ c).setCell ⟨B, 3, none⟩ d).setCell ⟨B, 4, none⟩ e).setCell ⟨B, 5, none⟩ f) (some B) := by
  have g : ∀ (w : World) (i : Nat) (v : Value), w.grownBy (w.setCell ⟨B, i, none⟩ v) (some B) := fun w i v =>
    ⟨rfl, rfl, rfl, (KeepsWalks.setCell w _ v).size, fun k _ hk => Below.heap_setCell _ _ _ k (fun e => hk (by rw [e]))⟩
  exact (((((g _ _ _).trans (g _ _ _)).trans (g _ _ _)).trans (g _ _ _)).trans (g _ _ _)).trans (g _ _ _)
/-- what the loop keeps -/
structure Range (w0 : World) (r B m a c : Nat) (seen : Array Nat) (M : Tally) (k : List Int) (W : World) : Prop where
  it : IterAt W r B m seen
  map : MapIs W B M
  six : SixAt W a k
  fr : ∀ o, W.frozen? ⟨a, o, none⟩ = false
  res : SixAt W c []
  frr : ∀ o, W.frozen? ⟨c, o, none⟩ = false
  ext : Ext w0 W
theorem Range.later {w0 : World} {r B m a c : Nat} {seen : Array Nat} {M : Tally} {k : List Int} {W W' : World} (h : Range w0 r B m a c seen M k W) (hx : Ext W W') : Range w0 r B m a c seen M k W' :=
  ⟨(Below.block hx r (Array.getElem?_eq_some_iff.1 h.it).1).trans h.it, h.map.kept (Below.block hx B h.map.lt), h.six.ck hx.ck, fun o => by rw [hx.frozen (p := ⟨a, o, none⟩) (cell_lt h.six.c0 : a < _)]; exact h.fr o, h.res.ck hx.ck, fun o => by rw [hx.frozen (p := ⟨c, o, none⟩) (cell_lt h.res.c0 : c < _)]; exact h.frr o, h.ext.trans hx⟩
theorem Range.next {w0 : World} {r B m a c : Nat} {seen : Array Nat} {M : Tally} {k : List Int} {W W' : World} (h : Range w0 r B m a c seen M k W) (hg : W.grownBy W' (some r)) {i : Nat} (hi : IterAt W' r B m (seen.push i)) (hra : r ≠ a) (hBr : B ≠ r) (hcr : c ≠ r) (h0 : w0.heap.size ≤ r) : Range w0 r B m a c (seen.push i) M k W' := by
  have hne : ∀ o, some (⟨c, o, none⟩ : Addr).block ≠ some r := fun o e => hcr (by cases e; rfl)
  have hna : ∀ o, some (⟨a, o, none⟩ : Addr).block ≠ some r := fun o e => hra (by cases e; rfl)
  exact ⟨hi, h.map.kept (hg.block B h.map.lt (fun e => hBr (by cases e; rfl))),
    ⟨hg.cell h.six.c0 (hna _), hg.cell h.six.c1 (hna _), hg.cell h.six.c2 (hna _), hg.cell h.six.c3 (hna _), hg.cell h.six.c4 (hna _), hg.cell h.six.c5 (hna _)⟩,
    fun o => (World.frozen?_of_block (hg.block a (cell_lt h.six.c0) (hna o))).trans (h.fr o),
    ⟨hg.cell h.res.c0 (hne _), hg.cell h.res.c1 (hne _), hg.cell h.res.c2 (hne _), hg.cell h.res.c3 (hne _), hg.cell h.res.c4 (hne _), hg.cell h.res.c5 (hne _)⟩,
    fun o => (World.frozen?_of_block (hg.block c (cell_lt h.res.c0) (hne o))).trans (h.frr o), h.ext.grown hg (fun _ e => by cases e; exact h0)⟩
theorem Range.took {w0 : World} {r B m a c : Nat} {seen : Array Nat} {M : Tally} {k : List Int} {W : World} (h : Range w0 r B m a c seen M k W) (hra : r ≠ a) (hBa : B ≠ a) (hca : c ≠ a) (h0 : w0.heap.size ≤ a) (q : List Int) :
    Range w0 r B m a c seen M q ((((((W.setCell ⟨a, 0, none⟩ (.int .i64 q.length)).setCell ⟨a, 1, none⟩ (.int .i64 (q.getD 0 0))).setCell ⟨a, 2, none⟩ (.int .i64 (q.getD 1 0))).setCell ⟨a, 3, none⟩ (.int .i64 (q.getD 2 0))).setCell ⟨a, 4, none⟩ (.int .i64 (q.getD 3 0))).setCell ⟨a, 5, none⟩ (.int .i64 (q.getD 4 0))) := by
  have g := six_grown W a (.int .i64 q.length) (.int .i64 (q.getD 0 0)) (.int .i64 (q.getD 1 0)) (.int .i64 (q.getD 2 0)) (.int .i64 (q.getD 3 0)) (.int .i64 (q.getD 4 0))
  have hc := cell_lt h.res.c0
  refine ⟨(g.block r (Array.getElem?_eq_some_iff.1 h.it).1 (fun e => hra (by cases e; rfl))).trans h.it, h.map.kept (g.block B h.map.lt (fun e => hBa (by cases e; rfl))), six_all h.six.c0 h.six.c1 h.six.c2 h.six.c3 h.six.c4 h.six.c5 q, fun o => ?_, ?_, fun o => ?_, h.ext.grown g (fun _ e => by cases e; exact h0)⟩
  · have := h.fr o
    simpa [go_sem] using this
  · have hne : ∀ o, some (⟨c, o, none⟩ : Addr).block ≠ some a := fun o e => hca (by cases e; rfl)
    exact ⟨g.cell h.res.c0 (hne _), g.cell h.res.c1 (hne _), g.cell h.res.c2 (hne _), g.cell h.res.c3 (hne _), g.cell h.res.c4 (hne _), g.cell h.res.c5 (hne _)⟩
  · have := h.frr o
    simpa [go_sem] using this
theorem and_small : ∀ (a b : Fin 32), bits BinOp.and IntKind.i64 ((a.1 : Nat) : Int) ((b.1 : Nat) : Int) = ((a.1 &&& b.1 : Nat) : Int) := by decide +kernel
end Go.Proofs.Ytdadffmagfknoaa

namespace Go.Proofs.Ytdadffmagfknoaa
set_option linter.unusedSimpArgs false
set_option linter.unusedVariables false
open Go.RowKit
set_option linter.unusedVariables false

end Go.Proofs.Ytdadffmagfknoaa

namespace Go.Proofs.Ytdadffmagfknoaa
set_option linter.unusedSimpArgs false
set_option linter.unusedVariables false
open Go.RowKit
set_option linter.unusedSimpArgs false

def spellM (b : Book) (a : Int) (heard : List Int) : ByteArray × Int :=
  if errM b ≠ 0 then (⟨#[]⟩, errM b) else match b.alphabets[a.toNat]? with
    | none => (⟨#[]⟩, 4)
    | some x => if a < 0 then (⟨#[]⟩, 4) else if heardErrM b.sounds heard ≠ 0 then (⟨#[]⟩, heardErrM b.sounds heard) else (strOf (shortS x.letters (wantedM heard)), shortE x.letters (wantedM heard))
theorem openM_nil (b : Book) : openM b [] = errM b := by
  unfold openM
  split
  · rfl
  · rename_i h
    rw [if_neg (by simp [withinM])]
    have : errM b = 0 := by simpa using h
    exact this.symm

end Go.Proofs.Ytdadffmagfknoaa

namespace Go.Proofs.Ytdadffmagfknoaa
set_option linter.unusedSimpArgs false
set_option linter.unusedVariables false
open Go.RowKit
set_option linter.unusedVariables false

theorem openM_ok {b : Book} (h : errM b = 0) {l : List Int} (hl : ∀ x ∈ l, 0 ≤ x ∧ x < b.spellings.length) : openM b l = 0 := by
  unfold openM
  rw [if_neg (by rw [h]; exact fun e => e rfl), if_neg]
  rw [Bool.not_eq_false, withinM, List.all_eq_true]
  intro x hx
  have := hl x hx
  simp [inM]; omega

end Go.Proofs.Ytdadffmagfknoaa

namespace Go.Proofs.Ytdadffmagfknoaa
set_option linter.unusedSimpArgs false
set_option linter.unusedVariables false
open Go.RowKit
set_option linter.unusedVariables false

end Go.Proofs.Ytdadffmagfknoaa

namespace Go.Proofs.Ytdadffmagfknoaa
set_option linter.unusedSimpArgs false
set_option linter.unusedVariables false
open Go.RowKit
set_option linter.unusedVariables false

theorem IntsAt.twoAt {w : World} {m n : Int} {t : TypeId} {B : Nat} (hB : w.heap.size = B) (h : -9223372036854775808 ≤ n ∧ n ≤ 9223372036854775807) (h' : -9223372036854775808 ≤ m ∧ m ≤ 9223372036854775807) : IntsAt (w.alloc (.cells #[.int .i64 n, .int .i64 m] t)) (.slice (some ⟨B, 0, none⟩) 2 2) [n, m] := by
  subst hB; exact IntsAt.two h h'
/-- whether the first string is common, and whether there is but one -/
def alikeV (M : Tally) (f : Bool) : Int := if f = false then 2 else if M.length = 1 then 1 else 0
end Go.Proofs.Ytdadffmagfknoaa

namespace Go.Proofs.Ytdadffmagfknoaa
set_option linter.unusedSimpArgs false
set_option linter.unusedVariables false
open Go.RowKit
set_option linter.unusedVariables false

/-- whether some string has all of these bits -/
def sharedB (M : Tally) (n : Nat) : Bool := M.any fun p => p.2 &&& n == n
theorem FirstIs.shared {M : Tally} {n : Nat} {k : List Int} {f : Bool} (h : FirstIs M (fun _ => True) n k f) : f = sharedB M n := by
  unfold sharedB
  cases f
  · symm
    rw [List.any_eq_false]
    intro p hp
    obtain ⟨i, hi, rfl⟩ := List.getElem_of_mem hp
    simpa using (h.no rfl).2 i hi trivial
  · symm
    obtain ⟨i, hi, -, e⟩ := (h.yes rfl).1
    rw [List.any_eq_true]
    exact ⟨M[i], List.getElem_mem hi, by simpa using e⟩
/-- which of two lists is told first: that with fewer numbers, of as long ones that which comes first -/
def cmpFew (l m : List Nat) : Int := cmpSS (ints l) (ints m)
theorem cmpL_zero : ∀ {a b : List Int}, cmpL a b = 0 → a = b
  | [], [], _ => rfl
  | [], _ :: _, h => by simp [cmpL] at h
  | _ :: _, [], h => by simp [cmpL] at h
  | x :: a, y :: b, h => by
    unfold cmpL at h
    by_cases h1 : cmpM x y = 0
    · rw [if_pos h1] at h
      rw [cmpM_zero.1 h1, cmpL_zero h]
    · rw [if_neg h1] at h; exact absurd h h1
theorem cmpSS_zero {a b : List Int} (h : cmpSS a b = 0) : a = b := by
  unfold cmpSS at h
  split at h
  · exact cmpL_zero h
  · rename_i h1
    have := cmpM_zero.1 h
    exact absurd (by omega) h1
theorem cmpSS_le {a b c : List Int} (h : cmpSS a b < 0) (k : ¬ 0 < cmpSS b c) : cmpSS a c < 0 := by
  by_cases h0 : cmpSS b c = 0
  · rw [← cmpSS_zero h0]; exact h
  · exact cmpSS_trans h (by omega)
def fewStep (P : Nat → Bool) (r : Option (List Nat)) (s : Nat) : Option (List Nat) := match r with
  | none => if P s = true then some (membersM s) else none
  | some f => if 0 < cmpFew (membersM s) f then some f else if P s = true then some (membersM s) else some f
/-- the first of the fewest, of the sets below a number -/
def fewTo (P : Nat → Bool) (k : Nat) : Option (List Nat) := (List.range k).foldl (fewStep P) none
theorem fewTo_succ (P : Nat → Bool) (k : Nat) : fewTo P (k + 1) = fewStep P (fewTo P k) k := by simp [fewTo, List.range_succ]
def FewIs (P : Nat → Bool) (k : Nat) : Option (List Nat) → Prop
  | none => ∀ s, s < k → P s = false
  | some f => (∃ s, s < k ∧ P s = true ∧ membersM s = f) ∧ ∀ s, s < k → P s = true → ¬ cmpFew (membersM s) f < 0
theorem fewTo_is (P : Nat → Bool) : ∀ k, FewIs P k (fewTo P k)
  | 0 => fun s h => by omega
  | k + 1 => by
    have ih := fewTo_is P k
    rw [fewTo_succ]
    have self : ∀ l : List Nat, cmpFew l l = 0 := fun l => cmpSS_self _
    cases hr : fewTo P k with
    | none =>
      rw [hr] at ih
      simp only [fewStep]
      by_cases hp : P k = true
      · rw [if_pos hp]
        refine ⟨⟨k, by omega, hp, rfl⟩, fun s hs hps => ?_⟩
        rcases Nat.lt_or_ge s k with h | h
        · rw [ih s h] at hps; cases hps
        · obtain rfl : s = k := by omega
          rw [self]; omega
      · rw [if_neg hp]
        intro s hs
        rcases Nat.lt_or_ge s k with h | h
        · exact ih s h
        · obtain rfl : s = k := by omega
          simpa using hp
    | some f =>
      rw [hr] at ih
      obtain ⟨⟨s0, h0, hp0, e0⟩, hmin⟩ := ih
      simp only [fewStep]
      by_cases hc : 0 < cmpFew (membersM k) f
      · rw [if_pos hc]
        refine ⟨⟨s0, by omega, hp0, e0⟩, fun s hs hps => ?_⟩
        rcases Nat.lt_or_ge s k with h | h
        · exact hmin s h hps
        · obtain rfl : s = k := by omega
          omega
      · rw [if_neg hc]
        by_cases hp : P k = true
        · rw [if_pos hp]
          refine ⟨⟨k, by omega, hp, rfl⟩, fun s hs hps hlt => ?_⟩
          rcases Nat.lt_or_ge s k with h | h
          · exact hmin s h hps (cmpSS_le hlt hc)
          · obtain rfl : s = k := by omega
            rw [self] at hlt; omega
        · rw [if_neg hp]
          refine ⟨⟨s0, by omega, hp0, e0⟩, fun s hs hps => ?_⟩
          rcases Nat.lt_or_ge s k with h | h
          · exact hmin s h hps
          · obtain rfl : s = k := by omega
            exact absurd hps hp
def allOf (b : Book) : Nat := 2 ^ b.spellings.length - 1
theorem andNot_small : ∀ (a b : Fin 32), bits BinOp.andNot IntKind.i64 ((a.1 : Nat) : Int) ((b.1 : Nat) : Int) = ((a.1 ^^^ (a.1 &&& b.1) : Nat) : Int) := by decide +kernel
theorem xor_lt : ∀ (a b : Fin 32), a.1 ^^^ (a.1 &&& b.1) < 32 := by decide +kernel
theorem allOf_lt {b : Book} (h : b.spellings.length ≤ 5) : allOf b < 32 := by
  unfold allOf
  have : 2 ^ b.spellings.length ≤ 2 ^ 5 := Nat.pow_le_pow_right (by decide) h
  have h0 : 0 < 2 ^ b.spellings.length := Nat.two_pow_pos _
  omega
theorem membersM_mem {n m : Nat} (h : m ∈ membersM n) : n.testBit m = true ∧ m < 5 := by
  simp only [membersM, membersTo, List.mem_filter, List.mem_range] at h
  exact ⟨h.2, h.1⟩
theorem members_all {b : Book} {n : Nat} (h : n ∈ membersM (allOf b)) : n < b.spellings.length := by
  have := (membersM_mem h).1
  unfold allOf at this
  rw [Nat.testBit_two_pow_sub_one] at this
  simpa using this

theorem shl_all : ∀ n : Fin 6, wrap64 (wrap64 (2 ^ n.1) - 1) = ((2 ^ n.1 - 1 : Nat) : Int) := by decide +kernel
def oddP (M : Tally) (all odd : Nat) : Bool := sharedB M (all ^^^ (all &&& odd)) || odd == all
/-- the fewest spellings without which all others are alike -/
def oddL (b : Book) : List Nat := (fewTo (oddP (canM b (membersM (allOf b))) (allOf b)) (2 ^ b.spellings.length)).getD []
def MapV (M : Tally) (u : Value) (w : World) : Prop := ∃ B, u = .map (some B) ∧ MapIs w B M
theorem MapV.ext {M : Tally} {u : Value} {w w' : World} (hx : Ext w w') (h : MapV M u w) : MapV M u w' := by
  obtain ⟨B, e, hm⟩ := h; exact ⟨B, e, hm.kept (Below.block hx _ hm.lt)⟩
def ListV (l : List Int) (u : Value) (w : World) : Prop := IntsAt w u l

def orM : List Int → Int
  | [] => 0
  | x :: l => if x = 0 then orM l else x
end Go.Proofs.Ytdadffmagfknoaa
