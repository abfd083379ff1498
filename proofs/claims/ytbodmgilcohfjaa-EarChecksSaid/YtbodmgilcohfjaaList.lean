/-
  WHAT list RETURNS: the sounds of a sound string, in new memory.
-/
import Derived.Test.YtbodmgilcohfjaaHeard
namespace Go.Proofs.Ytbodmgilcohfjaa
set_option linter.unusedVariables false
open Go.RowKit
set_option linter.unusedSimpArgs false

set_option maxRecDepth 100000 in
theorem list_0 (hi : ∀ x ∈ ([] : List Int), I64 x) (w : World) :
    Calls Try.prog 75 #[ssV []] w fun r w' => ∃ v, r = .returned v ∧ IntsAt w' v [] ∧ Ext w w' := by
  have hmk : ∀ w, (Instr.makeSlice 32 (.int .i64 0) (.int .i64 0)).run Try.prog w = .ok (.slice (some ⟨w.heap.size, 0, none⟩) 0 0) (w.alloc (.cells #[] 3)) := fun _ => by kernel_rfl
  have hcopy : (Builtin.copy_ #[32, 32] 3 #[.slice (some ⟨w.heap.size + 1, 0, none⟩) 0 0, .slice (some ⟨w.heap.size, 1, none⟩) 5 5]).run Try.prog ((w.alloc (.cells #[.int .i64 0, .int .i64 0, .int .i64 0, .int .i64 0, .int .i64 0, .int .i64 0] 100)).alloc (.cells #[] 3)) = .ok (goInt 0) ((w.alloc (.cells #[.int .i64 0, .int .i64 0, .int .i64 0, .int .i64 0, .int .i64 0, .int .i64 0] 100)).alloc (.cells #[] 3)) :=
    run_copy_none _ _ _ _ 3 _ _ _ _ _ _ Try.underlying32 (by kernel_rfl) rfl
  go_enter Try.func75, Try.ntmps75
  unfold ssV ssRaw
  go_wp2
  go_ret
  refine ⟨_, rfl, ⟨_, _, rfl, Nat.le_refl _, by decide, fun i h => ?_⟩, (by first | (with_reducible exact Ext.refl _) | (with_reducible assumption) | (show Below _ _ _; go_grown; done))⟩
  simp at h
set_option maxRecDepth 100000 in
theorem list_1 (a : Int) (hi : ∀ x ∈ ([a] : List Int), I64 x) (w : World) :
    Calls Try.prog 75 #[ssV [a]] w fun r w' => ∃ v, r = .returned v ∧ IntsAt w' v [a] ∧ Ext w w' := by
  have hmk : ∀ w, (Instr.makeSlice 32 (.int .i64 1) (.int .i64 1)).run Try.prog w = .ok (.slice (some ⟨w.heap.size, 0, none⟩) 1 1) (w.alloc (.cells #[.int .i64 0] 3)) := fun _ => by kernel_rfl
  have hcopy : (Builtin.copy_ #[32, 32] 3 #[.slice (some ⟨w.heap.size + 1, 0, none⟩) 1 1, .slice (some ⟨w.heap.size, 1, none⟩) 5 5]).run Try.prog ((w.alloc (.cells #[.int .i64 1, .int .i64 a, .int .i64 0, .int .i64 0, .int .i64 0, .int .i64 0] 100)).alloc (.cells #[.int .i64 0] 3)) = .ok (goInt 1) ((w.alloc (.cells #[.int .i64 1, .int .i64 a, .int .i64 0, .int .i64 0, .int .i64 0, .int .i64 0] 100)).alloc (.cells #[.int .i64 a] 3)) := by
    rw [run_copy_cells (P := Try.prog) ((w.alloc (.cells #[.int .i64 1, .int .i64 a, .int .i64 0, .int .i64 0, .int .i64 0, .int .i64 0] 100)).alloc (.cells #[.int .i64 0] 3)) 32 32 3 3 (w.heap.size + 1) 0 1 1 ⟨w.heap.size, 1, none⟩ 5 5 [.int .i64 a] Try.underlying32 (by kernel_rfl) rfl ?_ ?_ ?_ (by simp [Value.oneCell'])]
    · simp [World.setCells, go_sem]
    · intro j u hj
      match j, hj with
      | 0, hj => simp at hj; subst hj; simp [go_sem, Addr.add]
    · intro j hj
      have hj : j = 0 := by simp at hj; omega
      rcases hj with rfl <;> simp [go_sem]
    · intro j hj
      have hj : j = 0 := by simp at hj; omega
      rcases hj with rfl <;> simp [go_sem]
  go_enter Try.func75, Try.ntmps75
  unfold ssV ssRaw
  go_wp2
  go_ret
  refine ⟨_, rfl, ⟨_, _, rfl, Nat.le_refl _, by decide, fun i h => ?_⟩, (by first | (with_reducible exact Ext.refl _) | (with_reducible assumption) | (show Below _ _ _; go_grown; done))⟩
  have hj : i = 0 := by simp at h; omega
  rcases hj with rfl
  · exact ⟨_, _, rfl, by simp [go_sem], hi _ (by simp)⟩
set_option maxRecDepth 100000 in
theorem list_2 (a b : Int) (hi : ∀ x ∈ ([a, b] : List Int), I64 x) (w : World) :
    Calls Try.prog 75 #[ssV [a, b]] w fun r w' => ∃ v, r = .returned v ∧ IntsAt w' v [a, b] ∧ Ext w w' := by
  have hmk : ∀ w, (Instr.makeSlice 32 (.int .i64 2) (.int .i64 2)).run Try.prog w = .ok (.slice (some ⟨w.heap.size, 0, none⟩) 2 2) (w.alloc (.cells #[.int .i64 0, .int .i64 0] 3)) := fun _ => by kernel_rfl
  have hcopy : (Builtin.copy_ #[32, 32] 3 #[.slice (some ⟨w.heap.size + 1, 0, none⟩) 2 2, .slice (some ⟨w.heap.size, 1, none⟩) 5 5]).run Try.prog ((w.alloc (.cells #[.int .i64 2, .int .i64 a, .int .i64 b, .int .i64 0, .int .i64 0, .int .i64 0] 100)).alloc (.cells #[.int .i64 0, .int .i64 0] 3)) = .ok (goInt 2) ((w.alloc (.cells #[.int .i64 2, .int .i64 a, .int .i64 b, .int .i64 0, .int .i64 0, .int .i64 0] 100)).alloc (.cells #[.int .i64 a, .int .i64 b] 3)) := by
    rw [run_copy_cells (P := Try.prog) ((w.alloc (.cells #[.int .i64 2, .int .i64 a, .int .i64 b, .int .i64 0, .int .i64 0, .int .i64 0] 100)).alloc (.cells #[.int .i64 0, .int .i64 0] 3)) 32 32 3 3 (w.heap.size + 1) 0 2 2 ⟨w.heap.size, 1, none⟩ 5 5 [.int .i64 a, .int .i64 b] Try.underlying32 (by kernel_rfl) rfl ?_ ?_ ?_ (by simp [Value.oneCell'])]
    · simp [World.setCells, go_sem]
    · intro j u hj
      match j, hj with
      | 0, hj => simp at hj; subst hj; simp [go_sem, Addr.add]
      | 1, hj => simp at hj; subst hj; simp [go_sem, Addr.add]
    · intro j hj
      have hj : j = 0 ∨ j = 1 := by simp at hj; omega
      rcases hj with rfl | rfl <;> simp [go_sem]
    · intro j hj
      have hj : j = 0 ∨ j = 1 := by simp at hj; omega
      rcases hj with rfl | rfl <;> simp [go_sem]
  go_enter Try.func75, Try.ntmps75
  unfold ssV ssRaw
  go_wp2
  go_ret
  refine ⟨_, rfl, ⟨_, _, rfl, Nat.le_refl _, by decide, fun i h => ?_⟩, (by first | (with_reducible exact Ext.refl _) | (with_reducible assumption) | (show Below _ _ _; go_grown; done))⟩
  have hj : i = 0 ∨ i = 1 := by simp at h; omega
  rcases hj with rfl | rfl
  · exact ⟨_, _, rfl, by simp [go_sem], hi _ (by simp)⟩
  · exact ⟨_, _, rfl, by simp [go_sem], hi _ (by simp)⟩
set_option maxRecDepth 100000 in
theorem list_3 (a b c : Int) (hi : ∀ x ∈ ([a, b, c] : List Int), I64 x) (w : World) :
    Calls Try.prog 75 #[ssV [a, b, c]] w fun r w' => ∃ v, r = .returned v ∧ IntsAt w' v [a, b, c] ∧ Ext w w' := by
  have hmk : ∀ w, (Instr.makeSlice 32 (.int .i64 3) (.int .i64 3)).run Try.prog w = .ok (.slice (some ⟨w.heap.size, 0, none⟩) 3 3) (w.alloc (.cells #[.int .i64 0, .int .i64 0, .int .i64 0] 3)) := fun _ => by kernel_rfl
  have hcopy : (Builtin.copy_ #[32, 32] 3 #[.slice (some ⟨w.heap.size + 1, 0, none⟩) 3 3, .slice (some ⟨w.heap.size, 1, none⟩) 5 5]).run Try.prog ((w.alloc (.cells #[.int .i64 3, .int .i64 a, .int .i64 b, .int .i64 c, .int .i64 0, .int .i64 0] 100)).alloc (.cells #[.int .i64 0, .int .i64 0, .int .i64 0] 3)) = .ok (goInt 3) ((w.alloc (.cells #[.int .i64 3, .int .i64 a, .int .i64 b, .int .i64 c, .int .i64 0, .int .i64 0] 100)).alloc (.cells #[.int .i64 a, .int .i64 b, .int .i64 c] 3)) := by
    rw [run_copy_cells (P := Try.prog) ((w.alloc (.cells #[.int .i64 3, .int .i64 a, .int .i64 b, .int .i64 c, .int .i64 0, .int .i64 0] 100)).alloc (.cells #[.int .i64 0, .int .i64 0, .int .i64 0] 3)) 32 32 3 3 (w.heap.size + 1) 0 3 3 ⟨w.heap.size, 1, none⟩ 5 5 [.int .i64 a, .int .i64 b, .int .i64 c] Try.underlying32 (by kernel_rfl) rfl ?_ ?_ ?_ (by simp [Value.oneCell'])]
    · simp [World.setCells, go_sem]
    · intro j u hj
      match j, hj with
      | 0, hj => simp at hj; subst hj; simp [go_sem, Addr.add]
      | 1, hj => simp at hj; subst hj; simp [go_sem, Addr.add]
      | 2, hj => simp at hj; subst hj; simp [go_sem, Addr.add]
    · intro j hj
      have hj : j = 0 ∨ j = 1 ∨ j = 2 := by simp at hj; omega
      rcases hj with rfl | rfl | rfl <;> simp [go_sem]
    · intro j hj
      have hj : j = 0 ∨ j = 1 ∨ j = 2 := by simp at hj; omega
      rcases hj with rfl | rfl | rfl <;> simp [go_sem]
  go_enter Try.func75, Try.ntmps75
  unfold ssV ssRaw
  go_wp2
  go_ret
  refine ⟨_, rfl, ⟨_, _, rfl, Nat.le_refl _, by decide, fun i h => ?_⟩, (by first | (with_reducible exact Ext.refl _) | (with_reducible assumption) | (show Below _ _ _; go_grown; done))⟩
  have hj : i = 0 ∨ i = 1 ∨ i = 2 := by simp at h; omega
  rcases hj with rfl | rfl | rfl
  · exact ⟨_, _, rfl, by simp [go_sem], hi _ (by simp)⟩
  · exact ⟨_, _, rfl, by simp [go_sem], hi _ (by simp)⟩
  · exact ⟨_, _, rfl, by simp [go_sem], hi _ (by simp)⟩
set_option maxRecDepth 100000 in
theorem list_4 (a b c d : Int) (hi : ∀ x ∈ ([a, b, c, d] : List Int), I64 x) (w : World) :
    Calls Try.prog 75 #[ssV [a, b, c, d]] w fun r w' => ∃ v, r = .returned v ∧ IntsAt w' v [a, b, c, d] ∧ Ext w w' := by
  have hmk : ∀ w, (Instr.makeSlice 32 (.int .i64 4) (.int .i64 4)).run Try.prog w = .ok (.slice (some ⟨w.heap.size, 0, none⟩) 4 4) (w.alloc (.cells #[.int .i64 0, .int .i64 0, .int .i64 0, .int .i64 0] 3)) := fun _ => by kernel_rfl
  have hcopy : (Builtin.copy_ #[32, 32] 3 #[.slice (some ⟨w.heap.size + 1, 0, none⟩) 4 4, .slice (some ⟨w.heap.size, 1, none⟩) 5 5]).run Try.prog ((w.alloc (.cells #[.int .i64 4, .int .i64 a, .int .i64 b, .int .i64 c, .int .i64 d, .int .i64 0] 100)).alloc (.cells #[.int .i64 0, .int .i64 0, .int .i64 0, .int .i64 0] 3)) = .ok (goInt 4) ((w.alloc (.cells #[.int .i64 4, .int .i64 a, .int .i64 b, .int .i64 c, .int .i64 d, .int .i64 0] 100)).alloc (.cells #[.int .i64 a, .int .i64 b, .int .i64 c, .int .i64 d] 3)) := by
    rw [run_copy_cells (P := Try.prog) ((w.alloc (.cells #[.int .i64 4, .int .i64 a, .int .i64 b, .int .i64 c, .int .i64 d, .int .i64 0] 100)).alloc (.cells #[.int .i64 0, .int .i64 0, .int .i64 0, .int .i64 0] 3)) 32 32 3 3 (w.heap.size + 1) 0 4 4 ⟨w.heap.size, 1, none⟩ 5 5 [.int .i64 a, .int .i64 b, .int .i64 c, .int .i64 d] Try.underlying32 (by kernel_rfl) rfl ?_ ?_ ?_ (by simp [Value.oneCell'])]
    · simp [World.setCells, go_sem]
    · intro j u hj
      match j, hj with
      | 0, hj => simp at hj; subst hj; simp [go_sem, Addr.add]
      | 1, hj => simp at hj; subst hj; simp [go_sem, Addr.add]
      | 2, hj => simp at hj; subst hj; simp [go_sem, Addr.add]
      | 3, hj => simp at hj; subst hj; simp [go_sem, Addr.add]
    · intro j hj
      have hj : j = 0 ∨ j = 1 ∨ j = 2 ∨ j = 3 := by simp at hj; omega
      rcases hj with rfl | rfl | rfl | rfl <;> simp [go_sem]
    · intro j hj
      have hj : j = 0 ∨ j = 1 ∨ j = 2 ∨ j = 3 := by simp at hj; omega
      rcases hj with rfl | rfl | rfl | rfl <;> simp [go_sem]
  go_enter Try.func75, Try.ntmps75
  unfold ssV ssRaw
  go_wp2
  go_ret
  refine ⟨_, rfl, ⟨_, _, rfl, Nat.le_refl _, by decide, fun i h => ?_⟩, (by first | (with_reducible exact Ext.refl _) | (with_reducible assumption) | (show Below _ _ _; go_grown; done))⟩
  have hj : i = 0 ∨ i = 1 ∨ i = 2 ∨ i = 3 := by simp at h; omega
  rcases hj with rfl | rfl | rfl | rfl
  · exact ⟨_, _, rfl, by simp [go_sem], hi _ (by simp)⟩
  · exact ⟨_, _, rfl, by simp [go_sem], hi _ (by simp)⟩
  · exact ⟨_, _, rfl, by simp [go_sem], hi _ (by simp)⟩
  · exact ⟨_, _, rfl, by simp [go_sem], hi _ (by simp)⟩
set_option maxRecDepth 100000 in
theorem list_5 (a b c d e : Int) (hi : ∀ x ∈ ([a, b, c, d, e] : List Int), I64 x) (w : World) :
    Calls Try.prog 75 #[ssV [a, b, c, d, e]] w fun r w' => ∃ v, r = .returned v ∧ IntsAt w' v [a, b, c, d, e] ∧ Ext w w' := by
  have hmk : ∀ w, (Instr.makeSlice 32 (.int .i64 5) (.int .i64 5)).run Try.prog w = .ok (.slice (some ⟨w.heap.size, 0, none⟩) 5 5) (w.alloc (.cells #[.int .i64 0, .int .i64 0, .int .i64 0, .int .i64 0, .int .i64 0] 3)) := fun _ => by kernel_rfl
  have hcopy : (Builtin.copy_ #[32, 32] 3 #[.slice (some ⟨w.heap.size + 1, 0, none⟩) 5 5, .slice (some ⟨w.heap.size, 1, none⟩) 5 5]).run Try.prog ((w.alloc (.cells #[.int .i64 5, .int .i64 a, .int .i64 b, .int .i64 c, .int .i64 d, .int .i64 e] 100)).alloc (.cells #[.int .i64 0, .int .i64 0, .int .i64 0, .int .i64 0, .int .i64 0] 3)) = .ok (goInt 5) ((w.alloc (.cells #[.int .i64 5, .int .i64 a, .int .i64 b, .int .i64 c, .int .i64 d, .int .i64 e] 100)).alloc (.cells #[.int .i64 a, .int .i64 b, .int .i64 c, .int .i64 d, .int .i64 e] 3)) := by
    rw [run_copy_cells (P := Try.prog) ((w.alloc (.cells #[.int .i64 5, .int .i64 a, .int .i64 b, .int .i64 c, .int .i64 d, .int .i64 e] 100)).alloc (.cells #[.int .i64 0, .int .i64 0, .int .i64 0, .int .i64 0, .int .i64 0] 3)) 32 32 3 3 (w.heap.size + 1) 0 5 5 ⟨w.heap.size, 1, none⟩ 5 5 [.int .i64 a, .int .i64 b, .int .i64 c, .int .i64 d, .int .i64 e] Try.underlying32 (by kernel_rfl) rfl ?_ ?_ ?_ (by simp [Value.oneCell'])]
    · simp [World.setCells, go_sem]
    · intro j u hj
      match j, hj with
      | 0, hj => simp at hj; subst hj; simp [go_sem, Addr.add]
      | 1, hj => simp at hj; subst hj; simp [go_sem, Addr.add]
      | 2, hj => simp at hj; subst hj; simp [go_sem, Addr.add]
      | 3, hj => simp at hj; subst hj; simp [go_sem, Addr.add]
      | 4, hj => simp at hj; subst hj; simp [go_sem, Addr.add]
    · intro j hj
      have hj : j = 0 ∨ j = 1 ∨ j = 2 ∨ j = 3 ∨ j = 4 := by simp at hj; omega
      rcases hj with rfl | rfl | rfl | rfl | rfl <;> simp [go_sem]
    · intro j hj
      have hj : j = 0 ∨ j = 1 ∨ j = 2 ∨ j = 3 ∨ j = 4 := by simp at hj; omega
      rcases hj with rfl | rfl | rfl | rfl | rfl <;> simp [go_sem]
  go_enter Try.func75, Try.ntmps75
  unfold ssV ssRaw
  go_wp2
  go_ret
  refine ⟨_, rfl, ⟨_, _, rfl, Nat.le_refl _, by decide, fun i h => ?_⟩, (by first | (with_reducible exact Ext.refl _) | (with_reducible assumption) | (show Below _ _ _; go_grown; done))⟩
  have hj : i = 0 ∨ i = 1 ∨ i = 2 ∨ i = 3 ∨ i = 4 := by simp at h; omega
  rcases hj with rfl | rfl | rfl | rfl | rfl
  · exact ⟨_, _, rfl, by simp [go_sem], hi _ (by simp)⟩
  · exact ⟨_, _, rfl, by simp [go_sem], hi _ (by simp)⟩
  · exact ⟨_, _, rfl, by simp [go_sem], hi _ (by simp)⟩
  · exact ⟨_, _, rfl, by simp [go_sem], hi _ (by simp)⟩
  · exact ⟨_, _, rfl, by simp [go_sem], hi _ (by simp)⟩
theorem list_any (l : List Int) (h5 : l.length ≤ 5) (hi : ∀ x ∈ l, I64 x) (w : World) :
    Calls Try.prog 75 #[ssV l] w fun r w' => ∃ v, r = .returned v ∧ IntsAt w' v l ∧ Ext w w' := by
  match l, h5, hi with
  | [], _, hi => exact list_0 hi w
  | [a], _, hi => exact list_1 a hi w
  | [a, b], _, hi => exact list_2 a b hi w
  | [a, b, c], _, hi => exact list_3 a b c hi w
  | [a, b, c, d], _, hi => exact list_4 a b c d hi w
  | [a, b, c, d, e], _, hi => exact list_5 a b c d e hi w
end Go.Proofs.Ytbodmgilcohfjaa
