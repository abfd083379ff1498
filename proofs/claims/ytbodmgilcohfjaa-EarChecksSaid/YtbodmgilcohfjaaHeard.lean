/-
  WHAT compare, heardAs AND list RETURN, said of lists.
-/
import Derived.Test.YtbodmgilcohfjaaSound3
namespace Go.Proofs.Ytbodmgilcohfjaa
open Go.RowKit
set_option linter.unusedSimpArgs false

def pad (l : List Int) : List Int := [l.getD 0 0, l.getD 1 0, l.getD 2 0, l.getD 3 0, l.getD 4 0]
def cmpSS (l m : List Int) : Int := if l.length = m.length then cmpL l m else cmpM l.length m.length
theorem cmpM_self (x : Int) : cmpM x x = 0 := by rw [cmpM, if_neg (by omega), if_neg (by omega)]
theorem cmpL_self : ∀ l : List Int, cmpL l l = 0
  | [] => rfl
  | x :: l => by rw [cmpL, if_pos (cmpM_self x), cmpL_self l]
theorem cmp_pad (l m : List Int) (h : l.length = m.length) (h5 : l.length ≤ 5) : cmpL (pad l) (pad m) = cmpL l m := by
  have z : cmpM 0 0 = 0 := rfl
  match l, m, h, h5 with
  | [], [], _, _ => rfl
  | [a], [a'], _, _ => simp [pad, cmpL, z]
  | [a, b], [a', b'], _, _ => simp [pad, cmpL, z]
  | [a, b, c], [a', b', c'], _, _ => simp [pad, cmpL, z]
  | [a, b, c, d], [a', b', c', d'], _, _ => simp [pad, cmpL, z]
  | [a, b, c, d, e], [a', b', c', d', e'], _, _ => rfl
theorem getD_I64 (l : List Int) (h : ∀ x ∈ l, I64 x) (i : Nat) : I64 (l.getD i 0) := by
  rw [List.getD_eq_getElem?_getD]
  cases hi : l[i]? with
  | none => simp [I64]
  | some x => exact h x (List.mem_of_getElem? hi)
theorem compare_any (l m : List Int) (h : l.length ≤ 5) (hl : ∀ x ∈ l, I64 x) (hm : ∀ x ∈ m, I64 x) (w : World) :
    Calls Try.prog 90 #[ssV l, ssV m] w fun r w' => r = .returned (.int .i64 (cmpSS l m)) ∧ Ext w w' := by
  refine (compare_raw l.length _ _ _ _ _ m.length _ _ _ _ _ w ⟨getD_I64 l hl 0, getD_I64 l hl 1, getD_I64 l hl 2, getD_I64 l hl 3, getD_I64 l hl 4⟩ ⟨getD_I64 m hm 0, getD_I64 m hm 1, getD_I64 m hm 2, getD_I64 m hm 3, getD_I64 m hm 4⟩).mono ?_
  rintro r w' ⟨rfl, hx⟩
  refine ⟨ret_int ?_, hx⟩
  unfold cmpSS
  by_cases hn : l.length = m.length
  · rw [if_pos hn]
    have hn' : ((l.length : Int) == (m.length : Int)) = true := by rw [beq_iff_eq]; omega
    rw [hn', Bool.true_and, ← cmp_pad l m hn h]
    split
    · rfl
    · rename_i hq
      simp only [Bool.not_eq_true', Bool.not_eq_false, Bool.and_eq_true, beq_iff_eq] at hq
      obtain ⟨q0, q1, q2, q3, q4⟩ := hq
      have : pad l = pad m := by unfold pad; rw [q0, q1, q2, q3, q4]
      rw [this, cmpL_self, hn, cmpM_self]
  · rw [if_neg hn, if_neg]
    simp only [Bool.and_eq_true, beq_iff_eq]
    intro hh
    exact hn (by omega)

set_option maxRecDepth 100000 in
theorem heardAs_0 (v : Value) (w : World) (hl : IntsAt w v []) :
    Calls Try.prog 64 #[v] w fun r w' => r = .returned (ssV []) ∧ Ext w w' := by
  obtain ⟨p, cap, rfl, hlc, hcm, hc⟩ := hl
  have hcopy : (Builtin.copy_ #[32, 32] 3 #[.slice (some ⟨w.heap.size + 1, 1, none⟩) 5 5, .slice p 0 cap]).run Try.prog ((w.alloc (.cells #[.int .i64 0, .int .i64 0, .int .i64 0, .int .i64 0, .int .i64 0, .int .i64 0] 100)).alloc (.cells #[.int .i64 0, .int .i64 0, .int .i64 0, .int .i64 0, .int .i64 0, .int .i64 0] 100)) = .ok (goInt 0) ((w.alloc (.cells #[.int .i64 0, .int .i64 0, .int .i64 0, .int .i64 0, .int .i64 0, .int .i64 0] 100)).alloc (.cells #[.int .i64 0, .int .i64 0, .int .i64 0, .int .i64 0, .int .i64 0, .int .i64 0] 100)) :=
    run_copy_none _ _ _ _ 3 _ _ _ _ _ _ Try.underlying32 (by kernel_rfl) rfl
  go_enter Try.func64, Try.ntmps64
  go_wp2
  refine bodyPost_ret (v := .agg #[.int .i64 0, .int .i64 0, .int .i64 0, .int .i64 0, .int .i64 0, .int .i64 0]) (by simp [results, Try.results64, go_sem]) rfl ⟨rfl, ?_⟩
  exact (by first | (with_reducible exact Ext.refl _) | (with_reducible assumption) | (show Below _ _ _; go_grown; done))
set_option maxRecDepth 100000 in
theorem heardAs_1 (a : Int) (v : Value) (w : World) (hl : IntsAt w v [a]) :
    Calls Try.prog 64 #[v] w fun r w' => r = .returned (ssV [a]) ∧ Ext w w' := by
  obtain ⟨p, cap, rfl, hlc, hcm, hc⟩ := hl
  obtain ⟨_, _, rfl, h0, -⟩ := hc 0 (by simp)
  clear hc
  simp only [Nat.zero_mul, Nat.one_mul, Nat.reduceMul, Nat.add_zero, List.length_cons, List.length_nil, List.getElem_cons_zero, List.getElem_cons_succ] at h0 hlc ⊢
  rename_i bb off
  have hcopy : (Builtin.copy_ #[32, 32] 3 #[.slice (some ⟨w.heap.size + 1, 1, none⟩) 5 5, .slice (some ⟨bb, off, none⟩) 1 cap]).run Try.prog ((w.alloc (.cells #[.int .i64 0, .int .i64 0, .int .i64 0, .int .i64 0, .int .i64 0, .int .i64 0] 100)).alloc (.cells #[.int .i64 1, .int .i64 0, .int .i64 0, .int .i64 0, .int .i64 0, .int .i64 0] 100)) = .ok (goInt 1) ((w.alloc (.cells #[.int .i64 0, .int .i64 0, .int .i64 0, .int .i64 0, .int .i64 0, .int .i64 0] 100)).alloc (.cells #[.int .i64 1, .int .i64 a, .int .i64 0, .int .i64 0, .int .i64 0, .int .i64 0] 100)) := by
    have hlt := cell_lt h0
    rw [run_copy_cells (P := Try.prog) ((w.alloc (.cells #[.int .i64 0, .int .i64 0, .int .i64 0, .int .i64 0, .int .i64 0, .int .i64 0] 100)).alloc (.cells #[.int .i64 1, .int .i64 0, .int .i64 0, .int .i64 0, .int .i64 0, .int .i64 0] 100)) 32 32 3 3 (w.heap.size + 1) 1 5 5 ⟨bb, off, none⟩ 1 cap [.int .i64 a] Try.underlying32 (by kernel_rfl) rfl ?_ ?_ ?_ (by simp [Value.oneCell'])]
    · simp [World.setCells, go_sem]
    · intro j u hj
      have hx := (ext_alloc w (.cells #[.int .i64 0, .int .i64 0, .int .i64 0, .int .i64 0, .int .i64 0, .int .i64 0] 100)).alloc (.cells #[.int .i64 1, .int .i64 0, .int .i64 0, .int .i64 0, .int .i64 0, .int .i64 0] 100)
      match j, hj with
      | 0, hj => simp at hj; subst hj; exact hx.cell h0
    · intro j hj
      have hj : j = 0 := by simp at hj; omega
      rcases hj with rfl <;> simp [go_sem]
    · intro j hj
      have hj : j = 0 := by simp at hj; omega
      rcases hj with rfl <;> simp [go_sem]
  go_enter Try.func64, Try.ntmps64
  go_wp2
  refine bodyPost_ret (v := .agg #[.int .i64 1, .int .i64 a, .int .i64 0, .int .i64 0, .int .i64 0, .int .i64 0]) (by simp [results, Try.results64, go_sem]) rfl ⟨rfl, ?_⟩
  exact (by first | (with_reducible exact Ext.refl _) | (with_reducible assumption) | (show Below _ _ _; go_grown; done))
set_option maxRecDepth 100000 in
theorem heardAs_2 (a b : Int) (v : Value) (w : World) (hl : IntsAt w v [a, b]) :
    Calls Try.prog 64 #[v] w fun r w' => r = .returned (ssV [a, b]) ∧ Ext w w' := by
  obtain ⟨p, cap, rfl, hlc, hcm, hc⟩ := hl
  obtain ⟨_, _, rfl, h0, -⟩ := hc 0 (by simp)
  obtain ⟨_, _, e1, h1, -⟩ := hc 1 (by simp)
  cases e1
  clear hc
  simp only [Nat.zero_mul, Nat.one_mul, Nat.reduceMul, Nat.add_zero, List.length_cons, List.length_nil, List.getElem_cons_zero, List.getElem_cons_succ] at h0 h1 hlc ⊢
  rename_i bb off
  have hcopy : (Builtin.copy_ #[32, 32] 3 #[.slice (some ⟨w.heap.size + 1, 1, none⟩) 5 5, .slice (some ⟨bb, off, none⟩) 2 cap]).run Try.prog ((w.alloc (.cells #[.int .i64 0, .int .i64 0, .int .i64 0, .int .i64 0, .int .i64 0, .int .i64 0] 100)).alloc (.cells #[.int .i64 2, .int .i64 0, .int .i64 0, .int .i64 0, .int .i64 0, .int .i64 0] 100)) = .ok (goInt 2) ((w.alloc (.cells #[.int .i64 0, .int .i64 0, .int .i64 0, .int .i64 0, .int .i64 0, .int .i64 0] 100)).alloc (.cells #[.int .i64 2, .int .i64 a, .int .i64 b, .int .i64 0, .int .i64 0, .int .i64 0] 100)) := by
    have hlt := cell_lt h0
    rw [run_copy_cells (P := Try.prog) ((w.alloc (.cells #[.int .i64 0, .int .i64 0, .int .i64 0, .int .i64 0, .int .i64 0, .int .i64 0] 100)).alloc (.cells #[.int .i64 2, .int .i64 0, .int .i64 0, .int .i64 0, .int .i64 0, .int .i64 0] 100)) 32 32 3 3 (w.heap.size + 1) 1 5 5 ⟨bb, off, none⟩ 2 cap [.int .i64 a, .int .i64 b] Try.underlying32 (by kernel_rfl) rfl ?_ ?_ ?_ (by simp [Value.oneCell'])]
    · simp [World.setCells, go_sem]
    · intro j u hj
      have hx := (ext_alloc w (.cells #[.int .i64 0, .int .i64 0, .int .i64 0, .int .i64 0, .int .i64 0, .int .i64 0] 100)).alloc (.cells #[.int .i64 2, .int .i64 0, .int .i64 0, .int .i64 0, .int .i64 0, .int .i64 0] 100)
      match j, hj with
      | 0, hj => simp at hj; subst hj; exact hx.cell h0
      | 1, hj => simp at hj; subst hj; exact hx.cell h1
    · intro j hj
      have hj : j = 0 ∨ j = 1 := by simp at hj; omega
      rcases hj with rfl | rfl <;> simp [go_sem]
    · intro j hj
      have hj : j = 0 ∨ j = 1 := by simp at hj; omega
      rcases hj with rfl | rfl <;> simp [go_sem]
  go_enter Try.func64, Try.ntmps64
  go_wp2
  refine bodyPost_ret (v := .agg #[.int .i64 2, .int .i64 a, .int .i64 b, .int .i64 0, .int .i64 0, .int .i64 0]) (by simp [results, Try.results64, go_sem]) rfl ⟨rfl, ?_⟩
  exact (by first | (with_reducible exact Ext.refl _) | (with_reducible assumption) | (show Below _ _ _; go_grown; done))
set_option maxRecDepth 100000 in
theorem heardAs_3 (a b c : Int) (v : Value) (w : World) (hl : IntsAt w v [a, b, c]) :
    Calls Try.prog 64 #[v] w fun r w' => r = .returned (ssV [a, b, c]) ∧ Ext w w' := by
  obtain ⟨p, cap, rfl, hlc, hcm, hc⟩ := hl
  obtain ⟨_, _, rfl, h0, -⟩ := hc 0 (by simp)
  obtain ⟨_, _, e1, h1, -⟩ := hc 1 (by simp)
  cases e1
  obtain ⟨_, _, e2, h2, -⟩ := hc 2 (by simp)
  cases e2
  clear hc
  simp only [Nat.zero_mul, Nat.one_mul, Nat.reduceMul, Nat.add_zero, List.length_cons, List.length_nil, List.getElem_cons_zero, List.getElem_cons_succ] at h0 h1 h2 hlc ⊢
  rename_i bb off
  have hcopy : (Builtin.copy_ #[32, 32] 3 #[.slice (some ⟨w.heap.size + 1, 1, none⟩) 5 5, .slice (some ⟨bb, off, none⟩) 3 cap]).run Try.prog ((w.alloc (.cells #[.int .i64 0, .int .i64 0, .int .i64 0, .int .i64 0, .int .i64 0, .int .i64 0] 100)).alloc (.cells #[.int .i64 3, .int .i64 0, .int .i64 0, .int .i64 0, .int .i64 0, .int .i64 0] 100)) = .ok (goInt 3) ((w.alloc (.cells #[.int .i64 0, .int .i64 0, .int .i64 0, .int .i64 0, .int .i64 0, .int .i64 0] 100)).alloc (.cells #[.int .i64 3, .int .i64 a, .int .i64 b, .int .i64 c, .int .i64 0, .int .i64 0] 100)) := by
    have hlt := cell_lt h0
    rw [run_copy_cells (P := Try.prog) ((w.alloc (.cells #[.int .i64 0, .int .i64 0, .int .i64 0, .int .i64 0, .int .i64 0, .int .i64 0] 100)).alloc (.cells #[.int .i64 3, .int .i64 0, .int .i64 0, .int .i64 0, .int .i64 0, .int .i64 0] 100)) 32 32 3 3 (w.heap.size + 1) 1 5 5 ⟨bb, off, none⟩ 3 cap [.int .i64 a, .int .i64 b, .int .i64 c] Try.underlying32 (by kernel_rfl) rfl ?_ ?_ ?_ (by simp [Value.oneCell'])]
    · simp [World.setCells, go_sem]
    · intro j u hj
      have hx := (ext_alloc w (.cells #[.int .i64 0, .int .i64 0, .int .i64 0, .int .i64 0, .int .i64 0, .int .i64 0] 100)).alloc (.cells #[.int .i64 3, .int .i64 0, .int .i64 0, .int .i64 0, .int .i64 0, .int .i64 0] 100)
      match j, hj with
      | 0, hj => simp at hj; subst hj; exact hx.cell h0
      | 1, hj => simp at hj; subst hj; exact hx.cell h1
      | 2, hj => simp at hj; subst hj; exact hx.cell h2
    · intro j hj
      have hj : j = 0 ∨ j = 1 ∨ j = 2 := by simp at hj; omega
      rcases hj with rfl | rfl | rfl <;> simp [go_sem]
    · intro j hj
      have hj : j = 0 ∨ j = 1 ∨ j = 2 := by simp at hj; omega
      rcases hj with rfl | rfl | rfl <;> simp [go_sem]
  go_enter Try.func64, Try.ntmps64
  go_wp2
  refine bodyPost_ret (v := .agg #[.int .i64 3, .int .i64 a, .int .i64 b, .int .i64 c, .int .i64 0, .int .i64 0]) (by simp [results, Try.results64, go_sem]) rfl ⟨rfl, ?_⟩
  exact (by first | (with_reducible exact Ext.refl _) | (with_reducible assumption) | (show Below _ _ _; go_grown; done))
set_option maxRecDepth 100000 in
theorem heardAs_4 (a b c d : Int) (v : Value) (w : World) (hl : IntsAt w v [a, b, c, d]) :
    Calls Try.prog 64 #[v] w fun r w' => r = .returned (ssV [a, b, c, d]) ∧ Ext w w' := by
  obtain ⟨p, cap, rfl, hlc, hcm, hc⟩ := hl
  obtain ⟨_, _, rfl, h0, -⟩ := hc 0 (by simp)
  obtain ⟨_, _, e1, h1, -⟩ := hc 1 (by simp)
  cases e1
  obtain ⟨_, _, e2, h2, -⟩ := hc 2 (by simp)
  cases e2
  obtain ⟨_, _, e3, h3, -⟩ := hc 3 (by simp)
  cases e3
  clear hc
  simp only [Nat.zero_mul, Nat.one_mul, Nat.reduceMul, Nat.add_zero, List.length_cons, List.length_nil, List.getElem_cons_zero, List.getElem_cons_succ] at h0 h1 h2 h3 hlc ⊢
  rename_i bb off
  have hcopy : (Builtin.copy_ #[32, 32] 3 #[.slice (some ⟨w.heap.size + 1, 1, none⟩) 5 5, .slice (some ⟨bb, off, none⟩) 4 cap]).run Try.prog ((w.alloc (.cells #[.int .i64 0, .int .i64 0, .int .i64 0, .int .i64 0, .int .i64 0, .int .i64 0] 100)).alloc (.cells #[.int .i64 4, .int .i64 0, .int .i64 0, .int .i64 0, .int .i64 0, .int .i64 0] 100)) = .ok (goInt 4) ((w.alloc (.cells #[.int .i64 0, .int .i64 0, .int .i64 0, .int .i64 0, .int .i64 0, .int .i64 0] 100)).alloc (.cells #[.int .i64 4, .int .i64 a, .int .i64 b, .int .i64 c, .int .i64 d, .int .i64 0] 100)) := by
    have hlt := cell_lt h0
    rw [run_copy_cells (P := Try.prog) ((w.alloc (.cells #[.int .i64 0, .int .i64 0, .int .i64 0, .int .i64 0, .int .i64 0, .int .i64 0] 100)).alloc (.cells #[.int .i64 4, .int .i64 0, .int .i64 0, .int .i64 0, .int .i64 0, .int .i64 0] 100)) 32 32 3 3 (w.heap.size + 1) 1 5 5 ⟨bb, off, none⟩ 4 cap [.int .i64 a, .int .i64 b, .int .i64 c, .int .i64 d] Try.underlying32 (by kernel_rfl) rfl ?_ ?_ ?_ (by simp [Value.oneCell'])]
    · simp [World.setCells, go_sem]
    · intro j u hj
      have hx := (ext_alloc w (.cells #[.int .i64 0, .int .i64 0, .int .i64 0, .int .i64 0, .int .i64 0, .int .i64 0] 100)).alloc (.cells #[.int .i64 4, .int .i64 0, .int .i64 0, .int .i64 0, .int .i64 0, .int .i64 0] 100)
      match j, hj with
      | 0, hj => simp at hj; subst hj; exact hx.cell h0
      | 1, hj => simp at hj; subst hj; exact hx.cell h1
      | 2, hj => simp at hj; subst hj; exact hx.cell h2
      | 3, hj => simp at hj; subst hj; exact hx.cell h3
    · intro j hj
      have hj : j = 0 ∨ j = 1 ∨ j = 2 ∨ j = 3 := by simp at hj; omega
      rcases hj with rfl | rfl | rfl | rfl <;> simp [go_sem]
    · intro j hj
      have hj : j = 0 ∨ j = 1 ∨ j = 2 ∨ j = 3 := by simp at hj; omega
      rcases hj with rfl | rfl | rfl | rfl <;> simp [go_sem]
  go_enter Try.func64, Try.ntmps64
  go_wp2
  refine bodyPost_ret (v := .agg #[.int .i64 4, .int .i64 a, .int .i64 b, .int .i64 c, .int .i64 d, .int .i64 0]) (by simp [results, Try.results64, go_sem]) rfl ⟨rfl, ?_⟩
  exact (by first | (with_reducible exact Ext.refl _) | (with_reducible assumption) | (show Below _ _ _; go_grown; done))
set_option maxRecDepth 100000 in
theorem heardAs_5 (a b c d e : Int) (v : Value) (w : World) (hl : IntsAt w v [a, b, c, d, e]) :
    Calls Try.prog 64 #[v] w fun r w' => r = .returned (ssV [a, b, c, d, e]) ∧ Ext w w' := by
  obtain ⟨p, cap, rfl, hlc, hcm, hc⟩ := hl
  obtain ⟨_, _, rfl, h0, -⟩ := hc 0 (by simp)
  obtain ⟨_, _, e1, h1, -⟩ := hc 1 (by simp)
  cases e1
  obtain ⟨_, _, e2, h2, -⟩ := hc 2 (by simp)
  cases e2
  obtain ⟨_, _, e3, h3, -⟩ := hc 3 (by simp)
  cases e3
  obtain ⟨_, _, e4, h4, -⟩ := hc 4 (by simp)
  cases e4
  clear hc
  simp only [Nat.zero_mul, Nat.one_mul, Nat.reduceMul, Nat.add_zero, List.length_cons, List.length_nil, List.getElem_cons_zero, List.getElem_cons_succ] at h0 h1 h2 h3 h4 hlc ⊢
  rename_i bb off
  have hcopy : (Builtin.copy_ #[32, 32] 3 #[.slice (some ⟨w.heap.size + 1, 1, none⟩) 5 5, .slice (some ⟨bb, off, none⟩) 5 cap]).run Try.prog ((w.alloc (.cells #[.int .i64 0, .int .i64 0, .int .i64 0, .int .i64 0, .int .i64 0, .int .i64 0] 100)).alloc (.cells #[.int .i64 5, .int .i64 0, .int .i64 0, .int .i64 0, .int .i64 0, .int .i64 0] 100)) = .ok (goInt 5) ((w.alloc (.cells #[.int .i64 0, .int .i64 0, .int .i64 0, .int .i64 0, .int .i64 0, .int .i64 0] 100)).alloc (.cells #[.int .i64 5, .int .i64 a, .int .i64 b, .int .i64 c, .int .i64 d, .int .i64 e] 100)) := by
    have hlt := cell_lt h0
    rw [run_copy_cells (P := Try.prog) ((w.alloc (.cells #[.int .i64 0, .int .i64 0, .int .i64 0, .int .i64 0, .int .i64 0, .int .i64 0] 100)).alloc (.cells #[.int .i64 5, .int .i64 0, .int .i64 0, .int .i64 0, .int .i64 0, .int .i64 0] 100)) 32 32 3 3 (w.heap.size + 1) 1 5 5 ⟨bb, off, none⟩ 5 cap [.int .i64 a, .int .i64 b, .int .i64 c, .int .i64 d, .int .i64 e] Try.underlying32 (by kernel_rfl) rfl ?_ ?_ ?_ (by simp [Value.oneCell'])]
    · simp [World.setCells, go_sem]
    · intro j u hj
      have hx := (ext_alloc w (.cells #[.int .i64 0, .int .i64 0, .int .i64 0, .int .i64 0, .int .i64 0, .int .i64 0] 100)).alloc (.cells #[.int .i64 5, .int .i64 0, .int .i64 0, .int .i64 0, .int .i64 0, .int .i64 0] 100)
      match j, hj with
      | 0, hj => simp at hj; subst hj; exact hx.cell h0
      | 1, hj => simp at hj; subst hj; exact hx.cell h1
      | 2, hj => simp at hj; subst hj; exact hx.cell h2
      | 3, hj => simp at hj; subst hj; exact hx.cell h3
      | 4, hj => simp at hj; subst hj; exact hx.cell h4
    · intro j hj
      have hj : j = 0 ∨ j = 1 ∨ j = 2 ∨ j = 3 ∨ j = 4 := by simp at hj; omega
      rcases hj with rfl | rfl | rfl | rfl | rfl <;> simp [go_sem]
    · intro j hj
      have hj : j = 0 ∨ j = 1 ∨ j = 2 ∨ j = 3 ∨ j = 4 := by simp at hj; omega
      rcases hj with rfl | rfl | rfl | rfl | rfl <;> simp [go_sem]
  go_enter Try.func64, Try.ntmps64
  go_wp2
  refine bodyPost_ret (v := .agg #[.int .i64 5, .int .i64 a, .int .i64 b, .int .i64 c, .int .i64 d, .int .i64 e]) (by simp [results, Try.results64, go_sem]) rfl ⟨rfl, ?_⟩
  exact (by first | (with_reducible exact Ext.refl _) | (with_reducible assumption) | (show Below _ _ _; go_grown; done))
theorem heardAs_any (l : List Int) (h5 : l.length ≤ 5) (v : Value) (w : World) (hl : IntsAt w v l) :
    Calls Try.prog 64 #[v] w fun r w' => r = .returned (ssV l) ∧ Ext w w' := by
  match l, h5, hl with
  | [], _, hl => exact heardAs_0 v w hl
  | [a], _, hl => exact heardAs_1 a v w hl
  | [a, b], _, hl => exact heardAs_2 a b v w hl
  | [a, b, c], _, hl => exact heardAs_3 a b c v w hl
  | [a, b, c, d], _, hl => exact heardAs_4 a b c d v w hl
  | [a, b, c, d, e], _, hl => exact heardAs_5 a b c d e v w hl
end Go.Proofs.Ytbodmgilcohfjaa
