/-
  WHAT letter AND Book OF THE STATEMENTS RETURN: the book of the examples.
-/
import Derived.Test.YtbodmgilcohfjaaRef10
namespace Go.Proofs.Ytbodmgilcohfjaa
open Go.RowKit

theorem lawLetter_any (c n : Int) (s : Bool) (w : World) : Calls Try.prog 79 #[.int .u8 c, .int .i64 n, .bool s] w fun e w' => e = .returned (.agg #[.int .u8 c, .int .i64 n, .bool s]) ∧ Ext w w' := by
  go_enter Try.func79, Try.ntmps79
  go_wp2
  refine bodyPost_ret (v := .agg #[.int .u8 c, .int .i64 n, .bool s]) (by simp [results, Try.results79, go_sem]) rfl ⟨rfl, ?_⟩
  exact (by first | (with_reducible exact Ext.refl _) | (with_reducible assumption) | (show Below _ _ _; go_grown; done))

def romanL : List Letter := [⟨97, 1, false⟩, ⟨101, 3, false⟩, ⟨107, 4, false⟩, ⟨104, 0, true⟩]
def abjadL : List Letter := [⟨107, 4, false⟩, ⟨121, 2, true⟩, ⟨110, 1, false⟩]
def bookB : Book := ⟨3, [⟨{ data := #[114, 111, 109, 97, 110] }, romanL⟩, ⟨{ data := #[97, 98, 106, 97, 100] }, abjadL⟩],
  [⟨0, { data := #[107, 101] }⟩, ⟨1, { data := #[107, 121] }⟩, ⟨0, { data := #[104, 107, 97] }⟩, ⟨1, { data := #[107, 110] }⟩]⟩

theorem set3 {W : World} {B : Nat} (a b c : Value) (q : Addr) (x : Value) (hne : q.block ≠ B) (h : W.cell? q = some x) : (((W.setCell ⟨B, 0, none⟩ a).setCell ⟨B, 1, none⟩ b).setCell ⟨B, 2, none⟩ c).cell? q = some x :=
  set_other (set_other (set_other h (.inl hne.symm) a) (.inl hne.symm) b) (.inl hne.symm) c
theorem LettersAt.keep {W W9 : World} {D : Nat} (K : ∀ q x, q.block ≠ D → W.cell? q = some x → W9.cell? q = some x) {B o n c : Nat} {l : List Letter} (h : LettersAt W (.slice (some ⟨B, o, none⟩) n c) l) (hne : B ≠ D) : LettersAt W9 (.slice (some ⟨B, o, none⟩) n c) l := by
  obtain ⟨a, cap, e, h1, h2, h3⟩ := h
  cases e
  refine ⟨_, _, rfl, h1, h2, fun i hi => ?_⟩
  obtain ⟨b, off, e, c0, c1, c2, r⟩ := h3 i hi
  cases e
  exact ⟨_, _, rfl, K _ _ hne c0, K _ _ hne c1, K _ _ hne c2, r⟩
theorem romanFine : ∀ x ∈ romanL, U8 x.c ∧ I64 x.sounds := by
  intro x hx
  simp only [romanL, List.mem_cons, List.not_mem_nil, or_false] at hx
  rcases hx with rfl | rfl | rfl | rfl <;> simp [U8, I64]
theorem abjadFine : ∀ x ∈ abjadL, U8 x.c ∧ I64 x.sounds := by
  intro x hx
  simp only [abjadL, List.mem_cons, List.not_mem_nil, or_false] at hx
  rcases hx with rfl | rfl | rfl <;> simp [U8, I64]
theorem nameFine : ∀ x ∈ bookB.alphabets, x.name.size ≤ 9223372036854775807 := by
  intro x hx
  simp only [bookB, List.mem_cons, List.not_mem_nil, or_false] at hx
  rcases hx with rfl | rfl <;> decide
theorem textFine : ∀ x ∈ bookB.spellings, x.text.size ≤ 9223372036854775807 := by
  intro x hx
  simp only [bookB, List.mem_cons, List.not_mem_nil, or_false] at hx
  rcases hx with rfl | rfl | rfl | rfl <;> decide
set_option maxHeartbeats 2000000 in
set_option maxRecDepth 100000 in
theorem book_any (w : World) : Calls Try.prog 37 #[] w fun e w' => ∃ v, e = .returned v ∧ BookAt w' v bookB ∧ Ext w w' := by
  go_enter Try.func37, Try.ntmps37
  go_wp2_with fail
  refine (lawLetter_any _ _ _ _).mono ?_
  rintro e w1 ⟨rfl, hx1⟩
  go_wp2_with fail
  refine (lawLetter_any _ _ _ _).mono ?_
  rintro e w2 ⟨rfl, hx2⟩
  go_wp2_with fail
  refine (lawLetter_any _ _ _ _).mono ?_
  rintro e w3 ⟨rfl, hx3⟩
  go_wp2_with fail
  refine (lawLetter_any _ _ _ _).mono ?_
  rintro e w4 ⟨rfl, hx4⟩
  have x4 := ((hx1.trans hx2).trans hx3).trans hx4
  clear hx1 hx2 hx3 hx4
  have q0 : w4.cell? ⟨w.heap.size, 0, none⟩ = some (.int .i64 0) := x4.cell (by simp [go_sem])
  have q1 : w4.cell? ⟨w.heap.size, 1, none⟩ = some (.slice none 0 0) := x4.cell (by simp [go_sem])
  have q2 : w4.cell? ⟨w.heap.size, 2, none⟩ = some (.slice none 0 0) := x4.cell (by simp [go_sem])
  have z4 := cell_lt q0
  have fz4 : ∀ o, w4.frozen? ⟨w.heap.size, o, none⟩ = false := fun o => by rw [x4.frozen (by simp)]; simp [go_sem]
  have y4 : Ext w w4 := x4.of_alloc
  clear x4
  go_wp2_with fail
  refine (lawLetter_any _ _ _ _).mono ?_
  rintro e w5 ⟨rfl, hx5⟩
  have hr : LettersAt w5 (.slice (some ⟨w4.heap.size, 0, none⟩) 4 4) romanL := ⟨_, _, rfl, by decide, by decide, fun i hi => by
    have : i = 0 ∨ i = 1 ∨ i = 2 ∨ i = 3 := by simp [romanL] at hi; omega
    refine ⟨_, _, rfl, ?_⟩
    rcases this with rfl | rfl | rfl | rfl
    all_goals exact ⟨hx5.cell (by simp [go_sem, romanL]), hx5.cell (by simp [go_sem, romanL]), hx5.cell (by simp [go_sem, romanL]), romanFine _ (List.getElem_mem hi)⟩⟩
  have p0 : w5.cell? ⟨w4.heap.size + 1, 0, none⟩ = some (.string { data := #[114, 111, 109, 97, 110] }) := hx5.cell (by simp [go_sem])
  have p1 : w5.cell? ⟨w4.heap.size + 1, 1, none⟩ = some (.slice (some ⟨w4.heap.size, 0, none⟩) 4 4) := hx5.cell (by simp [go_sem])
  replace q0 : w5.cell? ⟨w.heap.size, 0, none⟩ = some (.int .i64 0) := hx5.cell (by simpa [go_sem, z4] using q0)
  replace q1 : w5.cell? ⟨w.heap.size, 1, none⟩ = some (.slice none 0 0) := hx5.cell (by simpa [go_sem, z4] using q1)
  replace q2 : w5.cell? ⟨w.heap.size, 2, none⟩ = some (.slice none 0 0) := hx5.cell (by simpa [go_sem, z4] using q2)
  have fz5 : ∀ o, w5.frozen? ⟨w.heap.size, o, none⟩ = false := fun o => by rw [hx5.frozen (by simp; omega)]; simpa [go_sem, z4] using fz4 o
  clear fz4
  have y5 : Ext w w5 := y4.trans hx5.of_alloc.of_alloc
  clear hx5
  go_wp2_with fail
  refine (lawLetter_any _ _ _ _).mono ?_
  rintro e w6 ⟨rfl, hx6⟩
  go_wp2_with fail
  refine (lawLetter_any _ _ _ _).mono ?_
  rintro e w7 ⟨rfl, hx7⟩
  have x7 := hx6.trans hx7
  have s0 := q0
  clear hx6 hx7
  replace p0 := x7.cell p0
  replace p1 := x7.cell p1
  replace q0 := x7.cell q0
  replace q1 := x7.cell q1
  replace q2 := x7.cell q2
  replace hr := hr.ext x7
  have y7 := y5.trans x7
  have fz7 : ∀ o, w7.frozen? ⟨w.heap.size, o, none⟩ = false := fun o => by rw [x7.frozen (p := ⟨w.heap.size, o, none⟩) (show w.heap.size < w5.heap.size from cell_lt s0)]; exact fz5 o
  have f0 := fz7 0
  have f1 := fz7 1
  have f2 := fz7 2
  clear fz5 fz7 s0
  clear y5 x7 y4
  have z5 := cell_lt p0
  have z6 := cell_lt q0
  generalize w4.heap.size + 1 = C at *
  generalize w4.heap.size = B at *
  have gz : ∀ k o1 o2 o3 o4, w7.frozen? ⟨w.heap.size, k, none⟩ = false → ((((w7.alloc o1).alloc o2).alloc o3).alloc o4).frozen? ⟨w.heap.size, k, none⟩ = false := fun k o1 o2 o3 o4 hf => by
    rw [((((ext_alloc w7 o1).alloc o2).alloc o3).alloc o4).frozen (p := ⟨w.heap.size, k, none⟩) z6]; exact hf
  have g0 := fun o1 o2 o3 o4 => gz 0 o1 o2 o3 o4 f0
  have g1 := fun o1 o2 o3 o4 => gz 1 o1 o2 o3 o4 f1
  have g2 := fun o1 o2 o3 o4 => gz 2 o1 o2 o3 o4 f2
  have h0 := fun o1 o2 o3 o4 => ((((ext_alloc w7 o1).alloc o2).alloc o3).alloc o4).cell q0
  have h1 := fun o1 o2 o3 o4 => ((((ext_alloc w7 o1).alloc o2).alloc o3).alloc o4).cell q1
  have h2 := fun o1 o2 o3 o4 => ((((ext_alloc w7 o1).alloc o2).alloc o3).alloc o4).cell q2
  clear gz f0 f1 f2
  go_wp2_with fail
  clear g0 g1 g2
  generalize hW : ((((w7.alloc (.cells #[.int .u8 107, .int .i64 4, .bool false, .int .u8 121, .int .i64 2, .bool true, .int .u8 110, .int .i64 1, .bool false] 69)).alloc (.cells #[.string { data := #[97, 98, 106, 97, 100] }, .slice (some ⟨w7.heap.size, 0, none⟩) 3 3] 67)).alloc (.cells #[.string { data := #[114, 111, 109, 97, 110] }, .slice (some ⟨B, 0, none⟩) 4 4, .string { data := #[97, 98, 106, 97, 100] }, .slice (some ⟨w7.heap.size, 0, none⟩) 3 3] 67)).alloc (.cells #[.int .i64 0, .string { data := #[107, 101] }, .int .i64 1, .string { data := #[107, 121] }, .int .i64 0, .string { data := #[104, 107, 97] }, .int .i64 1, .string { data := #[107, 110] }] 55)) = W8
  have x8 : Ext w7 W8 := by rw [← hW]; exact (((ext_alloc w7 _).alloc _).alloc _).alloc _
  have r0 := x8.cell q0
  have r1 := x8.cell q1
  have r2 := x8.cell q2
  have hne : w.heap.size ≠ w7.heap.size := by omega
  have ha : LettersAt W8 (.slice (some ⟨w7.heap.size, 0, none⟩) 3 3) abjadL := ⟨_, _, rfl, by decide, by decide, fun i hi => by
    have : i = 0 ∨ i = 1 ∨ i = 2 := by simp [abjadL] at hi; omega
    refine ⟨_, _, rfl, ?_⟩
    rcases this with rfl | rfl | rfl
    all_goals exact ⟨by rw [← hW]; simp [go_sem, abjadL], by rw [← hW]; simp [go_sem, abjadL], by rw [← hW]; simp [go_sem, abjadL], abjadFine _ (List.getElem_mem hi)⟩⟩
  have a0 : W8.cell? ⟨w7.heap.size + 2, 0, none⟩ = some (.string { data := #[114, 111, 109, 97, 110] }) := by rw [← hW]; simp [go_sem]
  have a1 : W8.cell? ⟨w7.heap.size + 2, 1, none⟩ = some (.slice (some ⟨B, 0, none⟩) 4 4) := by rw [← hW]; simp [go_sem]
  have a2 : W8.cell? ⟨w7.heap.size + 2, 2, none⟩ = some (.string { data := #[97, 98, 106, 97, 100] }) := by rw [← hW]; simp [go_sem]
  have a3 : W8.cell? ⟨w7.heap.size + 2, 3, none⟩ = some (.slice (some ⟨w7.heap.size, 0, none⟩) 3 3) := by rw [← hW]; simp [go_sem]
  have s0 : W8.cell? ⟨w7.heap.size + 3, 0, none⟩ = some (.int .i64 0) := by rw [← hW]; simp [go_sem]
  have s1 : W8.cell? ⟨w7.heap.size + 3, 1, none⟩ = some (.string { data := #[107, 101] }) := by rw [← hW]; simp [go_sem]
  have s2 : W8.cell? ⟨w7.heap.size + 3, 2, none⟩ = some (.int .i64 1) := by rw [← hW]; simp [go_sem]
  have s3 : W8.cell? ⟨w7.heap.size + 3, 3, none⟩ = some (.string { data := #[107, 121] }) := by rw [← hW]; simp [go_sem]
  have s4 : W8.cell? ⟨w7.heap.size + 3, 4, none⟩ = some (.int .i64 0) := by rw [← hW]; simp [go_sem]
  have s5 : W8.cell? ⟨w7.heap.size + 3, 5, none⟩ = some (.string { data := #[104, 107, 97] }) := by rw [← hW]; simp [go_sem]
  have s6 : W8.cell? ⟨w7.heap.size + 3, 6, none⟩ = some (.int .i64 1) := by rw [← hW]; simp [go_sem]
  have s7 : W8.cell? ⟨w7.heap.size + 3, 7, none⟩ = some (.string { data := #[107, 110] }) := by rw [← hW]; simp [go_sem]
  replace hr := hr.ext x8
  have y8 := y7.trans x8
  clear hW h0 h1 h2 q0 q1 q2 x8 y7
  have K := fun q x => set3 (W := W8) (B := w.heap.size) (.int .i64 3) (.slice (some ⟨w7.heap.size + 2, 0, none⟩) 2 2) (.slice (some ⟨w7.heap.size + 3, 0, none⟩) 4 4) q x
  have r := three_cells r0 r1 r2 (.int .i64 3) (.slice (some ⟨w7.heap.size + 2, 0, none⟩) 2 2) (.slice (some ⟨w7.heap.size + 3, 0, none⟩) 4 4)
  refine bodyPost_ret (v := .agg #[.int .i64 3, .slice (some ⟨w7.heap.size + 2, 0, none⟩) 2 2, .slice (some ⟨w7.heap.size + 3, 0, none⟩) 4 4]) (by simp [results, Try.results37, go_sem, r.1, r.2.1, r.2.2]) rfl ⟨_, rfl, ⟨_, _, rfl, by simp [bookB, I64], ⟨_, _, rfl, by decide, by decide, fun i hi => ?_⟩, ⟨_, _, rfl, by decide, by decide, fun i hi => ?_⟩⟩, ?_⟩
  · have : i = 0 ∨ i = 1 := by simp [bookB] at hi; omega
    refine ⟨_, _, rfl, ?_⟩
    rcases this with rfl | rfl
    · exact ⟨K _ _ (by simp; omega) a0, nameFine _ (List.getElem_mem hi), _, K _ _ (by simp; omega) a1, hr.keep K (by omega)⟩
    · exact ⟨K _ _ (by simp; omega) a2, nameFine _ (List.getElem_mem hi), _, K _ _ (by simp; omega) a3, ha.keep K (by omega)⟩
  · have : i = 0 ∨ i = 1 ∨ i = 2 ∨ i = 3 := by simp [bookB] at hi; omega
    refine ⟨_, _, rfl, ?_⟩
    rcases this with rfl | rfl | rfl | rfl
    · exact ⟨K _ _ (by simp; omega) s0, K _ _ (by simp; omega) s1, by simp [bookB, I64], textFine _ (List.getElem_mem hi)⟩
    · exact ⟨K _ _ (by simp; omega) s2, K _ _ (by simp; omega) s3, by simp [bookB, I64], textFine _ (List.getElem_mem hi)⟩
    · exact ⟨K _ _ (by simp; omega) s4, K _ _ (by simp; omega) s5, by simp [bookB, I64], textFine _ (List.getElem_mem hi)⟩
    · exact ⟨K _ _ (by simp; omega) s6, K _ _ (by simp; omega) s7, by simp [bookB, I64], textFine _ (List.getElem_mem hi)⟩
  · exact ((y8.setCell (by simp) _).setCell (by simp) _).setCell (by simp) _
end Go.Proofs.Ytbodmgilcohfjaa
