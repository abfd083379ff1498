/-
  WHAT EarKnown RETURNS: true.
-/
import Derived.Test.YtbodmgilcohfjaaAwake
namespace Go.Proofs.Ytbodmgilcohfjaa
open Go.RowKit
set_option linter.unusedVariables false
theorem c_count1 : (canM bookB [1]).length = 2 := by decide +kernel
theorem c_count2 : (canM bookB [2]).length = 1 := by decide +kernel
theorem c_first0 : onlyB (canM bookB [0]) (bitsM [0]) [2, 0] = true := by decide +kernel
theorem c_common : onlyB (canM bookB [0, 1]) (bitsM [0, 1]) [2, 1] = true := by decide +kernel
theorem c_spell : spellM bookB 1 [2] = ({ data := #[107] }, 0) := by kernel_rfl

set_option maxRecDepth 100000 in
set_option maxHeartbeats 20000000 in
theorem known_any (w : World) : Calls Try.prog 8 #[] w fun e w' => e = .returned (.bool true) ∧ Ext w w' := by
  obtain ⟨b, hbb⟩ : ∃ b, b = bookB := ⟨_, rfl⟩
  have hbook := fun w => book_any w
  have he := b_err
  have hl := b_len
  have f1 := c_count1
  have f2 := c_count2
  have f3 := c_first0
  have f4 := c_common
  have f5 := c_spell
  rw [← hbb] at he hl f1 f2 f3 f4 f5
  simp only [← hbb] at hbook
  clear hbb
  have F1 := Lib.hid f1
  have F2 := Lib.hid f2
  have F3 := Lib.hid f3
  have F4 := Lib.hid f4
  have F5 := Lib.hid f5
  have HE := Lib.hid he
  have HL := Lib.hid hl
  clear f1 f2 f3 f4 f5 he hl
  go_enter Try.func8, Try.ntmps8
  go_wp2_with fail
  refine (hbook _).mono ?_
  rintro e w1 ⟨v, rfl, hb, x1⟩
  clear hbook
  obtain ⟨ba, bc, bs, bd, rfl, -⟩ := hb.open
  obtain ⟨q0, q1, q2⟩ : (w1.alloc (.cells #[.int .i64 b.sounds, .slice ba b.alphabets.length bc, .slice bs b.spellings.length bd] 25)).cell? ⟨w1.heap.size, 0, none⟩ = some (.int .i64 b.sounds) ∧ (w1.alloc (.cells #[.int .i64 b.sounds, .slice ba b.alphabets.length bc, .slice bs b.spellings.length bd] 25)).cell? ⟨w1.heap.size, 1, none⟩ = some (.slice ba b.alphabets.length bc) ∧ (w1.alloc (.cells #[.int .i64 b.sounds, .slice ba b.alphabets.length bc, .slice bs b.spellings.length bd] 25)).cell? ⟨w1.heap.size, 2, none⟩ = some (.slice bs b.spellings.length bd) := ⟨by simp [go_sem], by simp [go_sem], by simp [go_sem]⟩
  go_wp2_with fail
  obtain ⟨W, hW⟩ : ∃ W, W = w1.alloc (.cells #[.int .i64 b.sounds, .slice ba b.alphabets.length bc, .slice bs b.spellings.length bd] 25) := ⟨_, rfl⟩
  replace hb := hb.ext (ext_alloc w1 (.cells #[.int .i64 b.sounds, .slice ba b.alphabets.length bc, .slice bs b.spellings.length bd] 25))
  replace x1 : Ext w W := by rw [hW]; exact x1.alloc _
  have z0 : w1.heap.size < W.heap.size := by rw [hW]; simp
  rw [← hW] at hb q0 q1 q2 ⊢
  clear hW
  refine (count_ok _ b HE.out 1 (by rw [HL.out]; decide) _ hb).mono ?_
  rintro e w2 ⟨rfl, hx⟩
  rw [F1.out]
  replace hb := hb.ext hx
  replace q0 := hx.cell q0
  replace q1 := hx.cell q1
  replace q2 := hx.cell q2
  replace z0 : w1.heap.size < w2.heap.size := cell_lt q0
  replace x1 := x1.trans hx
  clear hx
  go_wp2_with fail
  refine (count_ok _ b HE.out 2 (by rw [HL.out]; decide) _ hb).mono ?_
  rintro e w3 ⟨rfl, hx⟩
  rw [F2.out]
  replace hb := hb.ext hx
  replace q0 := hx.cell q0
  replace q1 := hx.cell q1
  replace q2 := hx.cell q2
  replace z0 : w1.heap.size < w3.heap.size := cell_lt q0
  replace x1 := x1.trans hx
  clear hx
  go_wp2_with fail
  refine (first_ok _ b HE.out 0 (by rw [HL.out]; decide) _ hb).mono ?_
  rintro e w4 ⟨k, f, u1, hF, rfl, hu1, hx⟩
  obtain ⟨rfl, rfl⟩ := hF.only F3.out
  clear hF
  obtain ⟨ua, uc, rfl, -⟩ := hu1.shape
  replace hb := hb.ext hx
  replace q0 := hx.cell q0
  replace q1 := hx.cell q1
  replace q2 := hx.cell q2
  replace z0 : w1.heap.size < w4.heap.size := cell_lt q0
  replace x1 := x1.trans hx
  clear hx
  go_wp2_with fail
  refine (common_ok _ _ b HE.out [0, 1] (by rw [HL.out]; decide) (by decide) (by decide) _ (hb.ext (ext_alloc _ _)) (IntsAt.twoAt (m := 1) (n := 0) (by simp) (by decide) (by decide))).mono ?_
  rintro e w5 ⟨k, f, u2, hF, rfl, hu2, hx'⟩
  obtain ⟨rfl, rfl⟩ := hF.only F4.out
  clear hF
  obtain ⟨va, vc, rfl, -⟩ := hu2.shape
  have hx := hx'.of_alloc
  clear hx'
  replace hu1 := hu1.ext hx
  replace hb := hb.ext hx
  replace q0 := hx.cell q0
  replace q1 := hx.cell q1
  replace q2 := hx.cell q2
  replace z0 : w1.heap.size < w5.heap.size := cell_lt q0
  replace x1 := x1.trans hx
  clear hx
  go_wp2_with fail
  refine (spell_any _ _ b 1 (by unfold I64; decide) [2] _ (hb.ext (ext_alloc _ _)) (IntsAt.oneAt (n := 2) (by simp) (by decide))).mono ?_
  rintro e w6 ⟨rfl, hx'⟩
  rw [F5.out]
  have hx := hx'.of_alloc
  clear hx'
  replace hu1 := hu1.ext hx
  replace hu2 := hu2.ext hx
  replace x1 := x1.trans hx
  clear hx hb q0 q1 q2 z0
  go_wp2_with fail
  refine (ints_any _ _ [2, 0] [2, 0] _ (hu1.ext (ext_alloc _ _)) (IntsAt.twoAt (m := 0) (n := 2) (by simp) (by decide) (by decide))).mono ?_
  rintro e w7 ⟨rfl, hx'⟩
  rw [show decide (([2, 0] : List Int) = [2, 0]) = true from rfl]
  have hx := hx'.of_alloc
  clear hx'
  replace hu2 := hu2.ext hx
  replace x1 := x1.trans hx
  clear hx hu1
  go_wp2_with fail
  refine (ints_any _ _ [2, 1] [2, 1] _ (hu2.ext (ext_alloc _ _)) (IntsAt.twoAt (m := 1) (n := 2) (by simp) (by decide) (by decide))).mono ?_
  rintro e w8 ⟨rfl, hx'⟩
  rw [show decide (([2, 1] : List Int) = [2, 1]) = true from rfl]
  have hx := hx'.of_alloc
  clear hx'
  replace x1 := x1.trans hx
  clear hx hu2
  go_wp2_with fail
  refine (awake_any _).mono ?_
  rintro e w9 ⟨rfl, hx⟩
  replace x1 := x1.trans hx
  clear hx
  go_wp2
  go_ret
  exact ⟨rfl, x1⟩
end Go.Proofs.Ytbodmgilcohfjaa
