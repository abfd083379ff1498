/-
  THE BOOK OF THE EXAMPLES: what is so of it, by computation.
  WHAT Awake RETURNS: true.
-/
import Derived.Test.YtoifmphpeflliaaBunG
import Derived.Test.YtoifmphpeflliaaBunS
namespace Go.Proofs.Ytoifmphpeflliaa
set_option maxRecDepth 100000

/-- the one string that comes first, and that there is one -/
def onlyB (M : Tally) (n : Nat) (k0 : List Int) : Bool :=
  sharedB M n && M.all fun p => !(p.2 &&& n == n) || (M.any fun q => (q.2 &&& n == n) && decide (cmpSS q.1 p.1 < 0)) || decide (p.1 = k0)
theorem FirstIs.only {M : Tally} {n : Nat} {k k0 : List Int} {f : Bool} (h : FirstIs M (fun _ => True) n k f) (ho : onlyB M n k0 = true) : f = true ∧ k = k0 := by
  simp only [onlyB, Bool.and_eq_true] at ho
  have hf := h.shared
  rw [ho.1] at hf
  refine ⟨hf, ?_⟩
  obtain ⟨⟨i, hi, hk, hb⟩, hmin⟩ := h.yes hf
  have h2 := List.all_eq_true.1 ho.2 M[i] (List.getElem_mem hi)
  simp only [Bool.or_eq_true, Bool.not_eq_true', beq_eq_false_iff_ne, ne_eq, decide_eq_true_eq] at h2
  rcases h2 with (h2 | h2) | h2
  · exact absurd hb h2
  · exfalso
    rw [List.any_eq_true] at h2
    obtain ⟨q, hq, hq2⟩ := h2
    obtain ⟨j, hj, rfl⟩ := List.getElem_of_mem hq
    simp only [Bool.and_eq_true, beq_iff_eq, decide_eq_true_eq] at hq2
    rw [hk] at hq2
    exact hmin j hj trivial hq2.1 hq2.2
  · rw [← hk]; exact h2
theorem FirstIs.none {M : Tally} {n : Nat} {k : List Int} {f : Bool} (h : FirstIs M (fun _ => True) n k f) (ho : sharedB M n = false) : f = false ∧ k = [] := by
  have hf := h.shared
  rw [ho] at hf
  exact ⟨hf, (h.no hf).1⟩
theorem b_err : errM bookB = 0 := by decide +kernel
theorem b_count0 : (canM bookB [0]).length = 2 := by decide +kernel
theorem b_first1 : onlyB (canM bookB [1]) (bitsM [1]) [2] = true := by decide +kernel
theorem b_heard1 : heardErrM bookB.sounds [2, 1] = 0 := by decide +kernel
theorem b_heard2 : heardErrM bookB.sounds [2, 0] = 0 := by decide +kernel
theorem b_reads1 : (getT [2, 1] (canM bookB [1])).isSome = true := by decide +kernel
theorem b_reads2 : (getT [2, 0] (canM bookB [1])).isSome = false := by decide +kernel
theorem b_must : alikeV (canM bookB [2, 3]) (sharedB (canM bookB [2, 3]) (bitsM [2, 3])) = 1 := by decide +kernel
theorem b_may : alikeV (canM bookB [0, 1]) (sharedB (canM bookB [0, 1]) (bitsM [0, 1])) = 0 := by decide +kernel
theorem b_never : alikeV (canM bookB [1, 2]) (sharedB (canM bookB [1, 2]) (bitsM [1, 2])) = 2 := by decide +kernel
theorem b_common : onlyB (canM bookB [0, 2, 3]) (bitsM [0, 2, 3]) [2, 0] = true := by decide +kernel
theorem b_down : sharedB (canM bookB [1, 2]) (bitsM [1, 2]) = false := by decide +kernel
theorem b_odd : ints (oddL bookB) = [1] := by decide +kernel
theorem b_spell1 : spellM bookB 0 [2, 1] = ({ data := #[107, 101] }, 0) := by kernel_rfl
theorem b_spell2 : spellM bookB 1 [0, 0] = ({ data := #[110, 110] }, 0) := by kernel_rfl
theorem b_name1 : nameM { data := #[97, 46, 57] } = true := by kernel_rfl
theorem b_name2 : nameM { data := #[46, 97] } = false := by kernel_rfl
theorem b_len : bookB.spellings.length = 4 := rfl
end Go.Proofs.Ytoifmphpeflliaa

namespace Go.Proofs.Ytoifmphpeflliaa
open Go.RowKit
set_option linter.unusedVariables false

theorem IntsAt.threeAt {w : World} {m n o : Int} {t : TypeId} {B : Nat} (hB : w.heap.size = B) (h : I64 n ∧ I64 m ∧ I64 o) : IntsAt (w.alloc (.cells #[.int .i64 n, .int .i64 m, .int .i64 o] t)) (.slice (some ⟨B, 0, none⟩) 3 3) [n, m, o] := by
  subst hB
  obtain ⟨h1, h2, h3⟩ := h
  refine ⟨_, _, rfl, Nat.le_refl _, by omega, fun i hi => ?_⟩
  have : i = 0 ∨ i = 1 ∨ i = 2 := by simp at hi; omega
  rcases this with rfl | rfl | rfl
  · exact ⟨_, _, rfl, by simp [go_sem], h1⟩
  · exact ⟨_, _, rfl, by simp [go_sem], h2⟩
  · exact ⟨_, _, rfl, by simp [go_sem], h3⟩

set_option maxRecDepth 100000 in
set_option maxHeartbeats 20000000 in
theorem awake_any (w : World) : Calls Try.prog 13 #[] w fun e w' => e = .returned (.bool true) ∧ Ext w w' := by
  obtain ⟨b, hbb⟩ : ∃ b, b = bookB := ⟨_, rfl⟩
  have hbook := fun w => book_any w
  have he := b_err
  have hl := b_len
  have f1 := b_count0
  have f2 := b_first1
  have f3 := b_heard1
  have f4 := b_heard2
  have f5 := b_reads1
  have f6 := b_reads2
  have f7 := b_must
  have f8 := b_may
  have f9 := b_never
  have f10 := b_common
  have f11 := b_down
  have f12 := b_odd
  have f13 := b_spell1
  have f14 := b_spell2
  rw [← hbb] at he hl f1 f2 f3 f4 f5 f6 f7 f8 f9 f10 f11 f12 f13 f14
  simp only [← hbb] at hbook
  clear hbb
  have F1 := Lib.hid f1
  have F2 := Lib.hid f2
  have F3 := Lib.hid f3
  have F4 := Lib.hid f4
  have F5 := Lib.hid f5
  have F6 := Lib.hid f6
  have F7 := Lib.hid f7
  have F8 := Lib.hid f8
  have F9 := Lib.hid f9
  have F10 := Lib.hid f10
  have F11 := Lib.hid f11
  have F12 := Lib.hid f12
  have F13 := Lib.hid f13
  have F14 := Lib.hid f14
  have HE := Lib.hid he
  have HL := Lib.hid hl
  clear f1 f2 f3 f4 f5 f6 f7 f8 f9 f10 f11 f12 f13 f14 he hl
  go_enter Try.func13, Try.ntmps13
  go_wp2_with fail
  refine (hbook _).mono ?_
  rintro e w1 ⟨v, rfl, hb, x1⟩
  clear hbook
  obtain ⟨ba, bc, bs, bd, rfl, -⟩ := hb.open
  obtain ⟨q0, q1, q2⟩ : (w1.alloc (.cells #[.int .i64 b.sounds, .slice ba b.alphabets.length bc, .slice bs b.spellings.length bd] 25)).cell? ⟨w1.heap.size, 0, none⟩ = some (.int .i64 b.sounds) ∧ (w1.alloc (.cells #[.int .i64 b.sounds, .slice ba b.alphabets.length bc, .slice bs b.spellings.length bd] 25)).cell? ⟨w1.heap.size, 1, none⟩ = some (.slice ba b.alphabets.length bc) ∧ (w1.alloc (.cells #[.int .i64 b.sounds, .slice ba b.alphabets.length bc, .slice bs b.spellings.length bd] 25)).cell? ⟨w1.heap.size, 2, none⟩ = some (.slice bs b.spellings.length bd) := ⟨by simp [go_sem], by simp [go_sem], by simp [go_sem]⟩
  go_wp2_with fail
  obtain ⟨W, hW⟩ : ∃ W, W = w1.alloc (.cells #[.int .i64 b.sounds, .slice ba b.alphabets.length bc, .slice bs b.spellings.length bd] 25) := ⟨_, rfl⟩
  replace hb := hb.ext (ext_alloc w1 (.cells #[.int .i64 b.sounds, .slice ba b.alphabets.length bc, .slice bs b.spellings.length bd] 25))
  replace x1 : Ext w W := by rw [hW]; exact x1.alloc _
  have z0 : w1.heap.size < W.heap.size := by rw [hW]; simp
  rw [← hW] at hb q0 q1 q2 ⊢
  clear hW
  -- Count
  refine (count_ok _ b HE.out 0 (by rw [HL.out]; decide) _ hb).mono ?_
  rintro e w2 ⟨rfl, hx⟩
  rw [F1.out]
  replace hb := hb.ext hx
  replace q0 := hx.cell q0
  replace q1 := hx.cell q1
  replace q2 := hx.cell q2
  replace z0 : w1.heap.size < w2.heap.size := cell_lt q0
  replace x1 := x1.trans hx
  clear hx
  go_wp2_with fail
  -- First
  refine (first_ok _ b HE.out 1 (by rw [HL.out]; decide) _ hb).mono ?_
  rintro e w3 ⟨k, f, u1, hF, rfl, hu1, hx⟩
  obtain ⟨rfl, rfl⟩ := hF.only F2.out
  clear hF
  obtain ⟨ua, uc, rfl, -⟩ := hu1.shape
  replace hb := hb.ext hx
  replace q0 := hx.cell q0
  replace q1 := hx.cell q1
  replace q2 := hx.cell q2
  replace z0 : w1.heap.size < w3.heap.size := cell_lt q0
  replace x1 := x1.trans hx
  clear hx
  go_wp2_with fail
  -- Reads
  refine (reads_ok _ _ b HE.out 1 (by rw [HL.out]; decide) [2, 1] F3.out _ (hb.ext (ext_alloc _ _)) (IntsAt.twoAt (m := 1) (n := 2) (by simp) (by decide) (by decide))).mono ?_
  rintro e w4 ⟨rfl, hx'⟩
  rw [F5.out]
  have hx := hx'.of_alloc
  clear hx'
  replace hu1 := hu1.ext hx
  replace hb := hb.ext hx
  replace q0 := hx.cell q0
  replace q1 := hx.cell q1
  replace q2 := hx.cell q2
  replace z0 : w1.heap.size < w4.heap.size := cell_lt q0
  replace x1 := x1.trans hx
  clear hx
  go_wp2_with fail
  refine (reads_ok _ _ b HE.out 1 (by rw [HL.out]; decide) [2, 0] F4.out _ (hb.ext (ext_alloc _ _)) (IntsAt.twoAt (m := 0) (n := 2) (by simp) (by decide) (by decide))).mono ?_
  rintro e w5 ⟨rfl, hx'⟩
  rw [F6.out]
  have hx := hx'.of_alloc
  clear hx'
  replace hu1 := hu1.ext hx
  replace hb := hb.ext hx
  replace q0 := hx.cell q0
  replace q1 := hx.cell q1
  replace q2 := hx.cell q2
  replace z0 : w1.heap.size < w5.heap.size := cell_lt q0
  replace x1 := x1.trans hx
  clear hx
  go_wp2_with fail
  -- Alike
  refine (alike_ok _ b HE.out 2 3 (by rw [HL.out]; decide) (by rw [HL.out]; decide) (by decide) _ hb).mono ?_
  rintro e w6 ⟨k, f, hF, rfl, hx⟩
  rw [hF.shared, F7.out]
  clear hF
  replace hu1 := hu1.ext hx
  replace hb := hb.ext hx
  replace q0 := hx.cell q0
  replace q1 := hx.cell q1
  replace q2 := hx.cell q2
  replace z0 : w1.heap.size < w6.heap.size := cell_lt q0
  replace x1 := x1.trans hx
  clear hx
  go_wp2_with fail
  refine (alike_ok _ b HE.out 0 1 (by rw [HL.out]; decide) (by rw [HL.out]; decide) (by decide) _ hb).mono ?_
  rintro e w7 ⟨k, f, hF, rfl, hx⟩
  rw [hF.shared, F8.out]
  clear hF
  replace hu1 := hu1.ext hx
  replace hb := hb.ext hx
  replace q0 := hx.cell q0
  replace q1 := hx.cell q1
  replace q2 := hx.cell q2
  replace z0 : w1.heap.size < w7.heap.size := cell_lt q0
  replace x1 := x1.trans hx
  clear hx
  go_wp2_with fail
  refine (alike_ok _ b HE.out 1 2 (by rw [HL.out]; decide) (by rw [HL.out]; decide) (by decide) _ hb).mono ?_
  rintro e w8 ⟨k, f, hF, rfl, hx⟩
  rw [hF.shared, F9.out]
  clear hF
  replace hu1 := hu1.ext hx
  replace hb := hb.ext hx
  replace q0 := hx.cell q0
  replace q1 := hx.cell q1
  replace q2 := hx.cell q2
  replace z0 : w1.heap.size < w8.heap.size := cell_lt q0
  replace x1 := x1.trans hx
  clear hx
  go_wp2_with fail
  -- Common
  refine (common_ok _ _ b HE.out [0, 2, 3] (by rw [HL.out]; decide) (by decide) (by decide) _ (hb.ext (ext_alloc _ _)) (IntsAt.threeAt (m := 2) (n := 0) (o := 3) (by simp) (by unfold I64; decide))).mono ?_
  rintro e w9 ⟨k, f, u2, hF, rfl, hu2, hx'⟩
  obtain ⟨rfl, rfl⟩ := hF.only F10.out
  clear hF
  obtain ⟨va, vc, rfl, -⟩ := hu2.shape
  have hx := hx'.of_alloc
  clear hx'
  replace hu1 := hu1.ext hx
  replace hb := hb.ext hx
  replace q0 := hx.cell q0
  replace q1 := hx.cell q1
  replace q2 := hx.cell q2
  replace z0 : w1.heap.size < w9.heap.size := cell_lt q0
  replace x1 := x1.trans hx
  clear hx
  go_wp2_with fail
  refine (common_ok _ _ b HE.out [1, 2] (by rw [HL.out]; decide) (by decide) (by decide) _ (hb.ext (ext_alloc _ _)) (IntsAt.twoAt (m := 2) (n := 1) (by simp) (by decide) (by decide))).mono ?_
  rintro e w10 ⟨k, f, u3, hF, rfl, hu3, hx'⟩
  obtain ⟨rfl, rfl⟩ := hF.none F11.out
  clear hF
  obtain ⟨ca, cc, rfl, -⟩ := hu3.shape
  have hx := hx'.of_alloc
  clear hx' hu3
  replace hu1 := hu1.ext hx
  replace hu2 := hu2.ext hx
  replace hb := hb.ext hx
  replace q0 := hx.cell q0
  replace q1 := hx.cell q1
  replace q2 := hx.cell q2
  replace z0 : w1.heap.size < w10.heap.size := cell_lt q0
  replace x1 := x1.trans hx
  clear hx
  go_wp2_with fail
  -- Odd
  refine (odd_ok _ b HE.out _ hb).mono ?_
  rintro e w11 ⟨u4, rfl, hu4, hx⟩
  rw [F12.out] at hu4
  obtain ⟨oa, oc, rfl, -⟩ := hu4.shape
  replace hu1 := hu1.ext hx
  replace hu2 := hu2.ext hx
  replace hb := hb.ext hx
  replace q0 := hx.cell q0
  replace q1 := hx.cell q1
  replace q2 := hx.cell q2
  replace z0 : w1.heap.size < w11.heap.size := cell_lt q0
  replace x1 := x1.trans hx
  clear hx
  go_wp2_with fail
  -- Spell
  refine (spell_any _ _ b 0 (by unfold I64; decide) [2, 1] _ (hb.ext (ext_alloc _ _)) (IntsAt.twoAt (m := 1) (n := 2) (by simp) (by decide) (by decide))).mono ?_
  rintro e w12 ⟨rfl, hx'⟩
  rw [F13.out]
  have hx := hx'.of_alloc
  clear hx'
  replace hu1 := hu1.ext hx
  replace hu2 := hu2.ext hx
  replace hu4 := hu4.ext hx
  replace hb := hb.ext hx
  replace q0 := hx.cell q0
  replace q1 := hx.cell q1
  replace q2 := hx.cell q2
  replace z0 : w1.heap.size < w12.heap.size := cell_lt q0
  replace x1 := x1.trans hx
  clear hx
  go_wp2_with fail
  refine (spell_any _ _ b 1 (by unfold I64; decide) [0, 0] _ (hb.ext (ext_alloc _ _)) (IntsAt.twoAt (m := 0) (n := 0) (by simp) (by decide) (by decide))).mono ?_
  rintro e w13 ⟨rfl, hx'⟩
  rw [F14.out]
  have hx := hx'.of_alloc
  clear hx'
  replace hu1 := hu1.ext hx
  replace hu2 := hu2.ext hx
  replace hu4 := hu4.ext hx
  replace x1 := x1.trans hx
  clear hx hb q0 q1 q2 z0
  go_wp2_with fail
  refine (ints_any _ _ [2] [2] _ (hu1.ext (ext_alloc _ _)) (IntsAt.oneAt (n := 2) (by simp) (by decide))).mono ?_
  rintro e w14 ⟨rfl, hx'⟩
  rw [show decide (([2] : List Int) = [2]) = true from rfl]
  have hx := hx'.of_alloc
  clear hx'
  replace hu2 := hu2.ext hx
  replace hu4 := hu4.ext hx
  replace x1 := x1.trans hx
  clear hx hu1
  go_wp2_with fail
  refine (ints_any _ _ [2, 0] [2, 0] _ (hu2.ext (ext_alloc _ _)) (IntsAt.twoAt (m := 0) (n := 2) (by simp) (by decide) (by decide))).mono ?_
  rintro e w15 ⟨rfl, hx'⟩
  rw [show decide (([2, 0] : List Int) = [2, 0]) = true from rfl]
  have hx := hx'.of_alloc
  clear hx'
  replace hu4 := hu4.ext hx
  replace x1 := x1.trans hx
  clear hx hu2
  go_wp2_with fail
  refine (ints_any _ _ [1] [1] _ (hu4.ext (ext_alloc _ _)) (IntsAt.oneAt (n := 1) (by simp) (by decide))).mono ?_
  rintro e w16 ⟨rfl, hx'⟩
  rw [show decide (([1] : List Int) = [1]) = true from rfl]
  have hx := hx'.of_alloc
  clear hx'
  replace x1 := x1.trans hx
  clear hx hu4
  go_wp2_with fail
  refine (name_any _ _ (by decide)).mono ?_
  rintro e w17 ⟨rfl, hx⟩
  rw [b_name1]
  replace x1 := x1.trans hx
  clear hx
  go_wp2_with fail
  refine (name_any _ _ (by decide)).mono ?_
  rintro e w18 ⟨rfl, hx⟩
  rw [b_name2]
  replace x1 := x1.trans hx
  clear hx
  go_wp2
  go_ret
  exact ⟨rfl, x1⟩
end Go.Proofs.Ytoifmphpeflliaa
