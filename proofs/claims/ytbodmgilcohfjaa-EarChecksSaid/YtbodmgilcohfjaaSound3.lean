/-
  WHAT compare RETURNS: shorter sound strings first, then sound by sound.
-/
import Derived.Test.YtbodmgilcohfjaaEq
namespace Go.Proofs.Ytbodmgilcohfjaa
open Go.RowKit

theorem IntsAt.five {w : World} {B o : Nat} {a b c d e : Int} (h0 : w.cell? ⟨B, o, none⟩ = some (.int .i64 a)) (h1 : w.cell? ⟨B, o + 1, none⟩ = some (.int .i64 b)) (h2 : w.cell? ⟨B, o + 2, none⟩ = some (.int .i64 c))
    (h3 : w.cell? ⟨B, o + 3, none⟩ = some (.int .i64 d)) (h4 : w.cell? ⟨B, o + 4, none⟩ = some (.int .i64 e)) (hi : I64 a ∧ I64 b ∧ I64 c ∧ I64 d ∧ I64 e) : IntsAt w (.slice (some ⟨B, o, none⟩) 5 5) [a, b, c, d, e] := by
  refine ⟨_, _, rfl, Nat.le_refl _, by omega, fun i hi5 => ⟨B, o, rfl, ?_⟩⟩
  obtain ⟨i0, i1, i2, i3, i4⟩ := hi
  have h5 : i = 0 ∨ i = 1 ∨ i = 2 ∨ i = 3 ∨ i = 4 := by simp at hi5; omega
  rcases h5 with rfl | rfl | rfl | rfl | rfl
  · exact ⟨h0, i0⟩
  · exact ⟨h1, i1⟩
  · exact ⟨h2, i2⟩
  · exact ⟨h3, i3⟩
  · exact ⟨h4, i4⟩

set_option maxRecDepth 100000 in
set_option maxHeartbeats 1000000 in
theorem compare_raw (n a b c d e n' a' b' c' d' e' : Int) (w : World) (hi : I64 a ∧ I64 b ∧ I64 c ∧ I64 d ∧ I64 e) (hi' : I64 a' ∧ I64 b' ∧ I64 c' ∧ I64 d' ∧ I64 e') :
    Calls Try.prog 90 #[ssRaw n a b c d e, ssRaw n' a' b' c' d' e'] w
      fun r w' => r = .returned (.int .i64 (if (n == n' && !(a == a' && (b == b' && (c == c' && (d == d' && e == e'))))) = true then cmpL [a, b, c, d, e] [a', b', c', d', e'] else cmpM n n')) ∧ Ext w w' := by
  unfold ssRaw
  cases hn : (n == n')
  · go_enter Try.func90, Try.ntmps90
    go_wp2_with fail
    refine (cmp_any _ _ _).mono ?_
    rintro r w' ⟨rfl, rfl⟩
    go_wp2
    go_ret
    exact ⟨rfl, (by first | (with_reducible exact Ext.refl _) | (with_reducible assumption) | (show Below _ _ _; go_grown; done))⟩
  · have hne := neq_array a b c d e a' b' c' d' e'
    cases hq : (a == a' && (b == b' && (c == c' && (d == d' && e == e'))))
    · rw [hq] at hne
      have Hq := Lib.hid hq
      clear hq
      obtain ⟨W, hW⟩ : ∃ W, W = (w.alloc (.cells #[.int .i64 n, .int .i64 a, .int .i64 b, .int .i64 c, .int .i64 d, .int .i64 e] 100)).alloc (.cells #[.int .i64 n', .int .i64 a', .int .i64 b', .int .i64 c', .int .i64 d', .int .i64 e'] 100) := ⟨_, rfl⟩
      have l1 : IntsAt W (.slice (some ⟨w.heap.size, 1, none⟩) 5 5) [a, b, c, d, e] := by
        subst hW
        exact IntsAt.five (by simp [go_sem]) (by simp [go_sem]) (by simp [go_sem]) (by simp [go_sem]) (by simp [go_sem]) hi
      have l2 : IntsAt W (.slice (some ⟨w.heap.size + 1, 1, none⟩) 5 5) [a', b', c', d', e'] := by
        subst hW
        exact IntsAt.five (by simp [go_sem]) (by simp [go_sem]) (by simp [go_sem]) (by simp [go_sem]) (by simp [go_sem]) hi'
      have HW := Lib.hid hW
      clear hW
      go_enter Try.func90, Try.ntmps90
      go_wp2_with fail
      rw [← HW.out]
      apply Facts.wp_region [.val _, .val _, .val _, .val _, .val _, .val _] (by kernel_rfl) (by kernel_rfl) trivial ?main
      case main =>
        iterate 4 (refine ⟨fun w1 hx hh => ?_, ?_⟩; focus (clear hh; skip; go_simp; exact ⟨Ext.refl _, rfl⟩))
        refine ⟨fun w1 hx hh => ?_, ?_⟩
        · clear hh
          go_simp
          refine (compareL_any _ _ [a, b, c, d, e] [a', b', c', d', e'] w1 (l1.ext hx) (l2.ext hx)).mono ?_
          rintro e w' ⟨rfl, rfl⟩
          exact ⟨_, rfl, Ext.refl _, rfl⟩
        iterate 1 (refine ⟨fun w1 hx hh => ?_, ?_⟩; focus (clear hh; skip; go_simp; exact ⟨Ext.refl _, rfl⟩))
        intro w1 hx1 hh
        have hx3 : Ext w W := by rw [HW.out]; exact (ext_alloc _ _).alloc _
        clear hh l1 l2
        go_simp
        go_wp2
        go_ret
        exact ⟨rfl, hx3.trans hx1⟩
    · rw [hq] at hne
      have Hq := Lib.hid hq
      clear hq
      go_enter Try.func90, Try.ntmps90
      go_wp2_with fail
      refine (cmp_any _ _ _).mono ?_
      rintro r w' ⟨rfl, rfl⟩
      go_wp2
      go_ret
      exact ⟨rfl, (by first | (with_reducible exact Ext.refl _) | (with_reducible assumption) | (show Below _ _ _; go_grown; done))⟩
end Go.Proofs.Ytbodmgilcohfjaa
