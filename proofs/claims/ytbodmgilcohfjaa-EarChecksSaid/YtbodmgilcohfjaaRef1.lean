/-
  WHAT THE SMALL FUNCTIONS OF THE REFERENCE RETURN: whether a list comes before another one, whether two lists are the same, what is settled.
-/
import Derived.Test.YtbodmgilcohfjaaFacts
import Derived.Test.YtbodmgilcohfjaaName
namespace Go.Proofs.Ytbodmgilcohfjaa
open Go.RowKit

def settledM (some all : Int) : Int := if some = all then 1 else if some = 0 then 2 else 0
theorem settled_any (x y : Int) (w : World) : Calls Try.prog 70 #[.int .i64 x, .int .i64 y] w fun e w' => e = .returned (.int .i64 (settledM x y)) ∧ w = w' := by
  by_cases h : (x == y) = true
  · go_enter Try.func70, Try.ntmps70
    go_wp2
    go_ret
    exact ⟨ret_int (by rw [settledM, if_pos (by simpa using h)]), rfl⟩
  · have h' : (x == y) = false := by simpa using h
    clear h
    by_cases h2 : (x == 0) = true
    · go_enter Try.func70, Try.ntmps70
      go_wp2
      go_ret
      exact ⟨ret_int (by rw [settledM, if_neg (by simpa using h'), if_pos (by simpa using h2)]), rfl⟩
    · have h2' : (x == 0) = false := by simpa using h2
      clear h2
      go_enter Try.func70, Try.ntmps70
      go_wp2
      go_ret
      exact ⟨ret_int (by rw [settledM, if_neg (by simpa using h'), if_neg (by simpa using h2')]), rfl⟩

def lessM : List Int → List Int → Bool
  | _, [] => false
  | [], _ :: _ => true
  | x :: l, y :: m => if x = y then lessM l m else decide (x < y)
theorem lessM_step (l m : List Int) (k : Nat) (h1 : k < l.length) (h2 : k < m.length) : lessM (l.drop k) (m.drop k) = if l[k] = m[k] then lessM (l.drop (k + 1)) (m.drop (k + 1)) else decide (l[k] < m[k]) := by
  rw [List.drop_eq_getElem_cons h1, List.drop_eq_getElem_cons h2, lessM]

set_option maxHeartbeats 1000000 in
set_option maxRecDepth 100000 in
theorem less_any (v u : Value) (l m : List Int) (w : World) (hl : IntsAt w v l) (hm : IntsAt w u m) :
    Calls Try.prog 62 #[v, u] w fun r w' => r = .returned (.bool (lessM l m)) ∧ Ext w w' := by
  obtain ⟨a, cap, rfl, hlc, hcm⟩ := hl.shape
  obtain ⟨a', cap', rfl, hlc', hcm'⟩ := hm.shape
  go_enter Try.func62, Try.ntmps62
  go_wp2
  go_loopw [5] (fun i wr => ∃ k : Nat, k ≤ l.length ∧ k ≤ m.length ∧ i = .int .i64 k ∧ Ext w wr ∧ lessM (l.drop k) (m.drop k) = lessM l m) (fun i _ => l.length - (intOf i).toNat)
  case atStart => exact ⟨0, Nat.zero_le _, Nat.zero_le _, rfl, Ext.refl _, rfl⟩
  case round =>
    obtain ⟨k, hk, hk', rfl, hx, hd⟩ := hrel
    have Hd := Lib.hid hd; clear hd
    by_cases h1 : k < l.length
    · have k1 : (k : Int) < (l.length : Int) := by omega
      by_cases h2 : k < m.length
      · have k2 : (k : Int) < (m.length : Int) := by omega
        have n1 : ((k : Int) == (l.length : Int)) = false := by simp; omega
        have n2 : ((k : Int) == (m.length : Int)) = false := by simp; omega
        obtain ⟨_, _, he, -, -, hh⟩ := hl.ext hx
        obtain ⟨b, off, rfl, c0, -⟩ := hh k h1
        cases he
        clear hh
        obtain ⟨_, _, he, -, -, hh⟩ := hm.ext hx
        obtain ⟨b', off', rfl, c1, -⟩ := hh k h2
        cases he
        clear hh
        have hst := lessM_step l m k h1 h2
        generalize hx' : l[k] = x at *
        generalize hy : m[k] = y at *
        have Hst := Lib.hid hst
        clear hx' hy hst
        simp only [Nat.mul_one] at c0 c1
        by_cases h0 : x = y
        · subst h0
          have h0' : (x == x) = true := by simp
          go_wp2_with fail
          apply Facts.wp_region [.val _, .val _, .val _, .val _, .val _, .val _, .val _, .val _, .val _, .val _, .val _, .val _, .val _, .val _, .val _, .val _, .val _, .val _, .val _, .val _, .val _] (by kernel_rfl) (by kernel_rfl) trivial ?main
          case main =>
            iterate 21 (refine ⟨fun w1 hx hh => ?_, ?_⟩; focus (clear hh; have e0 := hx.cell c0; have e1 := hx.cell c1; go_simp; exact ⟨Ext.refl _, rfl⟩))
            intro w1 hx1 hh
            have hx3 := hx.trans hx1
            clear hh c0 c1
            go_simp
            go_wp2
            go_roundw
            case rel => exact ⟨k + 1, by omega, by omega, by go_num, hx3, by rw [← Hd.out, Hst.out]; simp⟩
            case measure => simp [intOf]; omega
        · have h0' : (x == y) = false := by simpa using h0
          have H0 := Lib.hid h0
          clear h0
          go_wp2_with fail
          apply Facts.wp_region [.val _, .val _, .val _, .val _, .val _, .val _, .val _, .val _, .val _, .val _, .val _, .val _, .val _, .val _, .val _, .val _, .val _, .val _, .val _, .val _, .val _] (by kernel_rfl) (by kernel_rfl) trivial ?main
          case main =>
            iterate 21 (refine ⟨fun w1 hx hh => ?_, ?_⟩; focus (clear hh; have e0 := hx.cell c0; have e1 := hx.cell c1; go_simp; exact ⟨Ext.refl _, rfl⟩))
            intro w1 hx1 hh
            have hx3 := hx.trans hx1
            have c2 := hx1.cell c0
            have c3 := hx1.cell c1
            clear hh c0 c1
            go_simp
            go_wp2_with fail
            apply Facts.wp_region [.val _, .val _, .val _, .val _, .val _, .val _, .val _, .val _, .val _, .val _, .val _, .val _, .val _, .val _, .val _, .val _] (by kernel_rfl) (by kernel_rfl) trivial ?main
            case main =>
              iterate 16 (refine ⟨fun w1 hx hh => ?_, ?_⟩; focus (clear hh; have e0 := hx.cell c2; have e1 := hx.cell c3; go_simp; exact ⟨Ext.refl _, rfl⟩))
              intro w2 hx2 hh
              have hx4 := hx3.trans hx2
              clear hh c2 c3
              go_simp
              go_wp2
              go_ret
              exact ⟨ret_bool (by rw [← Hd.out, Hst.out, if_neg H0.out]), hx4⟩
      · obtain rfl : k = m.length := by omega
        have k2 : ¬ (m.length : Int) < (m.length : Int) := by omega
        go_wp2_with fail
        apply Facts.wp_region [.val _, .val _, .val _, .val _, .val _, .val _, .val _, .val _, .val _, .val _, .val _, .val _, .val _, .val _, .val _, .val _, .val _, .val _, .val _, .val _, .val _] (by kernel_rfl) (by kernel_rfl) trivial ?main
        case main =>
          iterate 21 (refine ⟨fun w1 hx hh => ?_, ?_⟩; focus (clear hh; skip; go_simp; exact ⟨Ext.refl _, rfl⟩))
          intro w1 hx1 hh
          have hx3 := hx.trans hx1
          clear hh
          go_simp
          go_wp2
          go_ret
          exact ⟨ret_bool (by rw [← Hd.out, List.drop_eq_getElem_cons h1, List.drop_eq_nil_of_le (Nat.le_refl _)]; rfl), hx3⟩
    · obtain rfl : k = l.length := by omega
      have k1 : ¬ (l.length : Int) < (l.length : Int) := by omega
      by_cases h2 : ((l.length : Int) == (m.length : Int)) = true
      · go_wp2_with fail
        apply Facts.wp_region [.val _, .val _, .val _, .val _, .val _, .val _, .val _, .val _, .val _, .val _, .val _, .val _, .val _, .val _, .val _, .val _, .val _, .val _, .val _, .val _, .val _] (by kernel_rfl) (by kernel_rfl) trivial ?main
        case main =>
          iterate 21 (refine ⟨fun w1 hx hh => ?_, ?_⟩; focus (clear hh; skip; go_simp; exact ⟨Ext.refl _, rfl⟩))
          intro w1 hx1 hh
          have hx3 := hx.trans hx1
          clear hh
          go_simp
          go_wp2
          go_ret
          exact ⟨ret_bool (by rw [← Hd.out, List.drop_eq_nil_of_le (Nat.le_refl _), List.drop_eq_nil_of_le (by simp at h2; omega)]; rfl), hx3⟩
      · have h2' : ((l.length : Int) == (m.length : Int)) = false := by simpa using h2
        have h3 : l.length < m.length := by simp at h2; omega
        clear h2
        go_wp2_with fail
        apply Facts.wp_region [.val _, .val _, .val _, .val _, .val _, .val _, .val _, .val _, .val _, .val _, .val _, .val _, .val _, .val _, .val _, .val _, .val _, .val _, .val _, .val _, .val _] (by kernel_rfl) (by kernel_rfl) trivial ?main
        case main =>
          iterate 21 (refine ⟨fun w1 hx hh => ?_, ?_⟩; focus (clear hh; skip; go_simp; exact ⟨Ext.refl _, rfl⟩))
          intro w1 hx1 hh
          have hx3 := hx.trans hx1
          clear hh
          go_simp
          go_wp2_with fail
          apply Facts.wp_region [.val _, .val _, .val _, .val _, .val _, .val _, .val _, .val _, .val _, .val _, .val _, .val _, .val _, .val _, .val _, .val _] (by kernel_rfl) (by kernel_rfl) trivial ?main
          case main =>
            iterate 16 (refine ⟨fun w1 hx hh => ?_, ?_⟩; focus (clear hh; skip; go_simp; exact ⟨Ext.refl _, rfl⟩))
            intro w2 hx2 hh
            have hx4 := hx3.trans hx2
            clear hh
            go_simp
            go_wp2
            go_ret
            exact ⟨ret_bool (by rw [← Hd.out, List.drop_eq_nil_of_le (Nat.le_refl _), List.drop_eq_getElem_cons h3]; rfl), hx4⟩
end Go.Proofs.Ytbodmgilcohfjaa
