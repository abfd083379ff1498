/-
  WHAT slices.Compare, compare, heardAs AND list RETURN: how sound strings are compared, made and handed out.
-/
import Derived.Test.YtbodmgilcohfjaaSound
namespace Go.Proofs.Ytbodmgilcohfjaa
open Go.RowKit

/-- the comparison of two lists, number by number -/
def cmpL : List Int → List Int → Int
  | [], [] => 0
  | [], _ :: _ => -1
  | _ :: _, [] => 1
  | x :: a, y :: b => if cmpM x y = 0 then cmpL a b else cmpM x y
theorem cmpL_step (l m : List Int) (k : Nat) (h1 : k < l.length) (h2 : k < m.length) : cmpL (l.drop k) (m.drop k) = if cmpM l[k] m[k] = 0 then cmpL (l.drop (k + 1)) (m.drop (k + 1)) else cmpM l[k] m[k] := by
  rw [List.drop_eq_getElem_cons h1, List.drop_eq_getElem_cons h2, cmpL]

set_option maxHeartbeats 1000000 in
theorem compareL_any (v u : Value) (l m : List Int) (w : World) (hl : IntsAt w v l) (hm : IntsAt w u m) :
    Calls Try.prog 92 #[v, u] w fun r w' => r = .returned (.int .i64 (cmpL l m)) ∧ w = w' := by
  obtain ⟨a, cap, rfl, hlc, hcm, hc⟩ := hl
  obtain ⟨a', cap', rfl, hlc', hcm', hc'⟩ := hm
  go_enter Try.func92, Try.ntmps92
  go_wp2
  go_loop [11] (fun i => ∃ k : Nat, k ≤ l.length ∧ k ≤ m.length ∧ i = .int .i64 k ∧ cmpL (l.drop k) (m.drop k) = cmpL l m) (fun i => l.length - (intOf i).toNat)
  case atStart => exact ⟨0, Nat.zero_le _, Nat.zero_le _, rfl, rfl⟩
  case round =>
    obtain ⟨k, hk, hk', rfl, hd⟩ := hrel
    have Hd := Lib.hid hd; clear hd
    by_cases h1 : k < l.length
    · obtain ⟨b, off, rfl, c1, -⟩ := hc k h1
      clear hc
      by_cases h2 : k < m.length
      · obtain ⟨b', off', rfl, c2, -⟩ := hc' k h2
        clear hc'
        have hst := cmpL_step l m k h1 h2
        generalize hx : l[k] = x at *
        generalize hy : m[k] = y at *
        have Hst := Lib.hid hst
        clear hx hy hst
        simp only [Nat.mul_one] at c1 c2
        by_cases h0 : cmpM x y = 0
        · have H0 := Lib.hid h0
          go_wp2_with (go_at_call 105; refine (cmp_any _ _ _).mono ?_; rintro e w' ⟨rfl, rfl⟩)
          clear h0
          go_round
          case rel => exact ⟨k + 1, by omega, by omega, by go_num, by rw [← Hd.out, Hst.out, if_pos H0.out]⟩
          case measure => simp [intOf]; omega
        · have h0' : (cmpM x y != 0) = true := by simpa using h0
          have H0 := Lib.hid h0
          clear h0
          go_wp2_with (go_at_call 105; refine (cmp_any _ _ _).mono ?_; rintro e w' ⟨rfl, rfl⟩)
          go_ret
          exact ⟨ret_int (by rw [← Hd.out, Hst.out, if_neg H0.out]), rfl⟩
      · clear hc'
        simp only [Nat.mul_one] at c1
        go_wp2
        go_ret
        exact ⟨ret_int (by rw [← Hd.out, List.drop_eq_getElem_cons h1, List.drop_eq_nil_of_le (show m.length ≤ k by omega)]; rfl), rfl⟩
    · clear hc hc'
      by_cases h2 : k < m.length
      · go_wp2
        go_ret
        exact ⟨ret_int (by rw [← Hd.out, List.drop_eq_nil_of_le (show l.length ≤ k by omega), List.drop_eq_getElem_cons h2]; rfl), rfl⟩
      · go_wp2
        go_ret
        exact ⟨ret_int (by rw [← Hd.out, List.drop_eq_nil_of_le (show l.length ≤ k by omega), List.drop_eq_nil_of_le (show m.length ≤ k by omega)]; rfl), rfl⟩
end Go.Proofs.Ytbodmgilcohfjaa
