/-
  WHAT THE SMALL FUNCTIONS OF ear AND OF THE REFERENCE RETURN: letters, digits, numbers within bounds, comparisons. For any arguments.
-/
import Derived.Test.YtbodmgilcohfjaaBase
namespace Go.Proofs.Ytbodmgilcohfjaa
open Go.RowKit

def inM (n lo hi : Int) : Bool := decide (lo ≤ n) && decide (n ≤ hi)

theorem In_any (n lo hi : Int) (w : World) :
    Calls Try.prog 49 #[.int .i64 n, .int .i64 lo, .int .i64 hi] w fun e w' => e = .returned (.bool (inM n lo hi)) ∧ w = w' := by
  by_cases h : lo ≤ n <;> by_cases h2 : n ≤ hi
  all_goals
    go_enter Try.func49, Try.ntmps49
    go_wp2
    go_ret
    exact ⟨by simp [inM, h, h2], rfl⟩
theorem isLetter_any (c : Int) (w : World) :
    Calls Try.prog 53 #[.int .i32 c] w fun e w' => e = .returned (.bool (inM c 97 122)) ∧ w = w' := by
  by_cases h : 97 ≤ c <;> by_cases h2 : c ≤ 122
  all_goals
    go_enter Try.func53, Try.ntmps53
    go_wp2
    go_ret
    exact ⟨by simp [inM, h, h2], rfl⟩
theorem isDigit_any (c : Int) (w : World) :
    Calls Try.prog 54 #[.int .i32 c] w fun e w' => e = .returned (.bool (inM c 48 57)) ∧ w = w' := by
  by_cases h : 48 ≤ c <;> by_cases h2 : c ≤ 57
  all_goals
    go_enter Try.func54, Try.ntmps54
    go_wp2
    go_ret
    exact ⟨by simp [inM, h, h2], rfl⟩

def withinM (lo hi : Int) (l : List Int) : Bool := l.all fun n => inM n lo hi
theorem withinM_one (lo hi n : Int) : withinM lo hi [n] = inM n lo hi := by simp [withinM]
theorem withinM_two (lo hi m n : Int) : withinM lo hi [m, n] = (inM m lo hi && inM n lo hi) := by simp [withinM]
theorem withinM_step (lo hi : Int) (l : List Int) (k : Nat) (h : k < l.length) (x : Int) (hx : l[k] = x) (h0 : withinM lo hi (l.take k) = true) (h1 : lo ≤ x) (h2 : x ≤ hi) : withinM lo hi (l.take (k + 1)) = true := by
  rw [List.take_succ_eq_append_getElem h, hx]
  simp only [withinM, List.all_append, Bool.and_eq_true] at *
  exact ⟨h0, by simp [inM, h1, h2]⟩
theorem withinM_no (lo hi : Int) (l : List Int) (k : Nat) (h : k < l.length) (x : Int) (hx : l[k] = x) (h1 : x < lo ∨ hi < x) : withinM lo hi l = false := by
  rw [withinM, List.all_eq_false]
  refine ⟨x, hx ▸ List.getElem_mem h, ?_⟩
  simp [inM]; omega

theorem within_any (lo hi : Int) (v : Value) (l : List Int) (w : World) (h : IntsAt w v l) :
    Calls Try.prog 44 #[.int .i64 lo, .int .i64 hi, v] w fun e w' => e = .returned (.bool (withinM lo hi l)) ∧ w = w' := by
  obtain ⟨a, cap, rfl, hlc, hcm, hc⟩ := h
  go_enter Try.func44, Try.ntmps44
  go_wp2
  go_loop [11] (fun i => ∃ k : Nat, k ≤ l.length ∧ i = .int .i64 k ∧ withinM lo hi (l.take k) = true) (fun i => l.length - (intOf i).toNat)
  case atStart => exact ⟨0, Nat.zero_le _, rfl, by simp [withinM]⟩
  case round =>
    obtain ⟨k, hk, rfl, hw⟩ := hrel
    have Hw := Lib.hid hw; clear hw
    by_cases hlt : k < l.length
    · obtain ⟨b, off, rfl, hck, -⟩ := hc k hlt
      clear hc
      generalize hx : l[k] = x at *
      have Hx := Lib.hid hx; clear hx
      simp only [Nat.mul_one] at hck
      by_cases h1 : x < lo
      · go_wp2
        go_ret
        exact ⟨ret_bool (withinM_no lo hi l k hlt x Hx.out (.inl h1)).symm, rfl⟩
      · by_cases h2 : x ≤ hi
        · go_wp2
          go_round
          case rel => exact ⟨k + 1, by omega, by go_num, withinM_step lo hi l k hlt x Hx.out Hw.out (by omega) h2⟩
          case measure => simp [intOf]; omega
        · go_wp2
          go_ret
          exact ⟨ret_bool (withinM_no lo hi l k hlt x Hx.out (.inr (by omega))).symm, rfl⟩
    · go_wp2
      go_ret
      refine ⟨ret_bool ?_, rfl⟩
      have := Hw.out
      rwa [List.take_of_length_le (by omega), eq_comm] at this

def cmpM (x y : Int) : Int := if x < y then -1 else if y < x then 1 else 0
theorem isNaN_any (n : Int) (w : World) : Calls Try.prog 106 #[.int .i64 n] w fun e w' => e = .returned (.bool false) ∧ w = w' := by
  go_enter Try.func106, Try.ntmps106
  go_wp2
  go_ret
  exact ⟨by simp, rfl⟩
theorem cmp_any (x y : Int) (w : World) : Calls Try.prog 105 #[.int .i64 x, .int .i64 y] w fun e w' => e = .returned (.int .i64 (cmpM x y)) ∧ w = w' := by
  by_cases h : x < y
  · go_enter Try.func105, Try.ntmps105
    go_wp2_with (go_at_call 106; refine (isNaN_any _ _).mono ?_; rintro e w' ⟨rfl, rfl⟩)
    go_ret
    exact ⟨ret_int (by rw [cmpM, if_pos (by omega)]), rfl⟩
  · by_cases h2 : y < x
    · go_enter Try.func105, Try.ntmps105
      go_wp2_with (go_at_call 106; refine (isNaN_any _ _).mono ?_; rintro e w' ⟨rfl, rfl⟩)
      go_ret
      exact ⟨ret_int (by rw [cmpM, if_neg (by omega), if_pos (by omega)]), rfl⟩
    · go_enter Try.func105, Try.ntmps105
      go_wp2_with (go_at_call 106; refine (isNaN_any _ _).mono ?_; rintro e w' ⟨rfl, rfl⟩)
      go_ret
      exact ⟨ret_int (by rw [cmpM, if_neg (by omega), if_neg (by omega)]), rfl⟩
end Go.Proofs.Ytbodmgilcohfjaa
