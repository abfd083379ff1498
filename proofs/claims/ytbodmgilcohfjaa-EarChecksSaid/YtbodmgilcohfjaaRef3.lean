/-
  WHAT THE SMALL FUNCTIONS OF THE REFERENCE RETURN: whether a list has a number, ascending numbers, the bits of so many sounds.
-/
import Derived.Test.YtbodmgilcohfjaaRef2
namespace Go.Proofs.Ytbodmgilcohfjaa
open Go.RowKit

theorem mem_take_step (l : List Int) (k : Nat) (n x : Int) (h : k < l.length) (hx : l[k] = x) : decide (n ∈ l.take (k + 1)) = (decide (n ∈ l.take k) || (x == n)) := by
  rw [List.take_succ_eq_append_getElem h, hx]
  by_cases h1 : n ∈ l.take k <;> by_cases h2 : x = n
  · simp [h1, h2]
  · simp [h1]
  · simp [h1, h2]
  · simp [h1, h2, Ne.symm h2]
set_option maxHeartbeats 1000000 in
set_option maxRecDepth 100000 in
theorem has_any (v : Value) (n : Int) (l : List Int) (w : World) (hl : IntsAt w v l) :
    Calls Try.prog 78 #[v, .int .i64 n] w fun r w' => r = .returned (.bool (decide (n ∈ l))) ∧ Ext w w' := by
  obtain ⟨a, cap, rfl, hlc, hcm⟩ := hl.shape
  go_enter Try.func78, Try.ntmps78
  go_wp2
  go_loopw [5, 6] (fun m i wr => ∃ k : Nat, ∃ met : Bool, k ≤ l.length ∧ m = .bool met ∧ i = .int .i64 k ∧ Ext w wr ∧ decide (n ∈ l.take k) = met) (fun _ i _ => l.length - (intOf i).toNat)
  case atStart => exact ⟨0, false, Nat.zero_le _, rfl, rfl, Ext.refl _, by simp⟩
  case round =>
    obtain ⟨k, met, hk, rfl, rfl, hx, hd⟩ := hrel
    have Hd := Lib.hid hd; clear hd
    by_cases h1 : k < l.length
    · have k1 : (k : Int) < (l.length : Int) := by omega
      obtain ⟨_, _, he, -, -, hh⟩ := hl.ext hx
      obtain ⟨b, off, rfl, c0, -⟩ := hh k h1
      cases he
      clear hh
      generalize hx' : l[k] = x at *
      have hst := mem_take_step l k n x h1 hx'
      have Hst := Lib.hid hst
      clear hx' hst
      simp only [Nat.mul_one] at c0
      cases met
      · cases h0 : x == n
        all_goals
          have H0 := Lib.hid h0
          go_wp2
          go_roundw
          case rel => exact ⟨k + 1, _, by omega, rfl, by go_num, hx, by rw [Hst.out, Hd.out, H0.out]; rfl⟩
          case measure => simp [intOf]; omega
      · go_wp2
        go_roundw
        case rel => exact ⟨k + 1, true, by omega, rfl, by go_num, hx, by rw [Hst.out, Hd.out]; rfl⟩
        case measure => simp [intOf]; omega
    · go_wp2
      go_ret
      have := Hd.out
      rw [List.take_of_length_le (by omega)] at this
      exact ⟨ret_bool this.symm, hx⟩

def risingM (below : Int) : Int → List Int → Bool
  | _, [] => true
  | last, x :: l => decide (last < x) && decide (x < below) && risingM below x l
set_option maxHeartbeats 1000000 in
set_option maxRecDepth 100000 in
theorem rising_any (v : Value) (below : Int) (l : List Int) (w : World) (hl : IntsAt w v l) :
    Calls Try.prog 42 #[v, .int .i64 below] w fun r w' => r = .returned (.bool (risingM below (-1) l)) ∧ Ext w w' := by
  obtain ⟨a, cap, rfl, hlc, hcm⟩ := hl.shape
  go_enter Try.func42, Try.ntmps42
  go_wp2
  go_loopw [5, 6] (fun m i wr => ∃ k : Nat, ∃ last : Int, k ≤ l.length ∧ m = .int .i64 last ∧ i = .int .i64 k ∧ Ext w wr ∧ risingM below last (l.drop k) = risingM below (-1) l) (fun _ i _ => l.length - (intOf i).toNat)
  case atStart => exact ⟨0, -1, Nat.zero_le _, rfl, rfl, Ext.refl _, rfl⟩
  case round =>
    obtain ⟨k, last, hk, rfl, rfl, hx, hd⟩ := hrel
    have Hd := Lib.hid hd; clear hd
    by_cases h1 : k < l.length
    · have k1 : (k : Int) < (l.length : Int) := by omega
      obtain ⟨_, _, he, -, -, hh⟩ := hl.ext hx
      obtain ⟨b, off, rfl, c0, -⟩ := hh k h1
      cases he
      clear hh
      have hst : risingM below last (l.drop k) = (decide (last < l[k]) && decide (l[k] < below) && risingM below l[k] (l.drop (k + 1))) := by rw [List.drop_eq_getElem_cons h1, risingM]
      generalize hx' : l[k] = x at *
      have Hst := Lib.hid hst
      clear hx' hst
      simp only [Nat.mul_one] at c0
      by_cases h2 : x ≤ last
      · go_wp2
        go_ret
        exact ⟨ret_bool (by rw [← Hd.out, Hst.out, decide_eq_false (show ¬ last < x by omega)]; rfl), hx⟩
      · by_cases h3 : below ≤ x
        · go_wp2
          go_ret
          exact ⟨ret_bool (by rw [← Hd.out, Hst.out, decide_eq_false (show ¬ x < below by omega)]; simp), hx⟩
        · go_wp2
          go_roundw
          case rel => exact ⟨k + 1, x, by omega, rfl, by go_num, hx, by rw [← Hd.out, Hst.out, decide_eq_true (show last < x by omega), decide_eq_true (show x < below by omega)]; rfl⟩
          case measure => simp [intOf]; omega
    · go_wp2
      go_ret
      have := Hd.out
      rw [List.drop_eq_nil_of_le (by omega)] at this
      exact ⟨ret_bool this, hx⟩

set_option maxRecDepth 100000 in
theorem all_any (n : Nat) (h : n ≤ 4) (w : World) : Calls Try.prog 87 #[.int .i64 n] w fun r w' => r = .returned (.int .i64 (2 ^ n - 1)) ∧ w = w' := by
  go_enter Try.func87, Try.ntmps87
  go_wp2
  go_loop [3, 4] (fun m i => ∃ k : Nat, k ≤ n ∧ m = .int .i64 (2 ^ k - 1) ∧ i = .int .i64 k) (fun _ i => n - (intOf i).toNat)
  case atStart => exact ⟨0, Nat.zero_le _, rfl, rfl⟩
  case round =>
    obtain ⟨k, hk, rfl, rfl⟩ := hrel
    by_cases h1 : k < n
    · have hk4 : k = 0 ∨ k = 1 ∨ k = 2 ∨ k = 3 := by omega
      rcases hk4 with rfl | rfl | rfl | rfl
      all_goals
        have h1' : _ := Int.ofNat_lt.2 h1
        go_wp2
        go_round
        case rel => exact ⟨_, h1, rfl, rfl⟩
        case measure => simp [intOf]; omega
    · obtain rfl : k = n := by omega
      go_wp2
      go_ret
      exact ⟨rfl, rfl⟩
end Go.Proofs.Ytbodmgilcohfjaa
