/-
  WHAT Name AND Fresh OF THE REFERENCE RETURN, for any string: the same as that of ear.
-/
import Derived.Test.YtbodmgilcohfjaaRef4
namespace Go.Proofs.Ytbodmgilcohfjaa
open Go.RowKit

def nameTo (s : ByteArray) (k : Nat) : Bool := inM s.size 1 16 && (List.range k).all fun k => okByte k (byteAt s k)
theorem nameTo_step (s : ByteArray) (k : Nat) : nameTo s (k + 1) = (nameTo s k && okByte k (byteAt s k)) := by
  simp [nameTo, List.range_succ, Bool.and_assoc]

set_option maxHeartbeats 1000000 in
set_option maxRecDepth 100000 in
theorem refName_any (s : ByteArray) (w : World) (hs : s.size ≤ 9223372036854775807) :
    Calls Try.prog 20 #[.string s] w fun e w' => e = .returned (.bool (nameM s)) ∧ w = w' := by
  go_enter Try.func20, Try.ntmps20
  go_wp2_with (go_at_call 49; refine (In_any _ _ _ _).mono ?_; rintro e w' ⟨rfl, rfl⟩)
  go_loop [3, 4, 5] (fun f i _ => ∃ k : Nat, ∃ fine : Bool, k ≤ s.size ∧ f = .bool fine ∧ i = .int .i64 k ∧ nameTo s k = fine) (fun _ i _ => s.size - (intOf i).toNat)
  case atStart => exact ⟨0, _, Nat.zero_le _, rfl, rfl, by simp [nameTo]⟩
  case round =>
    obtain ⟨k, fine, hk, rfl, rfl, hd⟩ := hrel
    have Hd := Lib.hid hd; clear hd
    by_cases h1 : k < s.size
    · have k1 : (k : Int) < (s.size : Int) := by omega
      have Hst : Hid (nameTo s (k + 1) = (nameTo s k && okByte k ((s[k]'h1).toNat : Int))) := Lib.hid (by rw [nameTo_step, byteAt_eq s k h1])
      by_cases i2 : ((s[k]'h1).toNat : Int) = 46
      · have I2 := Lib.hid i2
        have i1 : inM 46 97 122 = false := by decide
        cases fine
        all_goals
          by_cases hk0 : k = 0
          · subst hk0
            go_wp2_with (go_at_call 49; refine (In_any _ _ _ _).mono ?_; rintro e w' ⟨rfl, rfl⟩)
            go_round
            case rel => exact ⟨1, _, by omega, rfl, by go_num, by rw [Hst.out, Hd.out, I2.out]; rfl⟩
            case measure => simp [intOf]; omega
          · have k0 : (0 : Int) < (k : Int) := by omega
            have K0 := Lib.hid hk0
            go_wp2_with (go_at_call 49; refine (In_any _ _ _ _).mono ?_; rintro e w' ⟨rfl, rfl⟩)
            go_round
            case rel => exact ⟨k + 1, _, by omega, rfl, by go_num, by
              rw [Hst.out, Hd.out, I2.out]
              first
                | rfl
                | (simp [okByte, K0.out]; done)⟩
            case measure => simp [intOf]; omega
      · have I2 := Lib.hid i2
        have wc : IntKind.i64.wrap ((s[k]'h1).toNat : Int) = ((s[k]'h1).toNat : Int) := IntWalk.i64_in _ (by have := (s[k]'h1).toNat_lt; omega)
        cases i1 : inM ((s[k]'h1).toNat : Int) 97 122
        all_goals
          have I1 := Lib.hid i1
          cases fine
          all_goals
            by_cases hk0 : k = 0
            · subst hk0
              go_wp2_with (go_at_call 49; refine (In_any _ _ _ _).mono ?_; rintro e w' ⟨rfl, rfl⟩)
              go_round
              case rel => exact ⟨1, _, by omega, rfl, by go_num, by rw [Hst.out, Hd.out]; first | rfl | (rw [okByte, I1.out]; rfl)⟩
              case measure => simp [intOf]; omega
            · have k0 : (0 : Int) < (k : Int) := by omega
              have K0 := Lib.hid hk0
              go_wp2_with (go_at_call 49; refine (In_any _ _ _ _).mono ?_; rintro e w' ⟨rfl, rfl⟩)
              go_round
              case rel => exact ⟨k + 1, _, by omega, rfl, by go_num, by
                rw [Hst.out, Hd.out]
                first
                  | rfl
                  | (rw [okByte, I1.out]; rfl)
                  | (rw [okByte, I1.out]; simp [K0.out]; exact Bool.or_comm _ _)⟩
              case measure => simp [intOf]; omega
    · obtain rfl : k = s.size := by omega
      go_wp2
      go_ret
      exact ⟨ret_bool Hd.out.symm, rfl⟩

def freshM (s : ByteArray) (l : List ByteArray) : Int := if nameM s = false then 6 else if (l.any fun y => y.toList == s.toList) = true then 5 else 0
theorem fresh_any (v : Value) (s : ByteArray) (l : List ByteArray) (w : World) (hs : s.size ≤ 9223372036854775807) (hl : StrsAt w v l) :
    Calls Try.prog 50 #[.string s, v] w fun r w' => r = .returned (.int .i64 (freshM s l)) ∧ w = w' := by
  obtain ⟨a, cap, rfl, hlc, hcm⟩ := hl.shape
  have hw := whereM_ge s l 0
  generalize hm : whereM s l 0 = m at *
  have HM := Lib.hid hm; clear hm
  have HW := Lib.hid hw; clear hw
  by_cases h0 : 0 ≤ m
  all_goals
    have H0 := Lib.hid h0
    cases hn : nameM s
    all_goals
      have HN := Lib.hid hn
      go_enter Try.func50, Try.ntmps50
      go_wp2_with (first | (go_at_call 86; refine (where_any _ s l _ hl).mono ?_; rintro e w' ⟨rfl, rfl⟩; rw [HM.out]) | (go_at_call 20; refine (refName_any s _ hs).mono ?_; rintro e w' ⟨rfl, rfl⟩))
      go_ret
      first
        | exact ⟨ret_int (by rw [freshM, if_pos HN.out]), rfl⟩
        | exact ⟨ret_int (by rw [freshM, if_neg (by rw [HN.out]; decide), if_pos (by rw [← HW.out]; exact decide_eq_true H0.out)]), rfl⟩
        | exact ⟨ret_int (by rw [freshM, if_neg (by rw [HN.out]; decide), if_neg (by rw [← HW.out, decide_eq_true_eq]; have := H0.out; omega)]), rfl⟩
end Go.Proofs.Ytbodmgilcohfjaa
