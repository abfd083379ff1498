/-
  WHAT Many, Least AND Code OF THE REFERENCE RETURN.
-/
import Derived.Test.YtbodmgilcohfjaaRef9
namespace Go.Proofs.Ytbodmgilcohfjaa
open Go.RowKit

def boolR (w : World) (b o : Nat) (x : Bool) : Prop := w.cell? ⟨b, o, none⟩ = some (.bool x)
theorem boolR.keeps : Keeps boolR := fun _ _ _ _ _ hx h => hx.cell h
abbrev BoolsAt : World → Value → List Bool → Prop := SliceAt 1 boolR
theorem BoolsAt.ext {w w' : World} {v : Value} {l : List Bool} (h : BoolsAt w v l) (hx : Ext w w') : BoolsAt w' v l := SliceAt.ext boolR.keeps h hx

def manyM (l : List Bool) : Nat := l.count true
theorem manyM_step (l : List Bool) (k : Nat) (h : k < l.length) : manyM (l.take (k + 1)) = manyM (l.take k) + (if l[k] = true then 1 else 0) := by
  rw [List.take_succ_eq_append_getElem h, manyM, List.count_append, manyM]
  cases l[k] <;> simp
set_option maxRecDepth 100000 in
theorem many_any (v : Value) (l : List Bool) (w : World) (hl : BoolsAt w v l) : Calls Try.prog 58 #[v] w fun r w' => r = .returned (.int .i64 (manyM l)) ∧ w = w' := by
  obtain ⟨a, cap, rfl, hlc, hcm, hc⟩ := hl
  go_enter Try.func58, Try.ntmps58
  go_wp2
  go_loop [3, 4] (fun n i => ∃ k m : Nat, k ≤ l.length ∧ m ≤ k ∧ n = .int .i64 m ∧ i = .int .i64 k ∧ manyM (l.take k) = m) (fun _ i => l.length - (intOf i).toNat)
  case atStart => exact ⟨0, 0, Nat.zero_le _, Nat.zero_le _, rfl, rfl, rfl⟩
  case round =>
    obtain ⟨k, m, hk, hm, rfl, rfl, hd⟩ := hrel
    have Hd := Lib.hid hd; clear hd
    by_cases hlt : k < l.length
    · have k1 : (k : Int) < (l.length : Int) := by omega
      obtain ⟨b, off, rfl, c0⟩ := hc k hlt
      have hst := manyM_step l k hlt
      generalize hy : l[k] = y at *
      have Hst := Lib.hid hst
      clear hst hy hc
      unfold boolR at c0
      simp only [Nat.mul_one] at c0
      cases y
      · go_wp2
        go_round
        case rel => exact ⟨k + 1, m, by omega, by omega, rfl, by go_num, by rw [Hst.out, Hd.out]; rfl⟩
        case measure => simp [intOf]; omega
      · go_wp2
        go_round
        case rel => exact ⟨k + 1, m + 1, by omega, by omega, by go_num, by go_num, by rw [Hst.out, Hd.out]; rfl⟩
        case measure => simp [intOf]; omega
    · go_wp2
      go_ret
      have := Hd.out
      rw [List.take_of_length_le (by omega)] at this
      exact ⟨ret_int (by rw [this]), rfl⟩
set_option maxRecDepth 100000 in
theorem least_any (v : Value) (l : List Bool) (w : World) (hl : BoolsAt w v l) : Calls Try.prog 61 #[v] w fun r w' => r = .returned (.int .i64 (idxM id l)) ∧ w = w' := by
  obtain ⟨a, cap, rfl, hlc, hcm, hc⟩ := hl
  go_enter Try.func61, Try.ntmps61
  go_wp2
  go_loop [3] (fun i => ∃ k : Nat, k ≤ l.length ∧ i = .int .i64 k ∧ ∀ j (_ : j < k) (hj : j < l.length), id l[j] = false) (fun i => l.length - (intOf i).toNat)
  case atStart => exact ⟨0, Nat.zero_le _, rfl, fun _ h => by omega⟩
  case round =>
    obtain ⟨k, hk, rfl, hno⟩ := hrel
    have Hno := Lib.hid hno; clear hno
    by_cases hlt : k < l.length
    · have k1 : (k : Int) < (l.length : Int) := by omega
      obtain ⟨b, off, rfl, c0⟩ := hc k hlt
      generalize hy : l[k] = y at *
      have Hy := Lib.hid hy
      clear hy hc
      unfold boolR at c0
      simp only [Nat.mul_one] at c0
      cases y
      · go_wp2
        go_round
        case rel => exact ⟨k + 1, by omega, by go_num, fun j hj hl => by
          rcases Nat.lt_or_ge j k with hjk | hjk
          · exact Hno.out j hjk hl
          · obtain rfl : j = k := by omega
            rw [Hy.out]; rfl⟩
        case measure => simp [intOf]; omega
      · go_wp2
        go_ret
        exact ⟨ret_int (idxM_some _ _ k hlt (fun i hi hl => Hno.out i hi hl) (by rw [Hy.out]; rfl)).symm, rfl⟩
    · go_wp2
      go_ret
      exact ⟨ret_int (idxM_none _ _ fun i hi => Hno.out i (by omega) hi).symm, rfl⟩

def codeM (l : List Int) : Int := l.foldl (fun n x => n * 5 + x + 1) 0
theorem codeM_step (l : List Int) (k : Nat) (h : k < l.length) : codeM (l.take (k + 1)) = codeM (l.take k) * 5 + l[k] + 1 := by
  rw [List.take_succ_eq_append_getElem h, codeM, List.foldl_append, codeM]; rfl
set_option maxRecDepth 100000 in
theorem code_any (v : Value) (l : List Int) (w : World) (hl : IntsAt w v l) (h5 : l.length ≤ 5) (hr : withinM 0 3 l = true) : Calls Try.prog 66 #[v] w fun r w' => r = .returned (.int .i64 (codeM l)) ∧ w = w' := by
  obtain ⟨a, cap, rfl, hlc, hcm, hc⟩ := hl
  go_enter Try.func66, Try.ntmps66
  go_wp2
  go_loop [3, 4] (fun n i => ∃ k : Nat, ∃ m : Int, k ≤ l.length ∧ 0 ≤ m ∧ m < 5 ^ k ∧ n = .int .i64 m ∧ i = .int .i64 k ∧ codeM (l.take k) = m) (fun _ i => l.length - (intOf i).toNat)
  case atStart => exact ⟨0, 0, Nat.zero_le _, by omega, by decide, rfl, rfl, rfl⟩
  case round =>
    obtain ⟨k, m, hk, hm, hm2, rfl, rfl, hd⟩ := hrel
    have Hd := Lib.hid hd; clear hd
    by_cases hlt : k < l.length
    · have k1 : (k : Int) < (l.length : Int) := by omega
      obtain ⟨b, off, rfl, c0, -⟩ := hc k hlt
      have hst := codeM_step l k hlt
      have hy0 : inM l[k] 0 3 = true := by
        rw [withinM, List.all_eq_true] at hr
        exact hr _ (List.getElem_mem hlt)
      generalize hy : l[k] = y at *
      have Hst := Lib.hid hst
      have Hr := Lib.hid hr
      clear hst hy hc hr
      simp only [inM, Bool.and_eq_true, decide_eq_true_eq] at hy0
      simp only [Nat.mul_one] at c0
      have hp : (5 : Int) ^ (k + 1) = 5 ^ k * 5 := Int.pow_succ 5 k
      have hp4 : (5 : Int) ^ k ≤ 625 := by
        have : k = 0 ∨ k = 1 ∨ k = 2 ∨ k = 3 ∨ k = 4 := by omega
        rcases this with rfl | rfl | rfl | rfl | rfl <;> decide
      generalize (5 : Int) ^ k = p at *
      have Hp := Lib.hid hp; clear hp
      have w1 : IntKind.i64.wrap (m * 5) = m * 5 := IntWalk.i64_in _ (by omega)
      have w2 : IntKind.i64.wrap (m * 5 + y) = m * 5 + y := IntWalk.i64_in _ (by omega)
      have w3 : IntKind.i64.wrap (m * 5 + y + 1) = m * 5 + y + 1 := IntWalk.i64_in _ (by omega)
      go_wp2
      go_round
      case rel => exact ⟨k + 1, m * 5 + y + 1, by omega, by omega, by rw [Hp.out]; omega, by go_num, by go_num, by rw [Hst.out, Hd.out]⟩
      case measure => simp [intOf]; omega
    · go_wp2
      go_ret
      have := Hd.out
      rw [List.take_of_length_le (by omega)] at this
      exact ⟨ret_int this.symm, rfl⟩
end Go.Proofs.Ytbodmgilcohfjaa
