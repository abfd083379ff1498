/-
  WHAT THE SMALL FUNCTIONS OF THE REFERENCE RETURN: whether a list comes before another one, whether two lists are the same, what is settled.
  WHAT THE SMALL FUNCTIONS OF THE REFERENCE RETURN: whether two lists are the same, whether one has fewer, whether a list has a number, ascending numbers, bits.
  WHAT THE CALLS OF Awake RETURN at the houses of the examples.
  A REGION WALKED OVER A FRAME THAT IS A VARIABLE: what its slots hold is said by facts alone. Over any program.
  WHAT Awake OF RATE'S STATEMENTS RETURNS: true.
  THE EXAMPLES: RateKnown returns true.
  A CALL THAT LETS ALL BE AS IT WAS, AND ANSWERS AS IT SHOULD, KEEPS A LAW's WORD.
  ALL RATES OF A HOUSE, day by day, as the reference finds them; plain.
  LISTS OF LISTS OF INTEGERS THAT A CALL MAKES ITSELF: a row of slices, each with numbers of its own.
-/
import Derived.Test.YtpflfincedllgaaBunAA
import Derived.Test.YtpflfincedllgaaBunAJ
import Derived.Test.YtpflfincedllgaaBunAC
import Derived.Test.YtpflfincedllgaaBunAE
import Derived.RegionTactic
import Derived.BigRegion
import Derived.ProofKit
import Derived.OpenShut
import Derived.Test.YtpflfincedllgaaBunAB
import Derived.Test.YtpflfincedllgaaBunAD
import Derived.Maps.AppendAt
import Derived.Laws.AppendOwnNone
namespace Go.Proofs.Ytpflfincedllgaa
set_option linter.unusedSimpArgs false
set_option linter.unusedVariables false
open Go.RowKit

def settledM (some all : Int) : Int := if some = all then 1 else if some = 0 then 2 else 0
theorem settled_any (x y : Int) (w : World) : Calls Try.prog 85 #[.int .i64 x, .int .i64 y] w fun e w' => e = .returned (.int .i64 (settledM x y)) ∧ w = w' := by
  by_cases h : (x == y) = true
  · go_enter Try.func85, Try.ntmps85
    go_wp2
    go_ret
    exact ⟨ret_int (by rw [settledM, if_pos (by simpa using h)]), rfl⟩
  · have h' : (x == y) = false := by simpa using h
    clear h
    by_cases h2 : (x == 0) = true
    · go_enter Try.func85, Try.ntmps85
      go_wp2
      go_ret
      exact ⟨ret_int (by rw [settledM, if_neg (by simpa using h'), if_pos (by simpa using h2)]), rfl⟩
    · have h2' : (x == 0) = false := by simpa using h2
      clear h2
      go_enter Try.func85, Try.ntmps85
      go_wp2
      go_ret
      exact ⟨ret_int (by rw [settledM, if_neg (by simpa using h'), if_neg (by simpa using h2')]), rfl⟩

def lessM : List Int → List Int → Bool
  | _, [] => false
  | [], _ :: _ => true
  | x :: l, y :: m => if x = y then lessM l m else decide (x < y)
theorem lessM_step (l m : List Int) (k : Nat) (h1 : k < l.length) (h2 : k < m.length) : lessM (l.drop k) (m.drop k) = if l[k] = m[k] then lessM (l.drop (k + 1)) (m.drop (k + 1)) else decide (l[k] < m[k]) := by
  rw [List.drop_eq_getElem_cons h1, List.drop_eq_getElem_cons h2, lessM]

set_option maxHeartbeats 1000000 in
set_option maxRecDepth 100000 in
theorem less_any (v u : Value) (l m : List Int) (w : World) (hl : IntsAt w v l) (hm : IntsAt w u m) :
    Calls Try.prog 65 #[v, u] w fun r w' => r = .returned (.bool (lessM l m)) ∧ Ext w w' := by
  obtain ⟨a, cap, rfl, hlc, hcm⟩ := hl.shape
  obtain ⟨a', cap', rfl, hlc', hcm'⟩ := hm.shape
  go_enter Try.func65, Try.ntmps65
  go_wp2
  go_loopw [5] (fun i wr => ∃ k : Nat, k ≤ l.length ∧ k ≤ m.length ∧ i = .int .i64 k ∧ Ext w wr ∧ lessM (l.drop k) (m.drop k) = lessM l m) (fun i _ => l.length - (intOf i).toNat)
  case atStart => exact ⟨0, Nat.zero_le _, Nat.zero_le _, rfl, Ext.refl _, rfl⟩
  case round =>
    obtain ⟨k, hk, hk', rfl, hx, hd⟩ := hrel
    have Hd := Lib.hid hd; clear hd
    by_cases h1 : k < l.length
    · have k1 : (k : Int) < (l.length : Int) := by omega
      by_cases h2 : k < m.length
      · have k2 : (k : Int) < (m.length : Int) := by omega
        have n1 : ((k : Int) == (l.length : Int)) = false := by simp; omega
        have n2 : ((k : Int) == (m.length : Int)) = false := by simp; omega
        obtain ⟨_, _, he, -, -, hh⟩ := hl.ext hx
        obtain ⟨b, off, rfl, c0, -⟩ := hh k h1
        cases he
        clear hh
        obtain ⟨_, _, he, -, -, hh⟩ := hm.ext hx
        obtain ⟨b', off', rfl, c1, -⟩ := hh k h2
        cases he
        clear hh
        have hst := lessM_step l m k h1 h2
        generalize hx' : l[k] = x at *
        generalize hy : m[k] = y at *
        have Hst := Lib.hid hst
        clear hx' hy hst
        simp only [Nat.mul_one] at c0 c1
        by_cases h0 : x = y
        · subst h0
          have h0' : (x == x) = true := by simp
          go_wp2_with fail
          apply Facts.wp_region [.val _, .val _, .val _, .val _, .val _, .val _, .val _, .val _, .val _, .val _, .val _, .val _, .val _, .val _, .val _, .val _, .val _, .val _, .val _, .val _, .val _] (by kernel_rfl) (by kernel_rfl) trivial ?main
          case main =>
            iterate 21 (refine ⟨fun w1 hx hh => ?_, ?_⟩; focus (clear hh; have e0 := hx.cell c0; have e1 := hx.cell c1; go_simp; exact ⟨Ext.refl _, rfl⟩))
            intro w1 hx1 hh
            have hx3 := hx.trans hx1
            clear hh c0 c1
            go_simp
            go_wp2
            go_roundw
            case rel => exact ⟨k + 1, by omega, by omega, by go_num, hx3, by rw [← Hd.out, Hst.out]; simp⟩
            case measure => simp [intOf]; omega
        · have h0' : (x == y) = false := by simpa using h0
          have H0 := Lib.hid h0
          clear h0
          go_wp2_with fail
          apply Facts.wp_region [.val _, .val _, .val _, .val _, .val _, .val _, .val _, .val _, .val _, .val _, .val _, .val _, .val _, .val _, .val _, .val _, .val _, .val _, .val _, .val _, .val _] (by kernel_rfl) (by kernel_rfl) trivial ?main
          case main =>
            iterate 21 (refine ⟨fun w1 hx hh => ?_, ?_⟩; focus (clear hh; have e0 := hx.cell c0; have e1 := hx.cell c1; go_simp; exact ⟨Ext.refl _, rfl⟩))
            intro w1 hx1 hh
            have hx3 := hx.trans hx1
            have c2 := hx1.cell c0
            have c3 := hx1.cell c1
            clear hh c0 c1
            go_simp
            go_wp2_with fail
            apply Facts.wp_region [.val _, .val _, .val _, .val _, .val _, .val _, .val _, .val _, .val _, .val _, .val _, .val _, .val _, .val _, .val _, .val _] (by kernel_rfl) (by kernel_rfl) trivial ?main
            case main =>
              iterate 16 (refine ⟨fun w1 hx hh => ?_, ?_⟩; focus (clear hh; have e0 := hx.cell c2; have e1 := hx.cell c3; go_simp; exact ⟨Ext.refl _, rfl⟩))
              intro w2 hx2 hh
              have hx4 := hx3.trans hx2
              clear hh c2 c3
              go_simp
              go_wp2
              go_ret
              exact ⟨ret_bool (by rw [← Hd.out, Hst.out, if_neg H0.out]), hx4⟩
      · obtain rfl : k = m.length := by omega
        have k2 : ¬ (m.length : Int) < (m.length : Int) := by omega
        go_wp2_with fail
        apply Facts.wp_region [.val _, .val _, .val _, .val _, .val _, .val _, .val _, .val _, .val _, .val _, .val _, .val _, .val _, .val _, .val _, .val _, .val _, .val _, .val _, .val _, .val _] (by kernel_rfl) (by kernel_rfl) trivial ?main
        case main =>
          iterate 21 (refine ⟨fun w1 hx hh => ?_, ?_⟩; focus (clear hh; skip; go_simp; exact ⟨Ext.refl _, rfl⟩))
          intro w1 hx1 hh
          have hx3 := hx.trans hx1
          clear hh
          go_simp
          go_wp2
          go_ret
          exact ⟨ret_bool (by rw [← Hd.out, List.drop_eq_getElem_cons h1, List.drop_eq_nil_of_le (Nat.le_refl _)]; rfl), hx3⟩
    · obtain rfl : k = l.length := by omega
      have k1 : ¬ (l.length : Int) < (l.length : Int) := by omega
      by_cases h2 : ((l.length : Int) == (m.length : Int)) = true
      · go_wp2_with fail
        apply Facts.wp_region [.val _, .val _, .val _, .val _, .val _, .val _, .val _, .val _, .val _, .val _, .val _, .val _, .val _, .val _, .val _, .val _, .val _, .val _, .val _, .val _, .val _] (by kernel_rfl) (by kernel_rfl) trivial ?main
        case main =>
          iterate 21 (refine ⟨fun w1 hx hh => ?_, ?_⟩; focus (clear hh; skip; go_simp; exact ⟨Ext.refl _, rfl⟩))
          intro w1 hx1 hh
          have hx3 := hx.trans hx1
          clear hh
          go_simp
          go_wp2
          go_ret
          exact ⟨ret_bool (by rw [← Hd.out, List.drop_eq_nil_of_le (Nat.le_refl _), List.drop_eq_nil_of_le (by simp at h2; omega)]; rfl), hx3⟩
      · have h2' : ((l.length : Int) == (m.length : Int)) = false := by simpa using h2
        have h3 : l.length < m.length := by simp at h2; omega
        clear h2
        go_wp2_with fail
        apply Facts.wp_region [.val _, .val _, .val _, .val _, .val _, .val _, .val _, .val _, .val _, .val _, .val _, .val _, .val _, .val _, .val _, .val _, .val _, .val _, .val _, .val _, .val _] (by kernel_rfl) (by kernel_rfl) trivial ?main
        case main =>
          iterate 21 (refine ⟨fun w1 hx hh => ?_, ?_⟩; focus (clear hh; skip; go_simp; exact ⟨Ext.refl _, rfl⟩))
          intro w1 hx1 hh
          have hx3 := hx.trans hx1
          clear hh
          go_simp
          go_wp2_with fail
          apply Facts.wp_region [.val _, .val _, .val _, .val _, .val _, .val _, .val _, .val _, .val _, .val _, .val _, .val _, .val _, .val _, .val _, .val _] (by kernel_rfl) (by kernel_rfl) trivial ?main
          case main =>
            iterate 16 (refine ⟨fun w1 hx hh => ?_, ?_⟩; focus (clear hh; skip; go_simp; exact ⟨Ext.refl _, rfl⟩))
            intro w2 hx2 hh
            have hx4 := hx3.trans hx2
            clear hh
            go_simp
            go_wp2
            go_ret
            exact ⟨ret_bool (by rw [← Hd.out, List.drop_eq_nil_of_le (Nat.le_refl _), List.drop_eq_getElem_cons h3]; rfl), hx4⟩
end Go.Proofs.Ytpflfincedllgaa

namespace Go.Proofs.Ytpflfincedllgaa
set_option linter.unusedSimpArgs false
set_option linter.unusedVariables false
open Go.RowKit

theorem lessM_self (l : List Int) : lessM l l = false := by
  induction l with
  | nil => rfl
  | cons x l ih => simp [lessM, ih]
theorem lessM_total : ∀ l m : List Int, lessM l m = false → lessM m l = false → l = m
  | [], [] => fun _ _ => rfl
  | [], _ :: _ => fun h _ => by simp [lessM] at h
  | _ :: _, [] => fun _ h => by simp [lessM] at h
  | x :: l, y :: m => fun h h' => by
    by_cases e : x = y
    · subst e
      simp only [lessM, if_true] at h h'
      rw [lessM_total l m h h']
    · simp only [lessM, e, Ne.symm e, if_false, decide_eq_false_iff_not] at h h'
      omega
set_option maxHeartbeats 1000000 in
set_option maxRecDepth 100000 in
theorem ints_any (v u : Value) (l m : List Int) (w : World) (hl : IntsAt w v l) (hm : IntsAt w u m) :
    Calls Try.prog 20 #[v, u] w fun r w' => r = .returned (.bool (decide (l = m))) ∧ Ext w w' := by
  have hsl := hl.shape
  have hsm := hm.shape
  obtain ⟨a, cap, rfl, hlc, hcm⟩ := hsl
  obtain ⟨a', cap', rfl, hlc', hcm'⟩ := hsm
  by_cases h : ((l.length : Int) == (m.length : Int)) = true
  · go_enter Try.func20, Try.ntmps20
    go_wp2_with fail
    refine (less_any _ _ l m w hl hm).mono ?_
    rintro e w1 ⟨rfl, hx1⟩
    cases h1 : lessM l m
    · have H1 := Lib.hid h1; clear h1
      go_wp2_with fail
      refine (less_any _ _ m l w1 (hm.ext hx1) (hl.ext hx1)).mono ?_
      rintro e w2 ⟨rfl, hx2⟩
      have hx3 := hx1.trans hx2
      cases h2 : lessM m l
      all_goals
        have H2 := Lib.hid h2; clear h2
        go_wp2
        go_ret
        first
          | exact ⟨ret_bool (by rw [decide_eq_true (lessM_total l m H1.out H2.out)]), hx3⟩
          | exact ⟨ret_bool (by rw [eq_comm, decide_eq_false_iff_not]; intro e; subst e; have := H2.out; rw [lessM_self] at this; cases this), hx3⟩
    · have H1 := Lib.hid h1; clear h1
      go_wp2
      go_ret
      exact ⟨ret_bool (by rw [eq_comm, decide_eq_false_iff_not]; intro e; subst e; have := H1.out; rw [lessM_self] at this; cases this), hx1⟩
  · have h' : ((l.length : Int) == (m.length : Int)) = false := by simpa using h
    have hn : ¬ l = m := fun e => by subst e; simp at h'
    have Hn := Lib.hid hn
    clear h hn
    go_enter Try.func20, Try.ntmps20
    go_wp2
    go_ret
    exact ⟨ret_bool (by rw [decide_eq_false Hn.out]), Ext.refl _⟩

def fewerM (l m : List Int) : Bool := if l.length = m.length then lessM l m else decide (l.length < m.length)
theorem fewer_any (v u : Value) (l m : List Int) (w : World) (hl : IntsAt w v l) (hm : IntsAt w u m) :
    Calls Try.prog 42 #[v, u] w fun r w' => r = .returned (.bool (fewerM l m)) ∧ Ext w w' := by
  have hsl := hl.shape
  have hsm := hm.shape
  obtain ⟨a, cap, rfl, hlc, hcm⟩ := hsl
  obtain ⟨a', cap', rfl, hlc', hcm'⟩ := hsm
  by_cases h : ((l.length : Int) != (m.length : Int)) = true
  · go_enter Try.func42, Try.ntmps42
    go_wp2
    go_ret
    exact ⟨ret_bool (by rw [fewerM, if_neg (by simp at h; omega)]), Ext.refl _⟩
  · have h' : ((l.length : Int) != (m.length : Int)) = false := by simpa using h
    go_enter Try.func42, Try.ntmps42
    go_wp2_with fail
    refine (less_any _ _ l m w hl hm).mono ?_
    rintro e w' ⟨rfl, hx2⟩
    go_wp2
    go_ret
    exact ⟨ret_bool (by rw [fewerM, if_pos (by simp at h; omega)]), hx2⟩
end Go.Proofs.Ytpflfincedllgaa

namespace Go.Proofs.Ytpflfincedllgaa
set_option linter.unusedSimpArgs false
set_option linter.unusedVariables false
open Go.RowKit
set_option linter.unusedVariables false
set_option maxRecDepth 100000

theorem HouseAt.form5 {w : World} {v : Value} {h : House} (hh : HouseAt w v h) : ∃ (a : Int) (ra : Option Addr) (n rc : Nat) (s : Int) (aa : Option Addr) (m ac : Nat) (ea : Option Addr) (k ec : Nat), v = .agg #[.int .i64 a, .slice ra n rc, .int .i64 s, .slice aa m ac, .slice ea k ec] := by
  obtain ⟨ra, rc, aa, ac, ea, ec, rfl, -⟩ := hh
  exact ⟨_, _, _, _, _, _, _, _, _, _, _, rfl⟩
theorem ret_spE {s t : Int × Int} {e f : Int} (hs : s = t) (he : e = f) : Ending.returned (.tuple #[spanV s.1 s.2, .int .i64 e]) = .returned (.tuple #[.agg #[.int .i64 t.1, .int .i64 t.2], .int .i64 f]) := by subst hs he; rfl
theorem ret_inE {s t e f : Int} (hs : s = t) (he : e = f) : Ending.returned (.tuple #[.int .i64 s, .int .i64 e]) = .returned (.tuple #[.int .i64 t, .int .i64 f]) := by subst hs he; rfl
theorem I64.lit {n : Int} (h : -1000 ≤ n ∧ n ≤ 1000) : I64 n := by unfold I64; omega
theorem IntsAt.emptyAt {w : World} {t : TypeId} {B : Nat} (hB : w.heap.size = B) : IntsAt w (.slice (some ⟨B, 0, none⟩) 0 0) [] := ⟨_, _, rfl, Nat.le_refl _, by omega, fun i hi => absurd hi (Nat.not_lt_zero _)⟩
theorem aw_first (vv : Value) (w : World) (h : HouseAt w vv (exHouse (-1))) : Calls Try.prog 18 #[vv] w fun e w' => ∃ v, e = .returned (.tuple #[v, .int .i64 5, .int .i64 0]) ∧ IntsAt w' v [12, 10] ∧ Ext w w' := by
  refine (firstPub_any vv _ w h).mono ?_
  rintro e w' ⟨v, rfl, hv, hx⟩
  rw [ex_first.2.1] at hv
  rw [ex_first.1, ex_first.2.2]
  exact ⟨v, rfl, hv, hx⟩
theorem aw_rate (vv : Value) (w : World) (h : HouseAt w vv (exHouse (-1))) : Calls Try.prog 21 #[vv, .int .i64 1] w fun e w' => e = .returned (.tuple #[.agg #[.int .i64 10, .int .i64 14], .int .i64 0]) ∧ Ext w w' := by
  refine (ratePub_any vv _ 1 (I64.lit (by decide)) w h).mono ?_
  rintro e w' ⟨rfl, hx⟩
  exact ⟨ret_spE ex_rate.2 ex_rate.1, hx⟩
theorem aw_worth (vv : Value) (w : World) (h : HouseAt w vv (exHouse (-1))) : Calls Try.prog 24 #[vv, .int .i64 0, .int .i64 1, .int .i64 21] w fun e w' => e = .returned (.tuple #[.agg #[.int .i64 20, .int .i64 28], .int .i64 0]) ∧ Ext w w' := by
  refine (worthPub_any vv _ 0 1 21 (I64.lit (by decide)) (I64.lit (by decide)) (I64.lit (by decide)) w h).mono ?_
  rintro e w' ⟨rfl, hx⟩
  exact ⟨ret_spE ex_worth.2 ex_worth.1, hx⟩
theorem aw_may (vv : Value) (w : World) (h : HouseAt w vv (exHouse (17))) : Calls Try.prog 28 #[vv, .int .i64 1] w fun e w' => e = .returned (.tuple #[.int .i64 0, .int .i64 0]) ∧ Ext w w' := by
  refine (agreePub_any vv _ 1 (I64.lit (by decide)) w h).mono ?_
  rintro e w' ⟨rfl, hx⟩
  exact ⟨ret_inE ex_may.2 ex_may.1, hx⟩
theorem aw_never (vv : Value) (w : World) (h : HouseAt w vv (exHouse (24))) : Calls Try.prog 28 #[vv, .int .i64 1] w fun e w' => e = .returned (.tuple #[.int .i64 2, .int .i64 0]) ∧ Ext w w' := by
  refine (agreePub_any vv _ 1 (I64.lit (by decide)) w h).mono ?_
  rintro e w' ⟨rfl, hx⟩
  exact ⟨ret_inE ex_never.2 ex_never.1, hx⟩
theorem aw_wrong (vv : Value) (w : World) (h : HouseAt w vv (exHouse (24))) : Calls Try.prog 30 #[vv] w fun e w' => ∃ v, e = .returned (.tuple #[v, .int .i64 0]) ∧ IntsAt w' v [0] ∧ Ext w w' := by
  refine (wrong_any vv _ w h).mono ?_
  rintro e w' ⟨v, rfl, hv, hx⟩
  rw [ex_wrong.2] at hv
  rw [ex_wrong.1]
  exact ⟨v, rfl, hv, hx⟩
theorem aw_none (vv : Value) (w : World) (h : HouseAt w vv (exHouse (17))) : Calls Try.prog 30 #[vv] w fun e w' => ∃ v, e = .returned (.tuple #[v, .int .i64 0]) ∧ IntsAt w' v [] ∧ Ext w w' := by
  refine (wrong_any vv _ w h).mono ?_
  rintro e w' ⟨v, rfl, hv, hx⟩
  rw [ex_none.2] at hv
  rw [ex_none.1]
  exact ⟨v, rfl, hv, hx⟩
theorem aw_paid (vv : Value) (w : World) (h : HouseAt w vv (exHouse (-1))) : Calls Try.prog 26 #[vv, .int .i64 1] w fun e w' => e = .returned (.tuple #[.agg #[.int .i64 15, .int .i64 21], .int .i64 0]) ∧ Ext w w' := by
  refine (paidPub_any vv _ 1 (I64.lit (by decide)) w h).mono ?_
  rintro e w' ⟨rfl, hx⟩
  exact ⟨ret_spE ex_paid.2 ex_paid.1, hx⟩
theorem aw_send (vv : Value) (w : World) (h : HouseAt w vv (exHouse (-1))) : Calls Try.prog 32 #[vv, .int .i64 0, .int .i64 30] w fun e w' => e = .returned (.tuple #[.int .i64 0, .int .i64 26, .int .i64 0]) ∧ Ext w w' := by
  refine (sendPub_any vv _ 0 30 (I64.lit (by decide)) (I64.lit (by decide)) w h).mono ?_
  rintro e w' ⟨sa, sn, se, rfl, hs, hx⟩
  obtain ⟨rfl, rfl, rfl⟩ := ex_send hs
  exact ⟨rfl, hx⟩
theorem aw_zero (vv : Value) (w : World) (h : HouseAt w vv (exHouse 24)) : Calls Try.prog 21 #[vv, .int .i64 0] w fun e w' => ∃ x y : Int, e = .returned (.tuple #[.agg #[.int .i64 x, .int .i64 y], .int .i64 8]) ∧ Ext w w' := by
  refine (ratePub_any vv _ 0 (I64.lit (by decide)) w h).mono ?_
  rintro e w' ⟨rfl, hx⟩
  exact ⟨_, _, ret_spE rfl ex_zero, hx⟩
theorem aw_arg (vv : Value) (w : World) (h : HouseAt w vv (exHouse (-1))) : Calls Try.prog 28 #[vv, .int .i64 1] w fun e w' => ∃ x : Int, e = .returned (.tuple #[.int .i64 x, .int .i64 2]) ∧ Ext w w' := by
  refine (agreePub_any vv _ 1 (I64.lit (by decide)) w h).mono ?_
  rintro e w' ⟨rfl, hx⟩
  exact ⟨_, ret_inE rfl ex_arg, hx⟩
end Go.Proofs.Ytpflfincedllgaa

namespace Go.Proofs.Ytpflfincedllgaa
set_option linter.unusedSimpArgs false
set_option linter.unusedVariables false
open Go.RowKit
namespace Facts
theorem wp_frame {P : Program} {c : Code} {Q : Exit → Act → World → Prop} {a : Act} {w : World} (h : ∀ A : Act, A = a → Code.wp P c Q A w) : Code.wp P c Q a w := h a rfl
theorem eval_put_same (a : Act) (t : Nat) (v : Value) (h : t < a.tmps.size) : (a.put (some t) v).eval (.tmp t) = v := by
  simp only [Act.put, Act.eval]
  rw [Array.getD_eq_getD_getElem?, Array.getElem?_setIfInBounds_self, if_pos h]; rfl
theorem eval_put_other (a : Act) (d t : Nat) (v : Value) (h : d ≠ t) : (a.put (some d) v).eval (.tmp t) = a.eval (.tmp t) := by
  simp only [Act.put, Act.eval]
  rw [Array.getD_eq_getD_getElem?, Array.getD_eq_getD_getElem?, Array.getElem?_setIfInBounds_ne h]
theorem eval_put_none (a : Act) (v : Value) (o : Operand) : (a.put none v).eval o = a.eval o := rfl
theorem eval_const (a : Act) (v : Value) : a.eval (.const v) = v := rfl
theorem eval_func (a : Act) (f : FuncId) : a.eval (.func f) = .func (.func f) #[] #[] := rfl
theorem size_put (a : Act) (d : Option Tmp) (v : Value) : (a.put d v).tmps.size = a.tmps.size := put_size a d v
end Facts
end Go.Proofs.Ytpflfincedllgaa

namespace Go.Proofs.Ytpflfincedllgaa
set_option linter.unusedSimpArgs false
set_option linter.unusedVariables false
open Go.RowKit
set_option linter.unusedVariables false
set_option maxRecDepth 100000

set_option maxHeartbeats 20000000 in
theorem awakeR_any (w : World) : Calls Try.prog 23 #[] w fun e w' => e = .returned (.bool true) ∧ Ext w w' := by
  have hsp := eqlE_span
  go_enter Try.func23, Try.ntmps23
  go_wp2_with fail
  refine (lawHouse_any (-1) (by decide) _).mono ?_
  rintro e w1 ⟨vh, rfl, hH, hx1⟩
  go_wp2_with fail
  refine (lawHouse_any 17 (by decide) _).mono ?_
  rintro e w2 ⟨vj, rfl, hJ, hx2⟩
  go_wp2_with fail
  refine (lawHouse_any 24 (by decide) _).mono ?_
  rintro e w3 ⟨vv, rfl, hV, hx3⟩
  replace hJ := hJ.ext hx3
  replace hH := hH.ext (hx2.trans hx3)
  have x1 : Ext w w3 := (hx1.trans hx2).trans hx3
  clear hx1 hx2 hx3
  obtain ⟨a1, ra1, n1, rc1, s1, aa1, m1, ac1, ea1, k1, ec1, rfl⟩ := hH.form5
  obtain ⟨a2, ra2, n2, rc2, s2, aa2, m2, ac2, ea2, k2, ec2, rfl⟩ := hJ.form5
  obtain ⟨a3, ra3, n3, rc3, s3, aa3, m3, ac3, ea3, k3, ec3, rfl⟩ := hV.form5
  go_wp2_with fail
  obtain ⟨W, hW⟩ : ∃ W, W = (((w3.alloc (.cells #[.int .i64 a1, .slice ra1 n1 rc1, .int .i64 s1, .slice aa1 m1 ac1, .slice ea1 k1 ec1] 26)).alloc (.cells #[.int .i64 a2, .slice ra2 n2 rc2, .int .i64 s2, .slice aa2 m2 ac2, .slice ea2 k2 ec2] 26)).alloc (.cells #[.int .i64 a3, .slice ra3 n3 rc3, .int .i64 s3, .slice aa3 m3 ac3, .slice ea3 k3 ec3] 26)) := ⟨_, rfl⟩
  have xW : Ext w3 W := by rw [hW]; exact ((ext_alloc _ _).alloc _).alloc _
  have p0 : W.cell? ⟨w3.heap.size, 0, none⟩ = some (.int .i64 a1) := by rw [hW]; simp [go_sem]
  have p1 : W.cell? ⟨w3.heap.size, 1, none⟩ = some (.slice ra1 n1 rc1) := by rw [hW]; simp [go_sem]
  have p2 : W.cell? ⟨w3.heap.size, 2, none⟩ = some (.int .i64 s1) := by rw [hW]; simp [go_sem]
  have p3 : W.cell? ⟨w3.heap.size, 3, none⟩ = some (.slice aa1 m1 ac1) := by rw [hW]; simp [go_sem]
  have p4 : W.cell? ⟨w3.heap.size, 4, none⟩ = some (.slice ea1 k1 ec1) := by rw [hW]; simp [go_sem]
  have q0 : W.cell? ⟨w3.heap.size + 1, 0, none⟩ = some (.int .i64 a2) := by rw [hW]; simp [go_sem]
  have q1 : W.cell? ⟨w3.heap.size + 1, 1, none⟩ = some (.slice ra2 n2 rc2) := by rw [hW]; simp [go_sem]
  have q2 : W.cell? ⟨w3.heap.size + 1, 2, none⟩ = some (.int .i64 s2) := by rw [hW]; simp [go_sem]
  have q3 : W.cell? ⟨w3.heap.size + 1, 3, none⟩ = some (.slice aa2 m2 ac2) := by rw [hW]; simp [go_sem]
  have q4 : W.cell? ⟨w3.heap.size + 1, 4, none⟩ = some (.slice ea2 k2 ec2) := by rw [hW]; simp [go_sem]
  have r0 : W.cell? ⟨w3.heap.size + 1 + 1, 0, none⟩ = some (.int .i64 a3) := by rw [hW]; simp [go_sem]
  have r1 : W.cell? ⟨w3.heap.size + 1 + 1, 1, none⟩ = some (.slice ra3 n3 rc3) := by rw [hW]; simp [go_sem]
  have r2 : W.cell? ⟨w3.heap.size + 1 + 1, 2, none⟩ = some (.int .i64 s3) := by rw [hW]; simp [go_sem]
  have r3 : W.cell? ⟨w3.heap.size + 1 + 1, 3, none⟩ = some (.slice aa3 m3 ac3) := by rw [hW]; simp [go_sem]
  have r4 : W.cell? ⟨w3.heap.size + 1 + 1, 4, none⟩ = some (.slice ea3 k3 ec3) := by rw [hW]; simp [go_sem]
  rw [← hW]
  clear hW
  replace hH := hH.ext xW
  replace hJ := hJ.ext xW
  replace hV := hV.ext xW
  replace x1 := x1.trans xW
  clear xW
  obtain ⟨b1, hb1⟩ : ∃ b, b = w3.heap.size := ⟨_, rfl⟩
  obtain ⟨b2, hb2⟩ : ∃ b, b = b1 + 1 := ⟨_, rfl⟩
  obtain ⟨b3, hb3⟩ : ∃ b, b = b2 + 1 := ⟨_, rfl⟩
  simp only [← hb1, ← hb2, ← hb3] at p0 p1 p2 p3 p4 q0 q1 q2 q3 q4 r0 r1 r2 r3 r4 ⊢
  clear hb1 hb2 hb3
  have zp : b1 < W.heap.size := cell_lt p0
  have zq : b2 < W.heap.size := cell_lt q0
  have zr : b3 < W.heap.size := cell_lt r0
  refine (aw_first _ _ hH).mono ?_
  rintro e w4 ⟨u1, rfl, hu1, hx⟩
  replace hH := hH.ext hx
  replace hJ := hJ.ext hx
  replace hV := hV.ext hx
  replace p0 := hx.cell p0
  replace p1 := hx.cell p1
  replace p2 := hx.cell p2
  replace p3 := hx.cell p3
  replace p4 := hx.cell p4
  replace q0 := hx.cell q0
  replace q1 := hx.cell q1
  replace q2 := hx.cell q2
  replace q3 := hx.cell q3
  replace q4 := hx.cell q4
  replace r0 := hx.cell r0
  replace r1 := hx.cell r1
  replace r2 := hx.cell r2
  replace r3 := hx.cell r3
  replace r4 := hx.cell r4
  replace zp : b1 < w4.heap.size := cell_lt p0
  replace zq : b2 < w4.heap.size := cell_lt q0
  replace zr : b3 < w4.heap.size := cell_lt r0
  replace x1 := x1.trans hx
  clear hx
  obtain ⟨u1a, u1c, rfl, -⟩ := hu1.shape
  go_wp2_with fail
  refine (aw_rate _ _ hH).mono ?_
  rintro e w5 ⟨rfl, hx⟩
  replace hH := hH.ext hx
  replace hJ := hJ.ext hx
  replace hV := hV.ext hx
  replace hu1 := hu1.ext hx
  replace p0 := hx.cell p0
  replace p1 := hx.cell p1
  replace p2 := hx.cell p2
  replace p3 := hx.cell p3
  replace p4 := hx.cell p4
  replace q0 := hx.cell q0
  replace q1 := hx.cell q1
  replace q2 := hx.cell q2
  replace q3 := hx.cell q3
  replace q4 := hx.cell q4
  replace r0 := hx.cell r0
  replace r1 := hx.cell r1
  replace r2 := hx.cell r2
  replace r3 := hx.cell r3
  replace r4 := hx.cell r4
  replace zp : b1 < w5.heap.size := cell_lt p0
  replace zq : b2 < w5.heap.size := cell_lt q0
  replace zr : b3 < w5.heap.size := cell_lt r0
  replace x1 := x1.trans hx
  clear hx
  go_wp2_with fail
  refine (aw_worth _ _ (hH.ext (ext_alloc _ _))).mono ?_
  rintro e w6 ⟨rfl, hx'⟩
  have hx := hx'.of_alloc
  have d0 : w6.cell? ⟨w5.heap.size, 0, none⟩ = some (.int .i64 10) := hx'.cell (by simp [go_sem])
  have d1 : w6.cell? ⟨w5.heap.size, 1, none⟩ = some (.int .i64 14) := hx'.cell (by simp [go_sem])
  clear hx'
  replace hH := hH.ext hx
  replace hJ := hJ.ext hx
  replace hV := hV.ext hx
  replace hu1 := hu1.ext hx
  replace p0 := hx.cell p0
  replace p1 := hx.cell p1
  replace p2 := hx.cell p2
  replace p3 := hx.cell p3
  replace p4 := hx.cell p4
  replace q0 := hx.cell q0
  replace q1 := hx.cell q1
  replace q2 := hx.cell q2
  replace q3 := hx.cell q3
  replace q4 := hx.cell q4
  replace r0 := hx.cell r0
  replace r1 := hx.cell r1
  replace r2 := hx.cell r2
  replace r3 := hx.cell r3
  replace r4 := hx.cell r4
  replace zp : b1 < w6.heap.size := cell_lt p0
  replace zq : b2 < w6.heap.size := cell_lt q0
  replace zr : b3 < w6.heap.size := cell_lt r0
  replace x1 := x1.trans hx
  obtain ⟨db, hdb⟩ : ∃ b, b = w5.heap.size := ⟨_, rfl⟩
  rw [← hdb] at d0 d1 ⊢
  clear hdb
  have zd : db < w6.heap.size := cell_lt d0
  clear hx
  go_wp2_with fail
  refine (aw_may _ _ (hJ.ext (ext_alloc _ _))).mono ?_
  rintro e w7 ⟨rfl, hx'⟩
  have hx := hx'.of_alloc
  have g0 : w7.cell? ⟨w6.heap.size, 0, none⟩ = some (.int .i64 20) := hx'.cell (by simp [go_sem])
  have g1 : w7.cell? ⟨w6.heap.size, 1, none⟩ = some (.int .i64 28) := hx'.cell (by simp [go_sem])
  clear hx'
  replace hH := hH.ext hx
  replace hJ := hJ.ext hx
  replace hV := hV.ext hx
  replace hu1 := hu1.ext hx
  replace p0 := hx.cell p0
  replace p1 := hx.cell p1
  replace p2 := hx.cell p2
  replace p3 := hx.cell p3
  replace p4 := hx.cell p4
  replace q0 := hx.cell q0
  replace q1 := hx.cell q1
  replace q2 := hx.cell q2
  replace q3 := hx.cell q3
  replace q4 := hx.cell q4
  replace r0 := hx.cell r0
  replace r1 := hx.cell r1
  replace r2 := hx.cell r2
  replace r3 := hx.cell r3
  replace r4 := hx.cell r4
  replace d0 := hx.cell d0
  replace d1 := hx.cell d1
  replace zp : b1 < w7.heap.size := cell_lt p0
  replace zq : b2 < w7.heap.size := cell_lt q0
  replace zr : b3 < w7.heap.size := cell_lt r0
  replace zd : db < w7.heap.size := cell_lt d0
  replace x1 := x1.trans hx
  obtain ⟨gb, hgb⟩ : ∃ b, b = w6.heap.size := ⟨_, rfl⟩
  rw [← hgb] at g0 g1 ⊢
  clear hgb
  have zg : gb < w7.heap.size := cell_lt g0
  clear hx
  go_wp2_with fail
  refine (aw_never _ _ hV).mono ?_
  rintro e w8 ⟨rfl, hx⟩
  replace hH := hH.ext hx
  replace hJ := hJ.ext hx
  replace hV := hV.ext hx
  replace hu1 := hu1.ext hx
  replace p0 := hx.cell p0
  replace p1 := hx.cell p1
  replace p2 := hx.cell p2
  replace p3 := hx.cell p3
  replace p4 := hx.cell p4
  replace q0 := hx.cell q0
  replace q1 := hx.cell q1
  replace q2 := hx.cell q2
  replace q3 := hx.cell q3
  replace q4 := hx.cell q4
  replace r0 := hx.cell r0
  replace r1 := hx.cell r1
  replace r2 := hx.cell r2
  replace r3 := hx.cell r3
  replace r4 := hx.cell r4
  replace d0 := hx.cell d0
  replace d1 := hx.cell d1
  replace g0 := hx.cell g0
  replace g1 := hx.cell g1
  replace zp : b1 < w8.heap.size := cell_lt p0
  replace zq : b2 < w8.heap.size := cell_lt q0
  replace zr : b3 < w8.heap.size := cell_lt r0
  replace zd : db < w8.heap.size := cell_lt d0
  replace zg : gb < w8.heap.size := cell_lt g0
  replace x1 := x1.trans hx
  clear hx
  go_wp2_with fail
  refine (aw_wrong _ _ hV).mono ?_
  rintro e w9 ⟨u2, rfl, hu2, hx⟩
  replace hH := hH.ext hx
  replace hJ := hJ.ext hx
  replace hV := hV.ext hx
  replace hu1 := hu1.ext hx
  replace p0 := hx.cell p0
  replace p1 := hx.cell p1
  replace p2 := hx.cell p2
  replace p3 := hx.cell p3
  replace p4 := hx.cell p4
  replace q0 := hx.cell q0
  replace q1 := hx.cell q1
  replace q2 := hx.cell q2
  replace q3 := hx.cell q3
  replace q4 := hx.cell q4
  replace r0 := hx.cell r0
  replace r1 := hx.cell r1
  replace r2 := hx.cell r2
  replace r3 := hx.cell r3
  replace r4 := hx.cell r4
  replace d0 := hx.cell d0
  replace d1 := hx.cell d1
  replace g0 := hx.cell g0
  replace g1 := hx.cell g1
  replace zp : b1 < w9.heap.size := cell_lt p0
  replace zq : b2 < w9.heap.size := cell_lt q0
  replace zr : b3 < w9.heap.size := cell_lt r0
  replace zd : db < w9.heap.size := cell_lt d0
  replace zg : gb < w9.heap.size := cell_lt g0
  replace x1 := x1.trans hx
  clear hx
  obtain ⟨u2a, u2c, rfl, -⟩ := hu2.shape
  go_wp2_with fail
  refine (aw_none _ _ hJ).mono ?_
  rintro e w10 ⟨u3, rfl, hu3, hx⟩
  replace hH := hH.ext hx
  replace hJ := hJ.ext hx
  replace hV := hV.ext hx
  replace hu1 := hu1.ext hx
  replace hu2 := hu2.ext hx
  replace p0 := hx.cell p0
  replace p1 := hx.cell p1
  replace p2 := hx.cell p2
  replace p3 := hx.cell p3
  replace p4 := hx.cell p4
  replace q0 := hx.cell q0
  replace q1 := hx.cell q1
  replace q2 := hx.cell q2
  replace q3 := hx.cell q3
  replace q4 := hx.cell q4
  replace r0 := hx.cell r0
  replace r1 := hx.cell r1
  replace r2 := hx.cell r2
  replace r3 := hx.cell r3
  replace r4 := hx.cell r4
  replace d0 := hx.cell d0
  replace d1 := hx.cell d1
  replace g0 := hx.cell g0
  replace g1 := hx.cell g1
  replace zp : b1 < w10.heap.size := cell_lt p0
  replace zq : b2 < w10.heap.size := cell_lt q0
  replace zr : b3 < w10.heap.size := cell_lt r0
  replace zd : db < w10.heap.size := cell_lt d0
  replace zg : gb < w10.heap.size := cell_lt g0
  replace x1 := x1.trans hx
  clear hx
  obtain ⟨u3a, u3c, rfl, -⟩ := hu3.shape
  go_wp2_with fail
  refine (aw_paid _ _ hH).mono ?_
  rintro e w11 ⟨rfl, hx⟩
  replace hH := hH.ext hx
  replace hJ := hJ.ext hx
  replace hV := hV.ext hx
  replace hu1 := hu1.ext hx
  replace hu2 := hu2.ext hx
  replace hu3 := hu3.ext hx
  replace p0 := hx.cell p0
  replace p1 := hx.cell p1
  replace p2 := hx.cell p2
  replace p3 := hx.cell p3
  replace p4 := hx.cell p4
  replace q0 := hx.cell q0
  replace q1 := hx.cell q1
  replace q2 := hx.cell q2
  replace q3 := hx.cell q3
  replace q4 := hx.cell q4
  replace r0 := hx.cell r0
  replace r1 := hx.cell r1
  replace r2 := hx.cell r2
  replace r3 := hx.cell r3
  replace r4 := hx.cell r4
  replace d0 := hx.cell d0
  replace d1 := hx.cell d1
  replace g0 := hx.cell g0
  replace g1 := hx.cell g1
  replace zp : b1 < w11.heap.size := cell_lt p0
  replace zq : b2 < w11.heap.size := cell_lt q0
  replace zr : b3 < w11.heap.size := cell_lt r0
  replace zd : db < w11.heap.size := cell_lt d0
  replace zg : gb < w11.heap.size := cell_lt g0
  replace x1 := x1.trans hx
  clear hx
  go_wp2_with fail
  refine (aw_send _ _ (hH.ext (ext_alloc _ _))).mono ?_
  rintro e w12 ⟨rfl, hx'⟩
  have hx := hx'.of_alloc
  have y0 : w12.cell? ⟨w11.heap.size, 0, none⟩ = some (.int .i64 15) := hx'.cell (by simp [go_sem])
  have y1 : w12.cell? ⟨w11.heap.size, 1, none⟩ = some (.int .i64 21) := hx'.cell (by simp [go_sem])
  clear hx'
  replace hH := hH.ext hx
  replace hJ := hJ.ext hx
  replace hV := hV.ext hx
  replace hu1 := hu1.ext hx
  replace hu2 := hu2.ext hx
  replace hu3 := hu3.ext hx
  replace p0 := hx.cell p0
  replace p1 := hx.cell p1
  replace p2 := hx.cell p2
  replace p3 := hx.cell p3
  replace p4 := hx.cell p4
  replace q0 := hx.cell q0
  replace q1 := hx.cell q1
  replace q2 := hx.cell q2
  replace q3 := hx.cell q3
  replace q4 := hx.cell q4
  replace r0 := hx.cell r0
  replace r1 := hx.cell r1
  replace r2 := hx.cell r2
  replace r3 := hx.cell r3
  replace r4 := hx.cell r4
  replace d0 := hx.cell d0
  replace d1 := hx.cell d1
  replace g0 := hx.cell g0
  replace g1 := hx.cell g1
  replace zp : b1 < w12.heap.size := cell_lt p0
  replace zq : b2 < w12.heap.size := cell_lt q0
  replace zr : b3 < w12.heap.size := cell_lt r0
  replace zd : db < w12.heap.size := cell_lt d0
  replace zg : gb < w12.heap.size := cell_lt g0
  replace x1 := x1.trans hx
  obtain ⟨yb, hyb⟩ : ∃ b, b = w11.heap.size := ⟨_, rfl⟩
  rw [← hyb] at y0 y1 ⊢
  clear hyb
  have zy : yb < w12.heap.size := cell_lt y0
  clear hx
  go_wp2_with fail
  refine (aw_zero _ _ hV).mono ?_
  rintro e w13 ⟨sx, sy, rfl, hx⟩
  replace hH := hH.ext hx
  replace hJ := hJ.ext hx
  replace hV := hV.ext hx
  replace hu1 := hu1.ext hx
  replace hu2 := hu2.ext hx
  replace hu3 := hu3.ext hx
  replace p0 := hx.cell p0
  replace p1 := hx.cell p1
  replace p2 := hx.cell p2
  replace p3 := hx.cell p3
  replace p4 := hx.cell p4
  replace q0 := hx.cell q0
  replace q1 := hx.cell q1
  replace q2 := hx.cell q2
  replace q3 := hx.cell q3
  replace q4 := hx.cell q4
  replace r0 := hx.cell r0
  replace r1 := hx.cell r1
  replace r2 := hx.cell r2
  replace r3 := hx.cell r3
  replace r4 := hx.cell r4
  replace d0 := hx.cell d0
  replace d1 := hx.cell d1
  replace g0 := hx.cell g0
  replace g1 := hx.cell g1
  replace y0 := hx.cell y0
  replace y1 := hx.cell y1
  replace zp : b1 < w13.heap.size := cell_lt p0
  replace zq : b2 < w13.heap.size := cell_lt q0
  replace zr : b3 < w13.heap.size := cell_lt r0
  replace zd : db < w13.heap.size := cell_lt d0
  replace zg : gb < w13.heap.size := cell_lt g0
  replace zy : yb < w13.heap.size := cell_lt y0
  replace x1 := x1.trans hx
  clear hx
  go_wp2_with fail
  refine (aw_arg _ _ (hH.ext (ext_alloc _ _))).mono ?_
  rintro e w14 ⟨ax, rfl, hx'⟩
  have hx := hx'.of_alloc
  have t0 : w14.cell? ⟨w13.heap.size, 0, none⟩ = some (.int .i64 sx) := hx'.cell (by simp [go_sem])
  have t1 : w14.cell? ⟨w13.heap.size, 1, none⟩ = some (.int .i64 sy) := hx'.cell (by simp [go_sem])
  clear hx'
  replace hH := hH.ext hx
  replace hJ := hJ.ext hx
  replace hV := hV.ext hx
  replace hu1 := hu1.ext hx
  replace hu2 := hu2.ext hx
  replace hu3 := hu3.ext hx
  replace p0 := hx.cell p0
  replace p1 := hx.cell p1
  replace p2 := hx.cell p2
  replace p3 := hx.cell p3
  replace p4 := hx.cell p4
  replace q0 := hx.cell q0
  replace q1 := hx.cell q1
  replace q2 := hx.cell q2
  replace q3 := hx.cell q3
  replace q4 := hx.cell q4
  replace r0 := hx.cell r0
  replace r1 := hx.cell r1
  replace r2 := hx.cell r2
  replace r3 := hx.cell r3
  replace r4 := hx.cell r4
  replace d0 := hx.cell d0
  replace d1 := hx.cell d1
  replace g0 := hx.cell g0
  replace g1 := hx.cell g1
  replace y0 := hx.cell y0
  replace y1 := hx.cell y1
  replace zp : b1 < w14.heap.size := cell_lt p0
  replace zq : b2 < w14.heap.size := cell_lt q0
  replace zr : b3 < w14.heap.size := cell_lt r0
  replace zd : db < w14.heap.size := cell_lt d0
  replace zg : gb < w14.heap.size := cell_lt g0
  replace zy : yb < w14.heap.size := cell_lt y0
  replace x1 := x1.trans hx
  obtain ⟨tb, htb⟩ : ∃ b, b = w13.heap.size := ⟨_, rfl⟩
  rw [← htb] at t0 t1 ⊢
  clear htb
  have zt : tb < w14.heap.size := cell_lt t0
  clear hx
  go_wp2_with fail
  clear hH hJ hV p0 p1 p2 p3 p4 q0 q1 q2 q3 q4 r0 r1 r2 r3 r4 zp zq zr t0 t1 zt
  apply Facts.wp_frame
  intro A hA
  have f4 : ∀ h, A.tmps[4]'h = .slice u1a 2 u1c := by rw [hA]; exact fun _ => rfl
  have f5 : ∀ h, A.tmps[5]'h = .int .i64 5 := by rw [hA]; exact fun _ => rfl
  have f6 : ∀ h, A.tmps[6]'h = .int .i64 0 := by rw [hA]; exact fun _ => rfl
  have f7 : ∀ h, A.tmps[7]'h = .pointer (some ⟨db, 0, none⟩) := by rw [hA]; exact fun _ => rfl
  have f8 : ∀ h, A.tmps[8]'h = .int .i64 0 := by rw [hA]; exact fun _ => rfl
  have f9 : ∀ h, A.tmps[9]'h = .pointer (some ⟨gb, 0, none⟩) := by rw [hA]; exact fun _ => rfl
  have f10 : ∀ h, A.tmps[10]'h = .int .i64 0 := by rw [hA]; exact fun _ => rfl
  have f11 : ∀ h, A.tmps[11]'h = .int .i64 0 := by rw [hA]; exact fun _ => rfl
  have f12 : ∀ h, A.tmps[12]'h = .int .i64 0 := by rw [hA]; exact fun _ => rfl
  have f13 : ∀ h, A.tmps[13]'h = .int .i64 2 := by rw [hA]; exact fun _ => rfl
  have f14 : ∀ h, A.tmps[14]'h = .int .i64 0 := by rw [hA]; exact fun _ => rfl
  have f15 : ∀ h, A.tmps[15]'h = .slice u2a 1 u2c := by rw [hA]; exact fun _ => rfl
  have f16 : ∀ h, A.tmps[16]'h = .int .i64 0 := by rw [hA]; exact fun _ => rfl
  have f17 : ∀ h, A.tmps[17]'h = .slice u3a 0 u3c := by rw [hA]; exact fun _ => rfl
  have f18 : ∀ h, A.tmps[18]'h = .int .i64 0 := by rw [hA]; exact fun _ => rfl
  have f19 : ∀ h, A.tmps[19]'h = .pointer (some ⟨yb, 0, none⟩) := by rw [hA]; exact fun _ => rfl
  have f20 : ∀ h, A.tmps[20]'h = .int .i64 0 := by rw [hA]; exact fun _ => rfl
  have f21 : ∀ h, A.tmps[21]'h = .int .i64 0 := by rw [hA]; exact fun _ => rfl
  have f22 : ∀ h, A.tmps[22]'h = .int .i64 26 := by rw [hA]; exact fun _ => rfl
  have f23 : ∀ h, A.tmps[23]'h = .int .i64 0 := by rw [hA]; exact fun _ => rfl
  have f25 : ∀ h, A.tmps[25]'h = .int .i64 8 := by rw [hA]; exact fun _ => rfl
  have f27 : ∀ h, A.tmps[27]'h = .int .i64 2 := by rw [hA]; exact fun _ => rfl
  have fsz : A.tmps.size = 180 := by rw [hA]; rfl
  have HA := Lib.hid hA
  clear hA hsp
  have hu1 : IntsAt w14 (.slice u1a 2 u1c) [12, 10] := hu1
  have hu2 : IntsAt w14 (.slice u2a 1 u2c) [0] := hu2
  apply Facts.wp_region (.val _ :: .val _ :: .val _ :: .val _ :: .val _ :: .val _ :: .val _ :: .val _ :: .val _ :: .val _ :: .val _ :: .val _ :: .val _ :: .val _ :: .val _ :: .val _ :: .val _ :: .val _ :: .val _ :: .val _ :: .val _ :: .val _ :: .val _ :: .val _ :: .val _ :: .val _ :: .val _ :: .val _ :: .val _ :: .val _ :: .val _ :: .val _ :: .val _ :: .val _ :: .val _ :: .val _ :: .val _ :: .val _ :: .val _ :: .val _ :: .val _ :: .val _ :: .val _ :: .val _ :: .fact (fun u w => IntsAt w u [12, 10]) :: .val _ :: .val _ :: .val _ :: .val _ :: .val _ :: .val _ :: .val _ :: .val _ :: .val _ :: .val _ :: .val _ :: .val _ :: .val _ :: .val _ :: .val _ :: .val _ :: .val _ :: .val _ :: .val _ :: .val _ :: .val _ :: .val _ :: .val _ :: .val _ :: .val _ :: .val _ :: .fact (fun u w => IntsAt w u [0]) :: .val _ :: .val _ :: .val _ :: .val _ :: .val _ :: .val _ :: .val _ :: .val _ :: .val _ :: .val _ :: .val _ :: .val _ :: .val _ :: .val _ :: .val _ :: .val _ :: .val _ :: .val _ :: .val _ :: .val _ :: .val _ :: []) (by kernel_rfl) (by kernel_rfl) ⟨fun u a c hx h => IntsAt.ext h hx, fun u a c hx h => IntsAt.ext h hx, trivial⟩ ?main
  case main =>
    iterate 44 (refine ⟨fun w1 hx hh => ?_, ?_⟩; focus (clear hh; skip; go_simp; first | exact ⟨Ext.refl _, rfl⟩ | exact Ext.refl _))
    refine ⟨fun w1 hx hh => ?_, ?_⟩
    · clear hh
      go_simp
      exact ⟨ext_alloc _ _, IntsAt.twoA (m := 10) (n := 12) rfl (I64.lit (by decide)) (I64.lit (by decide))⟩
    intro u44
    refine ⟨fun w1 hx hh => ?_, ?_⟩
    · have h1 : IntsAt w1 u44 [12, 10] := hh 44 _ List.mem_cons_self (by kernel_rfl)
      clear hh
      go_simp
      refine (ints_any _ _ [12, 10] [12, 10] _ (hu1.ext hx) h1).mono ?_
      rintro e w' ⟨rfl, hx2⟩
      exact ⟨_, rfl, hx2, rfl⟩
    iterate 6 (refine ⟨fun w1 hx hh => ?_, ?_⟩; focus (clear hh; skip; go_simp; first | exact ⟨Ext.refl _, rfl⟩ | exact Ext.refl _))
    iterate 1 (refine ⟨fun w1 hx hh => ?_, ?_⟩; focus (clear hh; have e0 := hx.cell d0; have e1 := hx.cell d1; go_simp; first | exact ⟨Ext.refl _, rfl⟩ | exact Ext.refl _))
    refine ⟨fun w1 hx hh => ?_, ?_⟩
    · clear hh
      go_simp
      refine (lawSpan_any 10 14 _).mono ?_
      rintro e w' ⟨rfl, hx2⟩
      exact ⟨_, rfl, hx2, rfl⟩
    iterate 1 (refine ⟨fun w1 hx hh => ?_, ?_⟩; focus (clear hh; have e0 := equalInE_span; go_simp; first | exact ⟨Ext.refl _, rfl⟩ | exact Ext.refl _))
    iterate 2 (refine ⟨fun w1 hx hh => ?_, ?_⟩; focus (clear hh; skip; go_simp; first | exact ⟨Ext.refl _, rfl⟩ | exact Ext.refl _))
    iterate 1 (refine ⟨fun w1 hx hh => ?_, ?_⟩; focus (clear hh; have e0 := hx.cell g0; have e1 := hx.cell g1; go_simp; first | exact ⟨Ext.refl _, rfl⟩ | exact Ext.refl _))
    refine ⟨fun w1 hx hh => ?_, ?_⟩
    · clear hh
      go_simp
      refine (lawSpan_any 20 28 _).mono ?_
      rintro e w' ⟨rfl, hx2⟩
      exact ⟨_, rfl, hx2, rfl⟩
    iterate 1 (refine ⟨fun w1 hx hh => ?_, ?_⟩; focus (clear hh; have e0 := equalInE_span; go_simp; first | exact ⟨Ext.refl _, rfl⟩ | exact Ext.refl _))
    iterate 11 (refine ⟨fun w1 hx hh => ?_, ?_⟩; focus (clear hh; skip; go_simp; first | exact ⟨Ext.refl _, rfl⟩ | exact Ext.refl _))
    refine ⟨fun w1 hx hh => ?_, ?_⟩
    · clear hh
      go_simp
      exact ⟨ext_alloc _ _, IntsAt.oneAt (n := 0) rfl (I64.lit (by decide))⟩
    intro u71
    refine ⟨fun w1 hx hh => ?_, ?_⟩
    · have h1 : IntsAt w1 u71 [0] := hh 71 _ List.mem_cons_self (by kernel_rfl)
      clear hh
      go_simp
      refine (ints_any _ _ [0] [0] _ (hu2.ext hx) h1).mono ?_
      rintro e w' ⟨rfl, hx2⟩
      exact ⟨_, rfl, hx2, rfl⟩
    iterate 7 (refine ⟨fun w1 hx hh => ?_, ?_⟩; focus (clear hh; skip; go_simp; first | exact ⟨Ext.refl _, rfl⟩ | exact Ext.refl _))
    iterate 1 (refine ⟨fun w1 hx hh => ?_, ?_⟩; focus (clear hh; have e0 := hx.cell y0; have e1 := hx.cell y1; go_simp; first | exact ⟨Ext.refl _, rfl⟩ | exact Ext.refl _))
    refine ⟨fun w1 hx hh => ?_, ?_⟩
    · clear hh
      go_simp
      refine (lawSpan_any 15 21 _).mono ?_
      rintro e w' ⟨rfl, hx2⟩
      exact ⟨_, rfl, hx2, rfl⟩
    iterate 1 (refine ⟨fun w1 hx hh => ?_, ?_⟩; focus (clear hh; have e0 := equalInE_span; go_simp; first | exact ⟨Ext.refl _, rfl⟩ | exact Ext.refl _))
    iterate 10 (refine ⟨fun w1 hx hh => ?_, ?_⟩; focus (clear hh; skip; go_simp; first | exact ⟨Ext.refl _, rfl⟩ | exact Ext.refl _))
    intro w15 hx hh
    clear hh
    have hA := HA.out
    subst hA
    replace x1 := x1.trans hx
    go_simp
    go_wp2
    go_ret
    exact ⟨rfl, x1⟩
end Go.Proofs.Ytpflfincedllgaa

namespace Go.Proofs.Ytpflfincedllgaa
set_option linter.unusedSimpArgs false
set_option linter.unusedVariables false
open Go.RowKit
set_option linter.unusedVariables false
set_option maxRecDepth 100000

theorem kn_first (vv : Value) (w : World) (h : HouseAt w vv (exHouse (17))) : Calls Try.prog 18 #[vv] w fun e w' => ∃ v, e = .returned (.tuple #[v, .int .i64 1, .int .i64 0]) ∧ IntsAt w' v [12, 11] ∧ Ext w w' := by
  refine (firstPub_any vv _ w h).mono ?_
  rintro e w' ⟨v, rfl, hv, hx⟩
  rw [ex2_first.2.1] at hv
  rw [ex2_first.1, ex2_first.2.2]
  exact ⟨v, rfl, hv, hx⟩
theorem kn_rate (vv : Value) (w : World) (h : HouseAt w vv (exHouse (-1))) : Calls Try.prog 21 #[vv, .int .i64 0] w fun e w' => e = .returned (.tuple #[.agg #[.int .i64 12, .int .i64 12], .int .i64 0]) ∧ Ext w w' := by
  refine (ratePub_any vv _ 0 (I64.lit (by decide)) w h).mono ?_
  rintro e w' ⟨rfl, hx⟩
  exact ⟨ret_spE ex2_rate.2 ex2_rate.1, hx⟩
theorem kn_cadiz (vv : Value) (w : World) (h : HouseAt w vv (exHouse (-1))) : Calls Try.prog 24 #[vv, .int .i64 1, .int .i64 1, .int .i64 18] w fun e w' => e = .returned (.tuple #[.agg #[.int .i64 15, .int .i64 21], .int .i64 0]) ∧ Ext w w' := by
  refine (worthPub_any vv _ 1 1 18 (I64.lit (by decide)) (I64.lit (by decide)) (I64.lit (by decide)) w h).mono ?_
  rintro e w' ⟨rfl, hx⟩
  exact ⟨ret_spE ex2_cadiz.2 ex2_cadiz.1, hx⟩
theorem kn_nothing (vv : Value) (w : World) (h : HouseAt w vv (exHouse (-1))) : Calls Try.prog 24 #[vv, .int .i64 1, .int .i64 0, .int .i64 3] w fun e w' => e = .returned (.tuple #[.agg #[.int .i64 0, .int .i64 0], .int .i64 0]) ∧ Ext w w' := by
  refine (worthPub_any vv _ 1 0 3 (I64.lit (by decide)) (I64.lit (by decide)) (I64.lit (by decide)) w h).mono ?_
  rintro e w' ⟨rfl, hx⟩
  exact ⟨ret_spE ex2_nothing.2 ex2_nothing.1, hx⟩
theorem kn_may (vv : Value) (w : World) (h : HouseAt w vv (exHouse (17))) : Calls Try.prog 28 #[vv, .int .i64 0] w fun e w' => e = .returned (.tuple #[.int .i64 0, .int .i64 0]) ∧ Ext w w' := by
  refine (agreePub_any vv _ 0 (I64.lit (by decide)) w h).mono ?_
  rintro e w' ⟨rfl, hx⟩
  exact ⟨ret_inE ex2_may.2 ex2_may.1, hx⟩
theorem kn_wrong (vv : Value) (w : World) (h : HouseAt w vv (exHouse (25))) : Calls Try.prog 30 #[vv] w fun e w' => ∃ v, e = .returned (.tuple #[v, .int .i64 0]) ∧ IntsAt w' v [1] ∧ Ext w w' := by
  refine (wrong_any vv _ w h).mono ?_
  rintro e w' ⟨v, rfl, hv, hx⟩
  rw [ex2_wrong.2] at hv
  rw [ex2_wrong.1]
  exact ⟨v, rfl, hv, hx⟩
theorem kn_paid (vv : Value) (w : World) (h : HouseAt w vv (exHouse (-1))) : Calls Try.prog 26 #[vv, .int .i64 0] w fun e w' => e = .returned (.tuple #[.agg #[.int .i64 30, .int .i64 30], .int .i64 0]) ∧ Ext w w' := by
  refine (paidPub_any vv _ 0 (I64.lit (by decide)) w h).mono ?_
  rintro e w' ⟨rfl, hx⟩
  exact ⟨ret_spE ex2_paid.2 ex2_paid.1, hx⟩
theorem kn_send (vv : Value) (w : World) (h : HouseAt w vv (exHouse (-1))) : Calls Try.prog 32 #[vv, .int .i64 1, .int .i64 15] w fun e w' => e = .returned (.tuple #[.int .i64 0, .int .i64 16, .int .i64 0]) ∧ Ext w w' := by
  refine (sendPub_any vv _ 1 15 (I64.lit (by decide)) (I64.lit (by decide)) w h).mono ?_
  rintro e w' ⟨sa, sn, se, rfl, hs, hx⟩
  obtain ⟨rfl, rfl, rfl⟩ := ex2_send hs
  exact ⟨rfl, hx⟩
set_option maxHeartbeats 20000000 in
theorem known8_any (w : World) : Calls Try.prog 7 #[] w fun e w' => e = .returned (.bool true) ∧ Ext w w' := by
  have hsp := eqlE_span
  go_enter Try.func7, Try.ntmps7
  go_wp2_with fail
  refine (lawHouse_any (-1) (by decide) _).mono ?_
  rintro e w1 ⟨vh, rfl, hH, hx1⟩
  go_wp2_with fail
  refine (lawHouse_any 17 (by decide) _).mono ?_
  rintro e w2 ⟨vj, rfl, hJ, hx2⟩
  go_wp2_with fail
  refine (lawHouse_any 25 (by decide) _).mono ?_
  rintro e w3 ⟨vv, rfl, hV, hx3⟩
  replace hJ := hJ.ext hx3
  replace hH := hH.ext (hx2.trans hx3)
  have x1 : Ext w w3 := (hx1.trans hx2).trans hx3
  clear hx1 hx2 hx3
  obtain ⟨a1, ra1, n1, rc1, s1, aa1, m1, ac1, ea1, k1, ec1, rfl⟩ := hH.form5
  obtain ⟨a2, ra2, n2, rc2, s2, aa2, m2, ac2, ea2, k2, ec2, rfl⟩ := hJ.form5
  obtain ⟨a3, ra3, n3, rc3, s3, aa3, m3, ac3, ea3, k3, ec3, rfl⟩ := hV.form5
  go_wp2_with fail
  obtain ⟨W, hW⟩ : ∃ W, W = (((w3.alloc (.cells #[.int .i64 a1, .slice ra1 n1 rc1, .int .i64 s1, .slice aa1 m1 ac1, .slice ea1 k1 ec1] 26)).alloc (.cells #[.int .i64 a2, .slice ra2 n2 rc2, .int .i64 s2, .slice aa2 m2 ac2, .slice ea2 k2 ec2] 26)).alloc (.cells #[.int .i64 a3, .slice ra3 n3 rc3, .int .i64 s3, .slice aa3 m3 ac3, .slice ea3 k3 ec3] 26)) := ⟨_, rfl⟩
  have xW : Ext w3 W := by rw [hW]; exact ((ext_alloc _ _).alloc _).alloc _
  have p0 : W.cell? ⟨w3.heap.size, 0, none⟩ = some (.int .i64 a1) := by rw [hW]; simp [go_sem]
  have p1 : W.cell? ⟨w3.heap.size, 1, none⟩ = some (.slice ra1 n1 rc1) := by rw [hW]; simp [go_sem]
  have p2 : W.cell? ⟨w3.heap.size, 2, none⟩ = some (.int .i64 s1) := by rw [hW]; simp [go_sem]
  have p3 : W.cell? ⟨w3.heap.size, 3, none⟩ = some (.slice aa1 m1 ac1) := by rw [hW]; simp [go_sem]
  have p4 : W.cell? ⟨w3.heap.size, 4, none⟩ = some (.slice ea1 k1 ec1) := by rw [hW]; simp [go_sem]
  have q0 : W.cell? ⟨w3.heap.size + 1, 0, none⟩ = some (.int .i64 a2) := by rw [hW]; simp [go_sem]
  have q1 : W.cell? ⟨w3.heap.size + 1, 1, none⟩ = some (.slice ra2 n2 rc2) := by rw [hW]; simp [go_sem]
  have q2 : W.cell? ⟨w3.heap.size + 1, 2, none⟩ = some (.int .i64 s2) := by rw [hW]; simp [go_sem]
  have q3 : W.cell? ⟨w3.heap.size + 1, 3, none⟩ = some (.slice aa2 m2 ac2) := by rw [hW]; simp [go_sem]
  have q4 : W.cell? ⟨w3.heap.size + 1, 4, none⟩ = some (.slice ea2 k2 ec2) := by rw [hW]; simp [go_sem]
  have r0 : W.cell? ⟨w3.heap.size + 1 + 1, 0, none⟩ = some (.int .i64 a3) := by rw [hW]; simp [go_sem]
  have r1 : W.cell? ⟨w3.heap.size + 1 + 1, 1, none⟩ = some (.slice ra3 n3 rc3) := by rw [hW]; simp [go_sem]
  have r2 : W.cell? ⟨w3.heap.size + 1 + 1, 2, none⟩ = some (.int .i64 s3) := by rw [hW]; simp [go_sem]
  have r3 : W.cell? ⟨w3.heap.size + 1 + 1, 3, none⟩ = some (.slice aa3 m3 ac3) := by rw [hW]; simp [go_sem]
  have r4 : W.cell? ⟨w3.heap.size + 1 + 1, 4, none⟩ = some (.slice ea3 k3 ec3) := by rw [hW]; simp [go_sem]
  rw [← hW]
  clear hW
  replace hH := hH.ext xW
  replace hJ := hJ.ext xW
  replace hV := hV.ext xW
  replace x1 := x1.trans xW
  clear xW
  obtain ⟨b1, hb1⟩ : ∃ b, b = w3.heap.size := ⟨_, rfl⟩
  obtain ⟨b2, hb2⟩ : ∃ b, b = b1 + 1 := ⟨_, rfl⟩
  obtain ⟨b3, hb3⟩ : ∃ b, b = b2 + 1 := ⟨_, rfl⟩
  simp only [← hb1, ← hb2, ← hb3] at p0 p1 p2 p3 p4 q0 q1 q2 q3 q4 r0 r1 r2 r3 r4 ⊢
  clear hb1 hb2 hb3
  have zp : b1 < W.heap.size := cell_lt p0
  have zq : b2 < W.heap.size := cell_lt q0
  have zr : b3 < W.heap.size := cell_lt r0
  refine (kn_first _ _ hJ).mono ?_
  rintro e w4 ⟨u1, rfl, hu1, hx⟩
  replace hH := hH.ext hx
  replace hJ := hJ.ext hx
  replace hV := hV.ext hx
  replace p0 := hx.cell p0
  replace p1 := hx.cell p1
  replace p2 := hx.cell p2
  replace p3 := hx.cell p3
  replace p4 := hx.cell p4
  replace q0 := hx.cell q0
  replace q1 := hx.cell q1
  replace q2 := hx.cell q2
  replace q3 := hx.cell q3
  replace q4 := hx.cell q4
  replace r0 := hx.cell r0
  replace r1 := hx.cell r1
  replace r2 := hx.cell r2
  replace r3 := hx.cell r3
  replace r4 := hx.cell r4
  replace zp : b1 < w4.heap.size := cell_lt p0
  replace zq : b2 < w4.heap.size := cell_lt q0
  replace zr : b3 < w4.heap.size := cell_lt r0
  replace x1 := x1.trans hx
  clear hx
  obtain ⟨u1a, u1c, rfl, -⟩ := hu1.shape
  go_wp2_with fail
  refine (kn_rate _ _ hH).mono ?_
  rintro e w5 ⟨rfl, hx⟩
  replace hH := hH.ext hx
  replace hJ := hJ.ext hx
  replace hV := hV.ext hx
  replace hu1 := hu1.ext hx
  replace p0 := hx.cell p0
  replace p1 := hx.cell p1
  replace p2 := hx.cell p2
  replace p3 := hx.cell p3
  replace p4 := hx.cell p4
  replace q0 := hx.cell q0
  replace q1 := hx.cell q1
  replace q2 := hx.cell q2
  replace q3 := hx.cell q3
  replace q4 := hx.cell q4
  replace r0 := hx.cell r0
  replace r1 := hx.cell r1
  replace r2 := hx.cell r2
  replace r3 := hx.cell r3
  replace r4 := hx.cell r4
  replace zp : b1 < w5.heap.size := cell_lt p0
  replace zq : b2 < w5.heap.size := cell_lt q0
  replace zr : b3 < w5.heap.size := cell_lt r0
  replace x1 := x1.trans hx
  clear hx
  go_wp2_with fail
  refine (kn_cadiz _ _ (hH.ext (ext_alloc _ _))).mono ?_
  rintro e w6 ⟨rfl, hx'⟩
  have hx := hx'.of_alloc
  have d0 : w6.cell? ⟨w5.heap.size, 0, none⟩ = some (.int .i64 12) := hx'.cell (by simp [go_sem])
  have d1 : w6.cell? ⟨w5.heap.size, 1, none⟩ = some (.int .i64 12) := hx'.cell (by simp [go_sem])
  clear hx'
  replace hH := hH.ext hx
  replace hJ := hJ.ext hx
  replace hV := hV.ext hx
  replace hu1 := hu1.ext hx
  replace p0 := hx.cell p0
  replace p1 := hx.cell p1
  replace p2 := hx.cell p2
  replace p3 := hx.cell p3
  replace p4 := hx.cell p4
  replace q0 := hx.cell q0
  replace q1 := hx.cell q1
  replace q2 := hx.cell q2
  replace q3 := hx.cell q3
  replace q4 := hx.cell q4
  replace r0 := hx.cell r0
  replace r1 := hx.cell r1
  replace r2 := hx.cell r2
  replace r3 := hx.cell r3
  replace r4 := hx.cell r4
  replace zp : b1 < w6.heap.size := cell_lt p0
  replace zq : b2 < w6.heap.size := cell_lt q0
  replace zr : b3 < w6.heap.size := cell_lt r0
  replace x1 := x1.trans hx
  obtain ⟨db, hdb⟩ : ∃ b, b = w5.heap.size := ⟨_, rfl⟩
  rw [← hdb] at d0 d1 ⊢
  clear hdb
  have zd : db < w6.heap.size := cell_lt d0
  clear hx
  go_wp2_with fail
  refine (kn_nothing _ _ (hH.ext (ext_alloc _ _))).mono ?_
  rintro e w7 ⟨rfl, hx'⟩
  have hx := hx'.of_alloc
  have g0 : w7.cell? ⟨w6.heap.size, 0, none⟩ = some (.int .i64 15) := hx'.cell (by simp [go_sem])
  have g1 : w7.cell? ⟨w6.heap.size, 1, none⟩ = some (.int .i64 21) := hx'.cell (by simp [go_sem])
  clear hx'
  replace hH := hH.ext hx
  replace hJ := hJ.ext hx
  replace hV := hV.ext hx
  replace hu1 := hu1.ext hx
  replace p0 := hx.cell p0
  replace p1 := hx.cell p1
  replace p2 := hx.cell p2
  replace p3 := hx.cell p3
  replace p4 := hx.cell p4
  replace q0 := hx.cell q0
  replace q1 := hx.cell q1
  replace q2 := hx.cell q2
  replace q3 := hx.cell q3
  replace q4 := hx.cell q4
  replace r0 := hx.cell r0
  replace r1 := hx.cell r1
  replace r2 := hx.cell r2
  replace r3 := hx.cell r3
  replace r4 := hx.cell r4
  replace d0 := hx.cell d0
  replace d1 := hx.cell d1
  replace zp : b1 < w7.heap.size := cell_lt p0
  replace zq : b2 < w7.heap.size := cell_lt q0
  replace zr : b3 < w7.heap.size := cell_lt r0
  replace zd : db < w7.heap.size := cell_lt d0
  replace x1 := x1.trans hx
  obtain ⟨gb, hgb⟩ : ∃ b, b = w6.heap.size := ⟨_, rfl⟩
  rw [← hgb] at g0 g1 ⊢
  clear hgb
  have zg : gb < w7.heap.size := cell_lt g0
  clear hx
  go_wp2_with fail
  refine (kn_may _ _ (hJ.ext (ext_alloc _ _))).mono ?_
  rintro e w8 ⟨rfl, hx'⟩
  have hx := hx'.of_alloc
  have t0 : w8.cell? ⟨w7.heap.size, 0, none⟩ = some (.int .i64 0) := hx'.cell (by simp [go_sem])
  have t1 : w8.cell? ⟨w7.heap.size, 1, none⟩ = some (.int .i64 0) := hx'.cell (by simp [go_sem])
  clear hx'
  replace hH := hH.ext hx
  replace hJ := hJ.ext hx
  replace hV := hV.ext hx
  replace hu1 := hu1.ext hx
  replace p0 := hx.cell p0
  replace p1 := hx.cell p1
  replace p2 := hx.cell p2
  replace p3 := hx.cell p3
  replace p4 := hx.cell p4
  replace q0 := hx.cell q0
  replace q1 := hx.cell q1
  replace q2 := hx.cell q2
  replace q3 := hx.cell q3
  replace q4 := hx.cell q4
  replace r0 := hx.cell r0
  replace r1 := hx.cell r1
  replace r2 := hx.cell r2
  replace r3 := hx.cell r3
  replace r4 := hx.cell r4
  replace d0 := hx.cell d0
  replace d1 := hx.cell d1
  replace g0 := hx.cell g0
  replace g1 := hx.cell g1
  replace zp : b1 < w8.heap.size := cell_lt p0
  replace zq : b2 < w8.heap.size := cell_lt q0
  replace zr : b3 < w8.heap.size := cell_lt r0
  replace zd : db < w8.heap.size := cell_lt d0
  replace zg : gb < w8.heap.size := cell_lt g0
  replace x1 := x1.trans hx
  obtain ⟨tb, htb⟩ : ∃ b, b = w7.heap.size := ⟨_, rfl⟩
  rw [← htb] at t0 t1 ⊢
  clear htb
  have zt : tb < w8.heap.size := cell_lt t0
  clear hx
  go_wp2_with fail
  refine (kn_wrong _ _ hV).mono ?_
  rintro e w9 ⟨u2, rfl, hu2, hx⟩
  replace hH := hH.ext hx
  replace hJ := hJ.ext hx
  replace hV := hV.ext hx
  replace hu1 := hu1.ext hx
  replace p0 := hx.cell p0
  replace p1 := hx.cell p1
  replace p2 := hx.cell p2
  replace p3 := hx.cell p3
  replace p4 := hx.cell p4
  replace q0 := hx.cell q0
  replace q1 := hx.cell q1
  replace q2 := hx.cell q2
  replace q3 := hx.cell q3
  replace q4 := hx.cell q4
  replace r0 := hx.cell r0
  replace r1 := hx.cell r1
  replace r2 := hx.cell r2
  replace r3 := hx.cell r3
  replace r4 := hx.cell r4
  replace d0 := hx.cell d0
  replace d1 := hx.cell d1
  replace g0 := hx.cell g0
  replace g1 := hx.cell g1
  replace t0 := hx.cell t0
  replace t1 := hx.cell t1
  replace zp : b1 < w9.heap.size := cell_lt p0
  replace zq : b2 < w9.heap.size := cell_lt q0
  replace zr : b3 < w9.heap.size := cell_lt r0
  replace zd : db < w9.heap.size := cell_lt d0
  replace zg : gb < w9.heap.size := cell_lt g0
  replace zt : tb < w9.heap.size := cell_lt t0
  replace x1 := x1.trans hx
  clear hx
  obtain ⟨u2a, u2c, rfl, -⟩ := hu2.shape
  go_wp2_with fail
  refine (kn_paid _ _ hH).mono ?_
  rintro e w10 ⟨rfl, hx⟩
  replace hH := hH.ext hx
  replace hJ := hJ.ext hx
  replace hV := hV.ext hx
  replace hu1 := hu1.ext hx
  replace hu2 := hu2.ext hx
  replace p0 := hx.cell p0
  replace p1 := hx.cell p1
  replace p2 := hx.cell p2
  replace p3 := hx.cell p3
  replace p4 := hx.cell p4
  replace q0 := hx.cell q0
  replace q1 := hx.cell q1
  replace q2 := hx.cell q2
  replace q3 := hx.cell q3
  replace q4 := hx.cell q4
  replace r0 := hx.cell r0
  replace r1 := hx.cell r1
  replace r2 := hx.cell r2
  replace r3 := hx.cell r3
  replace r4 := hx.cell r4
  replace d0 := hx.cell d0
  replace d1 := hx.cell d1
  replace g0 := hx.cell g0
  replace g1 := hx.cell g1
  replace t0 := hx.cell t0
  replace t1 := hx.cell t1
  replace zp : b1 < w10.heap.size := cell_lt p0
  replace zq : b2 < w10.heap.size := cell_lt q0
  replace zr : b3 < w10.heap.size := cell_lt r0
  replace zd : db < w10.heap.size := cell_lt d0
  replace zg : gb < w10.heap.size := cell_lt g0
  replace zt : tb < w10.heap.size := cell_lt t0
  replace x1 := x1.trans hx
  clear hx
  go_wp2_with fail
  refine (kn_send _ _ (hH.ext (ext_alloc _ _))).mono ?_
  rintro e w11 ⟨rfl, hx'⟩
  have hx := hx'.of_alloc
  have y0 : w11.cell? ⟨w10.heap.size, 0, none⟩ = some (.int .i64 30) := hx'.cell (by simp [go_sem])
  have y1 : w11.cell? ⟨w10.heap.size, 1, none⟩ = some (.int .i64 30) := hx'.cell (by simp [go_sem])
  clear hx'
  replace hH := hH.ext hx
  replace hJ := hJ.ext hx
  replace hV := hV.ext hx
  replace hu1 := hu1.ext hx
  replace hu2 := hu2.ext hx
  replace p0 := hx.cell p0
  replace p1 := hx.cell p1
  replace p2 := hx.cell p2
  replace p3 := hx.cell p3
  replace p4 := hx.cell p4
  replace q0 := hx.cell q0
  replace q1 := hx.cell q1
  replace q2 := hx.cell q2
  replace q3 := hx.cell q3
  replace q4 := hx.cell q4
  replace r0 := hx.cell r0
  replace r1 := hx.cell r1
  replace r2 := hx.cell r2
  replace r3 := hx.cell r3
  replace r4 := hx.cell r4
  replace d0 := hx.cell d0
  replace d1 := hx.cell d1
  replace g0 := hx.cell g0
  replace g1 := hx.cell g1
  replace t0 := hx.cell t0
  replace t1 := hx.cell t1
  replace zp : b1 < w11.heap.size := cell_lt p0
  replace zq : b2 < w11.heap.size := cell_lt q0
  replace zr : b3 < w11.heap.size := cell_lt r0
  replace zd : db < w11.heap.size := cell_lt d0
  replace zg : gb < w11.heap.size := cell_lt g0
  replace zt : tb < w11.heap.size := cell_lt t0
  replace x1 := x1.trans hx
  obtain ⟨yb, hyb⟩ : ∃ b, b = w10.heap.size := ⟨_, rfl⟩
  rw [← hyb] at y0 y1 ⊢
  clear hyb
  have zy : yb < w11.heap.size := cell_lt y0
  clear hx
  go_wp2_with fail
  clear hH hJ hV p0 p1 p2 p3 p4 q0 q1 q2 q3 q4 r0 r1 r2 r3 r4 zp zq zr
  apply Facts.wp_frame
  intro A hA
  have f4 : ∀ h, A.tmps[4]'h = .slice u1a 2 u1c := by rw [hA]; exact fun _ => rfl
  have f5 : ∀ h, A.tmps[5]'h = .int .i64 1 := by rw [hA]; exact fun _ => rfl
  have f6 : ∀ h, A.tmps[6]'h = .int .i64 0 := by rw [hA]; exact fun _ => rfl
  have f7 : ∀ h, A.tmps[7]'h = .pointer (some ⟨db, 0, none⟩) := by rw [hA]; exact fun _ => rfl
  have f8 : ∀ h, A.tmps[8]'h = .int .i64 0 := by rw [hA]; exact fun _ => rfl
  have f9 : ∀ h, A.tmps[9]'h = .pointer (some ⟨gb, 0, none⟩) := by rw [hA]; exact fun _ => rfl
  have f10 : ∀ h, A.tmps[10]'h = .int .i64 0 := by rw [hA]; exact fun _ => rfl
  have f11 : ∀ h, A.tmps[11]'h = .pointer (some ⟨tb, 0, none⟩) := by rw [hA]; exact fun _ => rfl
  have f12 : ∀ h, A.tmps[12]'h = .int .i64 0 := by rw [hA]; exact fun _ => rfl
  have f13 : ∀ h, A.tmps[13]'h = .int .i64 0 := by rw [hA]; exact fun _ => rfl
  have f14 : ∀ h, A.tmps[14]'h = .int .i64 0 := by rw [hA]; exact fun _ => rfl
  have f15 : ∀ h, A.tmps[15]'h = .slice u2a 1 u2c := by rw [hA]; exact fun _ => rfl
  have f16 : ∀ h, A.tmps[16]'h = .int .i64 0 := by rw [hA]; exact fun _ => rfl
  have f17 : ∀ h, A.tmps[17]'h = .pointer (some ⟨yb, 0, none⟩) := by rw [hA]; exact fun _ => rfl
  have f18 : ∀ h, A.tmps[18]'h = .int .i64 0 := by rw [hA]; exact fun _ => rfl
  have f19 : ∀ h, A.tmps[19]'h = .int .i64 0 := by rw [hA]; exact fun _ => rfl
  have f20 : ∀ h, A.tmps[20]'h = .int .i64 16 := by rw [hA]; exact fun _ => rfl
  have f21 : ∀ h, A.tmps[21]'h = .int .i64 0 := by rw [hA]; exact fun _ => rfl
  have fsz : A.tmps.size = 146 := by rw [hA]; rfl
  have HA := Lib.hid hA
  clear hA hsp
  have hu1 : IntsAt w11 (.slice u1a 2 u1c) [12, 11] := hu1
  have hu2 : IntsAt w11 (.slice u2a 1 u2c) [1] := hu2
  apply Facts.wp_region (.val _ :: .val _ :: .val _ :: .val _ :: .val _ :: .val _ :: .val _ :: .val _ :: .val _ :: .val _ :: .val _ :: .val _ :: .val _ :: .val _ :: .val _ :: .val _ :: .val _ :: .val _ :: .val _ :: .val _ :: .val _ :: .val _ :: .val _ :: .val _ :: .val _ :: .val _ :: .val _ :: .val _ :: .val _ :: .val _ :: .val _ :: .val _ :: .fact (fun u w => IntsAt w u [12, 11]) :: .val _ :: .val _ :: .val _ :: .val _ :: .val _ :: .val _ :: .val _ :: .val _ :: .val _ :: .val _ :: .val _ :: .val _ :: .val _ :: .val _ :: .val _ :: .val _ :: .val _ :: .val _ :: .val _ :: .val _ :: .val _ :: .val _ :: .val _ :: .val _ :: .val _ :: .val _ :: .val _ :: .fact (fun u w => IntsAt w u [1]) :: .val _ :: .val _ :: .val _ :: .val _ :: .val _ :: .val _ :: .val _ :: .val _ :: .val _ :: .val _ :: .val _ :: .val _ :: .val _ :: .val _ :: .val _ :: .val _ :: .val _ :: .val _ :: .val _ :: []) (by kernel_rfl) (by kernel_rfl) ⟨fun u a c hx h => IntsAt.ext h hx, fun u a c hx h => IntsAt.ext h hx, trivial⟩ ?main
  case main =>
    iterate 32 (refine ⟨fun w1 hx hh => ?_, ?_⟩; focus (clear hh; skip; go_simp; first | exact ⟨Ext.refl _, rfl⟩ | exact Ext.refl _))
    refine ⟨fun w1 hx hh => ?_, ?_⟩
    · clear hh
      go_simp
      exact ⟨ext_alloc _ _, IntsAt.twoA (m := 11) (n := 12) rfl (I64.lit (by decide)) (I64.lit (by decide))⟩
    intro u32
    refine ⟨fun w1 hx hh => ?_, ?_⟩
    · have h1 : IntsAt w1 u32 [12, 11] := hh 32 _ List.mem_cons_self (by kernel_rfl)
      clear hh
      go_simp
      refine (ints_any _ _ [12, 11] [12, 11] _ (hu1.ext hx) h1).mono ?_
      rintro e w' ⟨rfl, hx2⟩
      exact ⟨_, rfl, hx2, rfl⟩
    iterate 6 (refine ⟨fun w1 hx hh => ?_, ?_⟩; focus (clear hh; skip; go_simp; first | exact ⟨Ext.refl _, rfl⟩ | exact Ext.refl _))
    iterate 1 (refine ⟨fun w1 hx hh => ?_, ?_⟩; focus (clear hh; have e0 := hx.cell d0; have e1 := hx.cell d1; go_simp; first | exact ⟨Ext.refl _, rfl⟩ | exact Ext.refl _))
    refine ⟨fun w1 hx hh => ?_, ?_⟩
    · clear hh
      go_simp
      refine (lawSpan_any 12 12 _).mono ?_
      rintro e w' ⟨rfl, hx2⟩
      exact ⟨_, rfl, hx2, rfl⟩
    iterate 1 (refine ⟨fun w1 hx hh => ?_, ?_⟩; focus (clear hh; have e0 := equalInE_span; go_simp; first | exact ⟨Ext.refl _, rfl⟩ | exact Ext.refl _))
    iterate 2 (refine ⟨fun w1 hx hh => ?_, ?_⟩; focus (clear hh; skip; go_simp; first | exact ⟨Ext.refl _, rfl⟩ | exact Ext.refl _))
    iterate 1 (refine ⟨fun w1 hx hh => ?_, ?_⟩; focus (clear hh; have e0 := hx.cell g0; have e1 := hx.cell g1; go_simp; first | exact ⟨Ext.refl _, rfl⟩ | exact Ext.refl _))
    refine ⟨fun w1 hx hh => ?_, ?_⟩
    · clear hh
      go_simp
      refine (lawSpan_any 15 21 _).mono ?_
      rintro e w' ⟨rfl, hx2⟩
      exact ⟨_, rfl, hx2, rfl⟩
    iterate 1 (refine ⟨fun w1 hx hh => ?_, ?_⟩; focus (clear hh; have e0 := equalInE_span; go_simp; first | exact ⟨Ext.refl _, rfl⟩ | exact Ext.refl _))
    iterate 2 (refine ⟨fun w1 hx hh => ?_, ?_⟩; focus (clear hh; skip; go_simp; first | exact ⟨Ext.refl _, rfl⟩ | exact Ext.refl _))
    iterate 1 (refine ⟨fun w1 hx hh => ?_, ?_⟩; focus (clear hh; have e0 := hx.cell t0; have e1 := hx.cell t1; go_simp; first | exact ⟨Ext.refl _, rfl⟩ | exact Ext.refl _))
    refine ⟨fun w1 hx hh => ?_, ?_⟩
    · clear hh
      go_simp
      refine (lawSpan_any 0 0 _).mono ?_
      rintro e w' ⟨rfl, hx2⟩
      exact ⟨_, rfl, hx2, rfl⟩
    iterate 1 (refine ⟨fun w1 hx hh => ?_, ?_⟩; focus (clear hh; have e0 := equalInE_span; go_simp; first | exact ⟨Ext.refl _, rfl⟩ | exact Ext.refl _))
    iterate 7 (refine ⟨fun w1 hx hh => ?_, ?_⟩; focus (clear hh; skip; go_simp; first | exact ⟨Ext.refl _, rfl⟩ | exact Ext.refl _))
    refine ⟨fun w1 hx hh => ?_, ?_⟩
    · clear hh
      go_simp
      exact ⟨ext_alloc _ _, IntsAt.oneAt (n := 1) rfl (I64.lit (by decide))⟩
    intro u60
    refine ⟨fun w1 hx hh => ?_, ?_⟩
    · have h1 : IntsAt w1 u60 [1] := hh 60 _ List.mem_cons_self (by kernel_rfl)
      clear hh
      go_simp
      refine (ints_any _ _ [1] [1] _ (hu2.ext hx) h1).mono ?_
      rintro e w' ⟨rfl, hx2⟩
      exact ⟨_, rfl, hx2, rfl⟩
    iterate 2 (refine ⟨fun w1 hx hh => ?_, ?_⟩; focus (clear hh; skip; go_simp; first | exact ⟨Ext.refl _, rfl⟩ | exact Ext.refl _))
    iterate 1 (refine ⟨fun w1 hx hh => ?_, ?_⟩; focus (clear hh; have e0 := hx.cell y0; have e1 := hx.cell y1; go_simp; first | exact ⟨Ext.refl _, rfl⟩ | exact Ext.refl _))
    refine ⟨fun w1 hx hh => ?_, ?_⟩
    · clear hh
      go_simp
      refine (lawSpan_any 30 30 _).mono ?_
      rintro e w' ⟨rfl, hx2⟩
      exact ⟨_, rfl, hx2, rfl⟩
    iterate 1 (refine ⟨fun w1 hx hh => ?_, ?_⟩; focus (clear hh; have e0 := equalInE_span; go_simp; first | exact ⟨Ext.refl _, rfl⟩ | exact Ext.refl _))
    iterate 10 (refine ⟨fun w1 hx hh => ?_, ?_⟩; focus (clear hh; skip; go_simp; first | exact ⟨Ext.refl _, rfl⟩ | exact Ext.refl _))
    refine ⟨fun w1 hx hh => ?_, ?_⟩
    · clear hh
      go_simp
      refine (awakeR_any _).mono ?_
      rintro e w' ⟨rfl, hx2⟩
      exact ⟨_, rfl, hx2, rfl⟩
    iterate 2 (refine ⟨fun w1 hx hh => ?_, ?_⟩; focus (clear hh; skip; go_simp; first | exact ⟨Ext.refl _, rfl⟩ | exact Ext.refl _))
    intro wz hx hh
    clear hh
    have hA := HA.out
    subst hA
    replace x1 := x1.trans hx
    go_simp
    go_wp2
    go_ret
    exact ⟨rfl, x1⟩
end Go.Proofs.Ytpflfincedllgaa

namespace Go.Proofs.Ytpflfincedllgaa
set_option linter.unusedSimpArgs false
set_option linter.unusedVariables false
open Go.ChangeShapes Go.WideShapes Go.ChangeAt Go.RowKit
section
variable {H : Type} {enc : TypeId × Value → H} {P : Program}
/-- a call that lets all that was there be, and answers as it should, keeps a law's word -/
theorem post_ext {f : Func} {s : ChangeSpec} {apart fresh handsOn again : Bool} {W W' : World} {args : Array Value} {v : Value} {ds gs : List (DataW H)} {before pa pv : List MemPlace}
    (hW : DataW.Whole enc P f.params.toList s.vars apart W args.toList ds gs before)
    (hres : ∀ (b : Nat) (sp : Nat → Bool) (hd : Bool), DataW.TrodAll enc P W' b sp hd f.resultTypes.toList (v.resultList f.resultTypes.size) (s.fn H (ds ++ gs)).results [])
    (hargs : ∀ sp : Nat → Bool, (∀ p ∈ before, sp p.block = true) → DataW.TrodAll enc P W' 0 sp true f.params.toList args.toList (s.fn H (ds ++ gs)).args pa)
    (hvars : ∀ sp : Nat → Bool, (∀ p ∈ before, sp p.block = true) → DataW.TrodVars enc P W' sp s.vars (s.fn H (ds ++ gs)).vars pv)
    (hps : before = pa ++ pv) (hx : Ext W W')
    (hok : ∀ (j : Nat) (t : TypeId) (r : Value), f.resultTypes[j]? = some t → (v.resultList f.resultTypes.size)[j]? = some r → Value.okWide P W' .any 0 t r) :
    s.post enc P f apart fresh handsOn again W args v W' := by
  have hlt := hW.lt
  have hold : ∀ p ∈ before, (fun b => decide (b < W.heap.size)) p.block = true := fun p hp => decide_eq_true (hlt p hp)
  have hin : ∀ p ∈ before, p ∈ pa ∨ p ∈ pv := fun p hp => List.mem_append.1 (hps ▸ hp)
  refine ⟨ds, gs, before, [], pa, pv, hW, hres _ _ _, hargs _ hold, hvars _ hold, World.keptBut_mono (fun p (hp : p ∈ before) => ⟨hp, .inr (hin p hp)⟩) (Below.frame hx _), fun _ => ⟨hok, ?_⟩⟩
  obtain ⟨_, _, _, _, _, hz, hn⟩ := hW
  refine ⟨_, _, pa ++ pv, ⟨[] ++ pa, pv, trodAll_append (hargs _ (fun _ _ => rfl)) (hres _ _ _), hvars _ (fun _ _ => rfl), by simp, fun b off hp => ?_, fun ha => by rw [← hps]; exact hn ha⟩, fun p hp _ => by rw [hps]; exact hp⟩
  rw [← hps] at hp
  rw [hx.frozen (p := ⟨b, off, none⟩) (hlt _ hp)]
  exact hz b off hp
end
end Go.Proofs.Ytpflfincedllgaa

namespace Go.Proofs.Ytpflfincedllgaa
set_option linter.unusedSimpArgs false
set_option linter.unusedVariables false
open Go.RowKit
set_option linter.unusedVariables false

/-- whether a day's rate is no further from that of the day before than a step -/
def stepOk (h : House) (d : Nat) (q : List Int) (x : Int) : Bool := if d = 0 then true else inM (x - q.getD (d - 1) 0) (0 - h.step) h.step
def extTo (h : House) (d : Nat) (q : List Int) (m : Int) : List (List Int) := ((rangeI (spanAt h d).1 (m - 1)).filter (stepOk h d q)).map fun x => q ++ [x]
def rExt (h : House) (d : Nat) (q : List Int) : List (List Int) := (rangeI (loAt h d q) (hiAt h d q)).map fun x => q ++ [x]
theorem rangeI_snoc {a m : Int} (h : a ≤ m) : rangeI a m = rangeI a (m - 1) ++ [m] := by
  unfold rangeI numI
  rw [show (m + 1 - a).toNat = (m - 1 + 1 - a).toNat + 1 from by omega, List.range_succ, List.map_append, List.map_singleton]
  rw [show a + (((m - 1 + 1 - a).toNat : Nat) : Int) = m from by omega]
theorem extTo_first (h : House) (d : Nat) (q : List Int) : extTo h d q (spanAt h d).1 = [] := by
  unfold extTo
  rw [rangeI_nil (by omega)]; rfl
theorem extTo_yes (h : House) (d : Nat) (q : List Int) (m : Int) (hm : (spanAt h d).1 ≤ m) (ho : stepOk h d q m = true) : extTo h d q (m + 1) = extTo h d q m ++ [q ++ [m]] := by
  unfold extTo
  rw [show m + 1 - 1 = m from by omega, rangeI_snoc hm, List.filter_append, List.map_append]
  simp [ho]
theorem extTo_no (h : House) (d : Nat) (q : List Int) (m : Int) (hm : (spanAt h d).1 ≤ m) (ho : stepOk h d q m = false) : extTo h d q (m + 1) = extTo h d q m := by
  unfold extTo
  rw [show m + 1 - 1 = m from by omega, rangeI_snoc hm, List.filter_append, List.map_append]
  simp [ho]
theorem extTo_len (h : House) (d : Nat) (q : List Int) (m : Int) (h1 : 1 ≤ (spanAt h d).1) (hm : m ≤ 21) : (extTo h d q m).length ≤ 20 := by
  unfold extTo
  rw [List.length_map]
  have := List.length_filter_le (stepOk h d q) (rangeI (spanAt h d).1 (m - 1))
  rw [rangeI_len] at this
  unfold numI at this
  omega
theorem extTo_all (h : House) (d : Nat) (q : List Int) : extTo h d q ((spanAt h d).2 + 1) = rExt h d q := by
  unfold extTo rExt
  rw [show (spanAt h d).2 + 1 - 1 = (spanAt h d).2 from by omega]
  congr 1
  by_cases hd : d = 0
  · have e : stepOk h d q = fun _ => true := by funext x; unfold stepOk; rw [if_pos hd]
    rw [e]
    unfold loAt hiAt
    rw [if_pos hd, if_pos hd]
    simp
  · have e : stepOk h d q = fun x => decide (q.getD (d - 1) 0 - h.step ≤ x) && decide (x ≤ q.getD (d - 1) 0 + h.step) := by
      funext x
      unfold stepOk
      rw [if_neg hd, Bool.eq_iff_iff, inM_iff]
      simp only [Bool.and_eq_true, decide_eq_true_eq]
      omega
    rw [e, filter_rangeI _ _ _ _ _ rfl]
    unfold loAt hiAt
    rw [if_neg hd, if_neg hd]
theorem levels_is (h : House) (d : Nat) : levelsR h d = ratesTo h d 0 [] := by
  have := levels_to h d 0
  rw [Nat.zero_add] at this
  rw [this]; simp [levelsR]
theorem levels_succ (h : House) (d : Nat) : levelsR h (d + 1) = (levelsR h d).flatMap (rExt h d) := rfl
theorem levels_len {h : House} (hv : ValidH h) {d : Nat} (hd : d ≤ h.days.toNat) : (levelsR h d).length ≤ 8000 := by
  rw [levels_is]
  have h1 := ratesTo_len hv d 0 [] (by omega)
  have h2 : 20 ^ d ≤ 20 ^ 3 := Nat.pow_le_pow_right (by omega) (by have := hv.days; omega)
  exact Nat.le_trans h1 (Nat.le_trans h2 (by decide))
theorem levels_mem {h : House} (hv : ValidH h) {d : Nat} (hd : d ≤ h.days.toNat) : ∀ q ∈ levelsR h d, q.length = d ∧ ∀ x ∈ q, 1 ≤ x ∧ x ≤ 20 := by
  intro q hq
  rw [levels_is] at hq
  obtain ⟨t, e, ht⟩ := ratesTo_ext h _ _ _ q hq
  rw [List.nil_append] at e
  subst e
  refine ⟨ht, fun x hx => ?_⟩
  obtain ⟨i, hi, rfl⟩ := List.getElem_of_mem hx
  have h1 := ratesTo_in h _ 0 [] rfl q hq i (by omega) (by omega)
  have h2 := hv.span (d := i) (by have := hv.many; have := hv.days; omega)
  rw [List.getD_eq_getElem?_getD, List.getElem?_eq_getElem hi] at h1
  simp only [Option.getD_some] at h1
  omega
theorem rExt_len {h : House} (hv : ValidH h) {d : Nat} (hd : d < h.days.toNat) (q : List Int) : (rExt h d q).length ≤ 20 := by
  rw [← extTo_all]
  have h2 := hv.span (d := d) (by have := hv.many; have := hv.days; omega)
  exact extTo_len h d q _ h2.1 (by omega)
theorem rExt_flat {h : House} (hv : ValidH h) {d : Nat} (hd : d < h.days.toNat) (LL : List (List Int)) : (LL.flatMap (rExt h d)).length ≤ LL.length * 20 :=
  rflatMap_len _ 20 LL fun x _ => rExt_len hv hd x
theorem rExt_next (h : House) (d : Nat) (LL : List (List Int)) (q : Nat) (hq : q < LL.length) : (LL.take (q + 1)).flatMap (rExt h d) = (LL.take q).flatMap (rExt h d) ++ rExt h d LL[q] := by
  rw [List.take_succ_eq_append_getElem hq, List.flatMap_append]
  simp
end Go.Proofs.Ytpflfincedllgaa

namespace Go.Proofs.Ytpflfincedllgaa
set_option linter.unusedSimpArgs false
set_option linter.unusedVariables false
open Go.RowKit
set_option linter.unusedVariables false

/-- a list of lists -/
def listRI (w : World) (b o : Nat) (l : List Int) : Prop := ∃ s, w.cell? ⟨b, o, none⟩ = some s ∧ IntsAt w s l
theorem listRI.keeps : Keeps listRI := fun _ _ _ _ _ hx ⟨s, h1, h2⟩ => ⟨s, hx.cell h1, h2.ext hx⟩
abbrev ListsAtI : World → Value → List (List Int) → Prop := SliceAt 1 listRI
theorem ListsAtI.ext {w w' : World} {v : Value} {l : List (List Int)} (h : ListsAtI w v l) (hx : Ext w w') : ListsAtI w' v l := SliceAt.ext listRI.keeps h hx
theorem IntsAt.nothingI (w : World) : IntsAt w (.slice none 0 0) [] := ⟨none, 0, rfl, Nat.le_refl _, by decide, fun i hi => absurd hi (Nat.not_lt_zero _)⟩
theorem IntsAt.grownByI {w w' : World} {row : Option Nat} {sa : Option Addr} {n sc : Nat} {l : List Int} (h : IntsAt w (.slice sa n sc) l) (hg : w.grownBy w' row) (hne : ∀ ad, sa = some ad → some ad.block ≠ row) : IntsAt w' (.slice sa n sc) l := by
  obtain ⟨a, cap, e, h2, h3, h4⟩ := h
  obtain ⟨rfl, rfl, rfl⟩ := Value.slice.inj e
  refine ⟨_, _, rfl, h2, h3, fun i hi => ?_⟩
  obtain ⟨b, o, rfl, r⟩ := h4 i hi
  exact ⟨b, o, rfl, hg.cell r.1 (show some b ≠ row from hne ⟨b, o, none⟩ rfl), r.2⟩
/-- one element: a slice with these numbers, not in the row's own block -/
def ElemAtI (w : World) (own : Option Nat) (x : Value) (L : List Int) : Prop := ∃ sa sc, x = .slice sa L.length sc ∧ IntsAt w (.slice sa L.length sc) L ∧ ∀ ad, sa = some ad → ad.block < w.heap.size ∧ some ad.block ≠ own
/-- a row of lists of one's own -/
def ListsOwnI (w : World) (base : Nat) (v : Value) (LL : List (List Int)) : Prop :=
  ∃ vs : List Value, w.ownsRow base 30 1 v LL.length vs ∧ ∀ (i : Nat) (x : Value) (L : List Int), vs[i]? = some x → LL[i]? = some L → ElemAtI w v.ownBlock x L
theorem ListsOwnI.nil (w : World) (base : Nat) : ListsOwnI w base (.slice none 0 0) [] := ⟨[], World.ownsRow_nil _ _ _ _, fun i x L h => by simp at h⟩
theorem ListsOwnI.ext {w w' : World} {base : Nat} {v : Value} {LL : List (List Int)} (h : ListsOwnI w base v LL) (hx : Ext w w') : ListsOwnI w' base v LL := by
  obtain ⟨vs, h1, h2⟩ := h
  refine ⟨vs, Ext.owns h1 hx, fun i x L hi hL => ?_⟩
  obtain ⟨sa, sc, rfl, h3, h4⟩ := h2 i x L hi hL
  exact ⟨sa, sc, rfl, h3.ext hx, fun ad e => ⟨Nat.lt_of_lt_of_le (h4 ad e).1 hx.size, (h4 ad e).2⟩⟩
theorem ListsOwnI.at_ {w : World} {base : Nat} {v : Value} {LL : List (List Int)} (h : ListsOwnI w base v LL) : ListsAtI w v LL := by
  obtain ⟨vs, h1, h2⟩ := h
  have hlen : vs.length = LL.length := by have := h1.1; omega
  have hcells := fun g hg => h1.cells (g := g) hg
  rcases h1.2 with ⟨rfl, hn⟩ | ⟨g, cap, cur, rfl, hb, hg, hnc, hcm, hcs, htake⟩
  · have : LL = [] := List.eq_nil_of_length_eq_zero hn
    subst this; exact SliceAt.nil
  · refine ⟨_, _, rfl, hnc, by simpa [maxLen] using hcm, fun i hi => ⟨g, 0, rfl, ?_⟩⟩
    have hv : vs[i]? = some vs[i] := List.getElem?_eq_getElem (by omega)
    obtain ⟨sa, sc, e, h3, -⟩ := h2 i vs[i] LL[i] hv (List.getElem?_eq_getElem hi)
    have := hcells g rfl i vs[i] hv
    have ea : (⟨g, 0, none⟩ : Addr).add i = ⟨g, 0 + i * 1, none⟩ := by unfold Addr.add; split <;> simp_all
    rw [ea, e] at this
    exact ⟨_, this, h3⟩
/-- one more list at the end -/
theorem ListsOwnI.push {w wA w' : World} {base : Nat} {v v' x : Value} {LL : List (List Int)} {L : List Int} {vs : List Value} (h1 : w.ownsRow base 30 1 v LL.length vs) (h2 : ∀ (i : Nat) (x : Value) (L : List Int), vs[i]? = some x → LL[i]? = some L → ElemAtI w v.ownBlock x L) (hx : Ext w wA) {t : TypeId}
    (hv : ∃ sa sc, x = .slice sa L.length sc ∧ IntsAt wA x L ∧ ∀ ad, sa = some ad → w.heap.size ≤ ad.block ∧ ad.block < wA.heap.size)
    (hown : w'.ownsRow base 30 1 v' (LL.length + 1) (vs ++ [x])) (hg : (wA.alloc (.cells #[x] t)).grownBy w' v.ownBlock) (hb : v'.ownBlock = v.ownBlock ∨ v'.ownBlock = some (wA.heap.size + 1)) :
    ListsOwnI w' base v' (LL ++ [L]) := by
  have hlt := fun k hk => h1.lt k hk
  have h2A : ∀ (i : Nat) (x : Value) (L : List Int), vs[i]? = some x → LL[i]? = some L → ElemAtI wA v.ownBlock x L := fun i x L hi hL => by
    obtain ⟨sa, sc, rfl, h3, h4⟩ := h2 i x L hi hL
    exact ⟨sa, sc, rfl, h3.ext hx, fun ad e => ⟨Nat.lt_of_lt_of_le (h4 ad e).1 hx.size, (h4 ad e).2⟩⟩
  have hlen : vs.length = LL.length := by have := h1.1; omega
  have hg0 : wA.grownBy (wA.alloc (.cells #[x] t)) v.ownBlock := World.grownBy_alloc _ _ _
  have hsz : (wA.alloc (.cells #[x] t)).heap.size = wA.heap.size + 1 := by simp
  have hsz2 := hg.size
  have keep : ∀ (sa : Option Addr) (n sc : Nat) (l : List Int), IntsAt wA (.slice sa n sc) l → (∀ ad, sa = some ad → ad.block < wA.heap.size ∧ some ad.block ≠ v.ownBlock) → IntsAt w' (.slice sa n sc) l ∧ ∀ ad, sa = some ad → ad.block < w'.heap.size ∧ some ad.block ≠ v'.ownBlock := fun sa n sc l hi hne => by
    refine ⟨(hi.grownByI hg0 fun ad e => (hne ad e).2).grownByI hg fun ad e => (hne ad e).2, fun ad e => ⟨by have := (hne ad e).1; omega, ?_⟩⟩
    rcases hb with hb | hb
    · rw [hb]; exact (hne ad e).2
    · rw [hb]; intro e2; have := (hne ad e).1; have := Option.some.inj e2; omega
  refine ⟨vs ++ [x], by rw [List.length_append]; exact hown, fun i y M hi hM => ?_⟩
  rcases Nat.lt_or_ge i vs.length with h3 | h3
  · rw [List.getElem?_append_left h3] at hi
    rw [List.getElem?_append_left (by omega)] at hM
    obtain ⟨sa, sc, rfl, h4, h5⟩ := h2A i y M hi hM
    obtain ⟨k1, k2⟩ := keep sa _ sc _ h4 h5
    exact ⟨sa, sc, rfl, k1, k2⟩
  · rw [List.getElem?_append_right h3] at hi
    rw [List.getElem?_append_right (by omega)] at hM
    have hi0 : i - vs.length = 0 := by
      rcases Nat.eq_zero_or_pos (i - vs.length) with h6 | h6
      · exact h6
      · rw [List.getElem?_eq_none (by simp; omega)] at hi; cases hi
    rw [hi0] at hi
    rw [show i - LL.length = 0 from by omega] at hM
    obtain rfl : x = y := by simpa using hi
    obtain rfl : L = M := by simpa using hM
    obtain ⟨sa, sc, rfl, h4, h5⟩ := hv
    obtain ⟨k1, k2⟩ := keep sa _ sc _ h4 fun ad e => ⟨(h5 ad e).2, fun e2 => by have := (hlt ad.block e2.symm).2; have := (h5 ad e).1; omega⟩
    exact ⟨sa, sc, rfl, k1, k2⟩
theorem intsI_news {w : World} {ad : Addr} {n c : Nat} {l : List Int} (h : IntsAt w (.slice (some ad) n c) l) : ∀ j u, (l.map (Value.int .i64))[j]? = some u → w.cell? (ad.add j) = some u := by
  intro j u hu
  have hj : j < l.length := by
    rcases Nat.lt_or_ge j l.length with h1 | h1
    · exact h1
    · rw [List.getElem?_eq_none (by simpa using h1)] at hu; cases hu
  obtain ⟨a, cap, e, -, -, h4⟩ := h
  obtain ⟨b, o, e2, r⟩ := h4 j hj
  have e3 := (Value.slice.inj e).1
  rw [e2] at e3
  obtain rfl := Option.some.inj e3
  rw [List.getElem?_eq_getElem (by simpa using hj)] at hu
  obtain rfl := Option.some.inj hu
  have ea : (⟨b, o, none⟩ : Addr).add j = ⟨b, o + j * 1, none⟩ := by unfold Addr.add; split <;> simp_all
  rw [ea, List.getElem_map]
  exact r.1
theorem intsI_cells (l : List Int) : ∀ u ∈ l.map (Value.int .i64), u.oneCell' = true := fun u hu => by
  obtain ⟨x, -, rfl⟩ := List.mem_map.1 hu
  simp [Value.oneCell']
theorem infoIntsI : (Try.prog.info? 30).map (fun i => (i.zero, i.size, i.bytes)) = some (some (.slice none 0 0), 1, 24) := by kernel_rfl
/-- a list of lists where a list of nothing is nil -/
def listZI (w : World) (b o : Nat) (l : List Int) : Prop := ∃ s, w.cell? ⟨b, o, none⟩ = some s ∧ IntsAt w s l ∧ (l = [] → s = .slice none 0 0)
theorem listZI.keeps : Keeps listZI := fun _ _ _ _ _ hx ⟨s, h1, h2, h3⟩ => ⟨s, hx.cell h1, h2.ext hx, h3⟩
abbrev ListsZI : World → Value → List (List Int) → Prop := SliceAt 1 listZI
theorem ListsZI.ext {w w' : World} {v : Value} {l : List (List Int)} (h : ListsZI w v l) (hx : Ext w w') : ListsZI w' v l := SliceAt.ext listZI.keeps h hx
theorem ListsZI.of {w : World} {v : Value} {l : List (List Int)} (h : ListsAtI w v l) (hne : ∀ L ∈ l, L ≠ []) : ListsZI w v l := by
  obtain ⟨a, cap, e, h2, h3, h4⟩ := h
  refine ⟨a, cap, e, h2, h3, fun i hi => ?_⟩
  obtain ⟨b, o, e2, s, h5, h6⟩ := h4 i hi
  exact ⟨b, o, e2, s, h5, h6, fun e3 => absurd e3 (hne _ (List.getElem_mem hi))⟩
theorem ListsZI.at_ {w : World} {v : Value} {l : List (List Int)} (h : ListsZI w v l) : ListsAtI w v l := by
  obtain ⟨a, cap, e, h2, h3, h4⟩ := h
  refine ⟨a, cap, e, h2, h3, fun i hi => ?_⟩
  obtain ⟨b, o, e2, s, h5, h6, -⟩ := h4 i hi
  exact ⟨b, o, e2, s, h5, h6⟩
end Go.Proofs.Ytpflfincedllgaa
