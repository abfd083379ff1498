/-
  WHAT THE SMALL FUNCTIONS ON LISTS OF NUMBERS RETURN: the error of something heard, whether numbers are ascending, the bits of some indices, the indices of some bits.
-/
import Derived.Test.YtbodmgilcohfjaaCheck
namespace Go.Proofs.Ytbodmgilcohfjaa
open Go.RowKit

def heardErrM (S : Int) (l : List Int) : Int := if 5 < l.length then 3 else if withinM 0 (S - 1) l = false then 7 else 0
set_option maxRecDepth 100000 in
theorem heardError_any (bv v : Value) (b : Book) (hS : 1 ≤ b.sounds ∧ b.sounds ≤ 4) (l : List Int) (w : World) (hb : BookAt w bv b) (hl : IntsAt w v l) :
    Calls Try.prog 63 #[bv, v] w fun e w' => e = .returned (.int .i64 (heardErrM b.sounds l)) ∧ Ext w w' := by
  obtain ⟨ba, bc, bs, bd, rfl, -⟩ := hb.open
  obtain ⟨a, cap, rfl, hlc, hcm⟩ := hl.shape
  by_cases h5 : (5 : Int) < l.length
  · go_enter Try.func63, Try.ntmps63
    go_wp2_with fail
    go_ret
    exact ⟨ret_int (by rw [heardErrM, if_pos (by omega)]), (by first | (with_reducible exact Ext.refl _) | (with_reducible assumption) | (show Below _ _ _; go_grown; done))⟩
  go_enter Try.func63, Try.ntmps63
  go_wp2_with fail
  refine (within_any _ _ _ l _ (hl.ext (ext_alloc _ _))).mono ?_
  rintro e w' ⟨rfl, rfl⟩
  cases h : withinM 0 (b.sounds - 1) l
  all_goals
    have H := Lib.hid h; clear h
    go_wp2_with fail
    go_ret
  · exact ⟨ret_int (by rw [heardErrM, if_neg (by omega), if_pos H.out]), (by first | (with_reducible exact Ext.refl _) | (with_reducible assumption) | (show Below _ _ _; go_grown; done))⟩
  · exact ⟨ret_int (by rw [heardErrM, if_neg (by omega), if_neg (by rw [H.out]; decide)]), (by first | (with_reducible exact Ext.refl _) | (with_reducible assumption) | (show Below _ _ _; go_grown; done))⟩

def ascM (l : List Int) : Bool := (List.range l.length).all fun k => k == 0 || decide (l.getD (k - 1) 0 < l.getD k 0)
theorem ascM_no (l : List Int) (k : Nat) (h0 : 0 < k) (hk : k < l.length) (x y : Int) (hx : l[k] = x) (hy : l[k - 1]'(by omega) = y) (h : x ≤ y) : ascM l = false := by
  unfold ascM
  rw [List.all_eq_false]
  refine ⟨k, List.mem_range.2 hk, ?_⟩
  rw [List.getD_eq_getElem?_getD, List.getD_eq_getElem?_getD, List.getElem?_eq_getElem hk, List.getElem?_eq_getElem (show k - 1 < l.length by omega)]
  simp only [Option.getD_some, hx, hy]
  simp; omega
theorem ascM_yes (l : List Int) (h : ∀ k (_ : 0 < k) (hk : k < l.length), l[k - 1]'(by omega) < l[k]) : ascM l = true := by
  unfold ascM
  rw [List.all_eq_true]
  intro k hk
  have hk := List.mem_range.1 hk
  by_cases h0 : k = 0
  · subst h0; rfl
  · rw [List.getD_eq_getElem?_getD, List.getD_eq_getElem?_getD, List.getElem?_eq_getElem hk, List.getElem?_eq_getElem (show k - 1 < l.length by omega)]
    simp only [Option.getD_some]
    have := h k (by omega) hk
    simp [this]
set_option maxRecDepth 100000 in
theorem ascending_any (v : Value) (l : List Int) (w : World) (hl : IntsAt w v l) :
    Calls Try.prog 74 #[v] w fun e w' => e = .returned (.bool (ascM l)) ∧ Ext w w' := by
  obtain ⟨a, cap, rfl, hlc, hcm⟩ := hl.shape
  go_enter Try.func74, Try.ntmps74
  go_wp2
  go_loopw [3] (fun i wr => ∃ k : Nat, 1 ≤ k ∧ (k ≤ l.length ∨ k = 1) ∧ i = .int .i64 k ∧ Ext w wr ∧ ∀ j (_ : 0 < j) (hj : j < l.length), j < k → l[j - 1]'(by omega) < l[j]) (fun i _ => l.length - (intOf i).toNat)
  case atStart => exact ⟨1, by omega, .inr rfl, rfl, Ext.refl _, fun j h0 hj h1 => by omega⟩
  case round =>
    obtain ⟨k, hk0, hk, rfl, hx, hno⟩ := hrel
    have Hno := Lib.hid hno; clear hno
    by_cases hlt : k < l.length
    · obtain ⟨_, _, he, -, -, hh⟩ := hl.ext hx
      obtain ⟨b, off, rfl, c0, -⟩ := hh k hlt
      obtain ⟨b', off', he', c1, -⟩ := hh (k - 1) (by omega)
      cases he
      cases he'
      generalize hy : l[k] = y at *
      generalize hz : l[k - 1]'(by omega) = z at *
      have Hy := Lib.hid hy
      have Hz := Lib.hid hz
      clear hy hz hh
      simp only [Nat.mul_one] at c0 c1
      obtain ⟨m, hm⟩ : ∃ m, k = m + 1 := ⟨k - 1, by omega⟩
      subst hm
      simp only [Nat.add_sub_cancel] at c1 Hz
      have mw : IntKind.i64.wrap (m : Int) = m := IntWalk.i64_in _ (by omega)
      have mlt : (m : Int) < (l.length : Int) := by omega
      by_cases hyz : y ≤ z
      all_goals
        go_wp2_with fail
        apply Facts.wp_region [.val _, .val _, .val _, .val _, .val _, .val _, .val _, .val _, .val _, .val _] (by kernel_rfl) (by kernel_rfl) trivial ?main
        case main =>
          iterate 10 (refine ⟨fun w1 hx hh => ?_, ?_⟩; focus (clear hh; have e0 := hx.cell c0; have e1 := hx.cell c1; go_simp; exact ⟨Ext.refl _, rfl⟩))
          intro w1 hx1 hh
          have hx3 := hx.trans hx1
          clear hh c0 c1
          go_simp
          go_wp2
          first
            | (go_ret
               exact ⟨ret_bool (ascM_no l _ (by omega) hlt y z Hy.out Hz.out hyz).symm, hx3⟩)
            | (go_roundw
               case rel => exact ⟨m + 1 + 1, by omega, .inl (by omega), by go_num, hx3, fun j h0 hj h1 => by
                 rcases Nat.lt_or_ge j (m + 1) with hjk | hjk
                 · exact Hno.out j h0 hj hjk
                 · obtain rfl : j = m + 1 := by omega
                   have e1 := Hy.out
                   have e2 := Hz.out
                   simp only [Nat.add_sub_cancel]
                   omega⟩
               case measure => simp [intOf]; omega)
    · go_wp2
      go_ret
      exact ⟨ret_bool (ascM_yes l fun j h0 hj => Hno.out j h0 hj (by omega)).symm, hx⟩
end Go.Proofs.Ytbodmgilcohfjaa
