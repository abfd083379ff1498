/-
  WHAT THE SMALL FUNCTIONS OF THE REFERENCE RETURN: whether two lists are the same, whether one has fewer, whether a list has a number, ascending numbers, bits.
-/
import Derived.Test.YtbodmgilcohfjaaRef1
namespace Go.Proofs.Ytbodmgilcohfjaa
open Go.RowKit

theorem lessM_self (l : List Int) : lessM l l = false := by
  induction l with
  | nil => rfl
  | cons x l ih => simp [lessM, ih]
theorem lessM_total : ∀ l m : List Int, lessM l m = false → lessM m l = false → l = m
  | [], [] => fun _ _ => rfl
  | [], _ :: _ => fun h _ => by simp [lessM] at h
  | _ :: _, [] => fun _ h => by simp [lessM] at h
  | x :: l, y :: m => fun h h' => by
    by_cases e : x = y
    · subst e
      simp only [lessM, if_true] at h h'
      rw [lessM_total l m h h']
    · simp only [lessM, e, Ne.symm e, if_false, decide_eq_false_iff_not] at h h'
      omega
set_option maxHeartbeats 1000000 in
set_option maxRecDepth 100000 in
theorem ints_any (v u : Value) (l m : List Int) (w : World) (hl : IntsAt w v l) (hm : IntsAt w u m) :
    Calls Try.prog 26 #[v, u] w fun r w' => r = .returned (.bool (decide (l = m))) ∧ Ext w w' := by
  have hsl := hl.shape
  have hsm := hm.shape
  obtain ⟨a, cap, rfl, hlc, hcm⟩ := hsl
  obtain ⟨a', cap', rfl, hlc', hcm'⟩ := hsm
  by_cases h : ((l.length : Int) == (m.length : Int)) = true
  · go_enter Try.func26, Try.ntmps26
    go_wp2_with fail
    refine (less_any _ _ l m w hl hm).mono ?_
    rintro e w1 ⟨rfl, hx1⟩
    cases h1 : lessM l m
    · have H1 := Lib.hid h1; clear h1
      go_wp2_with fail
      refine (less_any _ _ m l w1 (hm.ext hx1) (hl.ext hx1)).mono ?_
      rintro e w2 ⟨rfl, hx2⟩
      have hx3 := hx1.trans hx2
      cases h2 : lessM m l
      all_goals
        have H2 := Lib.hid h2; clear h2
        go_wp2
        go_ret
        first
          | exact ⟨ret_bool (by rw [decide_eq_true (lessM_total l m H1.out H2.out)]), hx3⟩
          | exact ⟨ret_bool (by rw [eq_comm, decide_eq_false_iff_not]; intro e; subst e; have := H2.out; rw [lessM_self] at this; cases this), hx3⟩
    · have H1 := Lib.hid h1; clear h1
      go_wp2
      go_ret
      exact ⟨ret_bool (by rw [eq_comm, decide_eq_false_iff_not]; intro e; subst e; have := H1.out; rw [lessM_self] at this; cases this), hx1⟩
  · have h' : ((l.length : Int) == (m.length : Int)) = false := by simpa using h
    have hn : ¬ l = m := fun e => by subst e; simp at h'
    have Hn := Lib.hid hn
    clear h hn
    go_enter Try.func26, Try.ntmps26
    go_wp2
    go_ret
    exact ⟨ret_bool (by rw [decide_eq_false Hn.out]), Ext.refl _⟩

def fewerM (l m : List Int) : Bool := if l.length = m.length then lessM l m else decide (l.length < m.length)
theorem fewer_any (v u : Value) (l m : List Int) (w : World) (hl : IntsAt w v l) (hm : IntsAt w u m) :
    Calls Try.prog 40 #[v, u] w fun r w' => r = .returned (.bool (fewerM l m)) ∧ Ext w w' := by
  have hsl := hl.shape
  have hsm := hm.shape
  obtain ⟨a, cap, rfl, hlc, hcm⟩ := hsl
  obtain ⟨a', cap', rfl, hlc', hcm'⟩ := hsm
  by_cases h : ((l.length : Int) != (m.length : Int)) = true
  · go_enter Try.func40, Try.ntmps40
    go_wp2
    go_ret
    exact ⟨ret_bool (by rw [fewerM, if_neg (by simp at h; omega)]), Ext.refl _⟩
  · have h' : ((l.length : Int) != (m.length : Int)) = false := by simpa using h
    go_enter Try.func40, Try.ntmps40
    go_wp2_with fail
    refine (less_any _ _ l m w hl hm).mono ?_
    rintro e w' ⟨rfl, hx2⟩
    go_wp2
    go_ret
    exact ⟨ret_bool (by rw [fewerM, if_pos (by simp at h; omega)]), hx2⟩
end Go.Proofs.Ytbodmgilcohfjaa
