/-
  WHAT Odd RETURNS where there is no error.
-/
import Derived.Test.YtbodmgilcohfjaaEar4
namespace Go.Proofs.Ytbodmgilcohfjaa
open Go.RowKit
set_option linter.unusedVariables false

set_option maxRecDepth 100000 in
set_option maxHeartbeats 2000000 in
theorem odd_ok (bv : Value) (b : Book) (he : errM b = 0) (w : World) (hb : BookAt w bv b) :
    Calls Try.prog 31 #[bv] w fun e w' => ∃ u, e = .returned (.tuple #[u, .int .i64 0]) ∧ IntsAt w' u (ints (oddF (canM b (membersM (allOf b))) (allOf b) (membersM (allOf b)) (allOf b))) ∧ Ext w w' := by
  have hv := valid_of he
  obtain ⟨ba, bc, bs, bd, rfl, -⟩ := hb.open
  go_enter Try.func31, Try.ntmps31
  go_wp2_with fail
  refine (open_any _ _ b [] _ (hb.ext (by first | (with_reducible exact Ext.refl _) | (with_reducible assumption) | (show Below _ _ _; go_grown; done))) SliceAt.nil).mono ?_
  rintro e w1 ⟨u, rfl, ⟨uv, rfl, hok, -⟩, hx1⟩
  rw [openM_nil, he] at hok ⊢
  have x1 : Ext w w1 := Ext.trans (by first | (with_reducible exact Ext.refl _) | (with_reducible assumption) | (show Below _ _ _; go_grown; done)) hx1
  have hub := hok rfl
  clear hok hx1
  obtain ⟨ca, cc, cs, cd, rfl, -⟩ := hub.open
  go_wp2_with fail
  refine (fewestOdd_ok _ b hv _ (hub.ext (by first | (with_reducible exact Ext.refl _) | (with_reducible assumption) | (show Below _ _ _; go_grown; done)))).mono ?_
  rintro e w2 ⟨u, rfl, hu, hx2⟩
  obtain ⟨ua, uc, rfl, -⟩ := hu.shape
  have x2 : Ext w w2 := x1.trans (Ext.trans (by first | (with_reducible exact Ext.refl _) | (with_reducible assumption) | (show Below _ _ _; go_grown; done)) hx2)
  clear hx2
  go_wp2
  go_ret2
  exact ⟨_, rfl, hu, x2⟩
end Go.Proofs.Ytbodmgilcohfjaa
