/-
  WHAT Common RETURNS where there is no error.
-/
import Derived.Test.YtbodmgilcohfjaaEar1
namespace Go.Proofs.Ytbodmgilcohfjaa
open Go.RowKit
set_option linter.unusedVariables false

set_option maxRecDepth 100000 in
set_option maxHeartbeats 2000000 in
theorem common_ok (bv v : Value) (b : Book) (he : errM b = 0) (l : List Nat) (hl : ∀ n ∈ l, n < b.spellings.length) (hne : l ≠ []) (hasc : ascM (ints l) = true) (w : World) (hb : BookAt w bv b) (hlv : IntsAt w v (ints l)) :
    Calls Try.prog 33 #[bv, v] w fun e w' => ∃ k f u, FirstIs (canM b l) (fun _ => True) (bitsM l) k f ∧ e = .returned (.tuple #[u, .int .i64 (if f then 0 else 9)]) ∧ IntsAt w' u k ∧ Ext w w' := by
  have hv := valid_of he
  have hn := hv.n
  have hS := hv.s
  have hfin : FineT (b.sounds.toNat + 1) (canM b l) := canM_fine hv l [] hl (FineT.nil _)
  have hl5 : ∀ x ∈ l, x < 5 := fun x hx => by have := hl x hx; omega
  have hb32 := bitsM_lt l hl5
  obtain ⟨ba, bc, bs, bd, rfl, -⟩ := hb.open
  obtain ⟨la, lc, rfl, -⟩ := hlv.shape
  have hlen : (ints l).length = l.length := by simp [ints]
  have hpos : ((ints l).length : Int) ≠ 0 := by
    rw [hlen]
    intro h
    exact hne (List.eq_nil_of_length_eq_zero (by omega))
  have hpos' : (((ints l).length : Int) == 0) = false := by rw [beq_eq_false_iff_ne]; exact hpos
  have hop := openM_ok he (l := ints l) (by intro x hx; simp only [ints, List.mem_map] at hx; obtain ⟨m, hm, rfl⟩ := hx; have := hl m hm; omega)
  clear hlen
  go_enter Try.func33, Try.ntmps33
  go_wp2_with fail
  refine (open_any _ _ b (ints l) _ (hb.ext (by first | (with_reducible exact Ext.refl _) | (with_reducible assumption) | (show Below _ _ _; go_grown; done))) (hlv.ext (by first | (with_reducible exact Ext.refl _) | (with_reducible assumption) | (show Below _ _ _; go_grown; done)))).mono ?_
  rintro e w1 ⟨u, rfl, ⟨uv, rfl, hok, -⟩, hx1⟩
  rw [hop] at hok ⊢
  have x1 : Ext w w1 := Ext.trans (by first | (with_reducible exact Ext.refl _) | (with_reducible assumption) | (show Below _ _ _; go_grown; done)) hx1
  have hub := hok rfl
  clear hok hop hx1
  obtain ⟨ca, cc, cs, cd, rfl, -⟩ := hub.open
  have Hpos := Lib.hid hpos
  clear hpos
  go_wp2_with fail
  refine (ascending_any _ (ints l) _ (hlv.ext (x1.alloc _))).mono ?_
  rintro e w2 ⟨rfl, hx2⟩
  rw [hasc]
  have x2 : Ext w1 w2 := hx2.of_alloc
  have q0 : w2.cell? ⟨w1.heap.size, 0, none⟩ = some (.int .i64 b.sounds) := hx2.cell (by simp [go_sem])
  have q1 : w2.cell? ⟨w1.heap.size, 1, none⟩ = some (.slice ca b.alphabets.length cc) := hx2.cell (by simp [go_sem])
  have q2 : w2.cell? ⟨w1.heap.size, 2, none⟩ = some (.slice cs b.spellings.length cd) := hx2.cell (by simp [go_sem])
  clear hx2
  go_wp2_with fail
  refine (canBe_any _ _ b hv l hl _ (hub.ext x2) (hlv.ext (x1.trans x2))).mono ?_
  rintro e w3 ⟨B, rfl, -, hm, hx3⟩
  have x3 : Ext w w3 := x1.trans (x2.trans hx3)
  clear hx3
  go_wp2_with fail
  refine (bits_any _ l hl5 w3 (hlv.ext x3)).mono ?_
  rintro e w4 ⟨rfl, rfl⟩
  go_wp2_with fail
  refine (firstOf_any B (canM b l) (b.sounds.toNat + 1) hfin (by omega) (bitsM l) hb32 w3 hm).mono ?_
  rintro e w5 ⟨k, f, rfl, hF, hx5⟩
  have x5 := x3.trans hx5
  cases f
  · have hk := (hF.no rfl).1
    subst hk
    unfold ssV ssRaw
    go_wp2
    go_ret2
    exact ⟨_, false, _, hF, rfl, SliceAt.nil, x5.alloc _⟩
  · have hk : k.length ≤ 5 ∧ ∀ x ∈ k, I64 x := by
      obtain ⟨i, hi, e1, -⟩ := (hF.yes rfl).1
      have := hfin.keys _ (List.getElem_mem hi)
      rw [← e1]
      exact ⟨this.1, fun x hx => by have := this.2 x hx; unfold I64; omega⟩
    obtain ⟨p0, p1, p2, p3, p4, p5, hpv⟩ : ∃ p0 p1 p2 p3 p4 p5, ssV k = .agg #[.int .i64 p0, .int .i64 p1, .int .i64 p2, .int .i64 p3, .int .i64 p4, .int .i64 p5] := ⟨_, _, _, _, _, _, rfl⟩
    have hlist := fun w => list_any k hk.1 hk.2 w
    rw [hpv] at hlist ⊢
    go_wp2_with fail
    refine (hlist _).mono ?_
    rintro e w6 ⟨u, rfl, hu, hx6⟩
    obtain ⟨ua, uc, rfl, -⟩ := hu.shape
    go_wp2
    go_ret2
    exact ⟨k, true, _, hF, rfl, hu, x5.trans hx6.of_alloc⟩
end Go.Proofs.Ytbodmgilcohfjaa
