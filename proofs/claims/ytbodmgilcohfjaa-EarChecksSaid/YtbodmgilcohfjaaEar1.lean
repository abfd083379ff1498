/-
  WHAT Count, Reads, Common, First, Alike AND Odd RETURN where there is no error.
-/
import Derived.Test.YtbodmgilcohfjaaCanbe2
import Derived.Test.YtbodmgilcohfjaaFirstof
import Derived.Test.YtbodmgilcohfjaaSpell
namespace Go.Proofs.Ytbodmgilcohfjaa
open Go.RowKit
set_option linter.unusedVariables false

theorem run_len_ss {w : World} {B : Nat} {M : Tally} (h : MapIs w B M) (ty : TypeId) : (Builtin.len_ #[89] ty #[.map (some B)]).run Try.prog w = .ok (.int .i64 (M.length : Nat)) w := by
  obtain ⟨es, hb, hE⟩ := h
  have hu : Try.prog.underlying 89 = some (.map 100 3) := Try.underlying89
  simp [Builtin.len_, run_underlying hu, MapKept.run_getObj_map hb, hE.size, Result.andThen, goInt]
theorem openM_ok {b : Book} (h : errM b = 0) {l : List Int} (hl : ∀ x ∈ l, 0 ≤ x ∧ x < b.spellings.length) : openM b l = 0 := by
  unfold openM
  rw [if_neg (by rw [h]; exact fun e => e rfl), if_neg]
  rw [Bool.not_eq_false, withinM, List.all_eq_true]
  intro x hx
  have := hl x hx
  simp [inM]; omega

set_option maxRecDepth 100000 in
set_option maxHeartbeats 2000000 in
theorem count_ok (bv : Value) (b : Book) (he : errM b = 0) (n : Nat) (hn : n < b.spellings.length) (w : World) (hb : BookAt w bv b) :
    Calls Try.prog 22 #[bv, .int .i64 n] w fun e w' => e = .returned (.tuple #[.int .i64 ((canM b [n]).length : Nat), .int .i64 0]) ∧ Ext w w' := by
  have hv := valid_of he
  have hn5 : n < 5 := by have := hv.n; omega
  obtain ⟨ba, bc, bs, bd, rfl, -⟩ := hb.open
  have hop := openM_ok he (l := [(n : Int)]) (by simp; omega)
  go_enter Try.func22, Try.ntmps22
  go_wp2_with fail
  refine (open_any _ _ b [(n : Int)] _ (hb.ext (by first | (with_reducible exact Ext.refl _) | (with_reducible assumption) | (show Below _ _ _; go_grown; done))) (IntsAt.oneAt (by simp) (by omega))).mono ?_
  rintro e w1 ⟨u, rfl, ⟨uv, rfl, hok, -⟩, hx1⟩
  rw [hop] at hok ⊢
  have x1 : Ext w w1 := Ext.trans (by first | (with_reducible exact Ext.refl _) | (with_reducible assumption) | (show Below _ _ _; go_grown; done)) hx1
  have hub := hok rfl
  clear hok hop
  obtain ⟨ca, cc, cs, cd, rfl, -⟩ := hub.open
  go_wp2_with fail
  refine (canBe_any _ _ b hv [n] (by simpa using hn) _ (hub.ext (by first | (with_reducible exact Ext.refl _) | (with_reducible assumption) | (show Below _ _ _; go_grown; done))) (IntsAt.oneAt (n := (n : Int)) (by simp) (by omega))).mono ?_
  rintro e w2 ⟨B, rfl, -, hm, hx2⟩
  have hlen := run_len_ss hm
  have x2 : Ext w w2 := x1.trans (Ext.trans (by first | (with_reducible exact Ext.refl _) | (with_reducible assumption) | (show Below _ _ _; go_grown; done)) hx2)
  go_wp2
  go_ret2
  exact ⟨rfl, x2⟩

set_option maxRecDepth 100000 in
set_option maxHeartbeats 2000000 in
theorem reads_ok (bv hv : Value) (b : Book) (he : errM b = 0) (n : Nat) (hn : n < b.spellings.length) (heard : List Int) (hh : heardErrM b.sounds heard = 0) (w : World) (hb : BookAt w bv b) (hhv : IntsAt w hv heard) :
    Calls Try.prog 27 #[bv, .int .i64 n, hv] w fun e w' => e = .returned (.tuple #[.bool (getT heard (canM b [n])).isSome, .int .i64 0]) ∧ Ext w w' := by
  have hv := valid_of he
  have hn5 : n < 5 := by have := hv.n; omega
  have hS := hv.s
  have h5 : heard.length ≤ 5 := by unfold heardErrM at hh; split at hh; cases hh; omega
  have hfin : FineT (b.sounds.toNat + 1) (canM b [n]) := canM_fine hv [n] [] (by simpa using hn) (FineT.nil _)
  obtain ⟨ba, bc, bs, bd, rfl, -⟩ := hb.open
  obtain ⟨ha, hc, rfl, -⟩ := hhv.shape
  have hop := openM_ok he (l := [(n : Int)]) (by simp; omega)
  go_enter Try.func27, Try.ntmps27
  go_wp2_with fail
  refine (open_any _ _ b [(n : Int)] _ (hb.ext (by first | (with_reducible exact Ext.refl _) | (with_reducible assumption) | (show Below _ _ _; go_grown; done))) (IntsAt.oneAt (by simp) (by omega))).mono ?_
  rintro e w1 ⟨u, rfl, ⟨uv, rfl, hok, -⟩, hx1⟩
  rw [hop] at hok ⊢
  have x1 : Ext w w1 := Ext.trans (by first | (with_reducible exact Ext.refl _) | (with_reducible assumption) | (show Below _ _ _; go_grown; done)) hx1
  have hub := hok rfl
  clear hok hop hx1
  obtain ⟨ca, cc, cs, cd, rfl, -⟩ := hub.open
  go_wp2_with fail
  refine (heardError_any _ _ b hS heard _ (hub.ext (by first | (with_reducible exact Ext.refl _) | (with_reducible assumption) | (show Below _ _ _; go_grown; done))) (hhv.ext (x1.alloc _))).mono ?_
  rintro e w2 ⟨rfl, hx2⟩
  rw [hh]
  have x2 : Ext w1 w2 := hx2.of_alloc
  have q0 : w2.cell? ⟨w1.heap.size, 0, none⟩ = some (.int .i64 b.sounds) := hx2.cell (by simp [go_sem])
  have q1 : w2.cell? ⟨w1.heap.size, 1, none⟩ = some (.slice ca b.alphabets.length cc) := hx2.cell (by simp [go_sem])
  have q2 : w2.cell? ⟨w1.heap.size, 2, none⟩ = some (.slice cs b.spellings.length cd) := hx2.cell (by simp [go_sem])
  have z0 : w1.heap.size < w2.heap.size := cell_lt q0
  clear hx2
  go_wp2_with fail
  refine (canBe_any _ _ b hv [n] (by simpa using hn) _ (hub.ext (x2.alloc _)) (IntsAt.oneAt (n := (n : Int)) (by simp) (by omega))).mono ?_
  rintro e w3 ⟨B, rfl, -, hm, hx3⟩
  have x3 : Ext w w3 := x1.trans (x2.trans hx3.of_alloc)
  clear hx3
  go_wp2_with fail
  refine (heardAs_any heard h5 _ w3 (hhv.ext x3)).mono ?_
  rintro e w4 ⟨rfl, hx4⟩
  have hm4 := hm.kept (Below.block hx4 _ hm.lt)
  have hlook := run_lookup_ss heard h5 (fun p hp => (hfin.keys p hp).1) hm4 true
  simp only [if_true] at hlook
  go_wp2
  go_ret2
  exact ⟨rfl, x3.trans hx4⟩
end Go.Proofs.Ytbodmgilcohfjaa
