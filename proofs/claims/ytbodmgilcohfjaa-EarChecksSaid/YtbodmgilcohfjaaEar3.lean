/-
  WHAT First AND Alike RETURN where there is no error.
-/
import Derived.Test.YtbodmgilcohfjaaEar2
namespace Go.Proofs.Ytbodmgilcohfjaa
open Go.RowKit
set_option linter.unusedVariables false

set_option maxRecDepth 100000 in
set_option maxHeartbeats 2000000 in
theorem first_ok (bv : Value) (b : Book) (he : errM b = 0) (n : Nat) (hn : n < b.spellings.length) (w : World) (hb : BookAt w bv b) :
    Calls Try.prog 24 #[bv, .int .i64 n] w fun e w' => ∃ k f u, FirstIs (canM b [n]) (fun _ => True) (bitsM [n]) k f ∧ e = .returned (.tuple #[u, .int .i64 (if f then 0 else 9)]) ∧ IntsAt w' u k ∧ Ext w w' := by
  have hv := valid_of he
  have hn5 : n < 5 := by have := hv.n; omega
  have hb0 := hb
  obtain ⟨ba, bc, bs, bd, rfl, -⟩ := hb.open
  go_enter Try.func24, Try.ntmps24
  go_wp2_with fail
  refine (common_ok _ _ b he [n] (by simpa using hn) (by simp) (by simp [ascM, ints]) _ (hb0.ext (by first | (with_reducible exact Ext.refl _) | (with_reducible assumption) | (show Below _ _ _; go_grown; done))) (IntsAt.oneAt (n := (n : Int)) (by simp) (by omega))).mono ?_
  rintro e w1 ⟨k, f, u, hF, rfl, hu, hx1⟩
  obtain ⟨ua, uc, rfl, -⟩ := hu.shape
  have x1 : Ext w w1 := Ext.trans (by first | (with_reducible exact Ext.refl _) | (with_reducible assumption) | (show Below _ _ _; go_grown; done)) hx1
  clear hx1
  generalize hcc : (if f = true then (0 : Int) else 9) = cc
  go_wp2
  go_ret2
  exact ⟨k, f, _, hF, by rw [hcc]; rfl, hu, x1⟩

theorem IntsAt.twoAt {w : World} {m n : Int} {t : TypeId} {B : Nat} (hB : w.heap.size = B) (h : -9223372036854775808 ≤ n ∧ n ≤ 9223372036854775807) (h' : -9223372036854775808 ≤ m ∧ m ≤ 9223372036854775807) : IntsAt (w.alloc (.cells #[.int .i64 n, .int .i64 m] t)) (.slice (some ⟨B, 0, none⟩) 2 2) [n, m] := by
  subst hB; exact IntsAt.two h h'
/-- whether the first string is common, and whether there is but one -/
def alikeV (M : Tally) (f : Bool) : Int := if f = false then 2 else if M.length = 1 then 1 else 0
set_option maxRecDepth 100000 in
set_option maxHeartbeats 2000000 in
theorem alike_ok (bv : Value) (b : Book) (he : errM b = 0) (i j : Nat) (hi : i < b.spellings.length) (hj : j < b.spellings.length) (hij : i ≠ j) (w : World) (hb : BookAt w bv b) :
    Calls Try.prog 29 #[bv, .int .i64 i, .int .i64 j] w fun e w' => ∃ k f, FirstIs (canM b [i, j]) (fun _ => True) (bitsM [i, j]) k f ∧ e = .returned (.tuple #[.int .i64 (alikeV (canM b [i, j]) f), .int .i64 0]) ∧ Ext w w' := by
  have hv := valid_of he
  have hi5 : i < 5 := by have := hv.n; omega
  have hj5 : j < 5 := by have := hv.n; omega
  have hS := hv.s
  have hl : ∀ n ∈ [i, j], n < b.spellings.length := by simp [hi, hj]
  have hl5 : ∀ n ∈ [i, j], n < 5 := by simp [hi5, hj5]
  have hfin : FineT (b.sounds.toNat + 1) (canM b [i, j]) := canM_fine hv [i, j] [] hl (FineT.nil _)
  have hb32 := bitsM_lt [i, j] hl5
  obtain ⟨ba, bc, bs, bd, rfl, -⟩ := hb.open
  have hop := openM_ok he (l := [(i : Int), (j : Int)]) (by simp; omega)
  have hne : ((i : Int) == (j : Int)) = false := by rw [beq_eq_false_iff_ne]; omega
  have Hij := Lib.hid hij
  clear hij
  go_enter Try.func29, Try.ntmps29
  go_wp2_with fail
  refine (open_any _ _ b [(i : Int), (j : Int)] _ (hb.ext (by first | (with_reducible exact Ext.refl _) | (with_reducible assumption) | (show Below _ _ _; go_grown; done))) (IntsAt.twoAt (m := (j : Int)) (n := (i : Int)) (by simp) (by omega) (by omega))).mono ?_
  rintro e w1 ⟨u, rfl, ⟨uv, rfl, hok, -⟩, hx1⟩
  rw [hop] at hok ⊢
  have x1 : Ext w w1 := Ext.trans (by first | (with_reducible exact Ext.refl _) | (with_reducible assumption) | (show Below _ _ _; go_grown; done)) hx1
  have hub := hok rfl
  clear hok hop hx1
  obtain ⟨ca, cc, cs, cd, rfl, -⟩ := hub.open
  go_wp2_with fail
  refine (canBe_any _ _ b hv [i, j] hl _ (hub.ext (by first | (with_reducible exact Ext.refl _) | (with_reducible assumption) | (show Below _ _ _; go_grown; done))) (IntsAt.twoAt (m := (j : Int)) (n := (i : Int)) (by simp) (by omega) (by omega))).mono ?_
  rintro e w2 ⟨B, rfl, -, hm, hx2⟩
  have x2 : Ext w w2 := x1.trans (Ext.trans (by first | (with_reducible exact Ext.refl _) | (with_reducible assumption) | (show Below _ _ _; go_grown; done)) hx2)
  clear hx2
  go_wp2_with fail
  refine (bits_any _ [i, j] hl5 _ (IntsAt.twoAt (m := (j : Int)) (n := (i : Int)) (by simp) (by omega) (by omega))).mono ?_
  rintro e w3 ⟨rfl, rfl⟩
  have hm3 := hm.kept (Below.block (ext_alloc w2 (.cells #[.int .i64 i, .int .i64 j] 3)) _ hm.lt)
  go_wp2_with fail
  refine (firstOf_any B (canM b [i, j]) (b.sounds.toNat + 1) hfin (by omega) (bitsM [i, j]) hb32 _ hm3).mono ?_
  rintro e w4 ⟨k, f, rfl, hF, hx4⟩
  have x4 : Ext w w4 := x2.trans hx4.of_alloc
  have hm4 := hm3.kept (Below.block hx4 _ hm3.lt)
  have hm5 := hm4.kept (Below.block (ext_alloc w4 (.cells #[.int .i64 (k.length : Nat), .int .i64 (k.getD 0 0), .int .i64 (k.getD 1 0), .int .i64 (k.getD 2 0), .int .i64 (k.getD 3 0), .int .i64 (k.getD 4 0)] 100)) _ hm4.lt)
  have hlen := run_len_ss hm5
  clear hm hm3 hm4 hm5 hfin
  unfold ssV ssRaw
  generalize (k.length : Int) = pn at *
  generalize k.getD 0 0 = p0 at *
  generalize k.getD 1 0 = p1 at *
  generalize k.getD 2 0 = p2 at *
  generalize k.getD 3 0 = p3 at *
  generalize k.getD 4 0 = p4 at *
  obtain ⟨M, hM⟩ : ∃ M, M = canM b [i, j] := ⟨_, rfl⟩
  rw [← hM] at hF hlen
  cases f
  · have Hv : Hid (alikeV (canM b [i, j]) false = 2) := Lib.hid rfl
    go_wp2
    go_ret2
    exact ⟨k, false, by rw [← hM]; exact hF, by rw [Hv.out]; rfl, x4.alloc _⟩
  · by_cases h1 : M.length = 1
    · have Hv : Hid (alikeV (canM b [i, j]) true = 1) := Lib.hid (by rw [alikeV, if_neg (by decide), ← hM, if_pos h1])
      rw [h1] at hlen
      go_wp2
      go_ret2
      exact ⟨k, true, by rw [← hM]; exact hF, by rw [Hv.out]; rfl, x4.alloc _⟩
    · have Hv : Hid (alikeV (canM b [i, j]) true = 0) := Lib.hid (by rw [alikeV, if_neg (by decide), ← hM, if_neg h1])
      have hne1 : ((M.length : Int) == 1) = false := by rw [beq_eq_false_iff_ne]; omega
      clear h1
      generalize M.length = len at *
      go_wp2
      go_ret2
      exact ⟨k, true, by rw [← hM]; exact hF, by rw [Hv.out]; rfl, x4.alloc _⟩
end Go.Proofs.Ytbodmgilcohfjaa
