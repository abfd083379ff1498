/-
  WHAT letterError RETURNS: the first error of a letter of an alphabet. For any letters before it, in a book whose number of sounds is as stated.
-/
import Derived.Test.YtbodmgilcohfjaaName
import Derived.Test.YtbodmgilcohfjaaFacts
namespace Go.Proofs.Ytbodmgilcohfjaa
open Go.RowKit

def maskM (S : Int) : Int := 2 ^ S.toNat - 1
def letterErrM (S : Int) (before : List Letter) (x : Letter) : Int :=
  if inM x.c 97 122 = false then 6 else if (before.any fun y => y.c == x.c) = true then 5 else if inM x.sounds 0 (maskM S) = false then 7 else if (x.sounds == 0 && !x.silent) = true then 2 else 0

theorem letterError1_any (v u : Value) (x : Letter) (w : World) (hu : LetterV u x) :
    Calls Try.prog 95 #[v, u] w fun e w' => e = .returned (.bool (!inM x.c 97 122)) ∧ Ext w w' := by
  obtain ⟨rfl, hc, hi⟩ := hu
  unfold U8 at hc
  go_enter Try.func95, Try.ntmps95
  go_wp2_with fail
  refine (isLetter_any _ _).mono ?_
  rintro e w' ⟨rfl, rfl⟩
  go_wp2
  go_ret
  exact ⟨rfl, (by first | (with_reducible exact Ext.refl _) | (with_reducible assumption) | (show Below _ _ _; go_grown; done))⟩
theorem letterError2_any (v u : Value) (l : List Letter) (x : Letter) (w : World) (hl : LettersAt w v l) (hu : LetterV u x) :
    Calls Try.prog 96 #[v, u] w fun e w' => e = .returned (.bool (l.any fun y => y.c == x.c)) ∧ Ext w w' := by
  obtain ⟨rfl, hc, hi⟩ := hu
  go_enter Try.func96, Try.ntmps96
  go_wp2_with fail
  refine (letterAt_any l x.c v _ (hl.ext (ext_alloc _ _))).mono ?_
  rintro e w1 ⟨rfl, hx⟩
  go_wp2
  go_ret
  exact ⟨ret_bool (idxM_ge _ _), hx.of_alloc⟩
theorem letterError4_any (v u : Value) (x : Letter) (w : World) (hu : LetterV u x) :
    Calls Try.prog 98 #[v, u] w fun e w' => e = .returned (.bool (x.sounds == 0 && !x.silent)) ∧ Ext w w' := by
  obtain ⟨rfl, hc, hi⟩ := hu
  cases h : (x.sounds == 0)
  all_goals
    go_enter Try.func98, Try.ntmps98
    go_wp2
    go_ret
    exact ⟨by simp, (by first | (with_reducible exact Ext.refl _) | (with_reducible assumption) | (show Below _ _ _; go_grown; done))⟩
set_option maxRecDepth 100000 in
theorem letterError3_any (v u : Value) (S : Int) (hS : 1 ≤ S ∧ S ≤ 4) (p : Nat) (x : Letter) (w : World) (hu : LetterV u x) (hp : w.cell? ⟨p, 0, none⟩ = some (.int .i64 S)) :
    Calls Try.prog 97 #[v, u, .pointer (some ⟨p, 0, none⟩)] w fun e w' => e = .returned (.bool (!inM x.sounds 0 (maskM S))) ∧ Ext w w' := by
  obtain ⟨rfl, hc, hi⟩ := hu
  have h4 : S = 1 ∨ S = 2 ∨ S = 3 ∨ S = 4 := by omega
  rcases h4 with rfl | rfl | rfl | rfl
  all_goals
    go_enter Try.func97, Try.ntmps97
    go_wp2_with fail
    have c1 := (ext_alloc w (.cells #[.int .u8 x.c, .int .i64 x.sounds, .bool x.silent] 69)).cell hp
    have c2 : (w.alloc (.cells #[.int .u8 x.c, .int .i64 x.sounds, .bool x.silent] 69)).cell? ⟨w.heap.size, 1, none⟩ = some (.int .i64 x.sounds) := by simp [go_sem]
    apply Facts.wp_region [.val _, .val _, .val _, .val _, .val _, .val _, .val _, .fact (fun v w => IntsAt w v [x.sounds]), .val _, .val _, .val _] (by kernel_rfl) (by kernel_rfl) ⟨fun _ _ _ h g => g.ext h, trivial⟩ ?main
    case main =>
      iterate 7 (refine ⟨fun w1 hx hh => ?_, ?_⟩; focus (clear hh; have e1 := hx.cell c1; have e2 := hx.cell c2; go_simp; exact ⟨Ext.refl _, rfl⟩))
      refine ⟨fun w1 hx hh => ?_, fun u => ?_⟩
      · clear hh
        go_simp
        exact ⟨ext_alloc _ _, IntsAt.one hi⟩
      refine ⟨fun w1 hx hh => ?_, ?_⟩
      · have f7 := hh 7 _ List.mem_cons_self (by kernel_rfl)
        clear hh
        go_simp
        refine (within_any _ _ _ _ _ f7).mono ?_
        rintro e w' ⟨rfl, rfl⟩
        exact ⟨_, rfl, Ext.refl _, rfl⟩
      iterate 2 (refine ⟨fun w1 hx hh => ?_, ?_⟩; focus (clear hh; skip; go_simp; exact ⟨Ext.refl _, rfl⟩))
      intro w1 hx hh
      go_wp2
      go_ret
      exact ⟨ret_bool (by rw [withinM_one]; rfl), hx.of_alloc⟩

/-- what lies in memory while the faults are gone through -/
structure FaultsAt (w : World) (B : Nat) (S : Int) (x : Letter) : Prop where
  s : w.cell? ⟨B, 0, none⟩ = some (.int .i64 S)
  c : w.cell? ⟨B + 1, 0, none⟩ = some (.int .u8 x.c)
  n : w.cell? ⟨B + 1, 1, none⟩ = some (.int .i64 x.sounds)
  q : w.cell? ⟨B + 1, 2, none⟩ = some (.bool x.silent)
  a0 : w.cell? ⟨B + 1 + 1, 0, none⟩ = some (.int .i64 6)
  b0 : w.cell? ⟨B + 1 + 1, 1, none⟩ = some (.func (.func 95) #[] #[])
  a1 : w.cell? ⟨B + 1 + 1, 2, none⟩ = some (.int .i64 5)
  b1 : w.cell? ⟨B + 1 + 1, 3, none⟩ = some (.func (.func 96) #[] #[])
  a2 : w.cell? ⟨B + 1 + 1, 4, none⟩ = some (.int .i64 7)
  b2 : w.cell? ⟨B + 1 + 1, 5, none⟩ = some (.func (.func 97) #[] #[.pointer (some ⟨B, 0, none⟩)])
  a3 : w.cell? ⟨B + 1 + 1, 6, none⟩ = some (.int .i64 2)
  b3 : w.cell? ⟨B + 1 + 1, 7, none⟩ = some (.func (.func 98) #[] #[])
theorem FaultsAt.ext {w w' : World} {B : Nat} {S : Int} {x : Letter} (h : FaultsAt w B S x) (hx : Ext w w') : FaultsAt w' B S x :=
  ⟨hx.cell h.s, hx.cell h.c, hx.cell h.n, hx.cell h.q, hx.cell h.a0, hx.cell h.b0, hx.cell h.a1, hx.cell h.b1, hx.cell h.a2, hx.cell h.b2, hx.cell h.a3, hx.cell h.b3⟩

set_option maxHeartbeats 2000000 in
theorem letterError_any (bv v u : Value) (b : Book) (hS : 1 ≤ b.sounds ∧ b.sounds ≤ 4) (l : List Letter) (x : Letter) (w : World) (hb : BookAt w bv b) (hl : LettersAt w v l) (hu : LetterV u x) :
    Calls Try.prog 84 #[bv, v, u] w fun e w' => e = .returned (.int .i64 (letterErrM b.sounds l x)) ∧ Ext w w' := by
  obtain ⟨ba, bc, bs, bd, rfl, -⟩ := hb.open
  obtain ⟨a, cap, rfl, hlc, hcm⟩ := hl.shape
  have hu' := hu
  obtain ⟨rfl, hc, hi⟩ := hu
  go_enter Try.func84, Try.ntmps84
  go_wp2
  go_loopw [18] (fun i wr => ∃ k : Nat, k ≤ 4 ∧ i = .int .i64 k ∧ Ext w wr ∧ FaultsAt wr w.heap.size b.sounds x ∧
    (1 ≤ k → inM x.c 97 122 = true) ∧ (2 ≤ k → (l.any fun y => y.c == x.c) = false) ∧ (3 ≤ k → inM x.sounds 0 (maskM b.sounds) = true) ∧ (4 ≤ k → (x.sounds == 0 && !x.silent) = false)) (fun i _ => 4 - (intOf i).toNat)
  case atStart =>
    exact ⟨0, by omega, rfl, (by first | (with_reducible exact Ext.refl _) | (with_reducible assumption) | (show Below _ _ _; go_grown; done)), ⟨by simp [go_sem], by simp [go_sem], by simp [go_sem], by simp [go_sem], by simp [go_sem], by simp [go_sem], by simp [go_sem], by simp [go_sem], by simp [go_sem], by simp [go_sem], by simp [go_sem], by simp [go_sem]⟩,
      fun h => by omega, fun h => by omega, fun h => by omega, fun h => by omega⟩
  case round =>
    obtain ⟨k, hk, rfl, hx, hF, n0, n1, n2, n3⟩ := hrel
    have hF0 := hF
    obtain ⟨f1, f2, f3, f4, f5, f6, f7, f8, f9, f10, f11, f12⟩ := hF0
    have z0 : w.heap.size < wr.heap.size := cell_lt f1
    have z1 : w.heap.size + 1 < wr.heap.size := cell_lt f2
    have z2 : w.heap.size + 1 + 1 < wr.heap.size := cell_lt f5
    have hk5 : k = 0 ∨ k = 1 ∨ k = 2 ∨ k = 3 ∨ k = 4 := by omega
    rcases hk5 with rfl | rfl | rfl | rfl | rfl
    · clear n0 n1 n2 n3
      cases hb0 : (inM x.c 97 122)
      all_goals
        have H := Lib.hid hb0
        clear hb0
        go_wp2_with fail
        refine (letterError1_any _ _ x _ hu').mono ?_
        rintro e w1 ⟨rfl, hx1⟩
        have hx2 := hx.trans hx1.of_alloc
        have hF2 := hF.ext hx1.of_alloc
        have hp1 := hx1.cell (p := ⟨wr.heap.size, 0, none⟩) (by simp [go_sem]; rfl)
        rw [H.out]
        go_wp2
      · go_ret
        exact ⟨ret_int (by rw [letterErrM, if_pos H.out]), hx2⟩
      · go_roundw
        case rel => exact ⟨1, by omega, rfl, hx2, hF2, fun _ => by first | exact H.out | trivial, fun h => by omega, fun h => by omega, fun h => by omega⟩
        case measure => simp [intOf]
    · have g0 := Lib.hid (n0 (by omega))
      clear n0 n1 n2 n3
      cases hb1 : (l.any fun y => y.c == x.c)
      all_goals
        have H := Lib.hid hb1
        clear hb1
        go_wp2_with fail
        refine (letterError2_any _ _ l x _ (hl.ext (hx.alloc _)) hu').mono ?_
        rintro e w1 ⟨rfl, hx1⟩
        have hx2 := hx.trans hx1.of_alloc
        have hF2 := hF.ext hx1.of_alloc
        have hp1 := hx1.cell (p := ⟨wr.heap.size, 0, none⟩) (by simp [go_sem]; rfl)
        rw [H.out]
        go_wp2
      · go_roundw
        case rel => exact ⟨2, by omega, rfl, hx2, hF2, fun _ => by first | exact g0.out | trivial, fun _ => by first | exact H.out | trivial, fun h => by omega, fun h => by omega⟩
        case measure => simp [intOf]
      · go_ret
        exact ⟨ret_int (by rw [letterErrM, if_neg (by rw [g0.out]; decide), if_pos H.out]), hx2⟩
    · have g0 := Lib.hid (n0 (by omega))
      have g1 := Lib.hid (n1 (by omega))
      clear n0 n1 n2 n3
      cases hb2 : (inM x.sounds 0 (maskM b.sounds))
      all_goals
        have H := Lib.hid hb2
        clear hb2
        go_wp2_with fail
        refine (letterError3_any _ _ b.sounds hS _ x _ hu' ((ext_alloc _ _).cell f1)).mono ?_
        rintro e w1 ⟨rfl, hx1⟩
        have hx2 := hx.trans hx1.of_alloc
        have hF2 := hF.ext hx1.of_alloc
        have hp1 := hx1.cell (p := ⟨wr.heap.size, 0, none⟩) (by simp [go_sem]; rfl)
        rw [H.out]
        go_wp2
      · go_ret
        exact ⟨ret_int (by rw [letterErrM, if_neg (by rw [g0.out]; decide), if_neg (by rw [g1.out]; decide), if_pos H.out]), hx2⟩
      · go_roundw
        case rel => exact ⟨3, by omega, rfl, hx2, hF2, fun _ => by first | exact g0.out | trivial, fun _ => by first | exact g1.out | trivial, fun _ => by first | exact H.out | trivial, fun h => by omega⟩
        case measure => simp [intOf]
    · have g0 := Lib.hid (n0 (by omega))
      have g1 := Lib.hid (n1 (by omega))
      have g2 := Lib.hid (n2 (by omega))
      clear n0 n1 n2 n3
      cases hb3 : (x.sounds == 0 && !x.silent)
      all_goals
        have H := Lib.hid hb3
        clear hb3
        go_wp2_with fail
        refine (letterError4_any _ _ x _ hu').mono ?_
        rintro e w1 ⟨rfl, hx1⟩
        have hx2 := hx.trans hx1.of_alloc
        have hF2 := hF.ext hx1.of_alloc
        have hp1 := hx1.cell (p := ⟨wr.heap.size, 0, none⟩) (by simp [go_sem]; rfl)
        rw [H.out]
        go_wp2
      · go_roundw
        case rel => exact ⟨4, by omega, rfl, hx2, hF2, fun _ => by first | exact g0.out | trivial, fun _ => by first | exact g1.out | trivial, fun _ => by first | exact g2.out | trivial, fun _ => by first | exact H.out | trivial⟩
        case measure => simp [intOf]
      · go_ret
        exact ⟨ret_int (by rw [letterErrM, if_neg (by rw [g0.out]; decide), if_neg (by rw [g1.out]; decide), if_neg (by rw [g2.out]; decide), if_pos H.out]), hx2⟩
    · have g0 := Lib.hid (n0 (by omega))
      have g1 := Lib.hid (n1 (by omega))
      have g2 := Lib.hid (n2 (by omega))
      have g3 := Lib.hid (n3 (by omega))
      clear n0 n1 n2 n3
      go_wp2
      go_ret
      exact ⟨ret_int (by rw [letterErrM, if_neg (by rw [g0.out]; decide), if_neg (by rw [g1.out]; decide), if_neg (by rw [g2.out]; decide), if_neg (by rw [g3.out]; decide)]), hx⟩
end Go.Proofs.Ytbodmgilcohfjaa
