/-
  WHAT indices, one AND hears OF THE REFERENCE RETURN: the errors of arguments; how many are marked, and the first one.
-/
import Derived.Test.YtbodmgilcohfjaaRef8
namespace Go.Proofs.Ytbodmgilcohfjaa
open Go.RowKit

theorem withinM_no' (lo hi : Int) (l : List Int) (k : Nat) (h : k < l.length) (x : Int) (hx : l[k] = x) (h1 : inM x lo hi = false) : withinM lo hi l = false := by
  rw [withinM, List.all_eq_false]
  exact ⟨x, hx ▸ List.getElem_mem h, by simp [h1]⟩
theorem withinM_step' (lo hi : Int) (l : List Int) (k : Nat) (h : k < l.length) (x : Int) (hx : l[k] = x) (h0 : withinM lo hi (l.take k) = true) (h1 : inM x lo hi = true) : withinM lo hi (l.take (k + 1)) = true := by
  simp only [inM, Bool.and_eq_true, decide_eq_true_eq] at h1
  exact withinM_step lo hi l k h x hx h0 h1.1 h1.2
def indicesM (b : Book) (l : List Int) (below : Int) : Int := if errM b ≠ 0 then errM b else if withinM 0 (below - 1) l = false then 4 else 0
set_option maxHeartbeats 1000000 in
set_option maxRecDepth 100000 in
theorem indices_any (bv v : Value) (b : Book) (l : List Int) (below : Int) (w : World) (hb : BookAt w bv b) (hl : IntsAt w v l) (hbe : -9223372036854775808 < below ∧ below ≤ 9223372036854775807) :
    Calls Try.prog 69 #[bv, v, .int .i64 below] w fun e w' => e = .returned (.int .i64 (indicesM b l below)) ∧ Ext w w' := by
  obtain ⟨ba, bc, bs, bd, rfl, -⟩ := hb.open
  obtain ⟨a, cap, rfl, hlc, hcm⟩ := hl.shape
  go_enter Try.func69, Try.ntmps69
  go_wp2_with fail
  refine (refCheck_any _ b _ (hb.ext (ext_alloc _ _))).mono ?_
  rintro e w1 ⟨rfl, hx1⟩
  have x1 : Ext w w1 := hx1.of_alloc
  clear hx1
  have herr : (checkM b).2.2 = errM b := rfl
  rw [herr]
  generalize (checkM b).2.1 = at1
  generalize (checkM b).1 = part1
  clear herr
  go_wp2
  go_loopw [9, 10] (fun e i wr => ∃ k : Nat, ∃ er : Int, k ≤ l.length ∧ e = .int .i64 er ∧ i = .int .i64 k ∧ Ext w wr ∧ (er ≠ 0 → indicesM b l below = er) ∧ (er = 0 → errM b = 0 ∧ withinM 0 (below - 1) (l.take k) = true)) (fun _ i _ => l.length - (intOf i).toNat)
  case atStart => exact ⟨0, _, Nat.zero_le _, rfl, rfl, x1, fun h => by rw [indicesM, if_pos h], fun h => ⟨h, by simp [withinM]⟩⟩
  case round =>
    obtain ⟨k, er, hk, rfl, rfl, hx, hd1, hd2⟩ := hrel
    have Hd1 := Lib.hid hd1; clear hd1
    have Hd2 := Lib.hid hd2; clear hd2
    by_cases h0 : er = 0
    · subst h0
      obtain ⟨he0, hw0⟩ := Hd2.out rfl
      have He0 := Lib.hid he0
      have Hw0 := Lib.hid hw0
      clear he0 hw0 Hd1 Hd2
      by_cases hlt : k < l.length
      · have k1 : (k : Int) < (l.length : Int) := by omega
        obtain ⟨_, _, he, -, -, hh⟩ := hl.ext hx
        obtain ⟨bb, off, rfl, c0, hi⟩ := hh k hlt
        cases he
        generalize hy : l[k] = y at *
        have Hy := Lib.hid hy; clear hy hh
        simp only [Nat.mul_one] at c0
        have wb : IntKind.i64.wrap (below - 1) = below - 1 := IntWalk.i64_in _ (by omega)
        cases i1 : inM y 0 (below - 1)
        · have I1 := Lib.hid i1
          go_wp2_with (go_at_call 49; refine (In_any _ _ _ _).mono ?_; rintro e w' ⟨rfl, rfl⟩)
          go_roundw
          case rel => exact ⟨k + 1, 4, by omega, rfl, by go_num, hx, fun _ => by rw [indicesM, if_neg (by rw [He0.out]; decide), if_pos (withinM_no' _ _ l k hlt y Hy.out I1.out)], fun h => by cases h⟩
          case measure => simp [intOf]; omega
        · have I1 := Lib.hid i1
          go_wp2_with (go_at_call 49; refine (In_any _ _ _ _).mono ?_; rintro e w' ⟨rfl, rfl⟩)
          go_roundw
          case rel => exact ⟨k + 1, 0, by omega, rfl, by go_num, hx, fun h => absurd rfl h, fun _ => ⟨He0.out, withinM_step' _ _ l k hlt y Hy.out Hw0.out I1.out⟩⟩
          case measure => simp [intOf]; omega
      · go_wp2
        go_ret
        have := Hw0.out
        rw [List.take_of_length_le (by omega)] at this
        exact ⟨ret_int (by rw [indicesM, if_neg (by rw [He0.out]; decide), if_neg (by rw [this]; decide)]), hx⟩
    · have h0' : (er == 0) = false := by simpa using h0
      have H0 := Lib.hid h0
      clear h0
      by_cases hlt : (k : Int) < (l.length : Int)
      all_goals
        go_wp2
        go_ret
        exact ⟨ret_int (Hd1.out H0.out).symm, hx⟩

set_option maxRecDepth 100000 in
theorem one_any (bv : Value) (b : Book) (n : Int) (w : World) (hb : BookAt w bv b) (hn : I64 n) :
    Calls Try.prog 57 #[bv, .int .i64 n] w fun e w' => e = .returned (.int .i64 (indicesM b [n] b.spellings.length)) ∧ Ext w w' := by
  obtain ⟨ba, bc, bs, bd, rfl, -, -, -, hsl, hsc, -⟩ := hb.open
  go_enter Try.func57, Try.ntmps57
  go_wp2_with fail
  refine (indices_any _ _ b [n] _ _ (hb.ext (by first | (with_reducible exact Ext.refl _) | (with_reducible assumption) | (show Below _ _ _; go_grown; done))) (IntsAt.oneAt (by simp) hn) (by omega)).mono ?_
  rintro e w1 ⟨rfl, hx1⟩
  go_wp2
  go_ret
  exact ⟨rfl, hx1.of_alloc.of_alloc⟩

def hearsM (S : Int) (l : List Int) (e : Int) : Int := if e ≠ 0 then e else heardErrM S l
set_option maxHeartbeats 1000000 in
set_option maxRecDepth 100000 in
theorem hears_any (bv v : Value) (b : Book) (l : List Int) (e : Int) (w : World) (hb : BookAt w bv b) (hl : IntsAt w v l) (hS : e = 0 → 1 ≤ b.sounds ∧ b.sounds ≤ 4) :
    Calls Try.prog 65 #[bv, v, .int .i64 e] w fun r w' => r = .returned (.int .i64 (hearsM b.sounds l e)) ∧ Ext w w' := by
  obtain ⟨ba, bc, bs, bd, rfl, -⟩ := hb.open
  obtain ⟨a, cap, rfl, hlc, hcm⟩ := hl.shape
  have hs : ∀ er : Int, (er = e ∧ e ≠ 0) ∨ (er = 3 ∧ e = 0 ∧ 5 < l.length) ∨ (er = e ∧ e = 0 ∧ ¬ 5 < l.length) → (er ≠ 0 → hearsM b.sounds l e = er) ∧ (er = 0 → e = 0 ∧ ¬ 5 < l.length ∧ withinM 0 (b.sounds - 1) (l.take 0) = true) := by
    rintro er (⟨rfl, h⟩ | ⟨rfl, h, h5⟩ | ⟨rfl, h, h5⟩)
    · exact ⟨fun _ => by rw [hearsM, if_pos h], fun h' => absurd h' h⟩
    · exact ⟨fun _ => by rw [hearsM, if_neg (by simpa using h), heardErrM, if_pos h5], fun h' => by cases h'⟩
    · exact ⟨fun h' => absurd h h', fun _ => ⟨h, h5, by simp [withinM]⟩⟩
  have HS := Lib.hid hS
  clear hS
  rcases (by omega : (e ≠ 0) ∨ (e = 0 ∧ 5 < l.length) ∨ (e = 0 ∧ ¬ 5 < l.length)) with h | ⟨h, h5⟩ | ⟨h, h5⟩
  · have Hs := Lib.hid (hs e (.inl ⟨rfl, h⟩))
    have h0' : (e == 0) = false := by simpa using h
    clear hs h
    go_enter Try.func65, Try.ntmps65
    go_wp2
    go_loopw [2, 7] (fun t i wr => ∃ k : Nat, ∃ er : Int, k ≤ l.length ∧ t = .int .i64 er ∧ i = .int .i64 k ∧ Ext w wr ∧ wr.cell? ⟨w.heap.size, 0, none⟩ = some (.int .i64 b.sounds) ∧ (er ≠ 0 → hearsM b.sounds l e = er) ∧ (er = 0 → e = 0 ∧ ¬ 5 < l.length ∧ withinM 0 (b.sounds - 1) (l.take k) = true)) (fun _ i _ => l.length - (intOf i).toNat)
    case atStart => exact ⟨0, _, Nat.zero_le _, rfl, rfl, (by first | (with_reducible exact Ext.refl _) | (with_reducible assumption) | (show Below _ _ _; go_grown; done)), by simp [go_sem], Hs.out.1, Hs.out.2⟩
    case round =>
      obtain ⟨k, er, hk, rfl, rfl, hx, q0, hd1, hd2⟩ := hrel
      have Hd1 := Lib.hid hd1; clear hd1
      have Hd2 := Lib.hid hd2; clear hd2 Hs h0'
      by_cases h0 : er = 0
      · subst h0
        obtain ⟨he0, he5, hw0⟩ := Hd2.out rfl
        have hS := HS.out he0
        have He0 := Lib.hid he0
        have He5 := Lib.hid he5
        have Hw0 := Lib.hid hw0
        clear he0 he5 hw0 Hd1 Hd2 HS
        by_cases hlt : k < l.length
        · have k1 : (k : Int) < (l.length : Int) := by omega
          obtain ⟨_, _, he, -, -, hh⟩ := hl.ext hx
          obtain ⟨bb, off, rfl, c0, hi⟩ := hh k hlt
          cases he
          generalize hy : l[k] = y at *
          have Hy := Lib.hid hy; clear hy hh
          simp only [Nat.mul_one] at c0
          have wb : IntKind.i64.wrap (b.sounds - 1) = b.sounds - 1 := IntWalk.i64_in _ (by omega)
          cases i1 : inM y 0 (b.sounds - 1)
          all_goals
            have I1 := Lib.hid i1
            go_wp2_with fail
            apply Facts.wp_region [.val _, .val _, .val _, .val _, .val _, .val _, .val _, .val (.bool (inM y 0 (b.sounds - 1))), .val _] (by kernel_rfl) (by kernel_rfl) trivial ?main
            case main =>
              iterate 7 (refine ⟨fun w1 hx hh => ?_, ?_⟩; focus (clear hh; have e0 := hx.cell q0; have e1 := hx.cell c0; go_simp; exact ⟨Ext.refl _, rfl⟩))
              refine ⟨fun w1 hx hh => ?_, ?_⟩
              · clear hh
                go_simp
                refine (In_any _ _ _ w1).mono ?_
                rintro e w' ⟨rfl, rfl⟩
                exact ⟨_, rfl, Ext.refl _, by rw [i1]⟩
              rw [i1]
              iterate 1 (refine ⟨fun w1 hx hh => ?_, ?_⟩; focus (clear hh; skip; go_simp; exact ⟨Ext.refl _, rfl⟩))
              intro w1 hx1 hh
              have hx3 := hx.trans hx1
              have cq := hx1.cell q0
              clear hh q0 c0 i1
              go_simp
              go_wp2
              go_roundw
              case rel => first
                | exact ⟨k + 1, 7, by omega, rfl, by go_num, hx3, cq, fun _ => by rw [hearsM, if_neg (by simpa using He0.out), heardErrM, if_neg (by have := He5.out; omega), if_pos (withinM_no' _ _ l k hlt y Hy.out I1.out)], fun h => by cases h⟩
                | exact ⟨k + 1, 0, by omega, rfl, by go_num, hx3, cq, fun h => absurd rfl h, fun _ => ⟨He0.out, He5.out, withinM_step' _ _ l k hlt y Hy.out Hw0.out I1.out⟩⟩
              case measure => simp [intOf]; omega
        · go_wp2
          go_ret
          have := Hw0.out
          rw [List.take_of_length_le (by omega)] at this
          exact ⟨ret_int (by rw [hearsM, if_neg (by simpa using He0.out), heardErrM, if_neg (by have := He5.out; omega), if_neg (by rw [this]; decide)]), hx⟩
      · have h0' : (er == 0) = false := by simpa using h0
        have H0 := Lib.hid h0
        clear h0
        by_cases hlt : (k : Int) < (l.length : Int)
        all_goals
          go_wp2
          go_ret
          exact ⟨ret_int (Hd1.out H0.out).symm, hx⟩
  · have Hs := Lib.hid (hs 3 (.inr (.inl ⟨rfl, h, h5⟩)))
    have h0' : (e == 0) = true := by simpa using h
    have h6 : (5 : Int) < (l.length : Int) := by omega
    clear hs h
    go_enter Try.func65, Try.ntmps65
    go_wp2
    go_loopw [2, 7] (fun t i wr => ∃ k : Nat, ∃ er : Int, k ≤ l.length ∧ t = .int .i64 er ∧ i = .int .i64 k ∧ Ext w wr ∧ wr.cell? ⟨w.heap.size, 0, none⟩ = some (.int .i64 b.sounds) ∧ (er ≠ 0 → hearsM b.sounds l e = er) ∧ (er = 0 → e = 0 ∧ ¬ 5 < l.length ∧ withinM 0 (b.sounds - 1) (l.take k) = true)) (fun _ i _ => l.length - (intOf i).toNat)
    case atStart => exact ⟨0, _, Nat.zero_le _, rfl, rfl, (by first | (with_reducible exact Ext.refl _) | (with_reducible assumption) | (show Below _ _ _; go_grown; done)), by simp [go_sem], Hs.out.1, Hs.out.2⟩
    case round =>
      obtain ⟨k, er, hk, rfl, rfl, hx, q0, hd1, hd2⟩ := hrel
      have Hd1 := Lib.hid hd1; clear hd1
      have Hd2 := Lib.hid hd2; clear hd2 Hs h0'
      by_cases h0 : er = 0
      · subst h0
        obtain ⟨he0, he5, hw0⟩ := Hd2.out rfl
        have hS := HS.out he0
        have He0 := Lib.hid he0
        have He5 := Lib.hid he5
        have Hw0 := Lib.hid hw0
        clear he0 he5 hw0 Hd1 Hd2 HS
        by_cases hlt : k < l.length
        · have k1 : (k : Int) < (l.length : Int) := by omega
          obtain ⟨_, _, he, -, -, hh⟩ := hl.ext hx
          obtain ⟨bb, off, rfl, c0, hi⟩ := hh k hlt
          cases he
          generalize hy : l[k] = y at *
          have Hy := Lib.hid hy; clear hy hh
          simp only [Nat.mul_one] at c0
          have wb : IntKind.i64.wrap (b.sounds - 1) = b.sounds - 1 := IntWalk.i64_in _ (by omega)
          cases i1 : inM y 0 (b.sounds - 1)
          all_goals
            have I1 := Lib.hid i1
            go_wp2_with fail
            apply Facts.wp_region [.val _, .val _, .val _, .val _, .val _, .val _, .val _, .val (.bool (inM y 0 (b.sounds - 1))), .val _] (by kernel_rfl) (by kernel_rfl) trivial ?main
            case main =>
              iterate 7 (refine ⟨fun w1 hx hh => ?_, ?_⟩; focus (clear hh; have e0 := hx.cell q0; have e1 := hx.cell c0; go_simp; exact ⟨Ext.refl _, rfl⟩))
              refine ⟨fun w1 hx hh => ?_, ?_⟩
              · clear hh
                go_simp
                refine (In_any _ _ _ w1).mono ?_
                rintro e w' ⟨rfl, rfl⟩
                exact ⟨_, rfl, Ext.refl _, by rw [i1]⟩
              rw [i1]
              iterate 1 (refine ⟨fun w1 hx hh => ?_, ?_⟩; focus (clear hh; skip; go_simp; exact ⟨Ext.refl _, rfl⟩))
              intro w1 hx1 hh
              have hx3 := hx.trans hx1
              have cq := hx1.cell q0
              clear hh q0 c0 i1
              go_simp
              go_wp2
              go_roundw
              case rel => first
                | exact ⟨k + 1, 7, by omega, rfl, by go_num, hx3, cq, fun _ => by rw [hearsM, if_neg (by simpa using He0.out), heardErrM, if_neg (by have := He5.out; omega), if_pos (withinM_no' _ _ l k hlt y Hy.out I1.out)], fun h => by cases h⟩
                | exact ⟨k + 1, 0, by omega, rfl, by go_num, hx3, cq, fun h => absurd rfl h, fun _ => ⟨He0.out, He5.out, withinM_step' _ _ l k hlt y Hy.out Hw0.out I1.out⟩⟩
              case measure => simp [intOf]; omega
        · go_wp2
          go_ret
          have := Hw0.out
          rw [List.take_of_length_le (by omega)] at this
          exact ⟨ret_int (by rw [hearsM, if_neg (by simpa using He0.out), heardErrM, if_neg (by have := He5.out; omega), if_neg (by rw [this]; decide)]), hx⟩
      · have h0' : (er == 0) = false := by simpa using h0
        have H0 := Lib.hid h0
        clear h0
        by_cases hlt : (k : Int) < (l.length : Int)
        all_goals
          go_wp2
          go_ret
          exact ⟨ret_int (Hd1.out H0.out).symm, hx⟩
  · have Hs := Lib.hid (hs e (.inr (.inr ⟨rfl, h, h5⟩)))
    have h0' : (e == 0) = true := by simpa using h
    have h6 : ¬ (5 : Int) < (l.length : Int) := by omega
    clear hs h
    go_enter Try.func65, Try.ntmps65
    go_wp2
    go_loopw [2, 7] (fun t i wr => ∃ k : Nat, ∃ er : Int, k ≤ l.length ∧ t = .int .i64 er ∧ i = .int .i64 k ∧ Ext w wr ∧ wr.cell? ⟨w.heap.size, 0, none⟩ = some (.int .i64 b.sounds) ∧ (er ≠ 0 → hearsM b.sounds l e = er) ∧ (er = 0 → e = 0 ∧ ¬ 5 < l.length ∧ withinM 0 (b.sounds - 1) (l.take k) = true)) (fun _ i _ => l.length - (intOf i).toNat)
    case atStart => exact ⟨0, _, Nat.zero_le _, rfl, rfl, (by first | (with_reducible exact Ext.refl _) | (with_reducible assumption) | (show Below _ _ _; go_grown; done)), by simp [go_sem], Hs.out.1, Hs.out.2⟩
    case round =>
      obtain ⟨k, er, hk, rfl, rfl, hx, q0, hd1, hd2⟩ := hrel
      have Hd1 := Lib.hid hd1; clear hd1
      have Hd2 := Lib.hid hd2; clear hd2 Hs h0'
      by_cases h0 : er = 0
      · subst h0
        obtain ⟨he0, he5, hw0⟩ := Hd2.out rfl
        have hS := HS.out he0
        have He0 := Lib.hid he0
        have He5 := Lib.hid he5
        have Hw0 := Lib.hid hw0
        clear he0 he5 hw0 Hd1 Hd2 HS
        by_cases hlt : k < l.length
        · have k1 : (k : Int) < (l.length : Int) := by omega
          obtain ⟨_, _, he, -, -, hh⟩ := hl.ext hx
          obtain ⟨bb, off, rfl, c0, hi⟩ := hh k hlt
          cases he
          generalize hy : l[k] = y at *
          have Hy := Lib.hid hy; clear hy hh
          simp only [Nat.mul_one] at c0
          have wb : IntKind.i64.wrap (b.sounds - 1) = b.sounds - 1 := IntWalk.i64_in _ (by omega)
          cases i1 : inM y 0 (b.sounds - 1)
          all_goals
            have I1 := Lib.hid i1
            go_wp2_with fail
            apply Facts.wp_region [.val _, .val _, .val _, .val _, .val _, .val _, .val _, .val (.bool (inM y 0 (b.sounds - 1))), .val _] (by kernel_rfl) (by kernel_rfl) trivial ?main
            case main =>
              iterate 7 (refine ⟨fun w1 hx hh => ?_, ?_⟩; focus (clear hh; have e0 := hx.cell q0; have e1 := hx.cell c0; go_simp; exact ⟨Ext.refl _, rfl⟩))
              refine ⟨fun w1 hx hh => ?_, ?_⟩
              · clear hh
                go_simp
                refine (In_any _ _ _ w1).mono ?_
                rintro e w' ⟨rfl, rfl⟩
                exact ⟨_, rfl, Ext.refl _, by rw [i1]⟩
              rw [i1]
              iterate 1 (refine ⟨fun w1 hx hh => ?_, ?_⟩; focus (clear hh; skip; go_simp; exact ⟨Ext.refl _, rfl⟩))
              intro w1 hx1 hh
              have hx3 := hx.trans hx1
              have cq := hx1.cell q0
              clear hh q0 c0 i1
              go_simp
              go_wp2
              go_roundw
              case rel => first
                | exact ⟨k + 1, 7, by omega, rfl, by go_num, hx3, cq, fun _ => by rw [hearsM, if_neg (by simpa using He0.out), heardErrM, if_neg (by have := He5.out; omega), if_pos (withinM_no' _ _ l k hlt y Hy.out I1.out)], fun h => by cases h⟩
                | exact ⟨k + 1, 0, by omega, rfl, by go_num, hx3, cq, fun h => absurd rfl h, fun _ => ⟨He0.out, He5.out, withinM_step' _ _ l k hlt y Hy.out Hw0.out I1.out⟩⟩
              case measure => simp [intOf]; omega
        · go_wp2
          go_ret
          have := Hw0.out
          rw [List.take_of_length_le (by omega)] at this
          exact ⟨ret_int (by rw [hearsM, if_neg (by simpa using He0.out), heardErrM, if_neg (by have := He5.out; omega), if_neg (by rw [this]; decide)]), hx⟩
      · have h0' : (er == 0) = false := by simpa using h0
        have H0 := Lib.hid h0
        clear h0
        by_cases hlt : (k : Int) < (l.length : Int)
        all_goals
          go_wp2
          go_ret
          exact ⟨ret_int (Hd1.out H0.out).symm, hx⟩
end Go.Proofs.Ytbodmgilcohfjaa
