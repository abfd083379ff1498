/-
  WHAT letters OF THE REFERENCE RETURNS: the first error of the letters of an alphabet.
-/
import Derived.Test.YtbodmgilcohfjaaRef6
namespace Go.Proofs.Ytbodmgilcohfjaa
open Go.RowKit

theorem any_take_yes (l : List Letter) (k m : Nat) (hk : k ≤ l.length) (h : m < k) (z : Letter) (hz : l[m]'(by omega) = z) (c : Int) (hc : (z.c == c) = true) : ((l.take k).any fun y => y.c == c) = true := by
  rw [List.any_eq_true]
  exact ⟨z, by rw [← hz]; exact List.mem_take_iff_getElem.2 ⟨m, by omega, rfl⟩, hc⟩
theorem any_take_no (l : List Letter) (k : Nat) (c : Int) (h : ∀ j (_ : j < k) (hj : j < l.length), (l[j].c == c) = false) : ((l.take k).any fun y => y.c == c) = false := by
  rw [List.any_eq_false]
  intro x hx
  obtain ⟨j, hj, rfl⟩ := List.mem_take_iff_getElem.1 hx
  rw [h j (by omega) (by omega)]; decide

def lettersErrM (S : Int) (l : List Letter) : Int := if inM l.length 1 6 = false then 3 else (firstErr (letterErrM S) l).2
set_option maxHeartbeats 2000000 in
set_option maxRecDepth 100000 in
theorem refLetters_any (bv v : Value) (b : Book) (hS : 1 ≤ b.sounds ∧ b.sounds ≤ 4) (l : List Letter) (w : World) (hb : BookAt w bv b) (hl : LettersAt w v l) :
    Calls Try.prog 51 #[bv, v] w fun e w' => e = .returned (.int .i64 (lettersErrM b.sounds l)) ∧ Ext w w' := by
  obtain ⟨ba, bc, bs, bd, rfl, -⟩ := hb.open
  obtain ⟨a, cap, rfl, hlc, hcm⟩ := hl.shape
  obtain ⟨S, hSe⟩ : ∃ S : Nat, b.sounds = S := ⟨b.sounds.toNat, by omega⟩
  have hmask : maskM b.sounds = 2 ^ S - 1 := by rw [maskM, hSe]; rfl
  have Hmask := Lib.hid hmask; clear hmask
  have hS4 : S ≤ 4 := by omega
  rw [hSe] at *
  cases h1 : inM l.length 1 6
  · have H1 := Lib.hid h1
    go_enter Try.func51, Try.ntmps51
    go_wp2_with (go_at_call 49; refine (In_any _ _ _ _).mono ?_; rintro e w' ⟨rfl, rfl⟩)
    go_ret
    exact ⟨ret_int (by rw [lettersErrM, if_pos H1.out]), (by first | (with_reducible exact Ext.refl _) | (with_reducible assumption) | (show Below _ _ _; go_grown; done))⟩
  have H1 := Lib.hid h1
  go_enter Try.func51, Try.ntmps51
  go_wp2_with (go_at_call 49; refine (In_any _ _ _ _).mono ?_; rintro e w' ⟨rfl, rfl⟩)
  clear h1
  go_loopw [5] (fun i wr => ∃ k : Nat, k ≤ l.length ∧ i = .int .i64 k ∧ Ext w wr ∧ wr.cell? ⟨w.heap.size, 0, none⟩ = some (.int .i64 S) ∧ firstErrFrom (letterErrM S) (l.take k) (l.drop k) = firstErr (letterErrM S) l) (fun i _ => l.length - (intOf i).toNat)
  case atStart => exact ⟨0, Nat.zero_le _, rfl, (by first | (with_reducible exact Ext.refl _) | (with_reducible assumption) | (show Below _ _ _; go_grown; done)), by simp [go_sem], rfl⟩
  case round =>
    obtain ⟨k, hk, rfl, hx, q0, hd⟩ := hrel
    have Hd := Lib.hid hd; clear hd
    by_cases hlt : k < l.length
    · have k1 : (k : Int) < (l.length : Int) := by omega
      obtain ⟨_, _, he, -, -, hh⟩ := hl.ext hx
      obtain ⟨bb, off, rfl, c0, c1, c2, hu, hi⟩ := hh k hlt
      cases he
      generalize hy : l[k] = y at *
      have Hy := Lib.hid hy; clear hy hh
      have wc : IntKind.i64.wrap y.c = y.c := IntWalk.i64_in _ (by unfold U8 at hu; omega)
      have hhit : letterErrM S (l.take k) y ≠ 0 → (firstErr (letterErrM S) l).2 = letterErrM S (l.take k) y := fun h => by rw [← Hd.out, firstErrFrom_hit _ l k hlt y Hy.out h]
      have Hhit := Lib.hid hhit; clear hhit
      cases i1 : inM y.c 97 122
      · have I1 := Lib.hid i1
        go_wp2_with (go_at_call 49; refine (In_any _ _ _ _).mono ?_; rintro e w' ⟨rfl, rfl⟩)
        go_ret
        have e6 : letterErrM S (l.take k) y = 6 := by rw [letterErrM, if_pos I1.out]
        exact ⟨ret_int (by rw [lettersErrM, if_neg (by rw [H1.out]; decide), Hhit.out (by rw [e6]; decide), e6]), hx⟩
      have I1 := Lib.hid i1
      go_wp2_with (go_at_call 49; refine (In_any _ _ _ _).mono ?_; rintro e w' ⟨rfl, rfl⟩)
      clear i1
      go_loopw [6] (fun j wq => ∃ m : Nat, m ≤ k ∧ j = .int .i64 m ∧ Ext wr wq ∧ ∀ j (_ : j < m) (hj : j < l.length), (l[j].c == y.c) = false) (fun j _ => k - (intOf j).toNat)
      case atStart => exact ⟨0, Nat.zero_le _, rfl, Ext.refl _, fun _ h => by omega⟩
      case round =>
        obtain ⟨m, hm, rfl, hxq, hno⟩ := hrel
        have Hno := Lib.hid hno; clear hno
        have d0 := hxq.cell c0
        by_cases hmk : m < k
        · have m1 : (m : Int) < (k : Int) := by omega
          have m2 : (m : Int) < (l.length : Int) := by omega
          obtain ⟨_, _, he, -, -, hh⟩ := hl.ext (hx.trans hxq)
          obtain ⟨bb', off', he', d3, -⟩ := hh m (by omega)
          cases he
          cases he'
          generalize hz : l[m]'(by omega) = z at *
          have Hz := Lib.hid hz; clear hz hh
          cases i2 : (z.c == y.c)
          all_goals
            have I2 := Lib.hid i2
            go_wp2_with fail
            apply Facts.wp_region [.val _, .val _, .val _, .val _, .val _, .val _, .val _, .val _, .val _, .val _, .val _] (by kernel_rfl) (by kernel_rfl) trivial ?main
            case main =>
              iterate 11 (refine ⟨fun w1 hx hh => ?_, ?_⟩; focus (clear hh; have e0 := hx.cell d0; have e1 := hx.cell d3; go_simp; exact ⟨Ext.refl _, rfl⟩))
              intro w1 hx1 hh
              have hx3 := hxq.trans hx1
              clear hh d0 d3
              go_simp
              clear i2
              go_wp2
              first
                | (go_ret
                   have e5 : letterErrM S (l.take k) y = 5 := by rw [letterErrM, if_neg (by rw [I1.out]; decide), if_pos (any_take_yes l k m hk hmk z Hz.out y.c I2.out)]
                   exact ⟨ret_int (by rw [lettersErrM, if_neg (by rw [H1.out]; decide), Hhit.out (by rw [e5]; decide), e5]), hx.trans hx3⟩)
                | (go_roundw
                   case rel => exact ⟨m + 1, by omega, by go_num, hx3, fun j hj hl => by
                     rcases Nat.lt_or_ge j m with hjk | hjk
                     · exact Hno.out j hjk hl
                     · obtain rfl : j = m := by omega
                       rw [Hz.out]; exact I2.out⟩
                   case measure => simp [intOf]; omega)
        · have any0 : ((l.take k).any fun x => x.c == y.c) = false := any_take_no l k y.c fun j hj hjl => Hno.out j (by omega) hjl
          have Any0 := Lib.hid any0; clear any0
          have d1 := hxq.cell c1
          have d2 := hxq.cell c2
          have p0 := hxq.cell q0
          clear c0 c1 c2 q0
          have hxx := hx.trans hxq
          have hi' : -9223372036854775808 ≤ y.sounds ∧ y.sounds ≤ 9223372036854775807 := hi
          cases i3 : inM y.sounds 0 (2 ^ S - 1)
          all_goals
            have I3 := Lib.hid i3
            go_wp2_with fail
            apply Facts.wp_region [.val _, .val _, .val _, .val _, .val _, .val _, .val _, .val (.int .i64 (2 ^ S - 1)), .val _, .val _] (by kernel_rfl) (by kernel_rfl) trivial ?main
            case main =>
              iterate 7 (refine ⟨fun w1 hx hh => ?_, ?_⟩; focus (clear hh; have e0 := hx.cell d1; have e1 := hx.cell p0; go_simp; exact ⟨Ext.refl _, rfl⟩))
              refine ⟨fun w1 hx hh => ?_, ?_⟩
              · clear hh
                go_simp
                refine (all_any S hS4 w1).mono ?_
                rintro e w' ⟨rfl, rfl⟩
                exact ⟨_, rfl, Ext.refl _, rfl⟩
              refine ⟨fun w1 hx hh => ?_, ?_⟩
              · clear hh
                go_simp
                refine (In_any _ _ _ w1).mono ?_
                rintro e w' ⟨rfl, rfl⟩
                exact ⟨_, rfl, Ext.refl _, rfl⟩
              rw [i3]
              iterate 1 (refine ⟨fun w1 hx hh => ?_, ?_⟩; focus (clear hh; skip; go_simp; exact ⟨Ext.refl _, rfl⟩))
              intro w1 hx1 hh
              have hx3 := hxx.trans hx1
              have b1 := hx1.cell d1
              have b2 := hx1.cell d2
              have bq := hx1.cell p0
              clear hh d0 d1 d2 p0 i3
              go_simp
              first
                | (go_wp2
                   go_ret
                   have e7 : letterErrM S (l.take k) y = 7 := by rw [letterErrM, if_neg (by rw [I1.out]; decide), if_neg (by rw [Any0.out]; decide), if_pos (by rw [Hmask.out]; exact I3.out)]
                   exact ⟨ret_int (by rw [lettersErrM, if_neg (by rw [H1.out]; decide), Hhit.out (by rw [e7]; decide), e7]), hx3⟩)
                | (cases i4 : (y.sounds == 0)
                   all_goals
                     have I4 := Lib.hid i4
                     cases i5 : y.silent
                     all_goals
                       have I5 := Lib.hid i5
                       rw [i5] at b2
                       go_wp2
                       first
                         | (go_ret
                            have e2 : letterErrM S (l.take k) y = 2 := by rw [letterErrM, if_neg (by rw [I1.out]; decide), if_neg (by rw [Any0.out]; decide), if_neg (by rw [Hmask.out, I3.out]; decide), if_pos (by rw [I4.out, I5.out]; decide)]
                            exact ⟨ret_int (by rw [lettersErrM, if_neg (by rw [H1.out]; decide), Hhit.out (by rw [e2]; decide), e2]), hx3⟩)
                         | (go_roundw
                            case rel => exact ⟨k + 1, by omega, by go_num, hx3, bq, (firstErrFrom_step _ l k hlt y Hy.out (by rw [letterErrM, if_neg (by rw [I1.out]; decide), if_neg (by rw [Any0.out]; decide), if_neg (by rw [Hmask.out, I3.out]; decide), if_neg (by rw [I4.out, I5.out]; decide)])).trans Hd.out⟩
                            case measure => simp [intOf]; omega))
    · go_wp2
      go_ret
      have := Hd.out
      rw [firstErrFrom_end _ _ _ (by omega)] at this
      exact ⟨ret_int (by rw [lettersErrM, if_neg (by rw [H1.out]; decide), ← this]), hx⟩
end Go.Proofs.Ytbodmgilcohfjaa
