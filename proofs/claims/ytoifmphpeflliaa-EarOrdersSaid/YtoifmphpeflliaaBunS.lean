/-
  WHAT letter AND spelling OF THE REFERENCE RETURN.
  WHAT letters OF THE REFERENCE RETURNS: the first error of the letters of an alphabet.
  WHAT Check OF THE REFERENCE RETURNS: the same as that of ear. For any book.
  WHAT indices, one AND hears OF THE REFERENCE RETURN: the errors of arguments; how many are marked, and the first one.
  WHAT Many, Least AND Code OF THE REFERENCE RETURN.
  WHAT letter AND Book OF THE STATEMENTS RETURN: the book of the examples.
-/
import Derived.Test.YtoifmphpeflliaaBunR
import Derived.Test.YtoifmphpeflliaaBunB
import Derived.Test.YtoifmphpeflliaaBunD
namespace Go.Proofs.Ytoifmphpeflliaa
open Go.RowKit

set_option maxHeartbeats 1000000 in
set_option maxRecDepth 100000 in
theorem refLetter_any (v : Value) (x : Alphabet) (c : Int) (w : World) (hv : AlphabetV w v x) :
    Calls Try.prog 129 #[v, .int .u8 c] w fun e w' => e = .returned (.int .i64 (idxM (fun y => y.c == c) x.letters)) ∧ Ext w w' := by
  obtain ⟨u, rfl, -, hl⟩ := hv
  obtain ⟨a, cap, rfl, hlc, hcm⟩ := hl.shape
  have hl1 := hl.ext (ext_alloc w (.cells #[.string x.name, .slice a x.letters.length cap] 38))
  have q1 : (w.alloc (.cells #[.string x.name, .slice a x.letters.length cap] 38)).cell? ⟨w.heap.size, 1, none⟩ = some (.slice a x.letters.length cap) := by simp [go_sem]
  have hx0 := ext_alloc w (.cells #[.string x.name, .slice a x.letters.length cap] 38)
  have z : ∀ b o v, w.cell? ⟨b, o, none⟩ = some v → b < w.heap.size := fun b o v h => cell_lt h
  go_enter Try.func129, Try.ntmps129
  go_wp2
  go_loop [5] (fun i => ∃ k : Nat, k ≤ x.letters.length ∧ i = .int .i64 k ∧ (∀ j (_ : j < k) (hj : j < x.letters.length), (x.letters[j].c == c) = false)) (fun i => x.letters.length - (intOf i).toNat)
  case atStart => exact ⟨0, Nat.zero_le _, rfl, fun _ h => by omega⟩
  case round =>
    obtain ⟨k, hk, rfl, hno⟩ := hrel
    have Hno := Lib.hid hno; clear hno
    by_cases hlt : k < x.letters.length
    · obtain ⟨_, _, he, -, -, hh⟩ := hl
      obtain ⟨b, off, rfl, h1, h2, h3, hu, hi⟩ := hh k hlt
      cases he
      have hz := cell_lt h1
      generalize hy : x.letters[k] = y at *
      have Hy := Lib.hid hy; clear hy hh
      cases hb : (y.c == c)
      · have Hb := Lib.hid hb
        go_wp2
        go_round
        case rel => exact ⟨k + 1, by omega, by go_num, fun j hj hl => by
          rcases Nat.lt_or_ge j k with hjk | hjk
          · exact Hno.out j hjk hl
          · obtain rfl : j = k := by omega
            rw [Hy.out]; exact Hb.out⟩
        case measure => simp [intOf]; omega
      · have Hb := Lib.hid hb
        go_wp2
        go_ret
        exact ⟨ret_int (idxM_some _ _ k hlt (fun i hi hl => Hno.out i hi hl) (by rw [Hy.out]; exact Hb.out)).symm, (by first | (with_reducible exact Ext.refl _) | (with_reducible assumption) | (show Below _ _ _; go_grown; done))⟩
    · go_wp2
      go_ret
      exact ⟨ret_int (idxM_none _ _ fun i hi => Hno.out i (by omega) hi).symm, (by first | (with_reducible exact Ext.refl _) | (with_reducible assumption) | (show Below _ _ _; go_grown; done))⟩

set_option maxHeartbeats 1000000 in
set_option maxRecDepth 100000 in
theorem refSpelling_any (bv u : Value) (b : Book) (x : Spelling) (w : World) (hb : BookAt w bv b) (hu : SpellingV u x) :
    Calls Try.prog 92 #[bv, u] w fun e w' => e = .returned (.int .i64 (spellingErrM b.alphabets x)) ∧ Ext w w' := by
  obtain ⟨ba, bc, bs, bd, rfl, -, hbl, hbc, -, -, -, hal, -⟩ := hb.open
  obtain ⟨rfl, hai, hts⟩ := hu
  have hai' : -9223372036854775808 ≤ x.alphabet ∧ x.alphabet ≤ 9223372036854775807 := hai
  have wl : IntKind.i64.wrap ((b.alphabets.length : Int) - 1) = (b.alphabets.length : Int) - 1 := IntWalk.i64_in _ (by omega)
  cases h1 : inM x.alphabet 0 (b.alphabets.length - 1)
  · have H1 := Lib.hid h1
    go_enter Try.func92, Try.ntmps92
    go_wp2_with (go_at_call 84; refine (In_any _ _ _ _).mono ?_; rintro e w' ⟨rfl, rfl⟩)
    go_ret
    exact ⟨ret_int (by rw [spellingErrM, if_pos H1.out]), (by first | (with_reducible exact Ext.refl _) | (with_reducible assumption) | (show Below _ _ _; go_grown; done))⟩
  have hin : 0 ≤ x.alphabet ∧ x.alphabet ≤ b.alphabets.length - 1 := by simpa [inM] using h1
  have H1 := Lib.hid h1
  cases h2 : inM x.text.size 1 5
  · have H2 := Lib.hid h2
    go_enter Try.func92, Try.ntmps92
    go_wp2_with (go_at_call 84; refine (In_any _ _ _ _).mono ?_; rintro e w' ⟨rfl, rfl⟩)
    go_ret
    exact ⟨ret_int (by rw [spellingErrM, if_neg (by rw [H1.out]; decide), if_pos H2.out]), (by first | (with_reducible exact Ext.refl _) | (with_reducible assumption) | (show Below _ _ _; go_grown; done))⟩
  have H2 := Lib.hid h2
  go_enter Try.func92, Try.ntmps92
  go_wp2_with (go_at_call 84; refine (In_any _ _ _ _).mono ?_; rintro e w' ⟨rfl, rfl⟩)
  clear h1 h2
  have hlt : x.alphabet.toNat < b.alphabets.length := by omega
  have hls : lettersOf b.alphabets x.alphabet = (b.alphabets[x.alphabet.toNat]).letters := by
    rw [lettersOf, List.getElem?_eq_getElem hlt]
  have Hls := Lib.hid hls; clear hls
  go_loopw [5] (fun i wr => ∃ k : Nat, k ≤ x.text.size ∧ i = .int .i64 k ∧ Ext w wr ∧ (wr.cell? ⟨w.heap.size, 1, none⟩ = some (.slice ba b.alphabets.length bc) ∧ wr.cell? ⟨w.heap.size + 1, 0, none⟩ = some (.int .i64 x.alphabet) ∧ wr.cell? ⟨w.heap.size + 1, 1, none⟩ = some (.string x.text)) ∧
    ∀ j, j < k → knownB (lettersOf b.alphabets x.alphabet) x.text j = true) (fun i _ => x.text.size - (intOf i).toNat)
  case atStart => exact ⟨0, Nat.zero_le _, rfl, (by first | (with_reducible exact Ext.refl _) | (with_reducible assumption) | (show Below _ _ _; go_grown; done)), ⟨by simp [go_sem], by simp [go_sem], by simp [go_sem]⟩, fun _ h => absurd h (Nat.not_lt_zero _)⟩
  case round =>
    obtain ⟨k, hk, rfl, hx, ⟨c1, c2, c3⟩, hno⟩ := hrel
    have Hno := Lib.hid hno; clear hno
    by_cases hkt : k < x.text.size
    · go_wp2_with fail
      obtain ⟨_, _, he, -, -, hh⟩ := hal.ext hx
      obtain ⟨bb, off, rfl, c5, hns, lv, c4, hlv⟩ := hh x.alphabet.toNat hlt
      cases he
      have hbe := byteAt_eq x.text k hkt
      have hi2 : x.alphabet < (b.alphabets.length : Int) := by omega
      clear hh
      apply Facts.wp_region [.val _, .val _, .val _, .val _, .val _, .val _, .val _, .val _, .val _, .val _, .val _, .val _] (by kernel_rfl) (by kernel_rfl) trivial ?main
      case main =>
        iterate 10 (refine ⟨fun w1 hx hh => ?_, ?_⟩; focus (clear hh; have e0 := hx.cell c1; have e1 := hx.cell c2; have e2 := hx.cell c3; have e3 := hx.cell c4; have e4 := hx.cell c5; go_simp; exact ⟨Ext.refl _, rfl⟩))
        refine ⟨fun w1 hx hh => ?_, ?_⟩
        · clear hh
          go_simp
          refine (refLetter_any _ (b.alphabets[x.alphabet.toNat]) _ w1 ⟨lv, rfl, hns, hlv.ext hx⟩).mono ?_
          rintro e w' ⟨rfl, hx2⟩
          exact ⟨_, rfl, hx2, rfl⟩
        iterate 1 (refine ⟨fun w1 hx hh => ?_, ?_⟩; focus (clear hh; skip; go_simp; exact ⟨Ext.refl _, rfl⟩))
        intro w1 hx1 hh
        have hx3 := hx.trans hx1
        have cs := And.intro (hx1.cell c1) (And.intro (hx1.cell c2) (hx1.cell c3))
        clear hh c1 c2 c3 c4 c5 hlv hx1 hal
        have hkn : decide (idxM (fun y : Letter => y.c == ((x.text[k]'hkt).toNat : Int)) (b.alphabets[x.alphabet.toNat]).letters < 0) = !knownB (lettersOf b.alphabets x.alphabet) x.text k := by
          rw [idxM_lt, Hls.out, knownB, hbe]
        clear hbe
        cases hb : knownB (lettersOf b.alphabets x.alphabet) x.text k
        · rw [hb, Bool.not_false] at hkn
          have Hb := Lib.hid hb; clear hb
          go_simp
          go_wp2
          go_ret
          exact ⟨ret_int (by rw [spellingErrM, if_neg (by rw [H1.out]; decide), if_neg (by rw [H2.out]; decide), if_pos (textOk_no _ _ k hkt Hb.out)]), hx3⟩
        · rw [hb, Bool.not_true] at hkn
          have Hb := Lib.hid hb; clear hb
          go_simp
          go_wp2
          go_roundw
          case rel => exact ⟨k + 1, by omega, by go_num, hx3, cs, fun j hj => by
            rcases Nat.lt_or_ge j k with hjk | hjk
            · exact Hno.out j hjk
            · obtain rfl : j = k := by omega
              exact Hb.out⟩
          case measure => simp [intOf]; omega
    · go_wp2
      go_ret
      exact ⟨ret_int (by rw [spellingErrM, if_neg (by rw [H1.out]; decide), if_neg (by rw [H2.out]; decide), if_neg (by rw [textOk_yes _ _ fun j hj => Hno.out j (by omega)]; decide)]), hx⟩
end Go.Proofs.Ytoifmphpeflliaa

namespace Go.Proofs.Ytoifmphpeflliaa
open Go.RowKit

theorem any_take_yes (l : List Letter) (k m : Nat) (hk : k ≤ l.length) (h : m < k) (z : Letter) (hz : l[m]'(by omega) = z) (c : Int) (hc : (z.c == c) = true) : ((l.take k).any fun y => y.c == c) = true := by
  rw [List.any_eq_true]
  exact ⟨z, by rw [← hz]; exact List.mem_take_iff_getElem.2 ⟨m, by omega, rfl⟩, hc⟩
theorem any_take_no (l : List Letter) (k : Nat) (c : Int) (h : ∀ j (_ : j < k) (hj : j < l.length), (l[j].c == c) = false) : ((l.take k).any fun y => y.c == c) = false := by
  rw [List.any_eq_false]
  intro x hx
  obtain ⟨j, hj, rfl⟩ := List.mem_take_iff_getElem.1 hx
  rw [h j (by omega) (by omega)]; decide

def lettersErrM (S : Int) (l : List Letter) : Int := if inM l.length 1 6 = false then 3 else (firstErr (letterErrM S) l).2
set_option maxHeartbeats 2000000 in
set_option maxRecDepth 100000 in
theorem refLetters_any (bv v : Value) (b : Book) (hS : 1 ≤ b.sounds ∧ b.sounds ≤ 4) (l : List Letter) (w : World) (hb : BookAt w bv b) (hl : LettersAt w v l) :
    Calls Try.prog 91 #[bv, v] w fun e w' => e = .returned (.int .i64 (lettersErrM b.sounds l)) ∧ Ext w w' := by
  obtain ⟨ba, bc, bs, bd, rfl, -⟩ := hb.open
  obtain ⟨a, cap, rfl, hlc, hcm⟩ := hl.shape
  obtain ⟨S, hSe⟩ : ∃ S : Nat, b.sounds = S := ⟨b.sounds.toNat, by omega⟩
  have hmask : maskM b.sounds = 2 ^ S - 1 := by rw [maskM, hSe]; rfl
  have Hmask := Lib.hid hmask; clear hmask
  have hS4 : S ≤ 4 := by omega
  rw [hSe] at *
  cases h1 : inM l.length 1 6
  · have H1 := Lib.hid h1
    go_enter Try.func91, Try.ntmps91
    go_wp2_with (go_at_call 84; refine (In_any _ _ _ _).mono ?_; rintro e w' ⟨rfl, rfl⟩)
    go_ret
    exact ⟨ret_int (by rw [lettersErrM, if_pos H1.out]), (by first | (with_reducible exact Ext.refl _) | (with_reducible assumption) | (show Below _ _ _; go_grown; done))⟩
  have H1 := Lib.hid h1
  go_enter Try.func91, Try.ntmps91
  go_wp2_with (go_at_call 84; refine (In_any _ _ _ _).mono ?_; rintro e w' ⟨rfl, rfl⟩)
  clear h1
  go_loopw [5] (fun i wr => ∃ k : Nat, k ≤ l.length ∧ i = .int .i64 k ∧ Ext w wr ∧ wr.cell? ⟨w.heap.size, 0, none⟩ = some (.int .i64 S) ∧ firstErrFrom (letterErrM S) (l.take k) (l.drop k) = firstErr (letterErrM S) l) (fun i _ => l.length - (intOf i).toNat)
  case atStart => exact ⟨0, Nat.zero_le _, rfl, (by first | (with_reducible exact Ext.refl _) | (with_reducible assumption) | (show Below _ _ _; go_grown; done)), by simp [go_sem], rfl⟩
  case round =>
    obtain ⟨k, hk, rfl, hx, q0, hd⟩ := hrel
    have Hd := Lib.hid hd; clear hd
    by_cases hlt : k < l.length
    · have k1 : (k : Int) < (l.length : Int) := by omega
      obtain ⟨_, _, he, -, -, hh⟩ := hl.ext hx
      obtain ⟨bb, off, rfl, c0, c1, c2, hu, hi⟩ := hh k hlt
      cases he
      generalize hy : l[k] = y at *
      have Hy := Lib.hid hy; clear hy hh
      have wc : IntKind.i64.wrap y.c = y.c := IntWalk.i64_in _ (by unfold U8 at hu; omega)
      have hhit : letterErrM S (l.take k) y ≠ 0 → (firstErr (letterErrM S) l).2 = letterErrM S (l.take k) y := fun h => by rw [← Hd.out, firstErrFrom_hit _ l k hlt y Hy.out h]
      have Hhit := Lib.hid hhit; clear hhit
      cases i1 : inM y.c 97 122
      · have I1 := Lib.hid i1
        go_wp2_with (go_at_call 84; refine (In_any _ _ _ _).mono ?_; rintro e w' ⟨rfl, rfl⟩)
        go_ret
        have e6 : letterErrM S (l.take k) y = 6 := by rw [letterErrM, if_pos I1.out]
        exact ⟨ret_int (by rw [lettersErrM, if_neg (by rw [H1.out]; decide), Hhit.out (by rw [e6]; decide), e6]), hx⟩
      have I1 := Lib.hid i1
      go_wp2_with (go_at_call 84; refine (In_any _ _ _ _).mono ?_; rintro e w' ⟨rfl, rfl⟩)
      clear i1
      go_loopw [6] (fun j wq => ∃ m : Nat, m ≤ k ∧ j = .int .i64 m ∧ Ext wr wq ∧ ∀ j (_ : j < m) (hj : j < l.length), (l[j].c == y.c) = false) (fun j _ => k - (intOf j).toNat)
      case atStart => exact ⟨0, Nat.zero_le _, rfl, Ext.refl _, fun _ h => by omega⟩
      case round =>
        obtain ⟨m, hm, rfl, hxq, hno⟩ := hrel
        have Hno := Lib.hid hno; clear hno
        have d0 := hxq.cell c0
        by_cases hmk : m < k
        · have m1 : (m : Int) < (k : Int) := by omega
          have m2 : (m : Int) < (l.length : Int) := by omega
          obtain ⟨_, _, he, -, -, hh⟩ := hl.ext (hx.trans hxq)
          obtain ⟨bb', off', he', d3, -⟩ := hh m (by omega)
          cases he
          cases he'
          generalize hz : l[m]'(by omega) = z at *
          have Hz := Lib.hid hz; clear hz hh
          cases i2 : (z.c == y.c)
          all_goals
            have I2 := Lib.hid i2
            go_wp2_with fail
            apply Facts.wp_region [.val _, .val _, .val _, .val _, .val _, .val _, .val _, .val _, .val _, .val _, .val _] (by kernel_rfl) (by kernel_rfl) trivial ?main
            case main =>
              iterate 11 (refine ⟨fun w1 hx hh => ?_, ?_⟩; focus (clear hh; have e0 := hx.cell d0; have e1 := hx.cell d3; go_simp; exact ⟨Ext.refl _, rfl⟩))
              intro w1 hx1 hh
              have hx3 := hxq.trans hx1
              clear hh d0 d3
              go_simp
              clear i2
              go_wp2
              first
                | (go_ret
                   have e5 : letterErrM S (l.take k) y = 5 := by rw [letterErrM, if_neg (by rw [I1.out]; decide), if_pos (any_take_yes l k m hk hmk z Hz.out y.c I2.out)]
                   exact ⟨ret_int (by rw [lettersErrM, if_neg (by rw [H1.out]; decide), Hhit.out (by rw [e5]; decide), e5]), hx.trans hx3⟩)
                | (go_roundw
                   case rel => exact ⟨m + 1, by omega, by go_num, hx3, fun j hj hl => by
                     rcases Nat.lt_or_ge j m with hjk | hjk
                     · exact Hno.out j hjk hl
                     · obtain rfl : j = m := by omega
                       rw [Hz.out]; exact I2.out⟩
                   case measure => simp [intOf]; omega)
        · have any0 : ((l.take k).any fun x => x.c == y.c) = false := any_take_no l k y.c fun j hj hjl => Hno.out j (by omega) hjl
          have Any0 := Lib.hid any0; clear any0
          have d1 := hxq.cell c1
          have d2 := hxq.cell c2
          have p0 := hxq.cell q0
          clear c0 c1 c2 q0
          have hxx := hx.trans hxq
          have hi' : -9223372036854775808 ≤ y.sounds ∧ y.sounds ≤ 9223372036854775807 := hi
          cases i3 : inM y.sounds 0 (2 ^ S - 1)
          all_goals
            have I3 := Lib.hid i3
            go_wp2_with fail
            apply Facts.wp_region [.val _, .val _, .val _, .val _, .val _, .val _, .val _, .val (.int .i64 (2 ^ S - 1)), .val _, .val _] (by kernel_rfl) (by kernel_rfl) trivial ?main
            case main =>
              iterate 7 (refine ⟨fun w1 hx hh => ?_, ?_⟩; focus (clear hh; have e0 := hx.cell d1; have e1 := hx.cell p0; go_simp; exact ⟨Ext.refl _, rfl⟩))
              refine ⟨fun w1 hx hh => ?_, ?_⟩
              · clear hh
                go_simp
                refine (all_any S hS4 w1).mono ?_
                rintro e w' ⟨rfl, rfl⟩
                exact ⟨_, rfl, Ext.refl _, rfl⟩
              refine ⟨fun w1 hx hh => ?_, ?_⟩
              · clear hh
                go_simp
                refine (In_any _ _ _ w1).mono ?_
                rintro e w' ⟨rfl, rfl⟩
                exact ⟨_, rfl, Ext.refl _, rfl⟩
              rw [i3]
              iterate 1 (refine ⟨fun w1 hx hh => ?_, ?_⟩; focus (clear hh; skip; go_simp; exact ⟨Ext.refl _, rfl⟩))
              intro w1 hx1 hh
              have hx3 := hxx.trans hx1
              have b1 := hx1.cell d1
              have b2 := hx1.cell d2
              have bq := hx1.cell p0
              clear hh d0 d1 d2 p0 i3
              go_simp
              first
                | (go_wp2
                   go_ret
                   have e7 : letterErrM S (l.take k) y = 7 := by rw [letterErrM, if_neg (by rw [I1.out]; decide), if_neg (by rw [Any0.out]; decide), if_pos (by rw [Hmask.out]; exact I3.out)]
                   exact ⟨ret_int (by rw [lettersErrM, if_neg (by rw [H1.out]; decide), Hhit.out (by rw [e7]; decide), e7]), hx3⟩)
                | (cases i4 : (y.sounds == 0)
                   all_goals
                     have I4 := Lib.hid i4
                     cases i5 : y.silent
                     all_goals
                       have I5 := Lib.hid i5
                       rw [i5] at b2
                       go_wp2
                       first
                         | (go_ret
                            have e2 : letterErrM S (l.take k) y = 2 := by rw [letterErrM, if_neg (by rw [I1.out]; decide), if_neg (by rw [Any0.out]; decide), if_neg (by rw [Hmask.out, I3.out]; decide), if_pos (by rw [I4.out, I5.out]; decide)]
                            exact ⟨ret_int (by rw [lettersErrM, if_neg (by rw [H1.out]; decide), Hhit.out (by rw [e2]; decide), e2]), hx3⟩)
                         | (go_roundw
                            case rel => exact ⟨k + 1, by omega, by go_num, hx3, bq, (firstErrFrom_step _ l k hlt y Hy.out (by rw [letterErrM, if_neg (by rw [I1.out]; decide), if_neg (by rw [Any0.out]; decide), if_neg (by rw [Hmask.out, I3.out]; decide), if_neg (by rw [I4.out, I5.out]; decide)])).trans Hd.out⟩
                            case measure => simp [intOf]; omega))
    · go_wp2
      go_ret
      have := Hd.out
      rw [firstErrFrom_end _ _ _ (by omega)] at this
      exact ⟨ret_int (by rw [lettersErrM, if_neg (by rw [H1.out]; decide), ← this]), hx⟩
end Go.Proofs.Ytoifmphpeflliaa

namespace Go.Proofs.Ytoifmphpeflliaa
open Go.RowKit

theorem StrsAt.of_own {w : World} {B : Nat} {e : TypeId} {v : Value} {l : List ByteArray} (h : w.ownsRow B e 1 v l.length (l.map Value.string)) (hI : ∀ x ∈ l, x.size ≤ 9223372036854775807) : StrsAt w v l := by
  rcases h.2 with ⟨rfl, hn⟩ | ⟨g, cap, cur, rfl, hb, hg, hnc, hcm, hcs, htake⟩
  · have : l = [] := List.eq_nil_of_length_eq_zero hn
    subst this; exact SliceAt.nil
  · refine ⟨_, _, rfl, hnc, by simpa [maxLen] using hcm, fun i hi => ⟨g, 0, rfl, ?_, hI _ (List.getElem_mem hi)⟩⟩
    have := h.cells (g := g) rfl i (.string l[i]) (by simp [hi])
    have e : (⟨g, 0, none⟩ : Addr).add i = ⟨g, 0 + i * 1, none⟩ := by unfold Addr.add; split <;> simp_all
    rw [e] at this; exact this
def namesTo (al : List Alphabet) (k : Nat) : List ByteArray := (al.take k).map Alphabet.name
theorem namesTo_succ (al : List Alphabet) (k : Nat) (h : k < al.length) (y : Alphabet) (hy : al[k] = y) : namesTo al (k + 1) = namesTo al k ++ [y.name] := by
  rw [namesTo, List.take_succ_eq_append_getElem h, hy, List.map_append]; rfl
theorem namesTo_len (al : List Alphabet) (k : Nat) (h : k ≤ al.length) : (namesTo al k).length = k := by simp [namesTo]; omega
theorem AlphabetsAt.names {w : World} {v : Value} {al : List Alphabet} (h : AlphabetsAt w v al) (k : Nat) : ∀ x ∈ namesTo al k, x.size ≤ 9223372036854775807 := by
  obtain ⟨_, _, -, -, -, hh⟩ := h
  intro x hx
  obtain ⟨y, hy, rfl⟩ := List.mem_map.1 hx
  obtain ⟨i, hi, rfl⟩ := List.getElem_of_mem (List.mem_of_mem_take hy)
  obtain ⟨_, _, -, hr⟩ := hh i hi
  exact hr.2.1
theorem snoc_names {w : World} {B : Nat} {e : TypeId} {v : Value} {al : List Alphabet} {k m : Nat} {y : Alphabet} (hb : namesTo al (k + 1) = namesTo al k ++ [y.name]) (hm : m = (namesTo al k).length + 1)
    (h : w.ownsRow B e 1 v m ((namesTo al k).map Value.string ++ [.string y.name])) : w.ownsRow B e 1 v (namesTo al (k + 1)).length ((namesTo al (k + 1)).map Value.string) := by
  subst hm
  rw [hb]
  simpa using h
theorem infoStr : (Try.prog.info? 9).map (fun i => (i.zero, i.size, i.bytes)) = some (some (.string ByteArray.empty), 1, 16) := by kernel_rfl
theorem alphabetErr_eq (S : Int) (l : List Alphabet) (x : Alphabet) : alphabetErrM S l x = if freshM x.name (l.map Alphabet.name) = 0 then lettersErrM S x.letters else freshM x.name (l.map Alphabet.name) := by
  unfold alphabetErrM freshM lettersErrM
  rw [List.any_map]
  have e : ((fun y : ByteArray => y.toList == x.name.toList) ∘ Alphabet.name) = fun y : Alphabet => y.name.toList == x.name.toList := rfl
  rw [e]
  cases nameM x.name
  · simp
  · cases (l.any fun y : Alphabet => y.name.toList == x.name.toList) <;> simp

set_option maxHeartbeats 2000000 in
set_option maxRecDepth 100000 in
theorem refCheck_any (bv : Value) (b : Book) (w : World) (hb : BookAt w bv b) :
    Calls Try.prog 50 #[bv] w fun e w' => e = .returned (.tuple #[.int .i64 (checkM b).1, .int .i64 (checkM b).2.1, .int .i64 (checkM b).2.2]) ∧ Ext w w' := by
  obtain ⟨ba, bc, bs, bd, rfl, hbi, hbl, hbc, hsl, hsc, -, hal, hsp⟩ := hb.open
  have hbi' : -9223372036854775808 ≤ b.sounds ∧ b.sounds ≤ 9223372036854775807 := hbi
  cases h1 : inM b.sounds 1 4
  · have H1 := Lib.hid h1
    go_enter Try.func50, Try.ntmps50
    go_wp2_with (go_at_call 84; refine (In_any _ _ _ _).mono ?_; rintro e w' ⟨rfl, rfl⟩)
    go_ret3
    exact ⟨ret_three (by rw [checkM, if_pos H1.out]), (by first | (with_reducible exact Ext.refl _) | (with_reducible assumption) | (show Below _ _ _; go_grown; done))⟩
  have hS : 1 ≤ b.sounds ∧ b.sounds ≤ 4 := by simpa [inM] using h1
  have H1 := Lib.hid h1
  cases h2 : inM b.alphabets.length 1 3
  · have H2 := Lib.hid h2
    go_enter Try.func50, Try.ntmps50
    go_wp2_with (go_at_call 84; refine (In_any _ _ _ _).mono ?_; rintro e w' ⟨rfl, rfl⟩)
    go_ret3
    exact ⟨ret_three (by rw [checkM, if_neg (by rw [H1.out]; decide), if_pos H2.out]), (by first | (with_reducible exact Ext.refl _) | (with_reducible assumption) | (show Below _ _ _; go_grown; done))⟩
  have hL : b.alphabets.length ≤ 3 := by simp [inM] at h2; omega
  have H2 := Lib.hid h2
  obtain ⟨i0, hi, hz0, hz1, hz2⟩ := info_parts infoStr
  go_enter Try.func50, Try.ntmps50
  go_wp2_with (go_at_call 84; refine (In_any _ _ _ _).mono ?_; rintro e w' ⟨rfl, rfl⟩)
  clear h1 h2
  go_loopw [5, 6] (fun v i wr => ∃ k : Nat, k ≤ b.alphabets.length ∧ i = .int .i64 k ∧ Ext w wr ∧ (wr.cell? ⟨w.heap.size, 0, none⟩ = some (.int .i64 b.sounds) ∧ wr.cell? ⟨w.heap.size, 1, none⟩ = some (.slice ba b.alphabets.length bc) ∧ wr.cell? ⟨w.heap.size, 2, none⟩ = some (.slice bs b.spellings.length bd)) ∧
    wr.ownsRow (w.heap.size + 1) 9 1 v (namesTo b.alphabets k).length ((namesTo b.alphabets k).map Value.string) ∧
    firstErrFrom (alphabetErrM b.sounds) (b.alphabets.take k) (b.alphabets.drop k) = alphErr b) (fun _ i _ => b.alphabets.length - (intOf i).toNat)
  case atStart => exact ⟨0, Nat.zero_le _, rfl, (by first | (with_reducible exact Ext.refl _) | (with_reducible assumption) | (show Below _ _ _; go_grown; done)), ⟨by simp [go_sem], by simp [go_sem], by simp [go_sem]⟩, World.ownsRow_nil _ _ _ _, rfl⟩
  case round =>
    obtain ⟨k, hk, rfl, hx, ⟨q0, q1, q2⟩, hown, hd⟩ := hrel
    have Hd := Lib.hid hd; clear hd
    by_cases hlt : k < b.alphabets.length
    · have hlen := namesTo_len b.alphabets k hk
      have hnm := hal.names k
      obtain ⟨_, _, he, -, -, hh⟩ := hal.ext hx
      obtain ⟨bb, off, rfl, c0, hns, lv, c1, hlv⟩ := hh k hlt
      cases he
      have hsucc := fun y hy => namesTo_succ b.alphabets k hlt y hy
      generalize hy : b.alphabets[k] = y at *
      have Hsucc := Lib.hid (hsucc y rfl)
      have Hy := Lib.hid hy
      clear hy hh hsucc
      obtain ⟨la, lc, rfl, -⟩ := hlv.shape
      have Hlen := Lib.hid hlen; clear hlen
      have hst := StrsAt.of_own hown hnm
      have z3 := cell_lt c0
      have z4 := cell_lt q0
      have hml : (namesTo b.alphabets k).length ≤ 5 := by rw [Hlen.out]; omega
      go_wp2_with fail
      refine (fresh_any _ y.name (namesTo b.alphabets k) wr hns hst).mono ?_
      rintro e w' ⟨rfl, rfl⟩
      clear hst
      generalize hf : freshM y.name (namesTo b.alphabets k) = f at *
      have heq : alphabetErrM b.sounds (b.alphabets.take k) y = if f = 0 then lettersErrM b.sounds y.letters else f := by rw [alphabetErr_eq, ← hf]; rfl
      have Heq := Lib.hid heq
      clear heq hf
      by_cases h0 : f = 0
      · subst h0
        have Heq0 : Hid (alphabetErrM b.sounds (b.alphabets.take k) y = lettersErrM b.sounds y.letters) := Lib.hid (by rw [Heq.out, if_pos rfl])
        clear Heq
        go_wp2_with ((at_builtin; refine wpList_append_own _ rfl _ _ 63 rfl (w.heap.size + 1) 9 i0 (.string ByteArray.empty) 1 16 Try.underlying63 hi hz0 hz1 hz2 rfl (by decide) _ _ _ rfl (hown.alloc _) ⟨wr.heap.size, 0, none⟩ 1 1 [.string y.name] rfl rfl (cell_one_new _ _ _) (by simp [Value.oneCell']) (by unfold maxLen; omega) (by omega) (by simp; omega) ?_; intro v' w2 hown' hgrow _))
        have hx3 : Ext w w2 := Ext.grown (hx.alloc _) hgrow fun k hk => Nat.le_trans (by omega) (hown.lt k hk).1
        have r0 : w2.cell? ⟨w.heap.size, 0, none⟩ = some (.int .i64 b.sounds) := hgrow.cell (by simpa [go_sem, z4] using q0) (fun e => by
          have := (hown.lt w.heap.size e.symm).1
          omega)
        have r1 : w2.cell? ⟨w.heap.size, 1, none⟩ = some (.slice (some ⟨bb, off, none⟩) b.alphabets.length bc) := hgrow.cell (by simpa [go_sem, z4] using q1) (fun e => by
          have := (hown.lt w.heap.size e.symm).1
          omega)
        have r2 : w2.cell? ⟨w.heap.size, 2, none⟩ = some (.slice bs b.spellings.length bd) := hgrow.cell (by simpa [go_sem, z4] using q2) (fun e => by
          have := (hown.lt w.heap.size e.symm).1
          omega)
        obtain ⟨_, _, he, -, -, hh⟩ := hal.ext hx3
        obtain ⟨bb', off', he', d0, -, lv', d1, hlv'⟩ := hh k hlt
        cases he
        cases he'
        rw [Hy.out] at d0 hlv'
        clear hh c0 c1 hlv q0 q1 q2 hown hgrow
        have k1 : (k : Int) < (b.alphabets.length : Int) := by omega
        apply Facts.wp_region [.val _, .val _, .val _, .val _, .val _, .val _, .val _, .val (.int .i64 (lettersErrM b.sounds y.letters)), .val _] (by kernel_rfl) (by kernel_rfl) trivial ?main
        case main =>
          iterate 7 (refine ⟨fun w1 hx hh => ?_, ?_⟩; focus (clear hh; have e0 := hx.cell r0; have e1 := hx.cell r1; have e2 := hx.cell r2; have e3 := hx.cell d1; go_simp; exact ⟨Ext.refl _, rfl⟩))
          refine ⟨fun w1 hx hh => ?_, ?_⟩
          · clear hh
            go_simp
            refine (refLetters_any _ _ b hS y.letters w1 ((hb.ext hx3).ext hx) (hlv'.ext hx)).mono ?_
            rintro e w' ⟨rfl, hx2⟩
            exact ⟨_, rfl, hx2, rfl⟩
          iterate 1 (refine ⟨fun w1 hx hh => ?_, ?_⟩; focus (clear hh; skip; go_simp; exact ⟨Ext.refl _, rfl⟩))
          intro w3 hx4 hh
          have hx5 := hx3.trans hx4
          have cs := And.intro (hx4.cell r0) (And.intro (hx4.cell r1) (hx4.cell r2))
          have hown3 := Ext.owns hown' hx4
          clear hh r0 r1 r2 d0 d1 hlv' hown'
          generalize lettersErrM b.sounds y.letters = g at *
          go_simp
          by_cases hg : (g != 0) = true
          · have Hg := Lib.hid hg
            go_wp2
            go_ret3
            have e1 : alphErr b = ((k : Int), alphabetErrM b.sounds (b.alphabets.take k) y) := by
              rw [← Hd.out]; exact firstErrFrom_hit _ _ k hlt y Hy.out (by rw [Heq0.out]; simpa using Hg.out)
            exact ⟨ret_three (by rw [checkM, if_neg (by rw [H1.out]; decide), if_neg (by rw [H2.out]; decide), e1, Heq0.out, if_pos (by simpa using Hg.out)]), hx5⟩
          · have hg' : (g != 0) = false := by simpa using hg
            have Hg := Lib.hid hg'
            clear hg
            go_wp2
            go_roundw
            case rel => exact ⟨k + 1, by omega, by go_num, hx5, cs, snoc_names Hsucc.out rfl hown3, (firstErrFrom_step _ _ k hlt y Hy.out (by rw [Heq0.out]; simpa using Hg.out)).trans Hd.out⟩
            case measure => simp [intOf]; omega
      · have h0' : (f == 0) = false := by simpa using h0
        have h0'' : (f != 0) = true := by simpa using h0
        have H0 := Lib.hid h0
        clear h0
        go_wp2_with ((at_builtin; refine wpList_append_own _ rfl _ _ 63 rfl (w.heap.size + 1) 9 i0 (.string ByteArray.empty) 1 16 Try.underlying63 hi hz0 hz1 hz2 rfl (by decide) _ _ _ rfl (hown.alloc _) ⟨wr.heap.size, 0, none⟩ 1 1 [.string y.name] rfl rfl (cell_one_new _ _ _) (by simp [Value.oneCell']) (by unfold maxLen; omega) (by omega) (by simp; omega) ?_; intro v' w2 hown' hgrow _))
        have hx3 : Ext w w2 := Ext.grown (hx.alloc _) hgrow fun k hk => Nat.le_trans (by omega) (hown.lt k hk).1
        go_ret3
        have e1 : alphErr b = ((k : Int), alphabetErrM b.sounds (b.alphabets.take k) y) := by
          rw [← Hd.out]; exact firstErrFrom_hit _ _ k hlt y Hy.out (by rw [Heq.out, if_neg H0.out]; exact H0.out)
        exact ⟨ret_three (by rw [checkM, if_neg (by rw [H1.out]; decide), if_neg (by rw [H2.out]; decide), e1, Heq.out, if_neg H0.out, if_pos H0.out]), hx3⟩
    · have e1 : alphErr b = (0, 0) := by rw [← Hd.out]; exact firstErrFrom_end _ _ _ (by omega)
      have E1 := Lib.hid e1
      clear e1
      by_cases h4 : (5 : Int) < b.spellings.length
      · go_wp2
        go_ret3
        exact ⟨ret_three (by rw [checkM, if_neg (by rw [H1.out]; decide), if_neg (by rw [H2.out]; decide), E1.out, if_neg (fun h => h rfl), if_pos (by omega)]), hx⟩
      go_wp2
      go_loopw [8] (fun i wq => ∃ m : Nat, m ≤ b.spellings.length ∧ i = .int .i64 m ∧ Ext w wq ∧ (wq.cell? ⟨w.heap.size, 0, none⟩ = some (.int .i64 b.sounds) ∧ wq.cell? ⟨w.heap.size, 1, none⟩ = some (.slice ba b.alphabets.length bc) ∧ wq.cell? ⟨w.heap.size, 2, none⟩ = some (.slice bs b.spellings.length bd)) ∧
        firstErrFrom (fun _ y => spellingErrM b.alphabets y) (b.spellings.take m) (b.spellings.drop m) = spelErr b) (fun i _ => b.spellings.length - (intOf i).toNat)
      case atStart => exact ⟨0, Nat.zero_le _, rfl, hx, ⟨q0, q1, q2⟩, rfl⟩
      case round =>
        clear hx q0 q1 q2
        obtain ⟨m, hm, rfl, hx, ⟨q0, q1, q2⟩, hd⟩ := hrel
        have Hd2 := Lib.hid hd; clear hd
        by_cases hmt : m < b.spellings.length
        · have m1 : (m : Int) < (b.spellings.length : Int) := by omega
          obtain ⟨_, _, he, -, -, hh⟩ := hsp.ext hx
          obtain ⟨sb, so, rfl, s0, s1, hai, hts⟩ := hh m hmt
          cases he
          generalize hz : b.spellings[m] = z at *
          have Hz := Lib.hid hz; clear hz hh
          go_wp2_with fail
          apply Facts.wp_region [.val _, .val _, .val _, .val _, .val _, .val _, .val (.int .i64 (spellingErrM b.alphabets z)), .val _] (by kernel_rfl) (by kernel_rfl) trivial ?main
          case main =>
            iterate 6 (refine ⟨fun w1 hx hh => ?_, ?_⟩; focus (clear hh; have e0 := hx.cell q0; have e1 := hx.cell q1; have e2 := hx.cell q2; have e3 := hx.cell s0; have e4 := hx.cell s1; go_simp; exact ⟨Ext.refl _, rfl⟩))
            refine ⟨fun w1 hxx hh => ?_, ?_⟩
            · clear hh
              go_simp
              refine (refSpelling_any _ _ b z w1 ((hb.ext hx).ext hxx) ⟨rfl, hai, hts⟩).mono ?_
              rintro e w' ⟨rfl, hx2⟩
              exact ⟨_, rfl, hx2, rfl⟩
            iterate 1 (refine ⟨fun w1 hx hh => ?_, ?_⟩; focus (clear hh; skip; go_simp; exact ⟨Ext.refl _, rfl⟩))
            intro w3 hx4 hh
            have hx5 := hx.trans hx4
            have cs := And.intro (hx4.cell q0) (And.intro (hx4.cell q1) (hx4.cell q2))
            clear hh q0 q1 q2 s0 s1
            generalize hgg : spellingErrM b.alphabets z = g at *
            have Hgg := Lib.hid hgg; clear hgg
            go_simp
            by_cases hg : (g != 0) = true
            · have Hg := Lib.hid hg
              go_wp2
              go_ret3
              have e1 : spelErr b = ((m : Int), spellingErrM b.alphabets z) := by
                rw [← Hd2.out]; exact firstErrFrom_hit _ _ m hmt z Hz.out (by rw [Hgg.out]; simpa using Hg.out)
              exact ⟨ret_three (by rw [checkM, if_neg (by rw [H1.out]; decide), if_neg (by rw [H2.out]; decide), E1.out, if_neg (fun h => h rfl), if_neg (by omega), e1, Hgg.out, if_pos (by simpa using Hg.out)]), hx5⟩
            · have hg' : (g != 0) = false := by simpa using hg
              have Hg := Lib.hid hg'
              clear hg
              go_wp2
              go_roundw
              case rel => exact ⟨m + 1, by omega, by go_num, hx5, cs, (firstErrFrom_step _ _ m hmt z Hz.out (by rw [Hgg.out]; simpa using Hg.out)).trans Hd2.out⟩
              case measure => simp [intOf]; omega
        · have e1 : spelErr b = (0, 0) := by rw [← Hd2.out]; exact firstErrFrom_end _ _ _ (by omega)
          go_wp2
          go_ret3
          exact ⟨ret_three (by rw [checkM, if_neg (by rw [H1.out]; decide), if_neg (by rw [H2.out]; decide), E1.out, if_neg (fun h => h rfl), if_neg (by omega), e1, if_neg (fun h => h rfl)]), hx⟩
end Go.Proofs.Ytoifmphpeflliaa

namespace Go.Proofs.Ytoifmphpeflliaa
open Go.RowKit

theorem withinM_no' (lo hi : Int) (l : List Int) (k : Nat) (h : k < l.length) (x : Int) (hx : l[k] = x) (h1 : inM x lo hi = false) : withinM lo hi l = false := by
  rw [withinM, List.all_eq_false]
  exact ⟨x, hx ▸ List.getElem_mem h, by simp [h1]⟩
theorem withinM_step' (lo hi : Int) (l : List Int) (k : Nat) (h : k < l.length) (x : Int) (hx : l[k] = x) (h0 : withinM lo hi (l.take k) = true) (h1 : inM x lo hi = true) : withinM lo hi (l.take (k + 1)) = true := by
  simp only [inM, Bool.and_eq_true, decide_eq_true_eq] at h1
  exact withinM_step lo hi l k h x hx h0 h1.1 h1.2
def indicesM (b : Book) (l : List Int) (below : Int) : Int := if errM b ≠ 0 then errM b else if withinM 0 (below - 1) l = false then 4 else 0
set_option maxHeartbeats 1000000 in
set_option maxRecDepth 100000 in
theorem indices_any (bv v : Value) (b : Book) (l : List Int) (below : Int) (w : World) (hb : BookAt w bv b) (hl : IntsAt w v l) (hbe : -9223372036854775808 < below ∧ below ≤ 9223372036854775807) :
    Calls Try.prog 44 #[bv, v, .int .i64 below] w fun e w' => e = .returned (.int .i64 (indicesM b l below)) ∧ Ext w w' := by
  obtain ⟨ba, bc, bs, bd, rfl, -⟩ := hb.open
  obtain ⟨a, cap, rfl, hlc, hcm⟩ := hl.shape
  go_enter Try.func44, Try.ntmps44
  go_wp2_with fail
  refine (refCheck_any _ b _ (hb.ext (ext_alloc _ _))).mono ?_
  rintro e w1 ⟨rfl, hx1⟩
  have x1 : Ext w w1 := hx1.of_alloc
  clear hx1
  have herr : (checkM b).2.2 = errM b := rfl
  rw [herr]
  generalize (checkM b).2.1 = at1
  generalize (checkM b).1 = part1
  clear herr
  go_wp2
  go_loopw [9, 10] (fun e i wr => ∃ k : Nat, ∃ er : Int, k ≤ l.length ∧ e = .int .i64 er ∧ i = .int .i64 k ∧ Ext w wr ∧ (er ≠ 0 → indicesM b l below = er) ∧ (er = 0 → errM b = 0 ∧ withinM 0 (below - 1) (l.take k) = true)) (fun _ i _ => l.length - (intOf i).toNat)
  case atStart => exact ⟨0, _, Nat.zero_le _, rfl, rfl, x1, fun h => by rw [indicesM, if_pos h], fun h => ⟨h, by simp [withinM]⟩⟩
  case round =>
    obtain ⟨k, er, hk, rfl, rfl, hx, hd1, hd2⟩ := hrel
    have Hd1 := Lib.hid hd1; clear hd1
    have Hd2 := Lib.hid hd2; clear hd2
    by_cases h0 : er = 0
    · subst h0
      obtain ⟨he0, hw0⟩ := Hd2.out rfl
      have He0 := Lib.hid he0
      have Hw0 := Lib.hid hw0
      clear he0 hw0 Hd1 Hd2
      by_cases hlt : k < l.length
      · have k1 : (k : Int) < (l.length : Int) := by omega
        obtain ⟨_, _, he, -, -, hh⟩ := hl.ext hx
        obtain ⟨bb, off, rfl, c0, hi⟩ := hh k hlt
        cases he
        generalize hy : l[k] = y at *
        have Hy := Lib.hid hy; clear hy hh
        simp only [Nat.mul_one] at c0
        have wb : IntKind.i64.wrap (below - 1) = below - 1 := IntWalk.i64_in _ (by omega)
        cases i1 : inM y 0 (below - 1)
        · have I1 := Lib.hid i1
          go_wp2_with (go_at_call 84; refine (In_any _ _ _ _).mono ?_; rintro e w' ⟨rfl, rfl⟩)
          go_roundw
          case rel => exact ⟨k + 1, 4, by omega, rfl, by go_num, hx, fun _ => by rw [indicesM, if_neg (by rw [He0.out]; decide), if_pos (withinM_no' _ _ l k hlt y Hy.out I1.out)], fun h => by cases h⟩
          case measure => simp [intOf]; omega
        · have I1 := Lib.hid i1
          go_wp2_with (go_at_call 84; refine (In_any _ _ _ _).mono ?_; rintro e w' ⟨rfl, rfl⟩)
          go_roundw
          case rel => exact ⟨k + 1, 0, by omega, rfl, by go_num, hx, fun h => absurd rfl h, fun _ => ⟨He0.out, withinM_step' _ _ l k hlt y Hy.out Hw0.out I1.out⟩⟩
          case measure => simp [intOf]; omega
      · go_wp2
        go_ret
        have := Hw0.out
        rw [List.take_of_length_le (by omega)] at this
        exact ⟨ret_int (by rw [indicesM, if_neg (by rw [He0.out]; decide), if_neg (by rw [this]; decide)]), hx⟩
    · have h0' : (er == 0) = false := by simpa using h0
      have H0 := Lib.hid h0
      clear h0
      by_cases hlt : (k : Int) < (l.length : Int)
      all_goals
        go_wp2
        go_ret
        exact ⟨ret_int (Hd1.out H0.out).symm, hx⟩

def hearsM (S : Int) (l : List Int) (e : Int) : Int := if e ≠ 0 then e else heardErrM S l
set_option maxHeartbeats 1000000 in
set_option maxRecDepth 100000 in
theorem hears_any (bv v : Value) (b : Book) (l : List Int) (e : Int) (w : World) (hb : BookAt w bv b) (hl : IntsAt w v l) (hS : e = 0 → 1 ≤ b.sounds ∧ b.sounds ≤ 4) :
    Calls Try.prog 43 #[bv, v, .int .i64 e] w fun r w' => r = .returned (.int .i64 (hearsM b.sounds l e)) ∧ Ext w w' := by
  obtain ⟨ba, bc, bs, bd, rfl, -⟩ := hb.open
  obtain ⟨a, cap, rfl, hlc, hcm⟩ := hl.shape
  have hs : ∀ er : Int, (er = e ∧ e ≠ 0) ∨ (er = 3 ∧ e = 0 ∧ 5 < l.length) ∨ (er = e ∧ e = 0 ∧ ¬ 5 < l.length) → (er ≠ 0 → hearsM b.sounds l e = er) ∧ (er = 0 → e = 0 ∧ ¬ 5 < l.length ∧ withinM 0 (b.sounds - 1) (l.take 0) = true) := by
    rintro er (⟨rfl, h⟩ | ⟨rfl, h, h5⟩ | ⟨rfl, h, h5⟩)
    · exact ⟨fun _ => by rw [hearsM, if_pos h], fun h' => absurd h' h⟩
    · exact ⟨fun _ => by rw [hearsM, if_neg (by simpa using h), heardErrM, if_pos h5], fun h' => by cases h'⟩
    · exact ⟨fun h' => absurd h h', fun _ => ⟨h, h5, by simp [withinM]⟩⟩
  have HS := Lib.hid hS
  clear hS
  rcases (by omega : (e ≠ 0) ∨ (e = 0 ∧ 5 < l.length) ∨ (e = 0 ∧ ¬ 5 < l.length)) with h | ⟨h, h5⟩ | ⟨h, h5⟩
  · have Hs := Lib.hid (hs e (.inl ⟨rfl, h⟩))
    have h0' : (e == 0) = false := by simpa using h
    clear hs h
    go_enter Try.func43, Try.ntmps43
    go_wp2
    go_loopw [2, 7] (fun t i wr => ∃ k : Nat, ∃ er : Int, k ≤ l.length ∧ t = .int .i64 er ∧ i = .int .i64 k ∧ Ext w wr ∧ wr.cell? ⟨w.heap.size, 0, none⟩ = some (.int .i64 b.sounds) ∧ (er ≠ 0 → hearsM b.sounds l e = er) ∧ (er = 0 → e = 0 ∧ ¬ 5 < l.length ∧ withinM 0 (b.sounds - 1) (l.take k) = true)) (fun _ i _ => l.length - (intOf i).toNat)
    case atStart => exact ⟨0, _, Nat.zero_le _, rfl, rfl, (by first | (with_reducible exact Ext.refl _) | (with_reducible assumption) | (show Below _ _ _; go_grown; done)), by simp [go_sem], Hs.out.1, Hs.out.2⟩
    case round =>
      obtain ⟨k, er, hk, rfl, rfl, hx, q0, hd1, hd2⟩ := hrel
      have Hd1 := Lib.hid hd1; clear hd1
      have Hd2 := Lib.hid hd2; clear hd2 Hs h0'
      by_cases h0 : er = 0
      · subst h0
        obtain ⟨he0, he5, hw0⟩ := Hd2.out rfl
        have hS := HS.out he0
        have He0 := Lib.hid he0
        have He5 := Lib.hid he5
        have Hw0 := Lib.hid hw0
        clear he0 he5 hw0 Hd1 Hd2 HS
        by_cases hlt : k < l.length
        · have k1 : (k : Int) < (l.length : Int) := by omega
          obtain ⟨_, _, he, -, -, hh⟩ := hl.ext hx
          obtain ⟨bb, off, rfl, c0, hi⟩ := hh k hlt
          cases he
          generalize hy : l[k] = y at *
          have Hy := Lib.hid hy; clear hy hh
          simp only [Nat.mul_one] at c0
          have wb : IntKind.i64.wrap (b.sounds - 1) = b.sounds - 1 := IntWalk.i64_in _ (by omega)
          cases i1 : inM y 0 (b.sounds - 1)
          all_goals
            have I1 := Lib.hid i1
            go_wp2_with fail
            apply Facts.wp_region [.val _, .val _, .val _, .val _, .val _, .val _, .val _, .val (.bool (inM y 0 (b.sounds - 1))), .val _] (by kernel_rfl) (by kernel_rfl) trivial ?main
            case main =>
              iterate 7 (refine ⟨fun w1 hx hh => ?_, ?_⟩; focus (clear hh; have e0 := hx.cell q0; have e1 := hx.cell c0; go_simp; exact ⟨Ext.refl _, rfl⟩))
              refine ⟨fun w1 hx hh => ?_, ?_⟩
              · clear hh
                go_simp
                refine (In_any _ _ _ w1).mono ?_
                rintro e w' ⟨rfl, rfl⟩
                exact ⟨_, rfl, Ext.refl _, by rw [i1]⟩
              rw [i1]
              iterate 1 (refine ⟨fun w1 hx hh => ?_, ?_⟩; focus (clear hh; skip; go_simp; exact ⟨Ext.refl _, rfl⟩))
              intro w1 hx1 hh
              have hx3 := hx.trans hx1
              have cq := hx1.cell q0
              clear hh q0 c0 i1
              go_simp
              go_wp2
              go_roundw
              case rel => first
                | exact ⟨k + 1, 7, by omega, rfl, by go_num, hx3, cq, fun _ => by rw [hearsM, if_neg (by simpa using He0.out), heardErrM, if_neg (by have := He5.out; omega), if_pos (withinM_no' _ _ l k hlt y Hy.out I1.out)], fun h => by cases h⟩
                | exact ⟨k + 1, 0, by omega, rfl, by go_num, hx3, cq, fun h => absurd rfl h, fun _ => ⟨He0.out, He5.out, withinM_step' _ _ l k hlt y Hy.out Hw0.out I1.out⟩⟩
              case measure => simp [intOf]; omega
        · go_wp2
          go_ret
          have := Hw0.out
          rw [List.take_of_length_le (by omega)] at this
          exact ⟨ret_int (by rw [hearsM, if_neg (by simpa using He0.out), heardErrM, if_neg (by have := He5.out; omega), if_neg (by rw [this]; decide)]), hx⟩
      · have h0' : (er == 0) = false := by simpa using h0
        have H0 := Lib.hid h0
        clear h0
        by_cases hlt : (k : Int) < (l.length : Int)
        all_goals
          go_wp2
          go_ret
          exact ⟨ret_int (Hd1.out H0.out).symm, hx⟩
  · have Hs := Lib.hid (hs 3 (.inr (.inl ⟨rfl, h, h5⟩)))
    have h0' : (e == 0) = true := by simpa using h
    have h6 : (5 : Int) < (l.length : Int) := by omega
    clear hs h
    go_enter Try.func43, Try.ntmps43
    go_wp2
    go_loopw [2, 7] (fun t i wr => ∃ k : Nat, ∃ er : Int, k ≤ l.length ∧ t = .int .i64 er ∧ i = .int .i64 k ∧ Ext w wr ∧ wr.cell? ⟨w.heap.size, 0, none⟩ = some (.int .i64 b.sounds) ∧ (er ≠ 0 → hearsM b.sounds l e = er) ∧ (er = 0 → e = 0 ∧ ¬ 5 < l.length ∧ withinM 0 (b.sounds - 1) (l.take k) = true)) (fun _ i _ => l.length - (intOf i).toNat)
    case atStart => exact ⟨0, _, Nat.zero_le _, rfl, rfl, (by first | (with_reducible exact Ext.refl _) | (with_reducible assumption) | (show Below _ _ _; go_grown; done)), by simp [go_sem], Hs.out.1, Hs.out.2⟩
    case round =>
      obtain ⟨k, er, hk, rfl, rfl, hx, q0, hd1, hd2⟩ := hrel
      have Hd1 := Lib.hid hd1; clear hd1
      have Hd2 := Lib.hid hd2; clear hd2 Hs h0'
      by_cases h0 : er = 0
      · subst h0
        obtain ⟨he0, he5, hw0⟩ := Hd2.out rfl
        have hS := HS.out he0
        have He0 := Lib.hid he0
        have He5 := Lib.hid he5
        have Hw0 := Lib.hid hw0
        clear he0 he5 hw0 Hd1 Hd2 HS
        by_cases hlt : k < l.length
        · have k1 : (k : Int) < (l.length : Int) := by omega
          obtain ⟨_, _, he, -, -, hh⟩ := hl.ext hx
          obtain ⟨bb, off, rfl, c0, hi⟩ := hh k hlt
          cases he
          generalize hy : l[k] = y at *
          have Hy := Lib.hid hy; clear hy hh
          simp only [Nat.mul_one] at c0
          have wb : IntKind.i64.wrap (b.sounds - 1) = b.sounds - 1 := IntWalk.i64_in _ (by omega)
          cases i1 : inM y 0 (b.sounds - 1)
          all_goals
            have I1 := Lib.hid i1
            go_wp2_with fail
            apply Facts.wp_region [.val _, .val _, .val _, .val _, .val _, .val _, .val _, .val (.bool (inM y 0 (b.sounds - 1))), .val _] (by kernel_rfl) (by kernel_rfl) trivial ?main
            case main =>
              iterate 7 (refine ⟨fun w1 hx hh => ?_, ?_⟩; focus (clear hh; have e0 := hx.cell q0; have e1 := hx.cell c0; go_simp; exact ⟨Ext.refl _, rfl⟩))
              refine ⟨fun w1 hx hh => ?_, ?_⟩
              · clear hh
                go_simp
                refine (In_any _ _ _ w1).mono ?_
                rintro e w' ⟨rfl, rfl⟩
                exact ⟨_, rfl, Ext.refl _, by rw [i1]⟩
              rw [i1]
              iterate 1 (refine ⟨fun w1 hx hh => ?_, ?_⟩; focus (clear hh; skip; go_simp; exact ⟨Ext.refl _, rfl⟩))
              intro w1 hx1 hh
              have hx3 := hx.trans hx1
              have cq := hx1.cell q0
              clear hh q0 c0 i1
              go_simp
              go_wp2
              go_roundw
              case rel => first
                | exact ⟨k + 1, 7, by omega, rfl, by go_num, hx3, cq, fun _ => by rw [hearsM, if_neg (by simpa using He0.out), heardErrM, if_neg (by have := He5.out; omega), if_pos (withinM_no' _ _ l k hlt y Hy.out I1.out)], fun h => by cases h⟩
                | exact ⟨k + 1, 0, by omega, rfl, by go_num, hx3, cq, fun h => absurd rfl h, fun _ => ⟨He0.out, He5.out, withinM_step' _ _ l k hlt y Hy.out Hw0.out I1.out⟩⟩
              case measure => simp [intOf]; omega
        · go_wp2
          go_ret
          have := Hw0.out
          rw [List.take_of_length_le (by omega)] at this
          exact ⟨ret_int (by rw [hearsM, if_neg (by simpa using He0.out), heardErrM, if_neg (by have := He5.out; omega), if_neg (by rw [this]; decide)]), hx⟩
      · have h0' : (er == 0) = false := by simpa using h0
        have H0 := Lib.hid h0
        clear h0
        by_cases hlt : (k : Int) < (l.length : Int)
        all_goals
          go_wp2
          go_ret
          exact ⟨ret_int (Hd1.out H0.out).symm, hx⟩
  · have Hs := Lib.hid (hs e (.inr (.inr ⟨rfl, h, h5⟩)))
    have h0' : (e == 0) = true := by simpa using h
    have h6 : ¬ (5 : Int) < (l.length : Int) := by omega
    clear hs h
    go_enter Try.func43, Try.ntmps43
    go_wp2
    go_loopw [2, 7] (fun t i wr => ∃ k : Nat, ∃ er : Int, k ≤ l.length ∧ t = .int .i64 er ∧ i = .int .i64 k ∧ Ext w wr ∧ wr.cell? ⟨w.heap.size, 0, none⟩ = some (.int .i64 b.sounds) ∧ (er ≠ 0 → hearsM b.sounds l e = er) ∧ (er = 0 → e = 0 ∧ ¬ 5 < l.length ∧ withinM 0 (b.sounds - 1) (l.take k) = true)) (fun _ i _ => l.length - (intOf i).toNat)
    case atStart => exact ⟨0, _, Nat.zero_le _, rfl, rfl, (by first | (with_reducible exact Ext.refl _) | (with_reducible assumption) | (show Below _ _ _; go_grown; done)), by simp [go_sem], Hs.out.1, Hs.out.2⟩
    case round =>
      obtain ⟨k, er, hk, rfl, rfl, hx, q0, hd1, hd2⟩ := hrel
      have Hd1 := Lib.hid hd1; clear hd1
      have Hd2 := Lib.hid hd2; clear hd2 Hs h0'
      by_cases h0 : er = 0
      · subst h0
        obtain ⟨he0, he5, hw0⟩ := Hd2.out rfl
        have hS := HS.out he0
        have He0 := Lib.hid he0
        have He5 := Lib.hid he5
        have Hw0 := Lib.hid hw0
        clear he0 he5 hw0 Hd1 Hd2 HS
        by_cases hlt : k < l.length
        · have k1 : (k : Int) < (l.length : Int) := by omega
          obtain ⟨_, _, he, -, -, hh⟩ := hl.ext hx
          obtain ⟨bb, off, rfl, c0, hi⟩ := hh k hlt
          cases he
          generalize hy : l[k] = y at *
          have Hy := Lib.hid hy; clear hy hh
          simp only [Nat.mul_one] at c0
          have wb : IntKind.i64.wrap (b.sounds - 1) = b.sounds - 1 := IntWalk.i64_in _ (by omega)
          cases i1 : inM y 0 (b.sounds - 1)
          all_goals
            have I1 := Lib.hid i1
            go_wp2_with fail
            apply Facts.wp_region [.val _, .val _, .val _, .val _, .val _, .val _, .val _, .val (.bool (inM y 0 (b.sounds - 1))), .val _] (by kernel_rfl) (by kernel_rfl) trivial ?main
            case main =>
              iterate 7 (refine ⟨fun w1 hx hh => ?_, ?_⟩; focus (clear hh; have e0 := hx.cell q0; have e1 := hx.cell c0; go_simp; exact ⟨Ext.refl _, rfl⟩))
              refine ⟨fun w1 hx hh => ?_, ?_⟩
              · clear hh
                go_simp
                refine (In_any _ _ _ w1).mono ?_
                rintro e w' ⟨rfl, rfl⟩
                exact ⟨_, rfl, Ext.refl _, by rw [i1]⟩
              rw [i1]
              iterate 1 (refine ⟨fun w1 hx hh => ?_, ?_⟩; focus (clear hh; skip; go_simp; exact ⟨Ext.refl _, rfl⟩))
              intro w1 hx1 hh
              have hx3 := hx.trans hx1
              have cq := hx1.cell q0
              clear hh q0 c0 i1
              go_simp
              go_wp2
              go_roundw
              case rel => first
                | exact ⟨k + 1, 7, by omega, rfl, by go_num, hx3, cq, fun _ => by rw [hearsM, if_neg (by simpa using He0.out), heardErrM, if_neg (by have := He5.out; omega), if_pos (withinM_no' _ _ l k hlt y Hy.out I1.out)], fun h => by cases h⟩
                | exact ⟨k + 1, 0, by omega, rfl, by go_num, hx3, cq, fun h => absurd rfl h, fun _ => ⟨He0.out, He5.out, withinM_step' _ _ l k hlt y Hy.out Hw0.out I1.out⟩⟩
              case measure => simp [intOf]; omega
        · go_wp2
          go_ret
          have := Hw0.out
          rw [List.take_of_length_le (by omega)] at this
          exact ⟨ret_int (by rw [hearsM, if_neg (by simpa using He0.out), heardErrM, if_neg (by have := He5.out; omega), if_neg (by rw [this]; decide)]), hx⟩
      · have h0' : (er == 0) = false := by simpa using h0
        have H0 := Lib.hid h0
        clear h0
        by_cases hlt : (k : Int) < (l.length : Int)
        all_goals
          go_wp2
          go_ret
          exact ⟨ret_int (Hd1.out H0.out).symm, hx⟩
end Go.Proofs.Ytoifmphpeflliaa

namespace Go.Proofs.Ytoifmphpeflliaa
open Go.RowKit

def boolR (w : World) (b o : Nat) (x : Bool) : Prop := w.cell? ⟨b, o, none⟩ = some (.bool x)
theorem boolR.keeps : Keeps boolR := fun _ _ _ _ _ hx h => hx.cell h
abbrev BoolsAt : World → Value → List Bool → Prop := SliceAt 1 boolR
theorem BoolsAt.ext {w w' : World} {v : Value} {l : List Bool} (h : BoolsAt w v l) (hx : Ext w w') : BoolsAt w' v l := SliceAt.ext boolR.keeps h hx

def manyM (l : List Bool) : Nat := l.count true
theorem manyM_step (l : List Bool) (k : Nat) (h : k < l.length) : manyM (l.take (k + 1)) = manyM (l.take k) + (if l[k] = true then 1 else 0) := by
  rw [List.take_succ_eq_append_getElem h, manyM, List.count_append, manyM]
  cases l[k] <;> simp
def codeM (l : List Int) : Int := l.foldl (fun n x => n * 5 + x + 1) 0
theorem codeM_step (l : List Int) (k : Nat) (h : k < l.length) : codeM (l.take (k + 1)) = codeM (l.take k) * 5 + l[k] + 1 := by
  rw [List.take_succ_eq_append_getElem h, codeM, List.foldl_append, codeM]; rfl
end Go.Proofs.Ytoifmphpeflliaa

namespace Go.Proofs.Ytoifmphpeflliaa
open Go.RowKit

theorem lawLetter_any (c n : Int) (s : Bool) (w : World) : Calls Try.prog 85 #[.int .u8 c, .int .i64 n, .bool s] w fun e w' => e = .returned (.agg #[.int .u8 c, .int .i64 n, .bool s]) ∧ Ext w w' := by
  go_enter Try.func85, Try.ntmps85
  go_wp2
  refine bodyPost_ret (v := .agg #[.int .u8 c, .int .i64 n, .bool s]) (by simp [results, Try.results85, go_sem]) rfl ⟨rfl, ?_⟩
  exact (by first | (with_reducible exact Ext.refl _) | (with_reducible assumption) | (show Below _ _ _; go_grown; done))

def romanL : List Letter := [⟨97, 1, false⟩, ⟨101, 3, false⟩, ⟨107, 4, false⟩, ⟨104, 0, true⟩]
def abjadL : List Letter := [⟨107, 4, false⟩, ⟨121, 2, true⟩, ⟨110, 1, false⟩]
def bookB : Book := ⟨3, [⟨{ data := #[114, 111, 109, 97, 110] }, romanL⟩, ⟨{ data := #[97, 98, 106, 97, 100] }, abjadL⟩],
  [⟨0, { data := #[107, 101] }⟩, ⟨1, { data := #[107, 121] }⟩, ⟨0, { data := #[104, 107, 97] }⟩, ⟨1, { data := #[107, 110] }⟩]⟩

theorem set3 {W : World} {B : Nat} (a b c : Value) (q : Addr) (x : Value) (hne : q.block ≠ B) (h : W.cell? q = some x) : (((W.setCell ⟨B, 0, none⟩ a).setCell ⟨B, 1, none⟩ b).setCell ⟨B, 2, none⟩ c).cell? q = some x :=
  set_other (set_other (set_other h (.inl hne.symm) a) (.inl hne.symm) b) (.inl hne.symm) c
theorem LettersAt.keep {W W9 : World} {D : Nat} (K : ∀ q x, q.block ≠ D → W.cell? q = some x → W9.cell? q = some x) {B o n c : Nat} {l : List Letter} (h : LettersAt W (.slice (some ⟨B, o, none⟩) n c) l) (hne : B ≠ D) : LettersAt W9 (.slice (some ⟨B, o, none⟩) n c) l := by
  obtain ⟨a, cap, e, h1, h2, h3⟩ := h
  cases e
  refine ⟨_, _, rfl, h1, h2, fun i hi => ?_⟩
  obtain ⟨b, off, e, c0, c1, c2, r⟩ := h3 i hi
  cases e
  exact ⟨_, _, rfl, K _ _ hne c0, K _ _ hne c1, K _ _ hne c2, r⟩
theorem romanFine : ∀ x ∈ romanL, U8 x.c ∧ I64 x.sounds := by
  intro x hx
  simp only [romanL, List.mem_cons, List.not_mem_nil, or_false] at hx
  rcases hx with rfl | rfl | rfl | rfl <;> simp [U8, I64]
theorem abjadFine : ∀ x ∈ abjadL, U8 x.c ∧ I64 x.sounds := by
  intro x hx
  simp only [abjadL, List.mem_cons, List.not_mem_nil, or_false] at hx
  rcases hx with rfl | rfl | rfl <;> simp [U8, I64]
theorem nameFine : ∀ x ∈ bookB.alphabets, x.name.size ≤ 9223372036854775807 := by
  intro x hx
  simp only [bookB, List.mem_cons, List.not_mem_nil, or_false] at hx
  rcases hx with rfl | rfl <;> decide
theorem textFine : ∀ x ∈ bookB.spellings, x.text.size ≤ 9223372036854775807 := by
  intro x hx
  simp only [bookB, List.mem_cons, List.not_mem_nil, or_false] at hx
  rcases hx with rfl | rfl | rfl | rfl <;> decide
set_option maxHeartbeats 2000000 in
set_option maxRecDepth 100000 in
theorem book_any (w : World) : Calls Try.prog 47 #[] w fun e w' => ∃ v, e = .returned v ∧ BookAt w' v bookB ∧ Ext w w' := by
  go_enter Try.func47, Try.ntmps47
  go_wp2_with fail
  refine (lawLetter_any _ _ _ _).mono ?_
  rintro e w1 ⟨rfl, hx1⟩
  go_wp2_with fail
  refine (lawLetter_any _ _ _ _).mono ?_
  rintro e w2 ⟨rfl, hx2⟩
  go_wp2_with fail
  refine (lawLetter_any _ _ _ _).mono ?_
  rintro e w3 ⟨rfl, hx3⟩
  go_wp2_with fail
  refine (lawLetter_any _ _ _ _).mono ?_
  rintro e w4 ⟨rfl, hx4⟩
  have x4 := ((hx1.trans hx2).trans hx3).trans hx4
  clear hx1 hx2 hx3 hx4
  have q0 : w4.cell? ⟨w.heap.size, 0, none⟩ = some (.int .i64 0) := x4.cell (by simp [go_sem])
  have q1 : w4.cell? ⟨w.heap.size, 1, none⟩ = some (.slice none 0 0) := x4.cell (by simp [go_sem])
  have q2 : w4.cell? ⟨w.heap.size, 2, none⟩ = some (.slice none 0 0) := x4.cell (by simp [go_sem])
  have z4 := cell_lt q0
  have fz4 : ∀ o, w4.frozen? ⟨w.heap.size, o, none⟩ = false := fun o => by rw [x4.frozen (by simp)]; simp [go_sem]
  have y4 : Ext w w4 := x4.of_alloc
  clear x4
  go_wp2_with fail
  refine (lawLetter_any _ _ _ _).mono ?_
  rintro e w5 ⟨rfl, hx5⟩
  have hr : LettersAt w5 (.slice (some ⟨w4.heap.size, 0, none⟩) 4 4) romanL := ⟨_, _, rfl, by decide, by decide, fun i hi => by
    have : i = 0 ∨ i = 1 ∨ i = 2 ∨ i = 3 := by simp [romanL] at hi; omega
    refine ⟨_, _, rfl, ?_⟩
    rcases this with rfl | rfl | rfl | rfl
    all_goals exact ⟨hx5.cell (by simp [go_sem, romanL]), hx5.cell (by simp [go_sem, romanL]), hx5.cell (by simp [go_sem, romanL]), romanFine _ (List.getElem_mem hi)⟩⟩
  have p0 : w5.cell? ⟨w4.heap.size + 1, 0, none⟩ = some (.string { data := #[114, 111, 109, 97, 110] }) := hx5.cell (by simp [go_sem])
  have p1 : w5.cell? ⟨w4.heap.size + 1, 1, none⟩ = some (.slice (some ⟨w4.heap.size, 0, none⟩) 4 4) := hx5.cell (by simp [go_sem])
  replace q0 : w5.cell? ⟨w.heap.size, 0, none⟩ = some (.int .i64 0) := hx5.cell (by simpa [go_sem, z4] using q0)
  replace q1 : w5.cell? ⟨w.heap.size, 1, none⟩ = some (.slice none 0 0) := hx5.cell (by simpa [go_sem, z4] using q1)
  replace q2 : w5.cell? ⟨w.heap.size, 2, none⟩ = some (.slice none 0 0) := hx5.cell (by simpa [go_sem, z4] using q2)
  have fz5 : ∀ o, w5.frozen? ⟨w.heap.size, o, none⟩ = false := fun o => by rw [hx5.frozen (by simp; omega)]; simpa [go_sem, z4] using fz4 o
  clear fz4
  have y5 : Ext w w5 := y4.trans hx5.of_alloc.of_alloc
  clear hx5
  go_wp2_with fail
  refine (lawLetter_any _ _ _ _).mono ?_
  rintro e w6 ⟨rfl, hx6⟩
  go_wp2_with fail
  refine (lawLetter_any _ _ _ _).mono ?_
  rintro e w7 ⟨rfl, hx7⟩
  have x7 := hx6.trans hx7
  have s0 := q0
  clear hx6 hx7
  replace p0 := x7.cell p0
  replace p1 := x7.cell p1
  replace q0 := x7.cell q0
  replace q1 := x7.cell q1
  replace q2 := x7.cell q2
  replace hr := hr.ext x7
  have y7 := y5.trans x7
  have fz7 : ∀ o, w7.frozen? ⟨w.heap.size, o, none⟩ = false := fun o => by rw [x7.frozen (p := ⟨w.heap.size, o, none⟩) (show w.heap.size < w5.heap.size from cell_lt s0)]; exact fz5 o
  have f0 := fz7 0
  have f1 := fz7 1
  have f2 := fz7 2
  clear fz5 fz7 s0
  clear y5 x7 y4
  have z5 := cell_lt p0
  have z6 := cell_lt q0
  generalize w4.heap.size + 1 = C at *
  generalize w4.heap.size = B at *
  have gz : ∀ k o1 o2 o3 o4, w7.frozen? ⟨w.heap.size, k, none⟩ = false → ((((w7.alloc o1).alloc o2).alloc o3).alloc o4).frozen? ⟨w.heap.size, k, none⟩ = false := fun k o1 o2 o3 o4 hf => by
    rw [((((ext_alloc w7 o1).alloc o2).alloc o3).alloc o4).frozen (p := ⟨w.heap.size, k, none⟩) z6]; exact hf
  have g0 := fun o1 o2 o3 o4 => gz 0 o1 o2 o3 o4 f0
  have g1 := fun o1 o2 o3 o4 => gz 1 o1 o2 o3 o4 f1
  have g2 := fun o1 o2 o3 o4 => gz 2 o1 o2 o3 o4 f2
  have h0 := fun o1 o2 o3 o4 => ((((ext_alloc w7 o1).alloc o2).alloc o3).alloc o4).cell q0
  have h1 := fun o1 o2 o3 o4 => ((((ext_alloc w7 o1).alloc o2).alloc o3).alloc o4).cell q1
  have h2 := fun o1 o2 o3 o4 => ((((ext_alloc w7 o1).alloc o2).alloc o3).alloc o4).cell q2
  clear gz f0 f1 f2
  go_wp2_with fail
  clear g0 g1 g2
  generalize hW : ((((w7.alloc (.cells #[.int .u8 107, .int .i64 4, .bool false, .int .u8 121, .int .i64 2, .bool true, .int .u8 110, .int .i64 1, .bool false] 40)).alloc (.cells #[.string { data := #[97, 98, 106, 97, 100] }, .slice (some ⟨w7.heap.size, 0, none⟩) 3 3] 38)).alloc (.cells #[.string { data := #[114, 111, 109, 97, 110] }, .slice (some ⟨B, 0, none⟩) 4 4, .string { data := #[97, 98, 106, 97, 100] }, .slice (some ⟨w7.heap.size, 0, none⟩) 3 3] 38)).alloc (.cells #[.int .i64 0, .string { data := #[107, 101] }, .int .i64 1, .string { data := #[107, 121] }, .int .i64 0, .string { data := #[104, 107, 97] }, .int .i64 1, .string { data := #[107, 110] }] 42)) = W8
  have x8 : Ext w7 W8 := by rw [← hW]; exact (((ext_alloc w7 _).alloc _).alloc _).alloc _
  have r0 := x8.cell q0
  have r1 := x8.cell q1
  have r2 := x8.cell q2
  have hne : w.heap.size ≠ w7.heap.size := by omega
  have ha : LettersAt W8 (.slice (some ⟨w7.heap.size, 0, none⟩) 3 3) abjadL := ⟨_, _, rfl, by decide, by decide, fun i hi => by
    have : i = 0 ∨ i = 1 ∨ i = 2 := by simp [abjadL] at hi; omega
    refine ⟨_, _, rfl, ?_⟩
    rcases this with rfl | rfl | rfl
    all_goals exact ⟨by rw [← hW]; simp [go_sem, abjadL], by rw [← hW]; simp [go_sem, abjadL], by rw [← hW]; simp [go_sem, abjadL], abjadFine _ (List.getElem_mem hi)⟩⟩
  have a0 : W8.cell? ⟨w7.heap.size + 2, 0, none⟩ = some (.string { data := #[114, 111, 109, 97, 110] }) := by rw [← hW]; simp [go_sem]
  have a1 : W8.cell? ⟨w7.heap.size + 2, 1, none⟩ = some (.slice (some ⟨B, 0, none⟩) 4 4) := by rw [← hW]; simp [go_sem]
  have a2 : W8.cell? ⟨w7.heap.size + 2, 2, none⟩ = some (.string { data := #[97, 98, 106, 97, 100] }) := by rw [← hW]; simp [go_sem]
  have a3 : W8.cell? ⟨w7.heap.size + 2, 3, none⟩ = some (.slice (some ⟨w7.heap.size, 0, none⟩) 3 3) := by rw [← hW]; simp [go_sem]
  have s0 : W8.cell? ⟨w7.heap.size + 3, 0, none⟩ = some (.int .i64 0) := by rw [← hW]; simp [go_sem]
  have s1 : W8.cell? ⟨w7.heap.size + 3, 1, none⟩ = some (.string { data := #[107, 101] }) := by rw [← hW]; simp [go_sem]
  have s2 : W8.cell? ⟨w7.heap.size + 3, 2, none⟩ = some (.int .i64 1) := by rw [← hW]; simp [go_sem]
  have s3 : W8.cell? ⟨w7.heap.size + 3, 3, none⟩ = some (.string { data := #[107, 121] }) := by rw [← hW]; simp [go_sem]
  have s4 : W8.cell? ⟨w7.heap.size + 3, 4, none⟩ = some (.int .i64 0) := by rw [← hW]; simp [go_sem]
  have s5 : W8.cell? ⟨w7.heap.size + 3, 5, none⟩ = some (.string { data := #[104, 107, 97] }) := by rw [← hW]; simp [go_sem]
  have s6 : W8.cell? ⟨w7.heap.size + 3, 6, none⟩ = some (.int .i64 1) := by rw [← hW]; simp [go_sem]
  have s7 : W8.cell? ⟨w7.heap.size + 3, 7, none⟩ = some (.string { data := #[107, 110] }) := by rw [← hW]; simp [go_sem]
  replace hr := hr.ext x8
  have y8 := y7.trans x8
  clear hW h0 h1 h2 q0 q1 q2 x8 y7
  have K := fun q x => set3 (W := W8) (B := w.heap.size) (.int .i64 3) (.slice (some ⟨w7.heap.size + 2, 0, none⟩) 2 2) (.slice (some ⟨w7.heap.size + 3, 0, none⟩) 4 4) q x
  have r := three_cells r0 r1 r2 (.int .i64 3) (.slice (some ⟨w7.heap.size + 2, 0, none⟩) 2 2) (.slice (some ⟨w7.heap.size + 3, 0, none⟩) 4 4)
  refine bodyPost_ret (v := .agg #[.int .i64 3, .slice (some ⟨w7.heap.size + 2, 0, none⟩) 2 2, .slice (some ⟨w7.heap.size + 3, 0, none⟩) 4 4]) (by simp [results, Try.results47, go_sem, r.1, r.2.1, r.2.2]) rfl ⟨_, rfl, ⟨_, _, rfl, by simp [bookB, I64], ⟨_, _, rfl, by decide, by decide, fun i hi => ?_⟩, ⟨_, _, rfl, by decide, by decide, fun i hi => ?_⟩⟩, ?_⟩
  · have : i = 0 ∨ i = 1 := by simp [bookB] at hi; omega
    refine ⟨_, _, rfl, ?_⟩
    rcases this with rfl | rfl
    · exact ⟨K _ _ (by simp; omega) a0, nameFine _ (List.getElem_mem hi), _, K _ _ (by simp; omega) a1, hr.keep K (by omega)⟩
    · exact ⟨K _ _ (by simp; omega) a2, nameFine _ (List.getElem_mem hi), _, K _ _ (by simp; omega) a3, ha.keep K (by omega)⟩
  · have : i = 0 ∨ i = 1 ∨ i = 2 ∨ i = 3 := by simp [bookB] at hi; omega
    refine ⟨_, _, rfl, ?_⟩
    rcases this with rfl | rfl | rfl | rfl
    · exact ⟨K _ _ (by simp; omega) s0, K _ _ (by simp; omega) s1, by simp [bookB, I64], textFine _ (List.getElem_mem hi)⟩
    · exact ⟨K _ _ (by simp; omega) s2, K _ _ (by simp; omega) s3, by simp [bookB, I64], textFine _ (List.getElem_mem hi)⟩
    · exact ⟨K _ _ (by simp; omega) s4, K _ _ (by simp; omega) s5, by simp [bookB, I64], textFine _ (List.getElem_mem hi)⟩
    · exact ⟨K _ _ (by simp; omega) s6, K _ _ (by simp; omega) s7, by simp [bookB, I64], textFine _ (List.getElem_mem hi)⟩
  · exact ((y8.setCell (by simp) _).setCell (by simp) _).setCell (by simp) _
end Go.Proofs.Ytoifmphpeflliaa
