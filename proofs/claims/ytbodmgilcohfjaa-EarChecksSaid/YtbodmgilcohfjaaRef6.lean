/-
  WHAT letter AND spelling OF THE REFERENCE RETURN.
-/
import Derived.Test.YtbodmgilcohfjaaRef5
import Derived.Test.YtbodmgilcohfjaaCheck
namespace Go.Proofs.Ytbodmgilcohfjaa
open Go.RowKit

set_option maxHeartbeats 1000000 in
set_option maxRecDepth 100000 in
theorem refLetter_any (v : Value) (x : Alphabet) (c : Int) (w : World) (hv : AlphabetV w v x) :
    Calls Try.prog 88 #[v, .int .u8 c] w fun e w' => e = .returned (.int .i64 (idxM (fun y => y.c == c) x.letters)) ∧ Ext w w' := by
  obtain ⟨u, rfl, -, hl⟩ := hv
  obtain ⟨a, cap, rfl, hlc, hcm⟩ := hl.shape
  have hl1 := hl.ext (ext_alloc w (.cells #[.string x.name, .slice a x.letters.length cap] 67))
  have q1 : (w.alloc (.cells #[.string x.name, .slice a x.letters.length cap] 67)).cell? ⟨w.heap.size, 1, none⟩ = some (.slice a x.letters.length cap) := by simp [go_sem]
  have hx0 := ext_alloc w (.cells #[.string x.name, .slice a x.letters.length cap] 67)
  have z : ∀ b o v, w.cell? ⟨b, o, none⟩ = some v → b < w.heap.size := fun b o v h => cell_lt h
  go_enter Try.func88, Try.ntmps88
  go_wp2
  go_loop [5] (fun i => ∃ k : Nat, k ≤ x.letters.length ∧ i = .int .i64 k ∧ (∀ j (_ : j < k) (hj : j < x.letters.length), (x.letters[j].c == c) = false)) (fun i => x.letters.length - (intOf i).toNat)
  case atStart => exact ⟨0, Nat.zero_le _, rfl, fun _ h => by omega⟩
  case round =>
    obtain ⟨k, hk, rfl, hno⟩ := hrel
    have Hno := Lib.hid hno; clear hno
    by_cases hlt : k < x.letters.length
    · obtain ⟨_, _, he, -, -, hh⟩ := hl
      obtain ⟨b, off, rfl, h1, h2, h3, hu, hi⟩ := hh k hlt
      cases he
      have hz := cell_lt h1
      generalize hy : x.letters[k] = y at *
      have Hy := Lib.hid hy; clear hy hh
      cases hb : (y.c == c)
      · have Hb := Lib.hid hb
        go_wp2
        go_round
        case rel => exact ⟨k + 1, by omega, by go_num, fun j hj hl => by
          rcases Nat.lt_or_ge j k with hjk | hjk
          · exact Hno.out j hjk hl
          · obtain rfl : j = k := by omega
            rw [Hy.out]; exact Hb.out⟩
        case measure => simp [intOf]; omega
      · have Hb := Lib.hid hb
        go_wp2
        go_ret
        exact ⟨ret_int (idxM_some _ _ k hlt (fun i hi hl => Hno.out i hi hl) (by rw [Hy.out]; exact Hb.out)).symm, (by first | (with_reducible exact Ext.refl _) | (with_reducible assumption) | (show Below _ _ _; go_grown; done))⟩
    · go_wp2
      go_ret
      exact ⟨ret_int (idxM_none _ _ fun i hi => Hno.out i (by omega) hi).symm, (by first | (with_reducible exact Ext.refl _) | (with_reducible assumption) | (show Below _ _ _; go_grown; done))⟩

set_option maxHeartbeats 1000000 in
set_option maxRecDepth 100000 in
theorem refSpelling_any (bv u : Value) (b : Book) (x : Spelling) (w : World) (hb : BookAt w bv b) (hu : SpellingV u x) :
    Calls Try.prog 52 #[bv, u] w fun e w' => e = .returned (.int .i64 (spellingErrM b.alphabets x)) ∧ Ext w w' := by
  obtain ⟨ba, bc, bs, bd, rfl, -, hbl, hbc, -, -, -, hal, -⟩ := hb.open
  obtain ⟨rfl, hai, hts⟩ := hu
  have hai' : -9223372036854775808 ≤ x.alphabet ∧ x.alphabet ≤ 9223372036854775807 := hai
  have wl : IntKind.i64.wrap ((b.alphabets.length : Int) - 1) = (b.alphabets.length : Int) - 1 := IntWalk.i64_in _ (by omega)
  cases h1 : inM x.alphabet 0 (b.alphabets.length - 1)
  · have H1 := Lib.hid h1
    go_enter Try.func52, Try.ntmps52
    go_wp2_with (go_at_call 49; refine (In_any _ _ _ _).mono ?_; rintro e w' ⟨rfl, rfl⟩)
    go_ret
    exact ⟨ret_int (by rw [spellingErrM, if_pos H1.out]), (by first | (with_reducible exact Ext.refl _) | (with_reducible assumption) | (show Below _ _ _; go_grown; done))⟩
  have hin : 0 ≤ x.alphabet ∧ x.alphabet ≤ b.alphabets.length - 1 := by simpa [inM] using h1
  have H1 := Lib.hid h1
  cases h2 : inM x.text.size 1 5
  · have H2 := Lib.hid h2
    go_enter Try.func52, Try.ntmps52
    go_wp2_with (go_at_call 49; refine (In_any _ _ _ _).mono ?_; rintro e w' ⟨rfl, rfl⟩)
    go_ret
    exact ⟨ret_int (by rw [spellingErrM, if_neg (by rw [H1.out]; decide), if_pos H2.out]), (by first | (with_reducible exact Ext.refl _) | (with_reducible assumption) | (show Below _ _ _; go_grown; done))⟩
  have H2 := Lib.hid h2
  go_enter Try.func52, Try.ntmps52
  go_wp2_with (go_at_call 49; refine (In_any _ _ _ _).mono ?_; rintro e w' ⟨rfl, rfl⟩)
  clear h1 h2
  have hlt : x.alphabet.toNat < b.alphabets.length := by omega
  have hls : lettersOf b.alphabets x.alphabet = (b.alphabets[x.alphabet.toNat]).letters := by
    rw [lettersOf, List.getElem?_eq_getElem hlt]
  have Hls := Lib.hid hls; clear hls
  go_loopw [5] (fun i wr => ∃ k : Nat, k ≤ x.text.size ∧ i = .int .i64 k ∧ Ext w wr ∧ (wr.cell? ⟨w.heap.size, 1, none⟩ = some (.slice ba b.alphabets.length bc) ∧ wr.cell? ⟨w.heap.size + 1, 0, none⟩ = some (.int .i64 x.alphabet) ∧ wr.cell? ⟨w.heap.size + 1, 1, none⟩ = some (.string x.text)) ∧
    ∀ j, j < k → knownB (lettersOf b.alphabets x.alphabet) x.text j = true) (fun i _ => x.text.size - (intOf i).toNat)
  case atStart => exact ⟨0, Nat.zero_le _, rfl, (by first | (with_reducible exact Ext.refl _) | (with_reducible assumption) | (show Below _ _ _; go_grown; done)), ⟨by simp [go_sem], by simp [go_sem], by simp [go_sem]⟩, fun _ h => absurd h (Nat.not_lt_zero _)⟩
  case round =>
    obtain ⟨k, hk, rfl, hx, ⟨c1, c2, c3⟩, hno⟩ := hrel
    have Hno := Lib.hid hno; clear hno
    by_cases hkt : k < x.text.size
    · go_wp2_with fail
      obtain ⟨_, _, he, -, -, hh⟩ := hal.ext hx
      obtain ⟨bb, off, rfl, c5, hns, lv, c4, hlv⟩ := hh x.alphabet.toNat hlt
      cases he
      have hbe := byteAt_eq x.text k hkt
      have hi2 : x.alphabet < (b.alphabets.length : Int) := by omega
      clear hh
      apply Facts.wp_region [.val _, .val _, .val _, .val _, .val _, .val _, .val _, .val _, .val _, .val _, .val _, .val _] (by kernel_rfl) (by kernel_rfl) trivial ?main
      case main =>
        iterate 10 (refine ⟨fun w1 hx hh => ?_, ?_⟩; focus (clear hh; have e0 := hx.cell c1; have e1 := hx.cell c2; have e2 := hx.cell c3; have e3 := hx.cell c4; have e4 := hx.cell c5; go_simp; exact ⟨Ext.refl _, rfl⟩))
        refine ⟨fun w1 hx hh => ?_, ?_⟩
        · clear hh
          go_simp
          refine (refLetter_any _ (b.alphabets[x.alphabet.toNat]) _ w1 ⟨lv, rfl, hns, hlv.ext hx⟩).mono ?_
          rintro e w' ⟨rfl, hx2⟩
          exact ⟨_, rfl, hx2, rfl⟩
        iterate 1 (refine ⟨fun w1 hx hh => ?_, ?_⟩; focus (clear hh; skip; go_simp; exact ⟨Ext.refl _, rfl⟩))
        intro w1 hx1 hh
        have hx3 := hx.trans hx1
        have cs := And.intro (hx1.cell c1) (And.intro (hx1.cell c2) (hx1.cell c3))
        clear hh c1 c2 c3 c4 c5 hlv hx1 hal
        have hkn : decide (idxM (fun y : Letter => y.c == ((x.text[k]'hkt).toNat : Int)) (b.alphabets[x.alphabet.toNat]).letters < 0) = !knownB (lettersOf b.alphabets x.alphabet) x.text k := by
          rw [idxM_lt, Hls.out, knownB, hbe]
        clear hbe
        cases hb : knownB (lettersOf b.alphabets x.alphabet) x.text k
        · rw [hb, Bool.not_false] at hkn
          have Hb := Lib.hid hb; clear hb
          go_simp
          go_wp2
          go_ret
          exact ⟨ret_int (by rw [spellingErrM, if_neg (by rw [H1.out]; decide), if_neg (by rw [H2.out]; decide), if_pos (textOk_no _ _ k hkt Hb.out)]), hx3⟩
        · rw [hb, Bool.not_true] at hkn
          have Hb := Lib.hid hb; clear hb
          go_simp
          go_wp2
          go_roundw
          case rel => exact ⟨k + 1, by omega, by go_num, hx3, cs, fun j hj => by
            rcases Nat.lt_or_ge j k with hjk | hjk
            · exact Hno.out j hjk
            · obtain rfl : j = k := by omega
              exact Hb.out⟩
          case measure => simp [intOf]; omega
    · go_wp2
      go_ret
      exact ⟨ret_int (by rw [spellingErrM, if_neg (by rw [H1.out]; decide), if_neg (by rw [H2.out]; decide), if_neg (by rw [textOk_yes _ _ fun j hj => Hno.out j (by omega)]; decide)]), hx⟩
end Go.Proofs.Ytbodmgilcohfjaa
