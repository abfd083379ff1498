/-
  WHAT spellingError AND check.First RETURN: the first error of a spelling; the first spelling with an error.
-/
import Derived.Test.YtbodmgilcohfjaaAlph
namespace Go.Proofs.Ytbodmgilcohfjaa
open Go.RowKit

def lettersOf (al : List Alphabet) (i : Int) : List Letter := match al[i.toNat]? with | some a => a.letters | none => []
def knownB (ls : List Letter) (s : ByteArray) (k : Nat) : Bool := ls.any fun y => y.c == byteAt s k
def textOk (ls : List Letter) (s : ByteArray) : Bool := (List.range s.size).all fun k => knownB ls s k
def spellingErrM (al : List Alphabet) (x : Spelling) : Int :=
  if inM x.alphabet 0 (al.length - 1) = false then 4 else if inM x.text.size 1 5 = false then 3 else if textOk (lettersOf al x.alphabet) x.text = false then 6 else 0
theorem textOk_no (ls : List Letter) (s : ByteArray) (k : Nat) (hk : k < s.size) (h : knownB ls s k = false) : textOk ls s = false := by
  unfold textOk
  rw [List.all_eq_false]
  exact ⟨k, List.mem_range.2 hk, by simp [h]⟩
theorem textOk_yes (ls : List Letter) (s : ByteArray) (h2 : ∀ j, j < s.size → knownB ls s j = true) : textOk ls s = true := by
  unfold textOk
  rw [List.all_eq_true]
  exact fun k hk => h2 k (List.mem_range.1 hk)
theorem idxM_lt {α : Type} (p : α → Bool) (l : List α) : decide (idxM p l < 0) = !l.any p := by
  rw [← idxM_ge, ← decide_not]; congr 1; rw [Int.not_le]
def SpellingV (v : Value) (x : Spelling) : Prop := v = .agg #[.int .i64 x.alphabet, .string x.text] ∧ I64 x.alphabet ∧ x.text.size ≤ 9223372036854775807

set_option maxHeartbeats 1000000 in
set_option maxRecDepth 100000 in
theorem spellingError_any (bv v u : Value) (b : Book) (x : Spelling) (w : World) (hb : BookAt w bv b) (hu : SpellingV u x) :
    Calls Try.prog 48 #[bv, v, u] w fun e w' => e = .returned (.int .i64 (spellingErrM b.alphabets x)) ∧ Ext w w' := by
  obtain ⟨ba, bc, bs, bd, rfl, -, hbl, hbc, -, -, -, hal, -⟩ := hb.open
  obtain ⟨rfl, hai, hts⟩ := hu
  have hai' : -9223372036854775808 ≤ x.alphabet ∧ x.alphabet ≤ 9223372036854775807 := hai
  go_enter Try.func48, Try.ntmps48
  go_wp2_with fail
  refine (within_any _ _ _ [x.alphabet] _ (IntsAt.oneAt (by simp) hai)).mono ?_
  rintro e w' ⟨rfl, rfl⟩
  rw [withinM_one]
  cases h1 : inM x.alphabet 0 (b.alphabets.length - 1)
  · have H1 := Lib.hid h1; clear h1
    go_wp2_with fail
    go_ret
    exact ⟨ret_int (by rw [spellingErrM, if_pos H1.out]), (by first | (with_reducible exact Ext.refl _) | (with_reducible assumption) | (show Below _ _ _; go_grown; done))⟩
  have hin : 0 ≤ x.alphabet ∧ x.alphabet ≤ b.alphabets.length - 1 := by simpa [inM] using h1
  have H1 := Lib.hid h1; clear h1
  go_wp2_with fail
  refine (within_any _ _ _ [(x.text.size : Int)] _ (IntsAt.oneAt (by simp) (by omega))).mono ?_
  rintro e w' ⟨rfl, rfl⟩
  rw [withinM_one]
  cases h2 : inM x.text.size 1 5
  · have H2 := Lib.hid h2; clear h2
    go_wp2_with fail
    go_ret
    exact ⟨ret_int (by rw [spellingErrM, if_neg (by rw [H1.out]; decide), if_pos H2.out]), (by first | (with_reducible exact Ext.refl _) | (with_reducible assumption) | (show Below _ _ _; go_grown; done))⟩
  have H2 := Lib.hid h2; clear h2
  go_wp2_with fail
  have hlt : x.alphabet.toNat < b.alphabets.length := by omega
  have hls : lettersOf b.alphabets x.alphabet = (b.alphabets[x.alphabet.toNat]).letters := by
    rw [lettersOf, List.getElem?_eq_getElem hlt]
  have Hls := Lib.hid hls; clear hls
  go_loopw [27] (fun i wr => ∃ k : Nat, k ≤ x.text.size ∧ i = .int .i64 k ∧ Ext w wr ∧ (wr.cell? ⟨w.heap.size, 1, none⟩ = some (.slice ba b.alphabets.length bc) ∧ wr.cell? ⟨w.heap.size + 1, 0, none⟩ = some (.int .i64 x.alphabet) ∧ wr.cell? ⟨w.heap.size + 1, 1, none⟩ = some (.string x.text)) ∧
    ∀ j, j < k → knownB (lettersOf b.alphabets x.alphabet) x.text j = true) (fun i _ => x.text.size - (intOf i).toNat)
  case atStart => exact ⟨0, Nat.zero_le _, rfl, (by first | (with_reducible exact Ext.refl _) | (with_reducible assumption) | (show Below _ _ _; go_grown; done)), ⟨by simp [go_sem], by simp [go_sem], by simp [go_sem]⟩, fun _ h => absurd h (Nat.not_lt_zero _)⟩
  case round =>
    obtain ⟨k, hk, rfl, hx, ⟨c1, c2, c3⟩, hno⟩ := hrel
    have Hno := Lib.hid hno; clear hno
    by_cases hkt : k < x.text.size
    · go_wp2_with fail
      obtain ⟨_, _, he, -, -, hh⟩ := hal.ext hx
      obtain ⟨bb, off, rfl, -, -, lv, c4, hlv⟩ := hh x.alphabet.toNat hlt
      cases he
      have hbe := byteAt_eq x.text k hkt
      have hi2 : x.alphabet < (b.alphabets.length : Int) := by omega
      clear hh
      apply Facts.wp_region [.val _, .val _, .val _, .val _, .val _, .val _, .val _, .val _, .val _, .val _, .val _, .val _, .val _, .val _] (by kernel_rfl) (by kernel_rfl) trivial ?main
      case main =>
        iterate 12 (refine ⟨fun w1 hx hh => ?_, ?_⟩; focus (clear hh; have e0 := hx.cell c1; have e1 := hx.cell c2; have e2 := hx.cell c3; have e3 := hx.cell c4; go_simp; exact ⟨Ext.refl _, rfl⟩))
        refine ⟨fun w1 hx hh => ?_, ?_⟩
        · clear hh
          go_simp
          refine (letterAt_any _ _ lv w1 (hlv.ext hx)).mono ?_
          rintro e w' ⟨rfl, hx2⟩
          exact ⟨_, rfl, hx2, rfl⟩
        iterate 1 (refine ⟨fun w1 hx hh => ?_, ?_⟩; focus (clear hh; skip; go_simp; exact ⟨Ext.refl _, rfl⟩))
        intro w1 hx1 hh
        have hx3 := hx.trans hx1
        have cs := And.intro (hx1.cell c1) (And.intro (hx1.cell c2) (hx1.cell c3))
        clear hh c1 c2 c3 c4 hlv hx1 hal
        have hkn : decide (idxM (fun y : Letter => y.c == ((x.text[k]'hkt).toNat : Int)) (b.alphabets[x.alphabet.toNat]).letters < 0) = !knownB (lettersOf b.alphabets x.alphabet) x.text k := by
          rw [idxM_lt, Hls.out, knownB, hbe]
        clear hbe
        cases hb : knownB (lettersOf b.alphabets x.alphabet) x.text k
        · rw [hb, Bool.not_false] at hkn
          have Hb := Lib.hid hb; clear hb
          go_simp
          go_wp2
          go_ret
          exact ⟨ret_int (by rw [spellingErrM, if_neg (by rw [H1.out]; decide), if_neg (by rw [H2.out]; decide), if_pos (textOk_no _ _ k hkt Hb.out)]), hx3⟩
        · rw [hb, Bool.not_true] at hkn
          have Hb := Lib.hid hb; clear hb
          go_simp
          go_wp2
          go_roundw
          case rel => exact ⟨k + 1, by omega, by go_num, hx3, cs, fun j hj => by
            rcases Nat.lt_or_ge j k with hjk | hjk
            · exact Hno.out j hjk
            · obtain rfl : j = k := by omega
              exact Hb.out⟩
          case measure => simp [intOf]; omega
    · go_wp2
      go_ret
      exact ⟨ret_int (by rw [spellingErrM, if_neg (by rw [H1.out]; decide), if_neg (by rw [H2.out]; decide), if_neg (by rw [textOk_yes _ _ fun j hj => Hno.out j (by omega)]; decide)]), hx⟩
end Go.Proofs.Ytbodmgilcohfjaa
