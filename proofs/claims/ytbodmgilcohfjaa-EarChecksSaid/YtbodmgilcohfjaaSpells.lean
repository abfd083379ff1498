/-
  WHAT check.First RETURNS at the spellings of a book.
-/
import Derived.Test.YtbodmgilcohfjaaSpelling
namespace Go.Proofs.Ytbodmgilcohfjaa
open Go.RowKit

set_option maxHeartbeats 1000000 in
set_option maxRecDepth 100000 in
theorem firstErrorSpelling_any (bv v : Value) (b : Book) (l : List Spelling) (w : World) (hb : BookAt w bv b) (hl : SpellingsAt w v l) :
    Calls Try.prog 47 #[v, .func (.func 48) #[bv] #[]] w
      fun e w' => e = .returned (.tuple #[.int .i64 (firstErr (fun _ y => spellingErrM b.alphabets y) l).1, .int .i64 (firstErr (fun _ y => spellingErrM b.alphabets y) l).2]) ∧ Ext w w' := by
  obtain ⟨a, cap, rfl, hlc, hcm⟩ := hl.shape
  go_enter Try.func47, Try.ntmps47
  go_wp2
  go_loopw [11] (fun i wr => ∃ k : Nat, k ≤ l.length ∧ i = .int .i64 k ∧ firstErrFrom (fun _ y => spellingErrM b.alphabets y) (l.take k) (l.drop k) = firstErr (fun _ y => spellingErrM b.alphabets y) l ∧ Ext w wr) (fun i _ => l.length - (intOf i).toNat)
  case atStart => exact ⟨0, Nat.zero_le _, rfl, rfl, Ext.refl _⟩
  case round =>
    obtain ⟨k, hk, rfl, hd, hx⟩ := hrel
    have Hd := Lib.hid hd; clear hd
    by_cases hlt : k < l.length
    · have hls := hl.ext hx
      have hkc : k ≤ cap := by omega
      have hcell := hls
      obtain ⟨_, _, he, -, -, hh⟩ := hcell
      obtain ⟨bb, off, rfl, h1, h2, hi, hts⟩ := hh k hlt
      cases he
      generalize hy : l[k] = y at *
      have Hy := Lib.hid hy; clear hy hh
      go_wp2_with fail
      have c0 : (wr.alloc (.cells #[.int .i64 y.alphabet, .string y.text] 55)).cell? ⟨wr.heap.size, 0, none⟩ = some (.int .i64 y.alphabet) := by simp [go_sem]
      have c1 : (wr.alloc (.cells #[.int .i64 y.alphabet, .string y.text] 55)).cell? ⟨wr.heap.size, 1, none⟩ = some (.string y.text) := by simp [go_sem]
      have hlw := hls.ext (ext_alloc wr (.cells #[.int .i64 y.alphabet, .string y.text] 55))
      have hbw := (hb.ext hx).ext (ext_alloc wr (.cells #[.int .i64 y.alphabet, .string y.text] 55))
      apply Facts.wp_region [.val _, .val _, .val _, .val _, .val _, .val (.int .i64 (spellingErrM b.alphabets y)), .val _] (by kernel_rfl) (by kernel_rfl) trivial ?main
      case main =>
        iterate 5 (refine ⟨fun w1 hx hh => ?_, ?_⟩; focus (clear hh; have e0 := hx.cell c0; have e1 := hx.cell c1; go_simp; exact ⟨Ext.refl _, rfl⟩))
        refine ⟨fun w1 hx hh => ?_, ?_⟩
        · clear hh
          go_simp
          refine (spellingError_any bv _ _ b y w1 (hbw.ext hx) ⟨rfl, hi, hts⟩).mono ?_
          rintro e w' ⟨rfl, hx2⟩
          exact ⟨_, rfl, hx2, rfl⟩
        iterate 1 (refine ⟨fun w1 hx hh => ?_, ?_⟩; focus (clear hh; skip; go_simp; exact ⟨Ext.refl _, rfl⟩))
        intro w1 hx1 hh
        have hx3 := hx.trans hx1.of_alloc
        clear hh hx1 c0 c1 hlw hbw
        by_cases h0 : spellingErrM b.alphabets y = 0
        · have H0 := Lib.hid h0
          rw [h0]; clear h0
          go_wp2
          go_roundw
          case rel => exact ⟨k + 1, by omega, by go_num, (firstErrFrom_step _ l k hlt y Hy.out H0.out).trans Hd.out, hx3⟩
          case measure => simp [intOf]; omega
        · have H0 := Lib.hid h0
          have h1 : (spellingErrM b.alphabets y != 0) = true := by simpa using h0
          clear h0
          go_wp2
          go_ret2
          have := Hd.out
          rw [firstErrFrom_hit _ l k hlt y Hy.out H0.out] at this
          exact ⟨ret_two (by rw [← this]), hx3⟩
    · go_wp2
      go_ret2
      have := Hd.out
      rw [firstErrFrom_end _ _ _ (by omega)] at this
      exact ⟨ret_two (by rw [← this]), hx⟩
end Go.Proofs.Ytbodmgilcohfjaa
