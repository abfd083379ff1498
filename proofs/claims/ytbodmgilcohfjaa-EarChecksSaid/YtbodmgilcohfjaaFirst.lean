/-
  WHAT check.First RETURNS at the letters of an alphabet: the first one with an error, and this error.
-/
import Derived.Test.YtbodmgilcohfjaaLetter
namespace Go.Proofs.Ytbodmgilcohfjaa
open Go.RowKit

def firstErrFrom {α : Type} (f : List α → α → Int) : List α → List α → Int × Int
  | _, [] => (0, 0)
  | pre, x :: r => if f pre x = 0 then firstErrFrom f (pre ++ [x]) r else (pre.length, f pre x)
def firstErr {α : Type} (f : List α → α → Int) (l : List α) : Int × Int := firstErrFrom f [] l
theorem firstErrFrom_step {α : Type} (f : List α → α → Int) (l : List α) (k : Nat) (hk : k < l.length) (x : α) (hx : l[k] = x) (h : f (l.take k) x = 0) : firstErrFrom f (l.take (k + 1)) (l.drop (k + 1)) = firstErrFrom f (l.take k) (l.drop k) := by
  rw [List.drop_eq_getElem_cons hk, hx, firstErrFrom, if_pos h, List.take_succ_eq_append_getElem hk, hx]
theorem firstErrFrom_hit {α : Type} (f : List α → α → Int) (l : List α) (k : Nat) (hk : k < l.length) (x : α) (hx : l[k] = x) (h : f (l.take k) x ≠ 0) : firstErrFrom f (l.take k) (l.drop k) = ((k : Int), f (l.take k) x) := by
  rw [List.drop_eq_getElem_cons hk, hx, firstErrFrom, if_neg h, List.length_take, Nat.min_eq_left (by omega)]
theorem firstErrFrom_end {α : Type} (f : List α → α → Int) (l : List α) (k : Nat) (hk : l.length ≤ k) : firstErrFrom f (l.take k) (l.drop k) = (0, 0) := by
  rw [List.drop_eq_nil_of_le hk]; rfl
theorem ret_two {j k : IntKind} {a b c d : Int} (h : (a, b) = (c, d)) : Ending.returned (.tuple #[.int j a, .int k b]) = .returned (.tuple #[.int j c, .int k d]) := by cases h; rfl

set_option maxHeartbeats 1000000 in
set_option maxRecDepth 100000 in
theorem firstErrorLetter_any (bv v : Value) (b : Book) (hS : 1 ≤ b.sounds ∧ b.sounds ≤ 4) (l : List Letter) (w : World) (hb : BookAt w bv b) (hl : LettersAt w v l) :
    Calls Try.prog 83 #[v, .func (.func 84) #[bv] #[]] w
      fun e w' => e = .returned (.tuple #[.int .i64 (firstErr (letterErrM b.sounds) l).1, .int .i64 (firstErr (letterErrM b.sounds) l).2]) ∧ Ext w w' := by
  obtain ⟨a, cap, rfl, hlc, hcm⟩ := hl.shape
  go_enter Try.func83, Try.ntmps83
  go_wp2
  go_loopw [11] (fun i wr => ∃ k : Nat, k ≤ l.length ∧ i = .int .i64 k ∧ firstErrFrom (letterErrM b.sounds) (l.take k) (l.drop k) = firstErr (letterErrM b.sounds) l ∧ Ext w wr) (fun i _ => l.length - (intOf i).toNat)
  case atStart => exact ⟨0, Nat.zero_le _, rfl, rfl, Ext.refl _⟩
  case round =>
    obtain ⟨k, hk, rfl, hd, hx⟩ := hrel
    have Hd := Lib.hid hd; clear hd
    by_cases hlt : k < l.length
    · have hls := hl.ext hx
      have hkc : k ≤ cap := by omega
      have hcell := hls
      obtain ⟨_, _, he, -, -, hh⟩ := hcell
      obtain ⟨bb, off, rfl, h1, h2, h3, hu, hi⟩ := hh k hlt
      cases he
      generalize hy : l[k] = y at *
      have Hy := Lib.hid hy; clear hy hh
      go_wp2_with fail
      have c0 : (wr.alloc (.cells #[.int .u8 y.c, .int .i64 y.sounds, .bool y.silent] 69)).cell? ⟨wr.heap.size, 0, none⟩ = some (.int .u8 y.c) := by simp [go_sem]
      have c1 : (wr.alloc (.cells #[.int .u8 y.c, .int .i64 y.sounds, .bool y.silent] 69)).cell? ⟨wr.heap.size, 1, none⟩ = some (.int .i64 y.sounds) := by simp [go_sem]
      have c2 : (wr.alloc (.cells #[.int .u8 y.c, .int .i64 y.sounds, .bool y.silent] 69)).cell? ⟨wr.heap.size, 2, none⟩ = some (.bool y.silent) := by simp [go_sem]
      have hlw := hls.ext (ext_alloc wr (.cells #[.int .u8 y.c, .int .i64 y.sounds, .bool y.silent] 69))
      have hbw := (hb.ext hx).ext (ext_alloc wr (.cells #[.int .u8 y.c, .int .i64 y.sounds, .bool y.silent] 69))
      apply Facts.wp_region [.val _, .val _, .val _, .val _, .val _, .val (.int .i64 (letterErrM b.sounds (l.take k) y)), .val _] (by kernel_rfl) (by kernel_rfl) trivial ?main
      case main =>
        iterate 5 (refine ⟨fun w1 hx hh => ?_, ?_⟩; focus (clear hh; have e0 := hx.cell c0; have e1 := hx.cell c1; have e2 := hx.cell c2; go_simp; exact ⟨Ext.refl _, rfl⟩))
        refine ⟨fun w1 hx hh => ?_, ?_⟩
        · clear hh
          go_simp
          refine (letterError_any bv _ _ b hS (l.take k) y w1 (hbw.ext hx) ((hlw.ext hx).take k (by omega)) ⟨rfl, hu, hi⟩).mono ?_
          rintro e w' ⟨rfl, hx2⟩
          exact ⟨_, rfl, hx2, rfl⟩
        iterate 1 (refine ⟨fun w1 hx hh => ?_, ?_⟩; focus (clear hh; skip; go_simp; exact ⟨Ext.refl _, rfl⟩))
        intro w1 hx1 hh
        have hx3 := hx.trans hx1.of_alloc
        clear hh hx1 c0 c1 c2 hlw hbw
        by_cases h0 : letterErrM b.sounds (l.take k) y = 0
        · have H0 := Lib.hid h0
          rw [h0]; clear h0
          go_wp2
          go_roundw
          case rel => exact ⟨k + 1, by omega, by go_num, (firstErrFrom_step _ l k hlt y Hy.out H0.out).trans Hd.out, hx3⟩
          case measure => simp [intOf]; omega
        · have H0 := Lib.hid h0
          have h1 : (letterErrM b.sounds (l.take k) y != 0) = true := by simpa using h0
          clear h0
          go_wp2
          go_ret2
          have := Hd.out
          rw [firstErrFrom_hit _ l k hlt y Hy.out H0.out] at this
          exact ⟨ret_two (by rw [← this]), hx3⟩
    · go_wp2
      go_ret2
      have := Hd.out
      rw [firstErrFrom_end _ _ _ (by omega)] at this
      exact ⟨ret_two (by rw [← this]), hx⟩
end Go.Proofs.Ytbodmgilcohfjaa
