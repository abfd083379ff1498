/-
  WHAT check.First RETURNS at the letters of an alphabet: the first one with an error, and this error.
  WHAT check.Span RETURNS: the error of a span, each end of which has to be within two numbers.
  PARTS: the error of a part, of the program and of the reference.
  THE ERROR OF A NAME, which things before must not have.
  THE FIRST ERROR of parts, and of forms: check.First, formError, and what they call. Of the program.
  WHAT alphabetError AND check.First RETURN: the first error of an alphabet; the first alphabet with an error.
  WHAT spellingError AND check.First RETURN: the first error of a spelling; the first spelling with an error.
  WHAT check.First RETURNS at the spellings of a book.
  WHAT ear.Check AND open RETURN, for any book: the part, the index and the error that the document says; the book, and its error, or that of an index.
  THE ERROR OF A SHELF, of a shelf and a letter, and a form that is opened: Check, shelfError, open and openFor of the program.
  A FORM THAT IS OPENED: open and openFor of the program.
  WHAT THE SMALL FUNCTIONS ON LISTS OF NUMBERS RETURN: the error of something heard, whether numbers are ascending, the bits of some indices, the indices of some bits.
-/
import Derived.Test.YtnfbhicoknpojaaGreatBunAA
import Derived.Outline
namespace Go.Proofs.YtnfbhicoknpojaaGreat
set_option linter.unusedSimpArgs false
set_option linter.unusedVariables false
open Go.RowKit

def firstErrFrom {α : Type} (f : List α → α → Int) : List α → List α → Int × Int
  | _, [] => (0, 0)
  | pre, x :: r => if f pre x = 0 then firstErrFrom f (pre ++ [x]) r else (pre.length, f pre x)
def firstErr {α : Type} (f : List α → α → Int) (l : List α) : Int × Int := firstErrFrom f [] l
theorem firstErrFrom_step {α : Type} (f : List α → α → Int) (l : List α) (k : Nat) (hk : k < l.length) (x : α) (hx : l[k] = x) (h : f (l.take k) x = 0) : firstErrFrom f (l.take (k + 1)) (l.drop (k + 1)) = firstErrFrom f (l.take k) (l.drop k) := by
  rw [List.drop_eq_getElem_cons hk, hx, firstErrFrom, if_pos h, List.take_succ_eq_append_getElem hk, hx]
theorem firstErrFrom_hit {α : Type} (f : List α → α → Int) (l : List α) (k : Nat) (hk : k < l.length) (x : α) (hx : l[k] = x) (h : f (l.take k) x ≠ 0) : firstErrFrom f (l.take k) (l.drop k) = ((k : Int), f (l.take k) x) := by
  rw [List.drop_eq_getElem_cons hk, hx, firstErrFrom, if_neg h, List.length_take, Nat.min_eq_left (by omega)]
theorem firstErrFrom_end {α : Type} (f : List α → α → Int) (l : List α) (k : Nat) (hk : l.length ≤ k) : firstErrFrom f (l.take k) (l.drop k) = (0, 0) := by
  rw [List.drop_eq_nil_of_le hk]; rfl
theorem ret_two {j k : IntKind} {a b c d : Int} (h : (a, b) = (c, d)) : Ending.returned (.tuple #[.int j a, .int k b]) = .returned (.tuple #[.int j c, .int k d]) := by cases h; rfl

set_option maxHeartbeats 1000000 in
set_option maxRecDepth 100000 in
theorem firstErrorLetter_any (bv v : Value) (b : Book) (hS : 1 ≤ b.sounds ∧ b.sounds ≤ 4) (l : List Letter) (w : World) (hb : BookAt w bv b) (hl : LettersAt w v l) :
    Calls Tryz.prog 135 #[v, .func (.func 136) #[bv] #[]] w
      fun e w' => e = .returned (.tuple #[.int .i64 (firstErr (letterErrM b.sounds) l).1, .int .i64 (firstErr (letterErrM b.sounds) l).2]) ∧ Ext w w' := by
  obtain ⟨a, cap, rfl, hlc, hcm⟩ := hl.shape
  go_enter Tryz.func135, Tryz.ntmps135
  go_wp2
  go_loopw [11] (fun i wr => ∃ k : Nat, k ≤ l.length ∧ i = .int .i64 k ∧ firstErrFrom (letterErrM b.sounds) (l.take k) (l.drop k) = firstErr (letterErrM b.sounds) l ∧ Ext w wr) (fun i _ => l.length - (intOf i).toNat)
  case atStart => exact ⟨0, Nat.zero_le _, rfl, rfl, Ext.refl _⟩
  case round =>
    obtain ⟨k, hk, rfl, hd, hx⟩ := hrel
    have Hd := Lib.hid hd; clear hd
    by_cases hlt : k < l.length
    · have hls := hl.ext hx
      have hkc : k ≤ cap := by omega
      have hcell := hls
      obtain ⟨_, _, he, -, -, hh⟩ := hcell
      obtain ⟨bb, off, rfl, h1, h2, h3, hu, hi⟩ := hh k hlt
      cases he
      generalize hy : l[k] = y at *
      have Hy := Lib.hid hy; clear hy hh
      go_wp2_with fail
      have c0 : (wr.alloc (.cells #[.int .u8 y.c, .int .i64 y.sounds, .bool y.silent] 133)).cell? ⟨wr.heap.size, 0, none⟩ = some (.int .u8 y.c) := by simp [go_sem]
      have c1 : (wr.alloc (.cells #[.int .u8 y.c, .int .i64 y.sounds, .bool y.silent] 133)).cell? ⟨wr.heap.size, 1, none⟩ = some (.int .i64 y.sounds) := by simp [go_sem]
      have c2 : (wr.alloc (.cells #[.int .u8 y.c, .int .i64 y.sounds, .bool y.silent] 133)).cell? ⟨wr.heap.size, 2, none⟩ = some (.bool y.silent) := by simp [go_sem]
      have hlw := hls.ext (ext_alloc wr (.cells #[.int .u8 y.c, .int .i64 y.sounds, .bool y.silent] 133))
      have hbw := (hb.ext hx).ext (ext_alloc wr (.cells #[.int .u8 y.c, .int .i64 y.sounds, .bool y.silent] 133))
      apply Facts.wp_region [.val _, .val _, .val _, .val _, .val _, .val (.int .i64 (letterErrM b.sounds (l.take k) y)), .val _] (by kernel_rfl) (by kernel_rfl) trivial ?main
      case main =>
        iterate 5 (refine ⟨fun w1 hx hh => ?_, ?_⟩; focus (clear hh; have e0 := hx.cell c0; have e1 := hx.cell c1; have e2 := hx.cell c2; go_simp; exact ⟨Ext.refl _, rfl⟩))
        refine ⟨fun w1 hx hh => ?_, ?_⟩
        · clear hh
          go_simp
          refine (letterError_any bv _ _ b hS (l.take k) y w1 (hbw.ext hx) ((hlw.ext hx).take k (by omega)) ⟨rfl, hu, hi⟩).mono ?_
          rintro e w' ⟨rfl, hx2⟩
          exact ⟨_, rfl, hx2, rfl⟩
        iterate 1 (refine ⟨fun w1 hx hh => ?_, ?_⟩; focus (clear hh; skip; go_simp; exact ⟨Ext.refl _, rfl⟩))
        intro w1 hx1 hh
        have hx3 := hx.trans hx1.of_alloc
        clear hh hx1 c0 c1 c2 hlw hbw
        by_cases h0 : letterErrM b.sounds (l.take k) y = 0
        · have H0 := Lib.hid h0
          rw [h0]; clear h0
          go_wp2
          go_roundw
          case rel => exact ⟨k + 1, by omega, by go_num, (firstErrFrom_step _ l k hlt y Hy.out H0.out).trans Hd.out, hx3⟩
          case measure => simp [intOf]; omega
        · have H0 := Lib.hid h0
          have h1 : (letterErrM b.sounds (l.take k) y != 0) = true := by simpa using h0
          clear h0
          go_wp2
          go_ret2
          have := Hd.out
          rw [firstErrFrom_hit _ l k hlt y Hy.out H0.out] at this
          exact ⟨ret_two (by rw [← this]), hx3⟩
    · go_wp2
      go_ret2
      have := Hd.out
      rw [firstErrFrom_end _ _ _ (by omega)] at this
      exact ⟨ret_two (by rw [← this]), hx⟩
end Go.Proofs.YtnfbhicoknpojaaGreat

namespace Go.Proofs.YtnfbhicoknpojaaGreat
set_option linter.unusedSimpArgs false
set_option linter.unusedVariables false
open Go.RowKit

theorem IntsAt.twoA {w : World} {m n : Int} {t : TypeId} {B : Nat} (hB : w.heap.size = B) (h : I64 n) (h' : I64 m) : IntsAt (w.alloc (.cells #[.int .i64 n, .int .i64 m] t)) (.slice (some ⟨B, 0, none⟩) 2 2) [n, m] := by
  subst hB; exact IntsAt.two h h'
/-- the error of a span -/
def spanErrM (lo hi a b : Int) : Int := if inM a lo hi = false ∨ inM b lo hi = false then 7 else if b < a then 2 else 0
set_option maxRecDepth 100000 in
theorem checkSpan_any (lo hi a b : Int) (ha : I64 a) (hb : I64 b) (w : World) :
    Calls Tryz.prog 162 #[.int .i64 lo, .int .i64 hi, .agg #[.int .i64 a, .int .i64 b]] w fun e w' => e = .returned (.int .i64 (spanErrM lo hi a b)) ∧ Ext w w' := by
  unfold spanErrM
  cases h1 : inM a lo hi
  · rw [if_pos (.inl rfl)]
    go_enter Tryz.func162, Tryz.ntmps162
    go_wp2_with fail
    refine (within_any _ _ _ [a, b] _ (IntsAt.twoA (by simp) ha hb)).mono ?_
    rintro e w3 ⟨rfl, rfl⟩
    rw [withinM_two, h1]
    go_wp2
    go_ret
    exact ⟨rfl, (by first | (with_reducible exact Ext.refl _) | (with_reducible assumption) | (show Below _ _ _; go_grown; done))⟩
  cases h2 : inM b lo hi
  · rw [if_pos (.inr rfl)]
    go_enter Tryz.func162, Tryz.ntmps162
    go_wp2_with fail
    refine (within_any _ _ _ [a, b] _ (IntsAt.twoA (by simp) ha hb)).mono ?_
    rintro e w3 ⟨rfl, rfl⟩
    rw [withinM_two, h1, h2]
    go_wp2
    go_ret
    exact ⟨rfl, (by first | (with_reducible exact Ext.refl _) | (with_reducible assumption) | (show Below _ _ _; go_grown; done))⟩
  rw [if_neg (by simp)]
  by_cases h3 : b < a
  · rw [if_pos h3]
    go_enter Tryz.func162, Tryz.ntmps162
    go_wp2_with fail
    refine (within_any _ _ _ [a, b] _ (IntsAt.twoA (by simp) ha hb)).mono ?_
    rintro e w3 ⟨rfl, rfl⟩
    rw [withinM_two, h1, h2]
    go_wp2
    go_ret
    exact ⟨rfl, (by first | (with_reducible exact Ext.refl _) | (with_reducible assumption) | (show Below _ _ _; go_grown; done))⟩
  · rw [if_neg h3]
    go_enter Tryz.func162, Tryz.ntmps162
    go_wp2_with fail
    refine (within_any _ _ _ [a, b] _ (IntsAt.twoA (by simp) ha hb)).mono ?_
    rintro e w3 ⟨rfl, rfl⟩
    rw [withinM_two, h1, h2]
    go_wp2
    go_ret
    exact ⟨rfl, (by first | (with_reducible exact Ext.refl _) | (with_reducible assumption) | (show Below _ _ _; go_grown; done))⟩
end Go.Proofs.YtnfbhicoknpojaaGreat

namespace Go.Proofs.YtnfbhicoknpojaaGreat
set_option linter.unusedSimpArgs false
set_option linter.unusedVariables false
open Go.RowKit
set_option linter.unusedVariables false

def roomyM (p : Part) : Bool := p.words.length == 0
def partErrM (p : Part) : Int :=
  if 3 < p.words.length then 3 else if wordsM p.words = false then 6 else if p.words.length ≠ 0 then (if p.lo = 0 ∧ p.hi = 0 then 0 else 2)
  else if inM p.lo 0 3 = false ∨ inM p.hi 0 3 = false ∨ p.hi = 0 then 7 else if p.hi < p.lo then 2 else 0
theorem isRoom_any (a : Option Addr) (n cap : Nat) (lo hi : Int) (w : World) :
    Calls Tryz.prog 94 #[.agg #[.slice a n cap, .int .i64 lo, .int .i64 hi]] w fun e w' => e = .returned (.bool ((n : Int) == 0)) ∧ Ext w w' := by
  go_enter Tryz.func94, Tryz.ntmps94
  go_wp2
  go_ret
  exact ⟨by simp, (by first | (with_reducible exact Ext.refl _) | (with_reducible assumption) | (show Below _ _ _; go_grown; done))⟩
set_option maxRecDepth 100000 in
set_option maxHeartbeats 2000000 in
theorem partError_any (pv v : Value) (p : Part) (w : World) (hp : PartV w v p) :
    Calls Tryz.prog 148 #[pv, v] w fun e w' => e = .returned (.int .i64 (partErrM p)) ∧ Ext w w' := by
  obtain ⟨u, rfl, hs, hlo, hhi⟩ := hp
  obtain ⟨a, cap, rfl, hlc, hcm⟩ := hs.shape
  unfold partErrM
  by_cases h3 : 3 < p.words.length
  · rw [if_pos h3]
    have k1 : (3 : Int) < (p.words.length : Int) := by omega
    go_enter Tryz.func148, Tryz.ntmps148
    go_wp2
    go_ret
    exact ⟨rfl, (by first | (with_reducible exact Ext.refl _) | (with_reducible assumption) | (show Below _ _ _; go_grown; done))⟩
  rw [if_neg h3]
  have k1 : ¬ (3 : Int) < (p.words.length : Int) := by omega
  have xB : Ext w (w.alloc (.cells #[.slice a p.words.length cap, .int .i64 p.lo, .int .i64 p.hi] 98)) := ext_alloc _ _
  have hw := areWords_any _ p.words _ (hs.ext xB)
  have b0 : ((w.alloc (.cells #[.slice a p.words.length cap, .int .i64 p.lo, .int .i64 p.hi] 98))).cell? ⟨w.heap.size, 0, none⟩ = some (.slice a p.words.length cap) := by simp [go_sem]
  have b1 : ((w.alloc (.cells #[.slice a p.words.length cap, .int .i64 p.lo, .int .i64 p.hi] 98))).cell? ⟨w.heap.size, 1, none⟩ = some (.int .i64 p.lo) := by simp [go_sem]
  have b2 : ((w.alloc (.cells #[.slice a p.words.length cap, .int .i64 p.lo, .int .i64 p.hi] 98))).cell? ⟨w.heap.size, 2, none⟩ = some (.int .i64 p.hi) := by simp [go_sem]
  have B0 := Lib.hid b0
  have B1 := Lib.hid b1
  have B2 := Lib.hid b2
  clear b0 b1 b2
  cases hb : wordsM p.words
  · rw [if_pos rfl]
    rw [hb] at hw
    clear hb
    go_enter Tryz.func148, Tryz.ntmps148
    go_wp2_with fail
    refine hw.mono ?_
    rintro e w1 ⟨rfl, hx⟩
    go_wp2
    go_ret
    exact ⟨rfl, hx.of_alloc⟩
  rw [if_neg (by decide)]
  rw [hb] at hw
  clear hb
  by_cases h0 : p.words.length = 0
  · rw [if_neg (by omega)]
    have e0 : ((p.words.length : Int) == 0) = true := by simp [h0]
    by_cases h4 : p.hi = 0
    · rw [if_pos (.inr (.inr h4))]
      have e4 : (p.hi == 0) = true := by simpa using h4
      clear h4 h0
      (go_enter Tryz.func148, Tryz.ntmps148; go_wp2_with fail; refine hw.mono ?_; rintro e w1 ⟨rfl, hx⟩; have c0 := hx.cell B0.out; have c1 := hx.cell B1.out; have c2 := hx.cell B2.out; have x1 : Ext w w1 := hx.of_alloc; have z1 : w.heap.size < w1.heap.size := cell_lt c0; clear hw hx B0 B1 B2 xB hs; go_wp2_with fail; refine (isRoom_any a _ cap p.lo p.hi w1).mono ?_; rintro e w2 ⟨rfl, hx⟩; replace c0 := hx.cell c0; replace c1 := hx.cell c1; replace c2 := hx.cell c2; replace x1 := x1.trans hx; replace z1 : w.heap.size < w2.heap.size := cell_lt c0; clear hx; rw [e0])
      clear e0
      go_wp2
      go_ret
      exact ⟨rfl, x1⟩
    · have hsp : (if inM p.lo 0 3 = false ∨ inM p.hi 0 3 = false ∨ p.hi = 0 then (7 : Int) else if p.hi < p.lo then 2 else 0) = spanErrM 0 3 p.lo p.hi := by
        unfold spanErrM; simp [h4]
      rw [hsp]
      have e4 : (p.hi == 0) = false := by simpa using h4
      clear h4 h0 hsp
      (go_enter Tryz.func148, Tryz.ntmps148; go_wp2_with fail; refine hw.mono ?_; rintro e w1 ⟨rfl, hx⟩; have c0 := hx.cell B0.out; have c1 := hx.cell B1.out; have c2 := hx.cell B2.out; have x1 : Ext w w1 := hx.of_alloc; have z1 : w.heap.size < w1.heap.size := cell_lt c0; clear hw hx B0 B1 B2 xB hs; go_wp2_with fail; refine (isRoom_any a _ cap p.lo p.hi w1).mono ?_; rintro e w2 ⟨rfl, hx⟩; replace c0 := hx.cell c0; replace c1 := hx.cell c1; replace c2 := hx.cell c2; replace x1 := x1.trans hx; replace z1 : w.heap.size < w2.heap.size := cell_lt c0; clear hx; rw [e0])
      clear e0
      go_wp2_with fail
      refine (checkSpan_any 0 3 p.lo p.hi hlo hhi _).mono ?_
      rintro e w3 ⟨rfl, hx3⟩
      have x3 := x1.trans hx3
      go_wp2
      go_ret
      exact ⟨rfl, x3⟩
  · rw [if_pos h0]
    have e0 : ((p.words.length : Int) == 0) = false := by simp [h0]
    by_cases h1 : p.lo = 0
    · by_cases h2 : p.hi = 0
      · rw [if_pos ⟨h1, h2⟩]
        have e1 : (p.lo == 0) = true := by simpa using h1
        have e2 : (p.hi == 0) = true := by simpa using h2
        clear h1 h2 h0
        (go_enter Tryz.func148, Tryz.ntmps148; go_wp2_with fail; refine hw.mono ?_; rintro e w1 ⟨rfl, hx⟩; have c0 := hx.cell B0.out; have c1 := hx.cell B1.out; have c2 := hx.cell B2.out; have x1 : Ext w w1 := hx.of_alloc; have z1 : w.heap.size < w1.heap.size := cell_lt c0; clear hw hx B0 B1 B2 xB hs; go_wp2_with fail; refine (isRoom_any a _ cap p.lo p.hi w1).mono ?_; rintro e w2 ⟨rfl, hx⟩; replace c0 := hx.cell c0; replace c1 := hx.cell c1; replace c2 := hx.cell c2; replace x1 := x1.trans hx; replace z1 : w.heap.size < w2.heap.size := cell_lt c0; clear hx; rw [e0])
        clear e0
        go_wp2
        go_ret
        exact ⟨rfl, x1⟩
      · rw [if_neg (fun h => h2 h.2)]
        have e2 : (p.hi == 0) = false := by simpa using h2
        have e1 : (p.lo == 0) = true := by simpa using h1
        clear h1 h2 h0
        (go_enter Tryz.func148, Tryz.ntmps148; go_wp2_with fail; refine hw.mono ?_; rintro e w1 ⟨rfl, hx⟩; have c0 := hx.cell B0.out; have c1 := hx.cell B1.out; have c2 := hx.cell B2.out; have x1 : Ext w w1 := hx.of_alloc; have z1 : w.heap.size < w1.heap.size := cell_lt c0; clear hw hx B0 B1 B2 xB hs; go_wp2_with fail; refine (isRoom_any a _ cap p.lo p.hi w1).mono ?_; rintro e w2 ⟨rfl, hx⟩; replace c0 := hx.cell c0; replace c1 := hx.cell c1; replace c2 := hx.cell c2; replace x1 := x1.trans hx; replace z1 : w.heap.size < w2.heap.size := cell_lt c0; clear hx; rw [e0])
        clear e0
        go_wp2
        go_ret
        exact ⟨rfl, x1⟩
    · rw [if_neg (fun h => h1 h.1)]
      have e1 : (p.lo == 0) = false := by simpa using h1
      clear h1 h0
      (go_enter Tryz.func148, Tryz.ntmps148; go_wp2_with fail; refine hw.mono ?_; rintro e w1 ⟨rfl, hx⟩; have c0 := hx.cell B0.out; have c1 := hx.cell B1.out; have c2 := hx.cell B2.out; have x1 : Ext w w1 := hx.of_alloc; have z1 : w.heap.size < w1.heap.size := cell_lt c0; clear hw hx B0 B1 B2 xB hs; go_wp2_with fail; refine (isRoom_any a _ cap p.lo p.hi w1).mono ?_; rintro e w2 ⟨rfl, hx⟩; replace c0 := hx.cell c0; replace c1 := hx.cell c1; replace c2 := hx.cell c2; replace x1 := x1.trans hx; replace z1 : w.heap.size < w2.heap.size := cell_lt c0; clear hx; rw [e0])
      clear e0
      go_wp2
      go_ret
      exact ⟨rfl, x1⟩
end Go.Proofs.YtnfbhicoknpojaaGreat

namespace Go.Proofs.YtnfbhicoknpojaaGreat
set_option linter.unusedSimpArgs false
set_option linter.unusedVariables false
open Go.RowKit

/-- the error of a thing's name, which those before it must not have -/
def nameErrM (names : List ByteArray) (s : ByteArray) : Int := if nameM s = false then 6 else if (names.any fun y => y.toList == s.toList) = true then 5 else 0
end Go.Proofs.YtnfbhicoknpojaaGreat

namespace Go.Proofs.YtnfbhicoknpojaaGreat
set_option linter.unusedSimpArgs false
set_option linter.unusedVariables false
open Go.RowKit
set_option linter.unusedVariables false

set_option maxHeartbeats 1000000 in
set_option maxRecDepth 100000 in
theorem firstPart_any (v : Value) (l : List Part) (w : World) (hl : PartsAt w v l) :
    Calls Tryz.prog 161 #[v, .func (.func 148) #[] #[]] w
      fun e w' => e = .returned (.tuple #[.int .i64 (firstErr (fun _ => partErrM) l).1, .int .i64 (firstErr (fun _ => partErrM) l).2]) ∧ Ext w w' := by
  obtain ⟨a, cap, rfl, hlc, hcm⟩ := hl.shape
  go_enter Tryz.func161, Tryz.ntmps161
  go_wp2
  go_loopw [11] (fun i wr => ∃ k : Nat, k ≤ l.length ∧ i = .int .i64 k ∧ firstErrFrom (fun _ => partErrM) (l.take k) (l.drop k) = firstErr (fun _ => partErrM) l ∧ Ext w wr) (fun i _ => l.length - (intOf i).toNat)
  case atStart => exact ⟨0, Nat.zero_le _, rfl, rfl, Ext.refl _⟩
  case round =>
    obtain ⟨k, hk, rfl, hd, hx⟩ := hrel
    have Hd := Lib.hid hd; clear hd
    by_cases hlt : k < l.length
    · have hls := hl.ext hx
      have hkc : k ≤ cap := by omega
      obtain ⟨bb, off, rfl, ⟨u, h1, hu⟩, h2, h3, hlo, hhi⟩ := hls.get hlt
      generalize hy : l[k] = y at *
      have Hy := Lib.hid hy; clear hy
      obtain ⟨ua, uc, rfl, -⟩ := hu.shape
      go_wp2_with fail
      have c0 : (wr.alloc (.cells #[.slice ua y.words.length uc, .int .i64 y.lo, .int .i64 y.hi] 98)).cell? ⟨wr.heap.size, 0, none⟩ = some (.slice ua y.words.length uc) := by simp [go_sem]
      have c1 : (wr.alloc (.cells #[.slice ua y.words.length uc, .int .i64 y.lo, .int .i64 y.hi] 98)).cell? ⟨wr.heap.size, 1, none⟩ = some (.int .i64 y.lo) := by simp [go_sem]
      have c2 : (wr.alloc (.cells #[.slice ua y.words.length uc, .int .i64 y.lo, .int .i64 y.hi] 98)).cell? ⟨wr.heap.size, 2, none⟩ = some (.int .i64 y.hi) := by simp [go_sem]
      have hpv : PartV (wr.alloc (.cells #[.slice ua y.words.length uc, .int .i64 y.lo, .int .i64 y.hi] 98)) (.agg #[.slice ua y.words.length uc, .int .i64 y.lo, .int .i64 y.hi]) y := ⟨_, rfl, hu.ext (ext_alloc _ _), hlo, hhi⟩
      apply Facts.wp_region [.val _, .val _, .val _, .val _, .val _, .val (.int .i64 (partErrM y)), .val _] (by kernel_rfl) (by kernel_rfl) trivial ?main
      case main =>
        iterate 5 (refine ⟨fun w1 hx hh => ?_, ?_⟩; focus (clear hh; have e0 := hx.cell c0; have e1 := hx.cell c1; have e2 := hx.cell c2; go_simp; exact ⟨Ext.refl _, rfl⟩))
        refine ⟨fun w1 hx hh => ?_, ?_⟩
        · clear hh
          go_simp
          refine (partError_any _ _ y w1 (hpv.ext hx)).mono ?_
          rintro e w' ⟨rfl, hx2⟩
          exact ⟨_, rfl, hx2, rfl⟩
        iterate 1 (refine ⟨fun w1 hx hh => ?_, ?_⟩; focus (clear hh; skip; go_simp; exact ⟨Ext.refl _, rfl⟩))
        intro w1 hx1 hh
        have hx3 := hx.trans hx1.of_alloc
        clear hh hx1 c0 c1 c2 hpv
        by_cases h0 : partErrM y = 0
        · have H0 := Lib.hid h0
          rw [h0]; clear h0
          go_wp2
          go_roundw
          case rel => exact ⟨k + 1, by omega, by go_num, (firstErrFrom_step (fun _ => partErrM) l k hlt y Hy.out H0.out).trans Hd.out, hx3⟩
          case measure => simp [intOf]; omega
        · have H0 := Lib.hid h0
          have h1 : (partErrM y != 0) = true := by simpa using h0
          clear h0
          go_wp2
          go_ret2
          have := Hd.out
          rw [firstErrFrom_hit (fun _ => partErrM) l k hlt y Hy.out H0.out] at this
          exact ⟨ret_two (by rw [← this]), hx3⟩
    · go_wp2
      go_ret2
      have := Hd.out
      rw [firstErrFrom_end _ _ _ (by omega)] at this
      exact ⟨ret_two (by rw [← this]), hx⟩
set_option maxHeartbeats 1000000 in
set_option maxRecDepth 100000 in
theorem listPart_any (v : Value) (l : List Part) (w : World) (hl : PartsAt w v l) :
    Calls Tryz.prog 147 #[.int .i64 5, v, .func (.func 148) #[] #[]] w
      fun e w' => (∃ i, e = .returned (.tuple #[.int .i64 i, .int .i64 (if 5 < l.length then 3 else (firstErr (fun _ => partErrM) l).2)])) ∧ Ext w w' := by
  obtain ⟨a, cap, rfl, hlc, hcm⟩ := hl.shape
  by_cases h : 5 < l.length
  · rw [if_pos h]
    have k1 : (5 : Int) < (l.length : Int) := by omega
    go_enter Tryz.func147, Tryz.ntmps147
    go_wp2_with fail
    go_ret2
    exact ⟨⟨0, rfl⟩, (by first | (with_reducible exact Ext.refl _) | (with_reducible assumption) | (show Below _ _ _; go_grown; done))⟩
  · rw [if_neg h]
    have k1 : ¬ (5 : Int) < (l.length : Int) := by omega
    go_enter Tryz.func147, Tryz.ntmps147
    go_wp2_with fail
    refine (firstPart_any _ l _ (hl.ext (by first | (with_reducible exact Ext.refl _) | (with_reducible assumption) | (show Below _ _ _; go_grown; done)))).mono ?_
    rintro e w1 ⟨rfl, hx1⟩
    go_wp2
    go_ret2
    exact ⟨⟨_, rfl⟩, Ext.trans (by first | (with_reducible exact Ext.refl _) | (with_reducible assumption) | (show Below _ _ _; go_grown; done)) hx1⟩
theorem formName_any (a : Form) (v : Value) (w : World) (hv : FormV w v a) :
    Calls Tryz.prog 146 #[v] w fun e w' => e = .returned (.string a.name) ∧ Ext w w' := by
  obtain ⟨u, rfl, -, -⟩ := hv
  go_enter Tryz.func146, Tryz.ntmps146
  go_wp2
  go_ret
  exact ⟨rfl, (by first | (with_reducible exact Ext.refl _) | (with_reducible assumption) | (show Below _ _ _; go_grown; done))⟩
def nameOfForm : Value := .func (.func 146) #[] #[]
set_option maxHeartbeats 1000000 in
set_option maxRecDepth 100000 in
theorem nameErr1_any (a : Form) (s : ByteArray) (p q : Addr) (v : Value) (w : World) (hv : FormV w v a) (hq : w.cell? q = some nameOfForm) (hc : w.cell? p = some (.string s)) :
    Calls Tryz.prog 160 #[v, .pointer (some q), .pointer (some p)] w fun e w' => e = .returned (.bool (a.name.toList == s.toList)) ∧ Ext w w' := by
  have hv0 := hv
  obtain ⟨u, rfl, -, hp⟩ := hv
  obtain ⟨pa, pc, rfl, -⟩ := hp.shape
  unfold nameOfForm at hq
  have b0 : (w.alloc (.cells #[.string a.name, .slice pa a.parts.length pc] 44)).cell? ⟨w.heap.size, 0, none⟩ = some (.string a.name) := by simp [go_sem]
  have b1 : (w.alloc (.cells #[.string a.name, .slice pa a.parts.length pc] 44)).cell? ⟨w.heap.size, 1, none⟩ = some (.slice pa a.parts.length pc) := by simp [go_sem]
  have x0 := ext_alloc w (.cells #[.string a.name, .slice pa a.parts.length pc] 44)
  have q1 := x0.cell hq
  have c1 := x0.cell hc
  go_enter Tryz.func160, Tryz.ntmps160
  go_wp2_with fail
  apply Facts.wp_region [.val _, .val _, .val (.string a.name), .val _, .val _, .val _] (by kernel_rfl) (by kernel_rfl) trivial ?main
  case main =>
    iterate 2 (refine ⟨fun w1 hx hh => ?_, ?_⟩; focus (clear hh; have e0 := hx.cell b0; have e1 := hx.cell b1; have e2 := hx.cell q1; have e3 := hx.cell c1; go_simp; exact ⟨Ext.refl _, rfl⟩))
    refine ⟨fun w1 hx hh => ?_, ?_⟩
    · clear hh
      go_simp
      refine (formName_any a _ w1 ((hv0.ext x0).ext hx)).mono ?_
      rintro e w' ⟨rfl, hx2⟩
      exact ⟨_, rfl, hx2, rfl⟩
    iterate 3 (refine ⟨fun w1 hx hh => ?_, ?_⟩; focus (clear hh; have e0 := hx.cell b0; have e1 := hx.cell b1; have e2 := hx.cell q1; have e3 := hx.cell c1; go_simp; exact ⟨Ext.refl _, rfl⟩))
    intro w1 hx1 hh
    clear hh
    go_simp
    go_wp2
    go_ret
    exact ⟨rfl, x0.trans hx1⟩
theorem indexForm_any (l : List Form) (s : ByteArray) (p q : Addr) (v : Value) (w : World) (h : FormsAt w v l) (hq : w.cell? q = some nameOfForm) (hc : w.cell? p = some (.string s)) :
    Calls Tryz.prog 163 #[v, .func (.func 160) #[] #[.pointer (some q), .pointer (some p)]] w
      fun e w' => e = .returned (.int .i64 (idxM (fun y => y.name.toList == s.toList) l)) ∧ Ext w w' := by
  obtain ⟨a, cap, rfl, hlc, hcm⟩ := h.shape
  go_enter Tryz.func163, Tryz.ntmps163
  go_wp2
  go_loopw [8] (fun i wr => ∃ k : Nat, k ≤ l.length ∧ i = .int .i64 k ∧ (∀ j (_ : j < k) (hj : j < l.length), (l[j].name.toList == s.toList) = false) ∧ Ext w wr) (fun i _ => l.length - (intOf i).toNat)
  case atStart => exact ⟨0, Nat.zero_le _, rfl, fun _ h => by omega, Ext.refl _⟩
  case round =>
    obtain ⟨k, hk, rfl, hno, hx⟩ := hrel
    have Hno := Lib.hid hno; clear hno
    by_cases hlt : k < l.length
    · obtain ⟨b, off, rfl, h1, hu, u, h2, hl⟩ := (h.ext hx).get hlt
      generalize hy : l[k] = y at *
      have Hy := Lib.hid hy; clear hy
      go_wp2_with fail
      refine (nameErr1_any y s p q _ _ ⟨u, rfl, hu, hl⟩ (hx.cell hq) (hx.cell hc)).mono ?_
      rintro e w1 ⟨rfl, hx1⟩
      have hx2 := hx.trans hx1
      cases hb : (y.name.toList == s.toList)
      · have Hb := Lib.hid hb; clear hb
        go_wp2
        go_roundw
        case rel => exact ⟨k + 1, by omega, by go_num, fun j hj hl => by
          rcases Nat.lt_or_ge j k with hjk | hjk
          · exact Hno.out j hjk hl
          · obtain rfl : j = k := by omega
            rw [Hy.out]; exact Hb.out, hx2⟩
        case measure => simp [intOf]; omega
      · have Hb := Lib.hid hb; clear hb
        go_wp2
        go_ret
        exact ⟨ret_int (idxM_some _ _ k hlt (fun i hi hl => Hno.out i hi hl) (by rw [Hy.out]; exact Hb.out)).symm, hx2⟩
    · go_wp2
      go_ret
      exact ⟨ret_int (idxM_none _ _ fun i hi => Hno.out i (by omega) hi).symm, hx⟩
theorem containsForm_any (l : List Form) (s : ByteArray) (p q : Addr) (v : Value) (w : World) (h : FormsAt w v l) (hq : w.cell? q = some nameOfForm) (hc : w.cell? p = some (.string s)) :
    Calls Tryz.prog 159 #[v, .func (.func 160) #[] #[.pointer (some q), .pointer (some p)]] w
      fun e w' => e = .returned (.bool (l.any fun y => y.name.toList == s.toList)) ∧ Ext w w' := by
  go_enter Tryz.func159, Tryz.ntmps159
  go_wp2_with fail
  refine (indexForm_any l s p q v _ h hq hc).mono ?_
  rintro e w1 ⟨rfl, hx1⟩
  go_wp2
  go_ret
  exact ⟨ret_bool (idxM_ge _ _), hx1⟩
set_option maxHeartbeats 1000000 in
set_option maxRecDepth 100000 in
theorem namesError_any (v u : Value) (l : List Form) (f : Form) (w : World) (hl : FormsAt w v l) (hu : FormV w u f) :
    Calls Tryz.prog 145 #[v, u, nameOfForm] w fun e w' => e = .returned (.int .i64 (nameErrM (l.map (·.name)) f.name)) ∧ Ext w w' := by
  have hu0 := hu
  obtain ⟨pv, rfl, hns, hp⟩ := hu
  have hany : ((l.map (·.name)).any fun y => y.toList == f.name.toList) = l.any fun y => y.name.toList == f.name.toList := by rw [List.any_map]; rfl
  have Hany := Lib.hid hany
  clear hany
  obtain ⟨pa, pc, rfl, -⟩ := hp.shape
  unfold nameOfForm
  go_enter Tryz.func145, Tryz.ntmps145
  go_wp2_with fail
  refine (formName_any f _ _ (hu0.ext (by first | (with_reducible exact Ext.refl _) | (with_reducible assumption) | (show Below _ _ _; go_grown; done)))).mono ?_
  rintro e w0 ⟨rfl, hx0⟩
  have x0 : Ext w w0 := Ext.trans (by first | (with_reducible exact Ext.refl _) | (with_reducible assumption) | (show Below _ _ _; go_grown; done)) hx0
  have q0 : w0.cell? ⟨w.heap.size + 1, 0, none⟩ = some nameOfForm := hx0.cell (by simp [go_sem, nameOfForm])
  have z0 : w.heap.size + 1 < w0.heap.size := cell_lt q0
  go_wp2_with fail
  refine (name_any f.name _ hns).mono ?_
  rintro e w1 ⟨rfl, hx1⟩
  have x1 : Ext w w1 := Ext.trans x0 (Ext.trans (by first | (with_reducible exact Ext.refl _) | (with_reducible assumption) | (show Below _ _ _; go_grown; done)) hx1)
  have q1 : w1.cell? ⟨w.heap.size + 1, 0, none⟩ = some nameOfForm := hx1.cell ((ext_alloc _ _).cell q0)
  have p1 : w1.cell? ⟨w0.heap.size, 0, none⟩ = some (.string f.name) := hx1.cell (by simp [go_sem])
  clear hx1 q0 z0
  cases hn : nameM f.name
  · have Hn := Lib.hid hn; clear hn
    go_wp2_with fail
    go_ret
    exact ⟨ret_int (by rw [nameErrM, if_pos Hn.out]), x1⟩
  have Hn := Lib.hid hn; clear hn
  go_wp2_with fail
  refine (containsForm_any l f.name _ _ v w1 (hl.ext x1) q1 p1).mono ?_
  rintro e w2 ⟨rfl, hx2⟩
  have x2 := x1.trans hx2
  cases ha : l.any fun y => y.name.toList == f.name.toList
  · have Ha := Lib.hid ha; clear ha
    go_wp2_with fail
    go_ret
    exact ⟨ret_int (by rw [nameErrM, if_neg (by rw [Hn.out]; decide), Hany.out, if_neg (by rw [Ha.out]; decide)]), x2⟩
  · have Ha := Lib.hid ha; clear ha
    go_wp2_with fail
    go_ret
    exact ⟨ret_int (by rw [nameErrM, if_neg (by rw [Hn.out]; decide), Hany.out, if_pos Ha.out]), x2⟩
def formErrM (before : List Form) (f : Form) : Int :=
  if nameM f.name = false then 6 else if (before.any fun y => y.name.toList == f.name.toList) = true then 5 else if 5 < f.parts.length then 3 else (firstErr (fun _ => partErrM) f.parts).2
theorem formErr_name (before : List Form) (f : Form) : formErrM before f = if nameErrM (before.map (·.name)) f.name ≠ 0 then nameErrM (before.map (·.name)) f.name else if 5 < f.parts.length then 3 else (firstErr (fun _ => partErrM) f.parts).2 := by
  have hany : ((before.map (·.name)).any fun y => y.toList == f.name.toList) = before.any fun y => y.name.toList == f.name.toList := by rw [List.any_map]; rfl
  unfold formErrM nameErrM
  rw [hany]
  cases nameM f.name <;> cases (before.any fun y => y.name.toList == f.name.toList) <;> simp
set_option maxHeartbeats 1000000 in
set_option maxRecDepth 100000 in
theorem formError_any (v u : Value) (l : List Form) (f : Form) (w : World) (hl : FormsAt w v l) (hu : FormV w u f) :
    Calls Tryz.prog 117 #[v, u] w fun e w' => e = .returned (.int .i64 (formErrM l f)) ∧ Ext w w' := by
  have hu0 := hu
  obtain ⟨pv, rfl, hns, hp⟩ := hu
  obtain ⟨a, cap, rfl, hlc, hcm⟩ := hp.shape
  have hne := formErr_name l f
  have Hne := Lib.hid hne
  clear hne
  have hnm := fun (w : World) (h1 : FormsAt w v l) (h2 : FormV w (.agg #[.string f.name, .slice a f.parts.length cap]) f) => namesError_any v _ l f w h1 h2
  unfold nameOfForm at hnm
  go_enter Tryz.func117, Tryz.ntmps117
  go_wp2_with fail
  refine (hnm _ (hl.ext (by first | (with_reducible exact Ext.refl _) | (with_reducible assumption) | (show Below _ _ _; go_grown; done))) (hu0.ext (by first | (with_reducible exact Ext.refl _) | (with_reducible assumption) | (show Below _ _ _; go_grown; done)))).mono ?_
  rintro e w1 ⟨rfl, hx1⟩
  have x1 : Ext w w1 := Ext.trans (by first | (with_reducible exact Ext.refl _) | (with_reducible assumption) | (show Below _ _ _; go_grown; done)) hx1
  have p1 : w1.cell? ⟨w.heap.size, 1, none⟩ = some (.slice a f.parts.length cap) := hx1.cell (by simp [go_sem])
  have z0 : w.heap.size < w1.heap.size := cell_lt p1
  clear hx1 hnm
  generalize nameErrM (l.map (·.name)) f.name = ne at *
  by_cases h0 : ne = 0
  · subst h0
    go_wp2_with fail
    refine (listPart_any _ f.parts _ (hp.ext x1)).mono ?_
    rintro e w4 ⟨⟨i, rfl⟩, hx4⟩
    obtain ⟨z, hz⟩ : ∃ z : Int, (if 5 < f.parts.length then 3 else (firstErr (fun _ => partErrM) f.parts).2) = z := ⟨_, rfl⟩
    rw [hz]
    have Hz := Lib.hid hz
    clear hz
    go_wp2
    go_ret
    exact ⟨ret_int (by rw [Hne.out, if_neg (fun h => h rfl), Hz.out]), x1.trans hx4⟩
  · have h1 : (ne != 0) = true := by simpa using h0
    have H0 := Lib.hid h0
    clear h0
    go_wp2_with fail
    go_ret
    exact ⟨ret_int (by rw [Hne.out, if_pos H0.out]), x1⟩
end Go.Proofs.YtnfbhicoknpojaaGreat

namespace Go.Proofs.YtnfbhicoknpojaaGreat
set_option linter.unusedSimpArgs false
set_option linter.unusedVariables false
open Go.RowKit

def alphabetErrM (S : Int) (before : List Alphabet) (x : Alphabet) : Int :=
  if nameM x.name = false then 6 else if (before.any fun y => y.name.toList == x.name.toList) = true then 5 else if inM x.letters.length 1 6 = false then 3 else (firstErr (letterErrM S) x.letters).2

set_option maxHeartbeats 1000000 in
theorem alphabetError_any (bv v u : Value) (b : Book) (hS : 1 ≤ b.sounds ∧ b.sounds ≤ 4) (l : List Alphabet) (x : Alphabet) (w : World) (hb : BookAt w bv b) (hl : AlphabetsAt w v l) (hu : AlphabetV w u x) :
    Calls Tryz.prog 103 #[bv, v, u] w fun e w' => e = .returned (.int .i64 (alphabetErrM b.sounds l x)) ∧ Ext w w' := by
  obtain ⟨ba, bc, bs, bd, rfl, -⟩ := hb.open
  obtain ⟨lv, rfl, hns, hlv⟩ := hu
  obtain ⟨a, cap, rfl, hlc, hcm⟩ := hlv.shape
  go_enter Tryz.func103, Tryz.ntmps103
  go_wp2_with fail
  refine (name_any x.name _ hns).mono ?_
  rintro e w1 ⟨rfl, hx1⟩
  have x1 : Ext w w1 := hx1.of_alloc.of_alloc
  have p0 : w1.cell? ⟨w.heap.size + 1, 0, none⟩ = some (.string x.name) := hx1.cell (by simp [go_sem])
  have p1 : w1.cell? ⟨w.heap.size + 1, 1, none⟩ = some (.slice a x.letters.length cap) := hx1.cell (by simp [go_sem])
  have q0 : w1.cell? ⟨w.heap.size, 0, none⟩ = some (.int .i64 b.sounds) := hx1.cell (by simp [go_sem])
  have q1 : w1.cell? ⟨w.heap.size, 1, none⟩ = some (.slice ba b.alphabets.length bc) := hx1.cell (by simp [go_sem])
  have q2 : w1.cell? ⟨w.heap.size, 2, none⟩ = some (.slice bs b.spellings.length bd) := hx1.cell (by simp [go_sem])
  cases hn : nameM x.name
  · have Hn := Lib.hid hn; clear hn
    go_wp2_with fail
    go_ret
    exact ⟨ret_int (by rw [alphabetErrM, if_pos Hn.out]), x1⟩
  have Hn := Lib.hid hn; clear hn
  go_wp2_with fail
  refine (containsAlphabet_any l x _ v w1 (hl.ext x1) p0).mono ?_
  rintro e w2 ⟨rfl, hx2⟩
  have x2 := x1.trans hx2
  cases ha : l.any fun y => y.name.toList == x.name.toList
  rotate_left
  · have Ha := Lib.hid ha; clear ha
    go_wp2_with fail
    go_ret
    exact ⟨ret_int (by rw [alphabetErrM, if_neg (by rw [Hn.out]; decide), if_pos Ha.out]), x2⟩
  have Ha := Lib.hid ha; clear ha
  replace p0 := hx2.cell p0
  replace p1 := hx2.cell p1
  replace q0 := hx2.cell q0
  replace q1 := hx2.cell q1
  replace q2 := hx2.cell q2
  have z0 := cell_lt q0
  have z1 := cell_lt p0
  go_wp2_with fail
  refine (within_any _ _ _ [(x.letters.length : Int)] _ (IntsAt.one (by omega))).mono ?_
  rintro e w' ⟨rfl, rfl⟩
  rw [withinM_one]
  have x3 := x2.alloc (.cells #[.int .i64 (x.letters.length : Int)] 3)
  have hx3 := ext_alloc w2 (.cells #[.int .i64 (x.letters.length : Int)] 3)
  cases hi : inM x.letters.length 1 6
  · have Hi := Lib.hid hi; clear hi
    go_wp2_with fail
    go_ret
    exact ⟨ret_int (by rw [alphabetErrM, if_neg (by rw [Hn.out]; decide), if_neg (by rw [Ha.out]; decide), if_pos Hi.out]), x3⟩
  have Hi := Lib.hid hi; clear hi
  go_wp2_with fail
  refine (firstErrorLetter_any _ _ b hS x.letters _ (hb.ext x3) (hlv.ext x3)).mono ?_
  rintro e w4 ⟨rfl, hx4⟩
  go_wp2
  go_ret
  exact ⟨ret_int (by rw [alphabetErrM, if_neg (by rw [Hn.out]; decide), if_neg (by rw [Ha.out]; decide), if_neg (by rw [Hi.out]; decide)]), x3.trans hx4⟩
set_option maxHeartbeats 1000000 in
set_option maxRecDepth 100000 in
theorem firstErrorAlphabet_any (bv v : Value) (b : Book) (hS : 1 ≤ b.sounds ∧ b.sounds ≤ 4) (l : List Alphabet) (w : World) (hb : BookAt w bv b) (hl : AlphabetsAt w v l) :
    Calls Tryz.prog 102 #[v, .func (.func 103) #[bv] #[]] w
      fun e w' => e = .returned (.tuple #[.int .i64 (firstErr (alphabetErrM b.sounds) l).1, .int .i64 (firstErr (alphabetErrM b.sounds) l).2]) ∧ Ext w w' := by
  obtain ⟨a, cap, rfl, hlc, hcm⟩ := hl.shape
  go_enter Tryz.func102, Tryz.ntmps102
  go_wp2
  go_loopw [11] (fun i wr => ∃ k : Nat, k ≤ l.length ∧ i = .int .i64 k ∧ firstErrFrom (alphabetErrM b.sounds) (l.take k) (l.drop k) = firstErr (alphabetErrM b.sounds) l ∧ Ext w wr) (fun i _ => l.length - (intOf i).toNat)
  case atStart => exact ⟨0, Nat.zero_le _, rfl, rfl, Ext.refl _⟩
  case round =>
    obtain ⟨k, hk, rfl, hd, hx⟩ := hrel
    have Hd := Lib.hid hd; clear hd
    by_cases hlt : k < l.length
    · have hls := hl.ext hx
      have hkc : k ≤ cap := by omega
      have hcell := hls
      obtain ⟨_, _, he, -, -, hh⟩ := hcell
      obtain ⟨bb, off, rfl, h1, hns, u, h2, hu⟩ := hh k hlt
      cases he
      generalize hy : l[k] = y at *
      have Hy := Lib.hid hy; clear hy hh
      have hsh := hu.shape
      obtain ⟨ua, uc, rfl, -⟩ := hsh
      go_wp2_with fail
      have c0 : (wr.alloc (.cells #[.string y.name, .slice ua y.letters.length uc] 66)).cell? ⟨wr.heap.size, 0, none⟩ = some (.string y.name) := by simp [go_sem]
      have c1 : (wr.alloc (.cells #[.string y.name, .slice ua y.letters.length uc] 66)).cell? ⟨wr.heap.size, 1, none⟩ = some (.slice ua y.letters.length uc) := by simp [go_sem]
      have hlw := hls.ext (ext_alloc wr (.cells #[.string y.name, .slice ua y.letters.length uc] 66))
      have hbw := (hb.ext hx).ext (ext_alloc wr (.cells #[.string y.name, .slice ua y.letters.length uc] 66))
      apply Facts.wp_region [.val _, .val _, .val _, .val _, .val _, .val (.int .i64 (alphabetErrM b.sounds (l.take k) y)), .val _] (by kernel_rfl) (by kernel_rfl) trivial ?main
      case main =>
        iterate 5 (refine ⟨fun w1 hx hh => ?_, ?_⟩; focus (clear hh; have e0 := hx.cell c0; have e1 := hx.cell c1; go_simp; exact ⟨Ext.refl _, rfl⟩))
        refine ⟨fun w1 hx hh => ?_, ?_⟩
        · clear hh
          go_simp
          refine (alphabetError_any bv _ _ b hS (l.take k) y w1 (hbw.ext hx) ((hlw.ext hx).take k (by omega)) ⟨_, rfl, hns, (hu.ext (ext_alloc _ _)).ext hx⟩).mono ?_
          rintro e w' ⟨rfl, hx2⟩
          exact ⟨_, rfl, hx2, rfl⟩
        iterate 1 (refine ⟨fun w1 hx hh => ?_, ?_⟩; focus (clear hh; skip; go_simp; exact ⟨Ext.refl _, rfl⟩))
        intro w1 hx1 hh
        have hx3 := hx.trans hx1.of_alloc
        clear hh hx1 c0 c1 hlw hbw
        by_cases h0 : alphabetErrM b.sounds (l.take k) y = 0
        · have H0 := Lib.hid h0
          rw [h0]; clear h0
          go_wp2
          go_roundw
          case rel => exact ⟨k + 1, by omega, by go_num, (firstErrFrom_step _ l k hlt y Hy.out H0.out).trans Hd.out, hx3⟩
          case measure => simp [intOf]; omega
        · have H0 := Lib.hid h0
          have h1 : (alphabetErrM b.sounds (l.take k) y != 0) = true := by simpa using h0
          clear h0
          go_wp2
          go_ret2
          have := Hd.out
          rw [firstErrFrom_hit _ l k hlt y Hy.out H0.out] at this
          exact ⟨ret_two (by rw [← this]), hx3⟩
    · go_wp2
      go_ret2
      have := Hd.out
      rw [firstErrFrom_end _ _ _ (by omega)] at this
      exact ⟨ret_two (by rw [← this]), hx⟩
end Go.Proofs.YtnfbhicoknpojaaGreat

namespace Go.Proofs.YtnfbhicoknpojaaGreat
set_option linter.unusedSimpArgs false
set_option linter.unusedVariables false
open Go.RowKit

def lettersOf (al : List Alphabet) (i : Int) : List Letter := match al[i.toNat]? with | some a => a.letters | none => []
def knownB (ls : List Letter) (s : ByteArray) (k : Nat) : Bool := ls.any fun y => y.c == byteAt s k
def textOk (ls : List Letter) (s : ByteArray) : Bool := (List.range s.size).all fun k => knownB ls s k
def spellingErrM (al : List Alphabet) (x : Spelling) : Int :=
  if inM x.alphabet 0 (al.length - 1) = false then 4 else if inM x.text.size 1 5 = false then 3 else if textOk (lettersOf al x.alphabet) x.text = false then 6 else 0
theorem textOk_no (ls : List Letter) (s : ByteArray) (k : Nat) (hk : k < s.size) (h : knownB ls s k = false) : textOk ls s = false := by
  unfold textOk
  rw [List.all_eq_false]
  exact ⟨k, List.mem_range.2 hk, by simp [h]⟩
theorem textOk_yes (ls : List Letter) (s : ByteArray) (h2 : ∀ j, j < s.size → knownB ls s j = true) : textOk ls s = true := by
  unfold textOk
  rw [List.all_eq_true]
  exact fun k hk => h2 k (List.mem_range.1 hk)
theorem idxM_lt {α : Type} (p : α → Bool) (l : List α) : decide (idxM p l < 0) = !l.any p := by
  rw [← idxM_ge, ← decide_not]; congr 1; rw [Int.not_le]
def SpellingV (v : Value) (x : Spelling) : Prop := v = .agg #[.int .i64 x.alphabet, .string x.text] ∧ I64 x.alphabet ∧ x.text.size ≤ 9223372036854775807

set_option maxHeartbeats 1000000 in
set_option maxRecDepth 100000 in
theorem spellingError_any (bv v u : Value) (b : Book) (x : Spelling) (w : World) (hb : BookAt w bv b) (hu : SpellingV u x) :
    Calls Tryz.prog 105 #[bv, v, u] w fun e w' => e = .returned (.int .i64 (spellingErrM b.alphabets x)) ∧ Ext w w' := by
  obtain ⟨ba, bc, bs, bd, rfl, -, hbl, hbc, -, -, -, hal, -⟩ := hb.open
  obtain ⟨rfl, hai, hts⟩ := hu
  have hai' : -9223372036854775808 ≤ x.alphabet ∧ x.alphabet ≤ 9223372036854775807 := hai
  go_enter Tryz.func105, Tryz.ntmps105
  go_wp2_with fail
  refine (within_any _ _ _ [x.alphabet] _ (IntsAt.oneAt (by simp) hai)).mono ?_
  rintro e w' ⟨rfl, rfl⟩
  rw [withinM_one]
  cases h1 : inM x.alphabet 0 (b.alphabets.length - 1)
  · have H1 := Lib.hid h1; clear h1
    go_wp2_with fail
    go_ret
    exact ⟨ret_int (by rw [spellingErrM, if_pos H1.out]), (by first | (with_reducible exact Ext.refl _) | (with_reducible assumption) | (show Below _ _ _; go_grown; done))⟩
  have hin : 0 ≤ x.alphabet ∧ x.alphabet ≤ b.alphabets.length - 1 := by simpa [inM] using h1
  have H1 := Lib.hid h1; clear h1
  go_wp2_with fail
  refine (within_any _ _ _ [(x.text.size : Int)] _ (IntsAt.oneAt (by simp) (by omega))).mono ?_
  rintro e w' ⟨rfl, rfl⟩
  rw [withinM_one]
  cases h2 : inM x.text.size 1 5
  · have H2 := Lib.hid h2; clear h2
    go_wp2_with fail
    go_ret
    exact ⟨ret_int (by rw [spellingErrM, if_neg (by rw [H1.out]; decide), if_pos H2.out]), (by first | (with_reducible exact Ext.refl _) | (with_reducible assumption) | (show Below _ _ _; go_grown; done))⟩
  have H2 := Lib.hid h2; clear h2
  go_wp2_with fail
  have hlt : x.alphabet.toNat < b.alphabets.length := by omega
  have hls : lettersOf b.alphabets x.alphabet = (b.alphabets[x.alphabet.toNat]).letters := by
    rw [lettersOf, List.getElem?_eq_getElem hlt]
  have Hls := Lib.hid hls; clear hls
  go_loopw [27] (fun i wr => ∃ k : Nat, k ≤ x.text.size ∧ i = .int .i64 k ∧ Ext w wr ∧ (wr.cell? ⟨w.heap.size, 1, none⟩ = some (.slice ba b.alphabets.length bc) ∧ wr.cell? ⟨w.heap.size + 1, 0, none⟩ = some (.int .i64 x.alphabet) ∧ wr.cell? ⟨w.heap.size + 1, 1, none⟩ = some (.string x.text)) ∧
    ∀ j, j < k → knownB (lettersOf b.alphabets x.alphabet) x.text j = true) (fun i _ => x.text.size - (intOf i).toNat)
  case atStart => exact ⟨0, Nat.zero_le _, rfl, (by first | (with_reducible exact Ext.refl _) | (with_reducible assumption) | (show Below _ _ _; go_grown; done)), ⟨by simp [go_sem], by simp [go_sem], by simp [go_sem]⟩, fun _ h => absurd h (Nat.not_lt_zero _)⟩
  case round =>
    obtain ⟨k, hk, rfl, hx, ⟨c1, c2, c3⟩, hno⟩ := hrel
    have Hno := Lib.hid hno; clear hno
    by_cases hkt : k < x.text.size
    · go_wp2_with fail
      obtain ⟨_, _, he, -, -, hh⟩ := hal.ext hx
      obtain ⟨bb, off, rfl, -, -, lv, c4, hlv⟩ := hh x.alphabet.toNat hlt
      cases he
      have hbe := byteAt_eq x.text k hkt
      have hi2 : x.alphabet < (b.alphabets.length : Int) := by omega
      clear hh
      apply Facts.wp_region [.val _, .val _, .val _, .val _, .val _, .val _, .val _, .val _, .val _, .val _, .val _, .val _, .val _, .val _] (by kernel_rfl) (by kernel_rfl) trivial ?main
      case main =>
        iterate 12 (refine ⟨fun w1 hx hh => ?_, ?_⟩; focus (clear hh; have e0 := hx.cell c1; have e1 := hx.cell c2; have e2 := hx.cell c3; have e3 := hx.cell c4; go_simp; exact ⟨Ext.refl _, rfl⟩))
        refine ⟨fun w1 hx hh => ?_, ?_⟩
        · clear hh
          go_simp
          refine (letterAt_any _ _ lv w1 (hlv.ext hx)).mono ?_
          rintro e w' ⟨rfl, hx2⟩
          exact ⟨_, rfl, hx2, rfl⟩
        iterate 1 (refine ⟨fun w1 hx hh => ?_, ?_⟩; focus (clear hh; skip; go_simp; exact ⟨Ext.refl _, rfl⟩))
        intro w1 hx1 hh
        have hx3 := hx.trans hx1
        have cs := And.intro (hx1.cell c1) (And.intro (hx1.cell c2) (hx1.cell c3))
        clear hh c1 c2 c3 c4 hlv hx1 hal
        have hkn : decide (idxM (fun y : Letter => y.c == ((x.text[k]'hkt).toNat : Int)) (b.alphabets[x.alphabet.toNat]).letters < 0) = !knownB (lettersOf b.alphabets x.alphabet) x.text k := by
          rw [idxM_lt, Hls.out, knownB, hbe]
        clear hbe
        cases hb : knownB (lettersOf b.alphabets x.alphabet) x.text k
        · rw [hb, Bool.not_false] at hkn
          have Hb := Lib.hid hb; clear hb
          go_simp
          go_wp2
          go_ret
          exact ⟨ret_int (by rw [spellingErrM, if_neg (by rw [H1.out]; decide), if_neg (by rw [H2.out]; decide), if_pos (textOk_no _ _ k hkt Hb.out)]), hx3⟩
        · rw [hb, Bool.not_true] at hkn
          have Hb := Lib.hid hb; clear hb
          go_simp
          go_wp2
          go_roundw
          case rel => exact ⟨k + 1, by omega, by go_num, hx3, cs, fun j hj => by
            rcases Nat.lt_or_ge j k with hjk | hjk
            · exact Hno.out j hjk
            · obtain rfl : j = k := by omega
              exact Hb.out⟩
          case measure => simp [intOf]; omega
    · go_wp2
      go_ret
      exact ⟨ret_int (by rw [spellingErrM, if_neg (by rw [H1.out]; decide), if_neg (by rw [H2.out]; decide), if_neg (by rw [textOk_yes _ _ fun j hj => Hno.out j (by omega)]; decide)]), hx⟩
end Go.Proofs.YtnfbhicoknpojaaGreat

namespace Go.Proofs.YtnfbhicoknpojaaGreat
set_option linter.unusedSimpArgs false
set_option linter.unusedVariables false
open Go.RowKit

set_option maxHeartbeats 1000000 in
set_option maxRecDepth 100000 in
theorem firstErrorSpelling_any (bv v : Value) (b : Book) (l : List Spelling) (w : World) (hb : BookAt w bv b) (hl : SpellingsAt w v l) :
    Calls Tryz.prog 137 #[v, .func (.func 105) #[bv] #[]] w
      fun e w' => e = .returned (.tuple #[.int .i64 (firstErr (fun _ y => spellingErrM b.alphabets y) l).1, .int .i64 (firstErr (fun _ y => spellingErrM b.alphabets y) l).2]) ∧ Ext w w' := by
  obtain ⟨a, cap, rfl, hlc, hcm⟩ := hl.shape
  go_enter Tryz.func137, Tryz.ntmps137
  go_wp2
  go_loopw [11] (fun i wr => ∃ k : Nat, k ≤ l.length ∧ i = .int .i64 k ∧ firstErrFrom (fun _ y => spellingErrM b.alphabets y) (l.take k) (l.drop k) = firstErr (fun _ y => spellingErrM b.alphabets y) l ∧ Ext w wr) (fun i _ => l.length - (intOf i).toNat)
  case atStart => exact ⟨0, Nat.zero_le _, rfl, rfl, Ext.refl _⟩
  case round =>
    obtain ⟨k, hk, rfl, hd, hx⟩ := hrel
    have Hd := Lib.hid hd; clear hd
    by_cases hlt : k < l.length
    · have hls := hl.ext hx
      have hkc : k ≤ cap := by omega
      have hcell := hls
      obtain ⟨_, _, he, -, -, hh⟩ := hcell
      obtain ⟨bb, off, rfl, h1, h2, hi, hts⟩ := hh k hlt
      cases he
      generalize hy : l[k] = y at *
      have Hy := Lib.hid hy; clear hy hh
      go_wp2_with fail
      have c0 : (wr.alloc (.cells #[.int .i64 y.alphabet, .string y.text] 58)).cell? ⟨wr.heap.size, 0, none⟩ = some (.int .i64 y.alphabet) := by simp [go_sem]
      have c1 : (wr.alloc (.cells #[.int .i64 y.alphabet, .string y.text] 58)).cell? ⟨wr.heap.size, 1, none⟩ = some (.string y.text) := by simp [go_sem]
      have hlw := hls.ext (ext_alloc wr (.cells #[.int .i64 y.alphabet, .string y.text] 58))
      have hbw := (hb.ext hx).ext (ext_alloc wr (.cells #[.int .i64 y.alphabet, .string y.text] 58))
      apply Facts.wp_region [.val _, .val _, .val _, .val _, .val _, .val (.int .i64 (spellingErrM b.alphabets y)), .val _] (by kernel_rfl) (by kernel_rfl) trivial ?main
      case main =>
        iterate 5 (refine ⟨fun w1 hx hh => ?_, ?_⟩; focus (clear hh; have e0 := hx.cell c0; have e1 := hx.cell c1; go_simp; exact ⟨Ext.refl _, rfl⟩))
        refine ⟨fun w1 hx hh => ?_, ?_⟩
        · clear hh
          go_simp
          refine (spellingError_any bv _ _ b y w1 (hbw.ext hx) ⟨rfl, hi, hts⟩).mono ?_
          rintro e w' ⟨rfl, hx2⟩
          exact ⟨_, rfl, hx2, rfl⟩
        iterate 1 (refine ⟨fun w1 hx hh => ?_, ?_⟩; focus (clear hh; skip; go_simp; exact ⟨Ext.refl _, rfl⟩))
        intro w1 hx1 hh
        have hx3 := hx.trans hx1.of_alloc
        clear hh hx1 c0 c1 hlw hbw
        by_cases h0 : spellingErrM b.alphabets y = 0
        · have H0 := Lib.hid h0
          rw [h0]; clear h0
          go_wp2
          go_roundw
          case rel => exact ⟨k + 1, by omega, by go_num, (firstErrFrom_step _ l k hlt y Hy.out H0.out).trans Hd.out, hx3⟩
          case measure => simp [intOf]; omega
        · have H0 := Lib.hid h0
          have h1 : (spellingErrM b.alphabets y != 0) = true := by simpa using h0
          clear h0
          go_wp2
          go_ret2
          have := Hd.out
          rw [firstErrFrom_hit _ l k hlt y Hy.out H0.out] at this
          exact ⟨ret_two (by rw [← this]), hx3⟩
    · go_wp2
      go_ret2
      have := Hd.out
      rw [firstErrFrom_end _ _ _ (by omega)] at this
      exact ⟨ret_two (by rw [← this]), hx⟩
end Go.Proofs.YtnfbhicoknpojaaGreat

namespace Go.Proofs.YtnfbhicoknpojaaGreat
set_option linter.unusedSimpArgs false
set_option linter.unusedVariables false
open Go.RowKit

/-- what List of things has, if at most so many may be -/
def listErr {α : Type} (most : Int) (l : List α) (f : Int × Int) : Int × Int := if most < l.length then (0, 3) else f
set_option maxHeartbeats 1000000 in
set_option maxRecDepth 100000 in
theorem listSpelling_any (bv v : Value) (b : Book) (l : List Spelling) (w : World) (hb : BookAt w bv b) (hl : SpellingsAt w v l) :
    Calls Tryz.prog 104 #[.int .i64 5, v, .func (.func 105) #[bv] #[]] w
      fun e w' => e = .returned (.tuple #[.int .i64 (if (5 : Int) < l.length then (0, 3) else firstErr (fun _ y => spellingErrM b.alphabets y) l).1, .int .i64 (if (5 : Int) < l.length then (0, 3) else firstErr (fun _ y => spellingErrM b.alphabets y) l).2]) ∧ Ext w w' := by
  obtain ⟨a, cap, rfl, hlc, hcm⟩ := hl.shape
  by_cases h : (5 : Int) < l.length
  · rw [if_pos h]
    go_enter Tryz.func104, Tryz.ntmps104
    go_wp2_with fail
    go_ret2
    exact ⟨rfl, (by first | (with_reducible exact Ext.refl _) | (with_reducible assumption) | (show Below _ _ _; go_grown; done))⟩
  · rw [if_neg h]
    go_enter Tryz.func104, Tryz.ntmps104
    go_wp2_with fail
    refine (firstErrorSpelling_any _ _ b l _ (hb.ext (by first | (with_reducible exact Ext.refl _) | (with_reducible assumption) | (show Below _ _ _; go_grown; done))) (hl.ext (by first | (with_reducible exact Ext.refl _) | (with_reducible assumption) | (show Below _ _ _; go_grown; done)))).mono ?_
    rintro e w1 ⟨rfl, hx1⟩
    go_wp2
    go_ret2
    exact ⟨rfl, Ext.trans (by first | (with_reducible exact Ext.refl _) | (with_reducible assumption) | (show Below _ _ _; go_grown; done)) hx1⟩
def alphErr (b : Book) : Int × Int := firstErr (alphabetErrM b.sounds) b.alphabets
def spelErr (b : Book) : Int × Int := firstErr (fun _ y => spellingErrM b.alphabets y) b.spellings
def checkM (b : Book) : Int × Int × Int :=
  if inM b.sounds 1 4 = false then (1, 0, 7) else if inM b.alphabets.length 1 3 = false then (2, 0, 3) else if (alphErr b).2 ≠ 0 then (2, (alphErr b).1, (alphErr b).2)
  else if (5 : Int) < b.spellings.length then (3, 0, 3) else if (spelErr b).2 ≠ 0 then (3, (spelErr b).1, (spelErr b).2) else (0, 0, 0)
theorem ret_three {a b c : Int} {t : Int × Int × Int} (h : (a, b, c) = t) : Ending.returned (.tuple #[.int .i64 a, .int .i64 b, .int .i64 c]) = .returned (.tuple #[.int .i64 t.1, .int .i64 t.2.1, .int .i64 t.2.2]) := by subst h; rfl

set_option maxHeartbeats 1000000 in
set_option maxRecDepth 100000 in
theorem check_any (bv : Value) (b : Book) (w : World) (hb : BookAt w bv b) :
    Calls Tryz.prog 66 #[bv] w fun e w' => e = .returned (.tuple #[.int .i64 (checkM b).1, .int .i64 (checkM b).2.1, .int .i64 (checkM b).2.2]) ∧ Ext w w' := by
  obtain ⟨ba, bc, bs, bd, rfl, hbi, hbl, hbc, hsl, hsc, -, hal, hsp⟩ := hb.open
  have hbi' : -9223372036854775808 ≤ b.sounds ∧ b.sounds ≤ 9223372036854775807 := hbi
  have hA := Lib.hid hal
  have hP := Lib.hid hsp
  clear hal hsp
  go_enter Tryz.func66, Tryz.ntmps66
  go_wp2_with fail
  refine (within_any _ _ _ [b.sounds] _ (IntsAt.oneAt (by simp) hbi)).mono ?_
  rintro e w' ⟨rfl, rfl⟩
  rw [withinM_one]
  cases h1 : inM b.sounds 1 4
  · have H1 := Lib.hid h1; clear h1
    go_wp2_with fail
    go_ret3
    exact ⟨ret_three (by rw [checkM, if_pos H1.out]), (by first | (with_reducible exact Ext.refl _) | (with_reducible assumption) | (show Below _ _ _; go_grown; done))⟩
  have hS : 1 ≤ b.sounds ∧ b.sounds ≤ 4 := by simpa [inM] using h1
  have H1 := Lib.hid h1; clear h1
  go_wp2_with fail
  refine (within_any _ _ _ [(b.alphabets.length : Int)] _ (IntsAt.oneAt (by simp) (by omega))).mono ?_
  rintro e w' ⟨rfl, rfl⟩
  rw [withinM_one]
  cases h2 : inM b.alphabets.length 1 3
  · have H2 := Lib.hid h2; clear h2
    go_wp2_with fail
    go_ret3
    exact ⟨ret_three (by rw [checkM, if_neg (by rw [H1.out]; decide), if_pos H2.out]), (by first | (with_reducible exact Ext.refl _) | (with_reducible assumption) | (show Below _ _ _; go_grown; done))⟩
  have H2 := Lib.hid h2; clear h2
  go_wp2_with fail
  refine (firstErrorAlphabet_any _ _ b hS b.alphabets _ (hb.ext (by first | (with_reducible exact Ext.refl _) | (with_reducible assumption) | (show Below _ _ _; go_grown; done))) (hA.out.ext (by first | (with_reducible exact Ext.refl _) | (with_reducible assumption) | (show Below _ _ _; go_grown; done)))).mono ?_
  rintro e w1 ⟨rfl, hx1⟩
  have x1 : Ext w w1 := Ext.trans (by first | (with_reducible exact Ext.refl _) | (with_reducible assumption) | (show Below _ _ _; go_grown; done)) hx1
  have p0 : w1.cell? ⟨w.heap.size + 1, 0, none⟩ = some (.int .i64 b.sounds) := hx1.cell (by simp [go_sem])
  have p1 : w1.cell? ⟨w.heap.size + 1, 1, none⟩ = some (.slice ba b.alphabets.length bc) := hx1.cell (by simp [go_sem])
  have p2 : w1.cell? ⟨w.heap.size + 1, 2, none⟩ = some (.slice bs b.spellings.length bd) := hx1.cell (by simp [go_sem])
  clear hx1
  generalize hf : firstErr (alphabetErrM b.sounds) b.alphabets = f1
  have Hf : Hid (alphErr b = f1) := Lib.hid hf
  clear hf
  obtain ⟨at1, e1⟩ := f1
  by_cases h3 : e1 = 0
  rotate_left
  · have h3' : (e1 != 0) = true := by simpa using h3
    have H3 := Lib.hid h3; clear h3
    go_wp2_with fail
    go_ret3
    exact ⟨ret_three (by rw [checkM, if_neg (by rw [H1.out]; decide), if_neg (by rw [H2.out]; decide), Hf.out, if_pos H3.out]), x1⟩
  subst h3
  go_wp2_with fail
  refine (listSpelling_any _ _ b b.spellings _ (hb.ext x1) (hP.out.ext x1)).mono ?_
  rintro e w2 ⟨rfl, hx2⟩
  have x2 := x1.trans hx2
  by_cases h4 : (5 : Int) < b.spellings.length
  · rw [if_pos h4]
    go_wp2_with fail
    go_ret3
    exact ⟨ret_three (by rw [checkM, if_neg (by rw [H1.out]; decide), if_neg (by rw [H2.out]; decide), Hf.out, if_neg (fun h => h rfl), if_pos (by omega)]), x2⟩
  rw [if_neg h4]
  generalize hg : firstErr (fun _ y => spellingErrM b.alphabets y) b.spellings = f2
  have Hg : Hid (spelErr b = f2) := Lib.hid hg
  clear hg
  obtain ⟨at2, e2⟩ := f2
  by_cases h5 : e2 = 0
  · subst h5
    go_wp2_with fail
    go_ret3
    exact ⟨ret_three (by rw [checkM, if_neg (by rw [H1.out]; decide), if_neg (by rw [H2.out]; decide), Hf.out, if_neg (fun h => h rfl), if_neg (by omega), Hg.out, if_neg (fun h => h rfl)]), x2⟩
  · have h5' : (e2 != 0) = true := by simpa using h5
    have H5 := Lib.hid h5; clear h5
    go_wp2_with fail
    go_ret3
    exact ⟨ret_three (by rw [checkM, if_neg (by rw [H1.out]; decide), if_neg (by rw [H2.out]; decide), Hf.out, if_neg (fun h => h rfl), if_neg (by omega), Hg.out, if_pos H5.out]), x2⟩

def errM (b : Book) : Int := (checkM b).2.2
/-- the error of a book, then that of indices -/
def openM (b : Book) (l : List Int) : Int := if errM b ≠ 0 then errM b else if withinM 0 (b.spellings.length - 1) l = false then 4 else 0
def emptyBook : Value := .agg #[.int .i64 0, .slice none 0 0, .slice none 0 0]
/-- a book, if there is no error -/
def OpenV (w : World) (b : Book) (e : Int) (v : Value) : Prop := ∃ u, v = .tuple #[u, .int .i64 e] ∧ (e = 0 → BookAt w u b) ∧ (e ≠ 0 → u = emptyBook)

set_option maxHeartbeats 1000000 in
set_option maxRecDepth 100000 in
theorem open_any (bv v : Value) (b : Book) (l : List Int) (w : World) (hb : BookAt w bv b) (hl : IntsAt w v l) :
    Calls Tryz.prog 22 #[bv, v] w fun e w' => ∃ u, e = .returned u ∧ OpenV w' b (openM b l) u ∧ Ext w w' := by
  obtain ⟨ba, bc, bs, bd, rfl, hbi, hbl, hbc, hsl, hsc, -⟩ := hb.open
  go_enter Tryz.func22, Tryz.ntmps22
  go_wp2_with fail
  refine (check_any _ b _ (hb.ext (by first | (with_reducible exact Ext.refl _) | (with_reducible assumption) | (show Below _ _ _; go_grown; done)))).mono ?_
  rintro e w1 ⟨rfl, hx1⟩
  have x1 : Ext w w1 := Ext.trans (by first | (with_reducible exact Ext.refl _) | (with_reducible assumption) | (show Below _ _ _; go_grown; done)) hx1
  have p0 : w1.cell? ⟨w.heap.size, 0, none⟩ = some (.int .i64 b.sounds) := hx1.cell (by simp [go_sem])
  have p1 : w1.cell? ⟨w.heap.size, 1, none⟩ = some (.slice ba b.alphabets.length bc) := hx1.cell (by simp [go_sem])
  have p2 : w1.cell? ⟨w.heap.size, 2, none⟩ = some (.slice bs b.spellings.length bd) := hx1.cell (by simp [go_sem])
  have q0 : w1.cell? ⟨w.heap.size + 1, 0, none⟩ = some (.int .i64 0) := hx1.cell (by simp [go_sem])
  have q1 : w1.cell? ⟨w.heap.size + 1, 1, none⟩ = some (.slice none 0 0) := hx1.cell (by simp [go_sem])
  have q2 : w1.cell? ⟨w.heap.size + 1, 2, none⟩ = some (.slice none 0 0) := hx1.cell (by simp [go_sem])
  have z1 : w.heap.size + 1 < w1.heap.size := cell_lt q0
  have fz : ∀ o, w1.frozen? ⟨w.heap.size + 1, o, none⟩ = false := fun o => by rw [hx1.frozen (by simp)]; simp [go_sem]
  have f0 := fz 0
  have f1 := fz 1
  have f2 := fz 2
  clear fz hx1
  generalize hc : checkM b = c
  have Hc := Lib.hid hc
  clear hc
  obtain ⟨pt, at1, er⟩ := c
  by_cases h0 : er = 0
  rotate_left
  · have h0' : (er != 0) = true := by simpa using h0
    have H0 := Lib.hid h0; clear h0
    go_wp2_with fail
    have r := three_cells q0 q1 q2 (.int .i64 0) (.slice none 0 0) (.slice none 0 0)
    refine bodyPost_ret (v := .tuple #[emptyBook, .int .i64 er]) (by simp [results, Tryz.results22, go_sem, r.1, r.2.1, r.2.2, emptyBook]) rfl ⟨_, rfl, ⟨_, by rw [openM, errM, Hc.out, if_pos H0.out], fun h => ?_, fun _ => rfl⟩, ?_⟩
    · rw [openM, errM, Hc.out, if_pos H0.out] at h; exact absurd h H0.out
    · exact ((x1.setCell (by simp) _).setCell (by simp) _).setCell (by simp) _
  subst h0
  have hopen : ∀ x, openM b l = x ↔ (if withinM 0 (b.spellings.length - 1) l = false then 4 else 0) = x := fun x => by rw [openM, errM, Hc.out, if_neg (fun h => h rfl)]
  have Hopen := Lib.hid hopen; clear hopen
  go_wp2_with fail
  refine (within_any _ _ _ l _ (hl.ext x1)).mono ?_
  rintro e w' ⟨rfl, rfl⟩
  cases h1 : withinM 0 (b.spellings.length - 1) l
  · have H1 := Lib.hid h1; clear h1
    have ho : openM b l = 4 := (Hopen.out 4).2 (if_pos H1.out)
    have Ho := Lib.hid ho; clear ho
    go_wp2_with fail
    have r := three_cells q0 q1 q2 (.int .i64 0) (.slice none 0 0) (.slice none 0 0)
    refine bodyPost_ret (v := .tuple #[emptyBook, .int .i64 4]) (by simp [results, Tryz.results22, go_sem, r.1, r.2.1, r.2.2, emptyBook]) rfl ⟨_, rfl, ⟨_, by rw [Ho.out], fun h => ?_, fun _ => rfl⟩, ?_⟩
    · rw [Ho.out] at h; cases h
    · exact ((x1.setCell (by simp) _).setCell (by simp) _).setCell (by simp) _
  · have H1 := Lib.hid h1; clear h1
    have ho : openM b l = 0 := (Hopen.out 0).2 (if_neg (by rw [H1.out]; decide))
    have Ho := Lib.hid ho; clear ho
    go_wp2_with fail
    have r := three_cells q0 q1 q2 (.int .i64 b.sounds) (.slice ba b.alphabets.length bc) (.slice bs b.spellings.length bd)
    have x3 : Ext w (((w1.setCell ⟨w.heap.size + 1, 0, none⟩ (.int .i64 b.sounds)).setCell ⟨w.heap.size + 1, 1, none⟩ (.slice ba b.alphabets.length bc)).setCell ⟨w.heap.size + 1, 2, none⟩ (.slice bs b.spellings.length bd)) :=
      ((x1.setCell (by simp) _).setCell (by simp) _).setCell (by simp) _
    refine bodyPost_ret (v := .tuple #[.agg #[.int .i64 b.sounds, .slice ba b.alphabets.length bc, .slice bs b.spellings.length bd], .int .i64 0]) (by simp [results, Tryz.results22, go_sem, r.1, r.2.1, r.2.2]) rfl ⟨_, rfl, ⟨_, by rw [Ho.out], fun _ => hb.ext x3, fun h => absurd Ho.out h⟩, x3⟩
end Go.Proofs.YtnfbhicoknpojaaGreat

namespace Go.Proofs.YtnfbhicoknpojaaGreat
set_option linter.unusedSimpArgs false
set_option linter.unusedVariables false
open Go.RowKit
set_option linter.unusedVariables false

set_option maxHeartbeats 1000000 in
set_option maxRecDepth 100000 in
theorem firstForm_any (v : Value) (l : List Form) (w : World) (hl : FormsAt w v l) :
    Calls Tryz.prog 144 #[v, .func (.func 117) #[] #[]] w
      fun e w' => e = .returned (.tuple #[.int .i64 (firstErr formErrM l).1, .int .i64 (firstErr formErrM l).2]) ∧ Ext w w' := by
  obtain ⟨a, cap, rfl, hlc, hcm⟩ := hl.shape
  go_enter Tryz.func144, Tryz.ntmps144
  go_wp2
  go_loopw [11] (fun i wr => ∃ k : Nat, k ≤ l.length ∧ i = .int .i64 k ∧ firstErrFrom formErrM (l.take k) (l.drop k) = firstErr formErrM l ∧ Ext w wr) (fun i _ => l.length - (intOf i).toNat)
  case atStart => exact ⟨0, Nat.zero_le _, rfl, rfl, Ext.refl _⟩
  case round =>
    obtain ⟨k, hk, rfl, hd, hx⟩ := hrel
    have Hd := Lib.hid hd; clear hd
    by_cases hlt : k < l.length
    · have hls := hl.ext hx
      have hkc : k ≤ cap := by omega
      obtain ⟨bb, off, rfl, h1, hns, u, h2, hp⟩ := hls.get hlt
      generalize hy : l[k] = y at *
      have Hy := Lib.hid hy; clear hy
      obtain ⟨ua, uc, rfl, -⟩ := hp.shape
      go_wp2_with fail
      have c0 : (wr.alloc (.cells #[.string y.name, .slice ua y.parts.length uc] 44)).cell? ⟨wr.heap.size, 0, none⟩ = some (.string y.name) := by simp [go_sem]
      have c1 : (wr.alloc (.cells #[.string y.name, .slice ua y.parts.length uc] 44)).cell? ⟨wr.heap.size, 1, none⟩ = some (.slice ua y.parts.length uc) := by simp [go_sem]
      have hfv : FormV (wr.alloc (.cells #[.string y.name, .slice ua y.parts.length uc] 44)) (.agg #[.string y.name, .slice ua y.parts.length uc]) y := ⟨_, rfl, hns, hp.ext (ext_alloc _ _)⟩
      have hlw := hls.ext (ext_alloc wr (.cells #[.string y.name, .slice ua y.parts.length uc] 44))
      apply Facts.wp_region [.val _, .val _, .val _, .val _, .val _, .val (.int .i64 (formErrM (l.take k) y)), .val _] (by kernel_rfl) (by kernel_rfl) trivial ?main
      case main =>
        iterate 5 (refine ⟨fun w1 hx hh => ?_, ?_⟩; focus (clear hh; have e0 := hx.cell c0; have e1 := hx.cell c1; go_simp; exact ⟨Ext.refl _, rfl⟩))
        refine ⟨fun w1 hx hh => ?_, ?_⟩
        · clear hh
          go_simp
          refine (formError_any _ _ (l.take k) y w1 ((hlw.ext hx).take k (by omega)) (hfv.ext hx)).mono ?_
          rintro e w' ⟨rfl, hx2⟩
          exact ⟨_, rfl, hx2, rfl⟩
        iterate 1 (refine ⟨fun w1 hx hh => ?_, ?_⟩; focus (clear hh; skip; go_simp; exact ⟨Ext.refl _, rfl⟩))
        intro w1 hx1 hh
        have hx3 := hx.trans hx1.of_alloc
        clear hh hx1 c0 c1 hfv hlw
        by_cases h0 : formErrM (l.take k) y = 0
        · have H0 := Lib.hid h0
          rw [h0]; clear h0
          go_wp2
          go_roundw
          case rel => exact ⟨k + 1, by omega, by go_num, (firstErrFrom_step formErrM l k hlt y Hy.out H0.out).trans Hd.out, hx3⟩
          case measure => simp [intOf]; omega
        · have H0 := Lib.hid h0
          have h1 : (formErrM (l.take k) y != 0) = true := by simpa using h0
          clear h0
          go_wp2
          go_ret2
          have := Hd.out
          rw [firstErrFrom_hit formErrM l k hlt y Hy.out H0.out] at this
          exact ⟨ret_two (by rw [← this]), hx3⟩
    · go_wp2
      go_ret2
      have := Hd.out
      rw [firstErrFrom_end _ _ _ (by omega)] at this
      exact ⟨ret_two (by rw [← this]), hx⟩
set_option maxHeartbeats 1000000 in
set_option maxRecDepth 100000 in
theorem listForm_any (v : Value) (l : List Form) (w : World) (hl : FormsAt w v l) :
    Calls Tryz.prog 116 #[.int .i64 4, v, .func (.func 117) #[] #[]] w
      fun e w' => e = .returned (.tuple #[.int .i64 (if 4 < l.length then (0, 3) else firstErr formErrM l).1, .int .i64 (if 4 < l.length then (0, 3) else firstErr formErrM l).2]) ∧ Ext w w' := by
  obtain ⟨a, cap, rfl, hlc, hcm⟩ := hl.shape
  by_cases h : 4 < l.length
  · rw [if_pos h]
    have k1 : (4 : Int) < (l.length : Int) := by omega
    go_enter Tryz.func116, Tryz.ntmps116
    go_wp2_with fail
    go_ret2
    exact ⟨rfl, (by first | (with_reducible exact Ext.refl _) | (with_reducible assumption) | (show Below _ _ _; go_grown; done))⟩
  · rw [if_neg h]
    have k1 : ¬ (4 : Int) < (l.length : Int) := by omega
    go_enter Tryz.func116, Tryz.ntmps116
    go_wp2_with fail
    refine (firstForm_any _ l _ (hl.ext (by first | (with_reducible exact Ext.refl _) | (with_reducible assumption) | (show Below _ _ _; go_grown; done)))).mono ?_
    rintro e w1 ⟨rfl, hx1⟩
    go_wp2
    go_ret2
    exact ⟨rfl, Ext.trans (by first | (with_reducible exact Ext.refl _) | (with_reducible assumption) | (show Below _ _ _; go_grown; done)) hx1⟩
/-- the part, the place and the error of a shelf -/
def checkS (s : Shelf) : Int × Int × Int :=
  if inM s.width 8 30 = false then (1, 0, 7) else if 4 < s.forms.length then (2, 0, 3) else if (firstErr formErrM s.forms).2 ≠ 0 then (2, (firstErr formErrM s.forms).1, (firstErr formErrM s.forms).2) else (0, 0, 0)
def errS (s : Shelf) : Int := (checkS s).2.2
set_option maxHeartbeats 1000000 in
set_option maxRecDepth 100000 in
theorem checkS_any (sv : Value) (s : Shelf) (w : World) (hs : ShelfAt w sv s) :
    Calls Tryz.prog 89 #[sv] w fun e w' => e = .returned (.tuple #[.int .i64 (checkS s).1, .int .i64 (checkS s).2.1, .int .i64 (checkS s).2.2]) ∧ Ext w w' := by
  obtain ⟨a, c, rfl, hw, hc1, hc2, hf⟩ := hs.open
  have hw' : -9223372036854775808 ≤ s.width ∧ s.width ≤ 9223372036854775807 := hw
  have HF := Lib.hid hf
  clear hf
  go_enter Tryz.func89, Tryz.ntmps89
  go_wp2_with fail
  refine (within_any _ _ _ [s.width] _ (IntsAt.oneAt (by simp) hw)).mono ?_
  rintro e w' ⟨rfl, rfl⟩
  rw [withinM_one]
  cases h1 : inM s.width 8 30
  · have H1 := Lib.hid h1; clear h1
    go_wp2_with fail
    go_ret3
    exact ⟨ret_three (by rw [checkS, if_pos H1.out]), (by first | (with_reducible exact Ext.refl _) | (with_reducible assumption) | (show Below _ _ _; go_grown; done))⟩
  have H1 := Lib.hid h1; clear h1
  go_wp2_with fail
  refine (listForm_any _ s.forms _ (HF.out.ext (by first | (with_reducible exact Ext.refl _) | (with_reducible assumption) | (show Below _ _ _; go_grown; done)))).mono ?_
  rintro e w1 ⟨rfl, hx1⟩
  have x1 : Ext w w1 := Ext.trans (by first | (with_reducible exact Ext.refl _) | (with_reducible assumption) | (show Below _ _ _; go_grown; done)) hx1
  clear hx1
  by_cases h4 : 4 < s.forms.length
  · have H4 := Lib.hid h4
    rw [if_pos h4]
    clear h4
    go_wp2_with fail
    go_ret3
    exact ⟨ret_three (by rw [checkS, if_neg (by rw [H1.out]; decide), if_pos H4.out]), x1⟩
  have H4 := Lib.hid h4
  rw [if_neg h4]
  clear h4
  generalize hf : firstErr formErrM s.forms = f1
  have Hf := Lib.hid hf
  clear hf
  obtain ⟨at1, e1⟩ := f1
  by_cases h5 : e1 = 0
  · subst h5
    go_wp2_with fail
    go_ret3
    exact ⟨ret_three (by rw [checkS, if_neg (by rw [H1.out]; decide), if_neg H4.out, Hf.out, if_neg (fun h => h rfl)]), x1⟩
  · have h5' : (e1 != 0) = true := by simpa using h5
    have H5 := Lib.hid h5; clear h5
    go_wp2_with fail
    go_ret3
    exact ⟨ret_three (by rw [checkS, if_neg (by rw [H1.out]; decide), if_neg H4.out, Hf.out, if_pos H5.out]), x1⟩
/-- the error of a shelf, or of a letter -/
def shelfErrM (s : Shelf) (l : List ByteArray) : Int := if errS s ≠ 0 then errS s else letterErrL l
theorem shelfError_any (sv v : Value) (s : Shelf) (l : List ByteArray) (w : World) (hs : ShelfAt w sv s) (hl : StrsAt w v l) :
    Calls Tryz.prog 51 #[sv, v] w fun e w' => e = .returned (.int .i64 (shelfErrM s l)) ∧ Ext w w' := by
  obtain ⟨a, c, rfl, hw, hc1, hc2, hf⟩ := hs.open
  clear hf
  go_enter Tryz.func51, Tryz.ntmps51
  go_wp2_with fail
  refine (checkS_any _ s _ (hs.ext (by first | (with_reducible exact Ext.refl _) | (with_reducible assumption) | (show Below _ _ _; go_grown; done)))).mono ?_
  rintro e w1 ⟨rfl, hx1⟩
  have x1 : Ext w w1 := Ext.trans (by first | (with_reducible exact Ext.refl _) | (with_reducible assumption) | (show Below _ _ _; go_grown; done)) hx1
  clear hx1
  generalize hc : checkS s = cc
  have Hc := Lib.hid hc
  clear hc
  obtain ⟨pt, at1, er⟩ := cc
  by_cases h0 : er = 0
  · subst h0
    go_wp2_with fail
    refine (letterError_any' _ l _ (hl.ext x1)).mono ?_
    rintro e w2 ⟨rfl, hx2⟩
    have x2 := x1.trans hx2
    go_wp2
    go_ret
    exact ⟨ret_int (by rw [shelfErrM, errS, Hc.out, if_neg (fun h => h rfl)]), x2⟩
  · have h0' : (er != 0) = true := by simpa using h0
    have H0 := Lib.hid h0; clear h0
    go_wp2
    go_ret
    exact ⟨ret_int (by rw [shelfErrM, errS, Hc.out, if_pos H0.out]), x1⟩
/-- the error of a shelf and a form -/
def openErrM (s : Shelf) (n : Int) : Int := if errS s ≠ 0 then errS s else if inM n 0 (s.forms.length - 1) = false then 4 else 0
def emptyForm : Value := .agg #[.string ⟨#[]⟩, .slice none 0 0]
/-- a form, if there is no error -/
def OpenF (w : World) (s : Shelf) (n : Int) (e : Int) (v : Value) : Prop := ∃ u, v = .tuple #[u, .int .i64 e] ∧ (e = 0 → ∃ i : Nat, ∃ hi : i < s.forms.length, n = i ∧ FormV w u s.forms[i]) ∧ (e ≠ 0 → u = emptyForm)
end Go.Proofs.YtnfbhicoknpojaaGreat

namespace Go.Proofs.YtnfbhicoknpojaaGreat
set_option linter.unusedSimpArgs false
set_option linter.unusedVariables false
open Go.RowKit
set_option linter.unusedVariables false

theorem two_cells {w : World} {B : Nat} {x y : Value} (h0 : w.cell? ⟨B, 0, none⟩ = some x) (h1 : w.cell? ⟨B, 1, none⟩ = some y) (a b : Value) :
    ((w.setCell ⟨B, 0, none⟩ a).setCell ⟨B, 1, none⟩ b).cell? ⟨B, 0, none⟩ = some a ∧ ((w.setCell ⟨B, 0, none⟩ a).setCell ⟨B, 1, none⟩ b).cell? ⟨B, 1, none⟩ = some b :=
  ⟨set_other (set_cell h0 a) (.inr (by simp)) b, set_cell (set_other h1 (.inr (by simp)) a) b⟩
set_option maxHeartbeats 1000000 in
set_option maxRecDepth 100000 in
theorem openF_any (sv : Value) (s : Shelf) (n : Int) (hn : I64 n) (W w : World) (hWx : Ext W w) (hsW : ShelfAt W sv s) :
    Calls Tryz.prog 48 #[sv, .int .i64 n] w fun e w' => ∃ u, e = .returned u ∧ OpenF W s n (openErrM s n) u ∧ Ext w w' := by
  have hs := hsW.ext hWx
  obtain ⟨a, c, rfl, hw, hc1, hc2, hf⟩ := hsW.open
  clear hsW
  go_enter Tryz.func48, Tryz.ntmps48
  go_wp2_with fail
  refine (checkS_any _ s _ (hs.ext (by first | (with_reducible exact Ext.refl _) | (with_reducible assumption) | (show Below _ _ _; go_grown; done)))).mono ?_
  rintro e w1 ⟨rfl, hx1⟩
  have x1 : Ext w w1 := Ext.trans (by first | (with_reducible exact Ext.refl _) | (with_reducible assumption) | (show Below _ _ _; go_grown; done)) hx1
  have p0 : w1.cell? ⟨w.heap.size, 0, none⟩ = some (.int .i64 s.width) := hx1.cell (by simp [go_sem])
  have p1 : w1.cell? ⟨w.heap.size, 1, none⟩ = some (.slice a s.forms.length c) := hx1.cell (by simp [go_sem])
  have q0 : w1.cell? ⟨w.heap.size + 1, 0, none⟩ = some (.string ⟨#[]⟩) := hx1.cell (by simp [go_sem])
  have q1 : w1.cell? ⟨w.heap.size + 1, 1, none⟩ = some (.slice none 0 0) := hx1.cell (by simp [go_sem])
  have z1 : w.heap.size + 1 < w1.heap.size := cell_lt q0
  have z0 : w.heap.size < w1.heap.size := cell_lt p0
  have fz : ∀ o, w1.frozen? ⟨w.heap.size + 1, o, none⟩ = false := fun o => by rw [hx1.frozen (by simp)]; simp [go_sem]
  have f0 := fz 0
  have f1 := fz 1
  clear fz hx1
  generalize hc : checkS s = cc
  have Hc := Lib.hid hc
  clear hc
  obtain ⟨pt, at1, er⟩ := cc
  by_cases h0 : er = 0
  rotate_left
  · have h0' : (er != 0) = true := by simpa using h0
    have H0 := Lib.hid h0; clear h0
    have ho : openErrM s n = er := by rw [openErrM, errS, Hc.out, if_pos H0.out]
    have Ho := Lib.hid ho; clear ho
    clear hf
    go_wp2_with fail
    have r := two_cells q0 q1 (.string ⟨#[]⟩) (.slice none 0 0)
    refine bodyPost_ret (v := .tuple #[emptyForm, .int .i64 er]) (by simp [results, Tryz.results48, go_sem, r.1, r.2, emptyForm]) rfl ⟨_, rfl, ⟨_, by rw [Ho.out], fun h => ?_, fun _ => rfl⟩, ?_⟩
    · rw [Ho.out] at h; exact absurd h H0.out
    · exact (x1.setCell (by simp) _).setCell (by simp) _
  subst h0
  have hopen : openErrM s n = if inM n 0 (s.forms.length - 1) = false then 4 else 0 := by rw [openErrM, errS, Hc.out, if_neg (fun h => h rfl)]
  have wl : IntKind.i64.wrap ((s.forms.length : Int) - 1) = (s.forms.length : Int) - 1 := IntWalk.i64_in _ (by omega)
  have Hopen := Lib.hid hopen; clear hopen
  have Hf := Lib.hid hf
  clear hf
  go_wp2_with fail
  refine (within_any _ _ _ [n] _ (IntsAt.one hn)).mono ?_
  rintro e w' ⟨rfl, rfl⟩
  rw [withinM_one]
  cases h1 : inM n 0 (s.forms.length - 1)
  · have ho : openErrM s n = 4 := by rw [Hopen.out, if_pos h1]
    have Ho := Lib.hid ho; clear ho h1
    go_wp2_with fail
    have r := two_cells q0 q1 (.string ⟨#[]⟩) (.slice none 0 0)
    have r0 := (ext_alloc ((w1.setCell ⟨w.heap.size + 1, 0, none⟩ (.string ⟨#[]⟩)).setCell ⟨w.heap.size + 1, 1, none⟩ (.slice none 0 0)) (.cells #[.int .i64 n] 3)).cell r.1
    have r1 := (ext_alloc ((w1.setCell ⟨w.heap.size + 1, 0, none⟩ (.string ⟨#[]⟩)).setCell ⟨w.heap.size + 1, 1, none⟩ (.slice none 0 0)) (.cells #[.int .i64 n] 3)).cell r.2
    refine bodyPost_ret (v := .tuple #[emptyForm, .int .i64 4]) (by simp [results, Tryz.results48, go_sem, r0, r1, emptyForm]) rfl ⟨_, rfl, ⟨_, by rw [Ho.out], fun h => ?_, fun _ => rfl⟩, ?_⟩
    · rw [Ho.out] at h; cases h
    · exact ((x1.setCell (by simp) _).setCell (by simp) _).alloc _
  · have ho : openErrM s n = 0 := by rw [Hopen.out, if_neg (by rw [h1]; decide)]
    have Ho := Lib.hid ho; clear ho
    have hr : 0 ≤ n ∧ n ≤ s.forms.length - 1 := by simpa [inM] using h1
    clear h1
    obtain ⟨k, rfl⟩ : ∃ k : Nat, n = k := ⟨n.toNat, by omega⟩
    have hk : k < s.forms.length := by omega
    have k1 : (k : Int) < (s.forms.length : Int) := by omega
    obtain ⟨fb, fo, rfl, h1, hns, u, h2, hp⟩ := Hf.out.get hk
    replace h1 := x1.cell (hWx.cell h1)
    replace h2 := x1.cell (hWx.cell h2)
    have Hnm := Lib.hid hns
    have Hp := Lib.hid hp
    have zf : fb < w1.heap.size := cell_lt h1
    obtain ⟨ua, uc, rfl, -⟩ := hp.shape
    clear hp hns
    go_wp2_with fail
    have r := two_cells q0 q1 (.string (s.forms[k]).name) (.slice ua (s.forms[k]).parts.length uc)
    have r0 := (ext_alloc ((w1.setCell ⟨w.heap.size + 1, 0, none⟩ (.string (s.forms[k]).name)).setCell ⟨w.heap.size + 1, 1, none⟩ (.slice ua (s.forms[k]).parts.length uc)) (.cells #[.int .i64 k] 3)).cell r.1
    have r1 := (ext_alloc ((w1.setCell ⟨w.heap.size + 1, 0, none⟩ (.string (s.forms[k]).name)).setCell ⟨w.heap.size + 1, 1, none⟩ (.slice ua (s.forms[k]).parts.length uc)) (.cells #[.int .i64 k] 3)).cell r.2
    have x3 : Ext w (((w1.setCell ⟨w.heap.size + 1, 0, none⟩ (.string (s.forms[k]).name)).setCell ⟨w.heap.size + 1, 1, none⟩ (.slice ua (s.forms[k]).parts.length uc)).alloc (.cells #[.int .i64 k] 3)) := ((x1.setCell (by simp) _).setCell (by simp) _).alloc _
    refine bodyPost_ret (v := .tuple #[.agg #[.string (s.forms[k]).name, .slice ua (s.forms[k]).parts.length uc], .int .i64 0]) (by simp [results, Tryz.results48, go_sem, r0, r1]) rfl ⟨_, rfl, ⟨_, by rw [Ho.out], fun _ => ⟨k, hk, rfl, ⟨_, rfl, Hnm.out, Hp.out⟩⟩, fun h => absurd Ho.out h⟩, x3⟩
/-- the error of a shelf and a form, and of a letter -/
def openForErrM (s : Shelf) (n : Int) (l : List ByteArray) : Int := if openErrM s n ≠ 0 then openErrM s n else letterErrL l
/-- a form, if there is no error; nothing is said of it if there is one -/
def OpenG (w : World) (s : Shelf) (n : Int) (e : Int) (v : Value) : Prop := ∃ u, v = .tuple #[u, .int .i64 e] ∧ (e = 0 → ∃ i : Nat, ∃ hi : i < s.forms.length, n = i ∧ FormV w u s.forms[i])
set_option maxHeartbeats 1000000 in
set_option maxRecDepth 100000 in
theorem openFor_any (sv v : Value) (s : Shelf) (n : Int) (hn : I64 n) (l : List ByteArray) (W w : World) (hWx : Ext W w) (hsW : ShelfAt W sv s) (hl : StrsAt w v l) :
    Calls Tryz.prog 79 #[sv, .int .i64 n, v] w fun e w' => ∃ u, e = .returned u ∧ OpenG W s n (openForErrM s n l) u ∧ Ext w w' := by
  obtain ⟨a, c, rfl, hw, hc1, hc2, hf⟩ := hsW.open
  clear hf
  go_enter Tryz.func79, Tryz.ntmps79
  go_wp2_with fail
  refine (openF_any _ s n hn W _ (hWx.trans (by first | (with_reducible exact Ext.refl _) | (with_reducible assumption) | (show Below _ _ _; go_grown; done))) hsW).mono ?_
  rintro e w1 ⟨uu, rfl, ⟨u, rfl, h1, h2⟩, hx1⟩
  have x1 : Ext w w1 := Ext.trans (by first | (with_reducible exact Ext.refl _) | (with_reducible assumption) | (show Below _ _ _; go_grown; done)) hx1
  have q0 : w1.cell? ⟨w.heap.size + 1, 0, none⟩ = some (.string ⟨#[]⟩) := hx1.cell (by simp [go_sem])
  have q1 : w1.cell? ⟨w.heap.size + 1, 1, none⟩ = some (.slice none 0 0) := hx1.cell (by simp [go_sem])
  have z1 : w.heap.size + 1 < w1.heap.size := cell_lt q0
  have fz : ∀ o, w1.frozen? ⟨w.heap.size + 1, o, none⟩ = false := fun o => by rw [hx1.frozen (by simp)]; simp [go_sem]
  have f0 := fz 0
  have f1 := fz 1
  clear fz hx1
  obtain ⟨nm, pa, pn, pc, rfl⟩ : ∃ nm pa pn pc, u = .agg #[.string nm, .slice pa pn pc] := by
    by_cases h : openErrM s n = 0
    · obtain ⟨i, hi, -, uu, rfl, -, hp⟩ := h1 h
      obtain ⟨pa, pc, rfl, -⟩ := hp.shape
      exact ⟨_, _, _, _, rfl⟩
    · exact ⟨_, _, _, _, h2 h⟩
  clear h2
  have H1 := Lib.hid h1
  clear h1
  by_cases h0 : openErrM s n = 0
  · have ho : openForErrM s n l = letterErrL l := by rw [openForErrM, if_neg (by simpa using h0)]
    have hH := H1.out h0
    have Ho := Lib.hid ho
    have HH := Lib.hid hH
    rw [h0]
    clear ho hH h0 H1
    have hlw := hl.ext (x1.trans (ext_alloc w1 (.cells #[.string nm, .slice pa pn pc] 106)))
    go_wp2_with fail
    refine (letterError_any' _ l _ hlw).mono ?_
    rintro e w2 ⟨rfl, hx2⟩
    have x2 : Ext w1 w2 := hx2.of_alloc
    have b0 : w2.cell? ⟨w1.heap.size, 0, none⟩ = some (.string nm) := hx2.cell (by simp [go_sem])
    have b1 : w2.cell? ⟨w1.heap.size, 1, none⟩ = some (.slice pa pn pc) := hx2.cell (by simp [go_sem])
    have f0' := (x2.frozen (p := ⟨w.heap.size + 1, 0, none⟩) z1).trans f0
    have f1' := (x2.frozen (p := ⟨w.heap.size + 1, 1, none⟩) z1).trans f1
    replace q0 := x2.cell q0
    replace q1 := x2.cell q1
    replace z1 : w.heap.size + 1 < w2.heap.size := cell_lt q0
    have z2 : w1.heap.size < w2.heap.size := cell_lt b0
    clear f0 f1 hx2 hlw
    go_wp2_with fail
    have r := two_cells q0 q1 (.string nm) (.slice pa pn pc)
    refine bodyPost_ret (v := .tuple #[.agg #[.string nm, .slice pa pn pc], .int .i64 (letterErrL l)]) (by simp [results, Tryz.results79, go_sem, r.1, r.2]) rfl ⟨_, rfl, ⟨_, by rw [Ho.out], fun _ => ?_⟩, ((x1.trans x2).setCell (by simp) _).setCell (by simp) _⟩
    exact HH.out
  · have ho : openForErrM s n l = openErrM s n := by rw [openForErrM, if_pos h0]
    have h0' : (openErrM s n == 0) = false := by simpa using h0
    have H0 := Lib.hid h0
    have Ho := Lib.hid ho
    generalize openErrM s n = er at *
    clear ho h0
    go_wp2_with fail
    have r := two_cells q0 q1 (.string nm) (.slice pa pn pc)
    have r0 := (ext_alloc ((w1.setCell ⟨w.heap.size + 1, 0, none⟩ (.string nm)).setCell ⟨w.heap.size + 1, 1, none⟩ (.slice pa pn pc)) (.cells #[.string nm, .slice pa pn pc] 106)).cell r.1
    have r1 := (ext_alloc ((w1.setCell ⟨w.heap.size + 1, 0, none⟩ (.string nm)).setCell ⟨w.heap.size + 1, 1, none⟩ (.slice pa pn pc)) (.cells #[.string nm, .slice pa pn pc] 106)).cell r.2
    refine bodyPost_ret (v := .tuple #[.agg #[.string nm, .slice pa pn pc], .int .i64 er]) (by simp [results, Tryz.results79, go_sem, r0, r1]) rfl ⟨_, rfl, ⟨_, by rw [Ho.out], fun h => ?_⟩, ((x1.setCell (by simp) _).setCell (by simp) _).alloc _⟩
    rw [Ho.out] at h
    exact absurd h H0.out
end Go.Proofs.YtnfbhicoknpojaaGreat

namespace Go.Proofs.YtnfbhicoknpojaaGreat
set_option linter.unusedSimpArgs false
set_option linter.unusedVariables false
open Go.RowKit

def heardErrM (S : Int) (l : List Int) : Int := if 5 < l.length then 3 else if withinM 0 (S - 1) l = false then 7 else 0
set_option maxRecDepth 100000 in
theorem heardError_any (bv v : Value) (b : Book) (hS : 1 ≤ b.sounds ∧ b.sounds ≤ 4) (l : List Int) (w : World) (hb : BookAt w bv b) (hl : IntsAt w v l) :
    Calls Tryz.prog 24 #[bv, v] w fun e w' => e = .returned (.int .i64 (heardErrM b.sounds l)) ∧ Ext w w' := by
  obtain ⟨ba, bc, bs, bd, rfl, -⟩ := hb.open
  obtain ⟨a, cap, rfl, hlc, hcm⟩ := hl.shape
  by_cases h5 : (5 : Int) < l.length
  · go_enter Tryz.func24, Tryz.ntmps24
    go_wp2_with fail
    go_ret
    exact ⟨ret_int (by rw [heardErrM, if_pos (by omega)]), (by first | (with_reducible exact Ext.refl _) | (with_reducible assumption) | (show Below _ _ _; go_grown; done))⟩
  go_enter Tryz.func24, Tryz.ntmps24
  go_wp2_with fail
  refine (within_any _ _ _ l _ (hl.ext (ext_alloc _ _))).mono ?_
  rintro e w' ⟨rfl, rfl⟩
  cases h : withinM 0 (b.sounds - 1) l
  all_goals
    have H := Lib.hid h; clear h
    go_wp2_with fail
    go_ret
  · exact ⟨ret_int (by rw [heardErrM, if_neg (by omega), if_pos H.out]), (by first | (with_reducible exact Ext.refl _) | (with_reducible assumption) | (show Below _ _ _; go_grown; done))⟩
  · exact ⟨ret_int (by rw [heardErrM, if_neg (by omega), if_neg (by rw [H.out]; decide)]), (by first | (with_reducible exact Ext.refl _) | (with_reducible assumption) | (show Below _ _ _; go_grown; done))⟩

def ascM (l : List Int) : Bool := (List.range l.length).all fun k => k == 0 || decide (l.getD (k - 1) 0 < l.getD k 0)
theorem ascM_no (l : List Int) (k : Nat) (h0 : 0 < k) (hk : k < l.length) (x y : Int) (hx : l[k] = x) (hy : l[k - 1]'(by omega) = y) (h : x ≤ y) : ascM l = false := by
  unfold ascM
  rw [List.all_eq_false]
  refine ⟨k, List.mem_range.2 hk, ?_⟩
  rw [List.getD_eq_getElem?_getD, List.getD_eq_getElem?_getD, List.getElem?_eq_getElem hk, List.getElem?_eq_getElem (show k - 1 < l.length by omega)]
  simp only [Option.getD_some, hx, hy]
  simp; omega
theorem ascM_yes (l : List Int) (h : ∀ k (_ : 0 < k) (hk : k < l.length), l[k - 1]'(by omega) < l[k]) : ascM l = true := by
  unfold ascM
  rw [List.all_eq_true]
  intro k hk
  have hk := List.mem_range.1 hk
  by_cases h0 : k = 0
  · subst h0; rfl
  · rw [List.getD_eq_getElem?_getD, List.getD_eq_getElem?_getD, List.getElem?_eq_getElem hk, List.getElem?_eq_getElem (show k - 1 < l.length by omega)]
    simp only [Option.getD_some]
    have := h k (by omega) hk
    simp [this]
set_option maxRecDepth 100000 in
theorem ascending_any (v : Value) (l : List Int) (w : World) (hl : IntsAt w v l) :
    Calls Tryz.prog 71 #[v] w fun e w' => e = .returned (.bool (ascM l)) ∧ Ext w w' := by
  obtain ⟨a, cap, rfl, hlc, hcm⟩ := hl.shape
  go_enter Tryz.func71, Tryz.ntmps71
  go_wp2
  go_loopw [3] (fun i wr => ∃ k : Nat, 1 ≤ k ∧ (k ≤ l.length ∨ k = 1) ∧ i = .int .i64 k ∧ Ext w wr ∧ ∀ j (_ : 0 < j) (hj : j < l.length), j < k → l[j - 1]'(by omega) < l[j]) (fun i _ => l.length - (intOf i).toNat)
  case atStart => exact ⟨1, by omega, .inr rfl, rfl, Ext.refl _, fun j h0 hj h1 => by omega⟩
  case round =>
    obtain ⟨k, hk0, hk, rfl, hx, hno⟩ := hrel
    have Hno := Lib.hid hno; clear hno
    by_cases hlt : k < l.length
    · obtain ⟨_, _, he, -, -, hh⟩ := hl.ext hx
      obtain ⟨b, off, rfl, c0, -⟩ := hh k hlt
      obtain ⟨b', off', he', c1, -⟩ := hh (k - 1) (by omega)
      cases he
      cases he'
      generalize hy : l[k] = y at *
      generalize hz : l[k - 1]'(by omega) = z at *
      have Hy := Lib.hid hy
      have Hz := Lib.hid hz
      clear hy hz hh
      simp only [Nat.mul_one] at c0 c1
      obtain ⟨m, hm⟩ : ∃ m, k = m + 1 := ⟨k - 1, by omega⟩
      subst hm
      simp only [Nat.add_sub_cancel] at c1 Hz
      have mw : IntKind.i64.wrap (m : Int) = m := IntWalk.i64_in _ (by omega)
      have mlt : (m : Int) < (l.length : Int) := by omega
      by_cases hyz : y ≤ z
      all_goals
        go_wp2_with fail
        apply Facts.wp_region [.val _, .val _, .val _, .val _, .val _, .val _, .val _, .val _, .val _, .val _] (by kernel_rfl) (by kernel_rfl) trivial ?main
        case main =>
          iterate 10 (refine ⟨fun w1 hx hh => ?_, ?_⟩; focus (clear hh; have e0 := hx.cell c0; have e1 := hx.cell c1; go_simp; exact ⟨Ext.refl _, rfl⟩))
          intro w1 hx1 hh
          have hx3 := hx.trans hx1
          clear hh c0 c1
          go_simp
          go_wp2
          first
            | (go_ret
               exact ⟨ret_bool (ascM_no l _ (by omega) hlt y z Hy.out Hz.out hyz).symm, hx3⟩)
            | (go_roundw
               case rel => exact ⟨m + 1 + 1, by omega, .inl (by omega), by go_num, hx3, fun j h0 hj h1 => by
                 rcases Nat.lt_or_ge j (m + 1) with hjk | hjk
                 · exact Hno.out j h0 hj hjk
                 · obtain rfl : j = m + 1 := by omega
                   have e1 := Hy.out
                   have e2 := Hz.out
                   simp only [Nat.add_sub_cancel]
                   omega⟩
               case measure => simp [intOf]; omega)
    · go_wp2
      go_ret
      exact ⟨ret_bool (ascM_yes l fun j h0 hj => Hno.out j h0 hj (by omega)).symm, hx⟩
end Go.Proofs.YtnfbhicoknpojaaGreat
