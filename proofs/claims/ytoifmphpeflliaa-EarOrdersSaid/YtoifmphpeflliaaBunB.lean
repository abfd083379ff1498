/-
  WHAT letterError RETURNS: the first error of a letter of an alphabet. For any letters before it, in a book whose number of sounds is as stated.
  WHAT check.First RETURNS at the letters of an alphabet: the first one with an error, and this error.
  WHAT alphabetError AND check.First RETURN: the first error of an alphabet; the first alphabet with an error.
  WHAT spellingError AND check.First RETURN: the first error of a spelling; the first spelling with an error.
  WHAT check.First RETURNS at the spellings of a book.
  WHAT ear.Check AND open RETURN, for any book: the part, the index and the error that the document says; the book, and its error, or that of an index.
-/
import Derived.Test.YtoifmphpeflliaaBunA
namespace Go.Proofs.Ytoifmphpeflliaa
open Go.RowKit

def maskM (S : Int) : Int := 2 ^ S.toNat - 1
def letterErrM (S : Int) (before : List Letter) (x : Letter) : Int :=
  if inM x.c 97 122 = false then 6 else if (before.any fun y => y.c == x.c) = true then 5 else if inM x.sounds 0 (maskM S) = false then 7 else if (x.sounds == 0 && !x.silent) = true then 2 else 0

theorem letterError1_any (v u : Value) (x : Letter) (w : World) (hu : LetterV u x) :
    Calls Try.prog 172 #[v, u] w fun e w' => e = .returned (.bool (!inM x.c 97 122)) ∧ Ext w w' := by
  obtain ⟨rfl, hc, hi⟩ := hu
  unfold U8 at hc
  go_enter Try.func172, Try.ntmps172
  go_wp2_with fail
  refine (isLetter_any _ _).mono ?_
  rintro e w' ⟨rfl, rfl⟩
  go_wp2
  go_ret
  exact ⟨rfl, (by first | (with_reducible exact Ext.refl _) | (with_reducible assumption) | (show Below _ _ _; go_grown; done))⟩
theorem letterError2_any (v u : Value) (l : List Letter) (x : Letter) (w : World) (hl : LettersAt w v l) (hu : LetterV u x) :
    Calls Try.prog 173 #[v, u] w fun e w' => e = .returned (.bool (l.any fun y => y.c == x.c)) ∧ Ext w w' := by
  obtain ⟨rfl, hc, hi⟩ := hu
  go_enter Try.func173, Try.ntmps173
  go_wp2_with fail
  refine (letterAt_any l x.c v _ (hl.ext (ext_alloc _ _))).mono ?_
  rintro e w1 ⟨rfl, hx⟩
  go_wp2
  go_ret
  exact ⟨ret_bool (idxM_ge _ _), hx.of_alloc⟩
theorem letterError4_any (v u : Value) (x : Letter) (w : World) (hu : LetterV u x) :
    Calls Try.prog 175 #[v, u] w fun e w' => e = .returned (.bool (x.sounds == 0 && !x.silent)) ∧ Ext w w' := by
  obtain ⟨rfl, hc, hi⟩ := hu
  cases h : (x.sounds == 0)
  all_goals
    go_enter Try.func175, Try.ntmps175
    go_wp2
    go_ret
    exact ⟨by simp, (by first | (with_reducible exact Ext.refl _) | (with_reducible assumption) | (show Below _ _ _; go_grown; done))⟩
set_option maxRecDepth 100000 in
theorem letterError3_any (v u : Value) (S : Int) (hS : 1 ≤ S ∧ S ≤ 4) (p : Nat) (x : Letter) (w : World) (hu : LetterV u x) (hp : w.cell? ⟨p, 0, none⟩ = some (.int .i64 S)) :
    Calls Try.prog 174 #[v, u, .pointer (some ⟨p, 0, none⟩)] w fun e w' => e = .returned (.bool (!inM x.sounds 0 (maskM S))) ∧ Ext w w' := by
  obtain ⟨rfl, hc, hi⟩ := hu
  have h4 : S = 1 ∨ S = 2 ∨ S = 3 ∨ S = 4 := by omega
  rcases h4 with rfl | rfl | rfl | rfl
  all_goals
    go_enter Try.func174, Try.ntmps174
    go_wp2_with fail
    have c1 := (ext_alloc w (.cells #[.int .u8 x.c, .int .i64 x.sounds, .bool x.silent] 40)).cell hp
    have c2 : (w.alloc (.cells #[.int .u8 x.c, .int .i64 x.sounds, .bool x.silent] 40)).cell? ⟨w.heap.size, 1, none⟩ = some (.int .i64 x.sounds) := by simp [go_sem]
    apply Facts.wp_region [.val _, .val _, .val _, .val _, .val _, .val _, .val _, .fact (fun v w => IntsAt w v [x.sounds]), .val _, .val _, .val _] (by kernel_rfl) (by kernel_rfl) ⟨fun _ _ _ h g => g.ext h, trivial⟩ ?main
    case main =>
      iterate 7 (refine ⟨fun w1 hx hh => ?_, ?_⟩; focus (clear hh; have e1 := hx.cell c1; have e2 := hx.cell c2; go_simp; exact ⟨Ext.refl _, rfl⟩))
      refine ⟨fun w1 hx hh => ?_, fun u => ?_⟩
      · clear hh
        go_simp
        exact ⟨ext_alloc _ _, IntsAt.one hi⟩
      refine ⟨fun w1 hx hh => ?_, ?_⟩
      · have f7 := hh 7 _ List.mem_cons_self (by kernel_rfl)
        clear hh
        go_simp
        refine (within_any _ _ _ _ _ f7).mono ?_
        rintro e w' ⟨rfl, rfl⟩
        exact ⟨_, rfl, Ext.refl _, rfl⟩
      iterate 2 (refine ⟨fun w1 hx hh => ?_, ?_⟩; focus (clear hh; skip; go_simp; exact ⟨Ext.refl _, rfl⟩))
      intro w1 hx hh
      go_wp2
      go_ret
      exact ⟨ret_bool (by rw [withinM_one]; rfl), hx.of_alloc⟩

/-- what lies in memory while the faults are gone through -/
structure FaultsAt (w : World) (B : Nat) (S : Int) (x : Letter) : Prop where
  s : w.cell? ⟨B, 0, none⟩ = some (.int .i64 S)
  c : w.cell? ⟨B + 1, 0, none⟩ = some (.int .u8 x.c)
  n : w.cell? ⟨B + 1, 1, none⟩ = some (.int .i64 x.sounds)
  q : w.cell? ⟨B + 1, 2, none⟩ = some (.bool x.silent)
  a0 : w.cell? ⟨B + 1 + 1, 0, none⟩ = some (.int .i64 6)
  b0 : w.cell? ⟨B + 1 + 1, 1, none⟩ = some (.func (.func 172) #[] #[])
  a1 : w.cell? ⟨B + 1 + 1, 2, none⟩ = some (.int .i64 5)
  b1 : w.cell? ⟨B + 1 + 1, 3, none⟩ = some (.func (.func 173) #[] #[])
  a2 : w.cell? ⟨B + 1 + 1, 4, none⟩ = some (.int .i64 7)
  b2 : w.cell? ⟨B + 1 + 1, 5, none⟩ = some (.func (.func 174) #[] #[.pointer (some ⟨B, 0, none⟩)])
  a3 : w.cell? ⟨B + 1 + 1, 6, none⟩ = some (.int .i64 2)
  b3 : w.cell? ⟨B + 1 + 1, 7, none⟩ = some (.func (.func 175) #[] #[])
theorem FaultsAt.ext {w w' : World} {B : Nat} {S : Int} {x : Letter} (h : FaultsAt w B S x) (hx : Ext w w') : FaultsAt w' B S x :=
  ⟨hx.cell h.s, hx.cell h.c, hx.cell h.n, hx.cell h.q, hx.cell h.a0, hx.cell h.b0, hx.cell h.a1, hx.cell h.b1, hx.cell h.a2, hx.cell h.b2, hx.cell h.a3, hx.cell h.b3⟩

set_option maxHeartbeats 2000000 in
theorem letterError_any (bv v u : Value) (b : Book) (hS : 1 ≤ b.sounds ∧ b.sounds ≤ 4) (l : List Letter) (x : Letter) (w : World) (hb : BookAt w bv b) (hl : LettersAt w v l) (hu : LetterV u x) :
    Calls Try.prog 162 #[bv, v, u] w fun e w' => e = .returned (.int .i64 (letterErrM b.sounds l x)) ∧ Ext w w' := by
  obtain ⟨ba, bc, bs, bd, rfl, -⟩ := hb.open
  obtain ⟨a, cap, rfl, hlc, hcm⟩ := hl.shape
  have hu' := hu
  obtain ⟨rfl, hc, hi⟩ := hu
  go_enter Try.func162, Try.ntmps162
  go_wp2
  go_loopw [18] (fun i wr => ∃ k : Nat, k ≤ 4 ∧ i = .int .i64 k ∧ Ext w wr ∧ FaultsAt wr w.heap.size b.sounds x ∧
    (1 ≤ k → inM x.c 97 122 = true) ∧ (2 ≤ k → (l.any fun y => y.c == x.c) = false) ∧ (3 ≤ k → inM x.sounds 0 (maskM b.sounds) = true) ∧ (4 ≤ k → (x.sounds == 0 && !x.silent) = false)) (fun i _ => 4 - (intOf i).toNat)
  case atStart =>
    exact ⟨0, by omega, rfl, (by first | (with_reducible exact Ext.refl _) | (with_reducible assumption) | (show Below _ _ _; go_grown; done)), ⟨by simp [go_sem], by simp [go_sem], by simp [go_sem], by simp [go_sem], by simp [go_sem], by simp [go_sem], by simp [go_sem], by simp [go_sem], by simp [go_sem], by simp [go_sem], by simp [go_sem], by simp [go_sem]⟩,
      fun h => by omega, fun h => by omega, fun h => by omega, fun h => by omega⟩
  case round =>
    obtain ⟨k, hk, rfl, hx, hF, n0, n1, n2, n3⟩ := hrel
    have hF0 := hF
    obtain ⟨f1, f2, f3, f4, f5, f6, f7, f8, f9, f10, f11, f12⟩ := hF0
    have z0 : w.heap.size < wr.heap.size := cell_lt f1
    have z1 : w.heap.size + 1 < wr.heap.size := cell_lt f2
    have z2 : w.heap.size + 1 + 1 < wr.heap.size := cell_lt f5
    have hk5 : k = 0 ∨ k = 1 ∨ k = 2 ∨ k = 3 ∨ k = 4 := by omega
    rcases hk5 with rfl | rfl | rfl | rfl | rfl
    · clear n0 n1 n2 n3
      cases hb0 : (inM x.c 97 122)
      all_goals
        have H := Lib.hid hb0
        clear hb0
        go_wp2_with fail
        refine (letterError1_any _ _ x _ hu').mono ?_
        rintro e w1 ⟨rfl, hx1⟩
        have hx2 := hx.trans hx1.of_alloc
        have hF2 := hF.ext hx1.of_alloc
        have hp1 := hx1.cell (p := ⟨wr.heap.size, 0, none⟩) (by simp [go_sem]; rfl)
        rw [H.out]
        go_wp2
      · go_ret
        exact ⟨ret_int (by rw [letterErrM, if_pos H.out]), hx2⟩
      · go_roundw
        case rel => exact ⟨1, by omega, rfl, hx2, hF2, fun _ => by first | exact H.out | trivial, fun h => by omega, fun h => by omega, fun h => by omega⟩
        case measure => simp [intOf]
    · have g0 := Lib.hid (n0 (by omega))
      clear n0 n1 n2 n3
      cases hb1 : (l.any fun y => y.c == x.c)
      all_goals
        have H := Lib.hid hb1
        clear hb1
        go_wp2_with fail
        refine (letterError2_any _ _ l x _ (hl.ext (hx.alloc _)) hu').mono ?_
        rintro e w1 ⟨rfl, hx1⟩
        have hx2 := hx.trans hx1.of_alloc
        have hF2 := hF.ext hx1.of_alloc
        have hp1 := hx1.cell (p := ⟨wr.heap.size, 0, none⟩) (by simp [go_sem]; rfl)
        rw [H.out]
        go_wp2
      · go_roundw
        case rel => exact ⟨2, by omega, rfl, hx2, hF2, fun _ => by first | exact g0.out | trivial, fun _ => by first | exact H.out | trivial, fun h => by omega, fun h => by omega⟩
        case measure => simp [intOf]
      · go_ret
        exact ⟨ret_int (by rw [letterErrM, if_neg (by rw [g0.out]; decide), if_pos H.out]), hx2⟩
    · have g0 := Lib.hid (n0 (by omega))
      have g1 := Lib.hid (n1 (by omega))
      clear n0 n1 n2 n3
      cases hb2 : (inM x.sounds 0 (maskM b.sounds))
      all_goals
        have H := Lib.hid hb2
        clear hb2
        go_wp2_with fail
        refine (letterError3_any _ _ b.sounds hS _ x _ hu' ((ext_alloc _ _).cell f1)).mono ?_
        rintro e w1 ⟨rfl, hx1⟩
        have hx2 := hx.trans hx1.of_alloc
        have hF2 := hF.ext hx1.of_alloc
        have hp1 := hx1.cell (p := ⟨wr.heap.size, 0, none⟩) (by simp [go_sem]; rfl)
        rw [H.out]
        go_wp2
      · go_ret
        exact ⟨ret_int (by rw [letterErrM, if_neg (by rw [g0.out]; decide), if_neg (by rw [g1.out]; decide), if_pos H.out]), hx2⟩
      · go_roundw
        case rel => exact ⟨3, by omega, rfl, hx2, hF2, fun _ => by first | exact g0.out | trivial, fun _ => by first | exact g1.out | trivial, fun _ => by first | exact H.out | trivial, fun h => by omega⟩
        case measure => simp [intOf]
    · have g0 := Lib.hid (n0 (by omega))
      have g1 := Lib.hid (n1 (by omega))
      have g2 := Lib.hid (n2 (by omega))
      clear n0 n1 n2 n3
      cases hb3 : (x.sounds == 0 && !x.silent)
      all_goals
        have H := Lib.hid hb3
        clear hb3
        go_wp2_with fail
        refine (letterError4_any _ _ x _ hu').mono ?_
        rintro e w1 ⟨rfl, hx1⟩
        have hx2 := hx.trans hx1.of_alloc
        have hF2 := hF.ext hx1.of_alloc
        have hp1 := hx1.cell (p := ⟨wr.heap.size, 0, none⟩) (by simp [go_sem]; rfl)
        rw [H.out]
        go_wp2
      · go_roundw
        case rel => exact ⟨4, by omega, rfl, hx2, hF2, fun _ => by first | exact g0.out | trivial, fun _ => by first | exact g1.out | trivial, fun _ => by first | exact g2.out | trivial, fun _ => by first | exact H.out | trivial⟩
        case measure => simp [intOf]
      · go_ret
        exact ⟨ret_int (by rw [letterErrM, if_neg (by rw [g0.out]; decide), if_neg (by rw [g1.out]; decide), if_neg (by rw [g2.out]; decide), if_pos H.out]), hx2⟩
    · have g0 := Lib.hid (n0 (by omega))
      have g1 := Lib.hid (n1 (by omega))
      have g2 := Lib.hid (n2 (by omega))
      have g3 := Lib.hid (n3 (by omega))
      clear n0 n1 n2 n3
      go_wp2
      go_ret
      exact ⟨ret_int (by rw [letterErrM, if_neg (by rw [g0.out]; decide), if_neg (by rw [g1.out]; decide), if_neg (by rw [g2.out]; decide), if_neg (by rw [g3.out]; decide)]), hx⟩
end Go.Proofs.Ytoifmphpeflliaa

namespace Go.Proofs.Ytoifmphpeflliaa
open Go.RowKit

def firstErrFrom {α : Type} (f : List α → α → Int) : List α → List α → Int × Int
  | _, [] => (0, 0)
  | pre, x :: r => if f pre x = 0 then firstErrFrom f (pre ++ [x]) r else (pre.length, f pre x)
def firstErr {α : Type} (f : List α → α → Int) (l : List α) : Int × Int := firstErrFrom f [] l
theorem firstErrFrom_step {α : Type} (f : List α → α → Int) (l : List α) (k : Nat) (hk : k < l.length) (x : α) (hx : l[k] = x) (h : f (l.take k) x = 0) : firstErrFrom f (l.take (k + 1)) (l.drop (k + 1)) = firstErrFrom f (l.take k) (l.drop k) := by
  rw [List.drop_eq_getElem_cons hk, hx, firstErrFrom, if_pos h, List.take_succ_eq_append_getElem hk, hx]
theorem firstErrFrom_hit {α : Type} (f : List α → α → Int) (l : List α) (k : Nat) (hk : k < l.length) (x : α) (hx : l[k] = x) (h : f (l.take k) x ≠ 0) : firstErrFrom f (l.take k) (l.drop k) = ((k : Int), f (l.take k) x) := by
  rw [List.drop_eq_getElem_cons hk, hx, firstErrFrom, if_neg h, List.length_take, Nat.min_eq_left (by omega)]
theorem firstErrFrom_end {α : Type} (f : List α → α → Int) (l : List α) (k : Nat) (hk : l.length ≤ k) : firstErrFrom f (l.take k) (l.drop k) = (0, 0) := by
  rw [List.drop_eq_nil_of_le hk]; rfl
theorem ret_two {j k : IntKind} {a b c d : Int} (h : (a, b) = (c, d)) : Ending.returned (.tuple #[.int j a, .int k b]) = .returned (.tuple #[.int j c, .int k d]) := by cases h; rfl

set_option maxHeartbeats 1000000 in
set_option maxRecDepth 100000 in
theorem firstErrorLetter_any (bv v : Value) (b : Book) (hS : 1 ≤ b.sounds ∧ b.sounds ≤ 4) (l : List Letter) (w : World) (hb : BookAt w bv b) (hl : LettersAt w v l) :
    Calls Try.prog 161 #[v, .func (.func 162) #[bv] #[]] w
      fun e w' => e = .returned (.tuple #[.int .i64 (firstErr (letterErrM b.sounds) l).1, .int .i64 (firstErr (letterErrM b.sounds) l).2]) ∧ Ext w w' := by
  obtain ⟨a, cap, rfl, hlc, hcm⟩ := hl.shape
  go_enter Try.func161, Try.ntmps161
  go_wp2
  go_loopw [11] (fun i wr => ∃ k : Nat, k ≤ l.length ∧ i = .int .i64 k ∧ firstErrFrom (letterErrM b.sounds) (l.take k) (l.drop k) = firstErr (letterErrM b.sounds) l ∧ Ext w wr) (fun i _ => l.length - (intOf i).toNat)
  case atStart => exact ⟨0, Nat.zero_le _, rfl, rfl, Ext.refl _⟩
  case round =>
    obtain ⟨k, hk, rfl, hd, hx⟩ := hrel
    have Hd := Lib.hid hd; clear hd
    by_cases hlt : k < l.length
    · have hls := hl.ext hx
      have hkc : k ≤ cap := by omega
      have hcell := hls
      obtain ⟨_, _, he, -, -, hh⟩ := hcell
      obtain ⟨bb, off, rfl, h1, h2, h3, hu, hi⟩ := hh k hlt
      cases he
      generalize hy : l[k] = y at *
      have Hy := Lib.hid hy; clear hy hh
      go_wp2_with fail
      have c0 : (wr.alloc (.cells #[.int .u8 y.c, .int .i64 y.sounds, .bool y.silent] 40)).cell? ⟨wr.heap.size, 0, none⟩ = some (.int .u8 y.c) := by simp [go_sem]
      have c1 : (wr.alloc (.cells #[.int .u8 y.c, .int .i64 y.sounds, .bool y.silent] 40)).cell? ⟨wr.heap.size, 1, none⟩ = some (.int .i64 y.sounds) := by simp [go_sem]
      have c2 : (wr.alloc (.cells #[.int .u8 y.c, .int .i64 y.sounds, .bool y.silent] 40)).cell? ⟨wr.heap.size, 2, none⟩ = some (.bool y.silent) := by simp [go_sem]
      have hlw := hls.ext (ext_alloc wr (.cells #[.int .u8 y.c, .int .i64 y.sounds, .bool y.silent] 40))
      have hbw := (hb.ext hx).ext (ext_alloc wr (.cells #[.int .u8 y.c, .int .i64 y.sounds, .bool y.silent] 40))
      apply Facts.wp_region [.val _, .val _, .val _, .val _, .val _, .val (.int .i64 (letterErrM b.sounds (l.take k) y)), .val _] (by kernel_rfl) (by kernel_rfl) trivial ?main
      case main =>
        iterate 5 (refine ⟨fun w1 hx hh => ?_, ?_⟩; focus (clear hh; have e0 := hx.cell c0; have e1 := hx.cell c1; have e2 := hx.cell c2; go_simp; exact ⟨Ext.refl _, rfl⟩))
        refine ⟨fun w1 hx hh => ?_, ?_⟩
        · clear hh
          go_simp
          refine (letterError_any bv _ _ b hS (l.take k) y w1 (hbw.ext hx) ((hlw.ext hx).take k (by omega)) ⟨rfl, hu, hi⟩).mono ?_
          rintro e w' ⟨rfl, hx2⟩
          exact ⟨_, rfl, hx2, rfl⟩
        iterate 1 (refine ⟨fun w1 hx hh => ?_, ?_⟩; focus (clear hh; skip; go_simp; exact ⟨Ext.refl _, rfl⟩))
        intro w1 hx1 hh
        have hx3 := hx.trans hx1.of_alloc
        clear hh hx1 c0 c1 c2 hlw hbw
        by_cases h0 : letterErrM b.sounds (l.take k) y = 0
        · have H0 := Lib.hid h0
          rw [h0]; clear h0
          go_wp2
          go_roundw
          case rel => exact ⟨k + 1, by omega, by go_num, (firstErrFrom_step _ l k hlt y Hy.out H0.out).trans Hd.out, hx3⟩
          case measure => simp [intOf]; omega
        · have H0 := Lib.hid h0
          have h1 : (letterErrM b.sounds (l.take k) y != 0) = true := by simpa using h0
          clear h0
          go_wp2
          go_ret2
          have := Hd.out
          rw [firstErrFrom_hit _ l k hlt y Hy.out H0.out] at this
          exact ⟨ret_two (by rw [← this]), hx3⟩
    · go_wp2
      go_ret2
      have := Hd.out
      rw [firstErrFrom_end _ _ _ (by omega)] at this
      exact ⟨ret_two (by rw [← this]), hx⟩
end Go.Proofs.Ytoifmphpeflliaa

namespace Go.Proofs.Ytoifmphpeflliaa
open Go.RowKit

def alphabetErrM (S : Int) (before : List Alphabet) (x : Alphabet) : Int :=
  if nameM x.name = false then 6 else if (before.any fun y => y.name.toList == x.name.toList) = true then 5 else if inM x.letters.length 1 6 = false then 3 else (firstErr (letterErrM S) x.letters).2

set_option maxHeartbeats 1000000 in
theorem alphabetError_any (bv v u : Value) (b : Book) (hS : 1 ≤ b.sounds ∧ b.sounds ≤ 4) (l : List Alphabet) (x : Alphabet) (w : World) (hb : BookAt w bv b) (hl : AlphabetsAt w v l) (hu : AlphabetV w u x) :
    Calls Try.prog 123 #[bv, v, u] w fun e w' => e = .returned (.int .i64 (alphabetErrM b.sounds l x)) ∧ Ext w w' := by
  obtain ⟨ba, bc, bs, bd, rfl, -⟩ := hb.open
  obtain ⟨lv, rfl, hns, hlv⟩ := hu
  obtain ⟨a, cap, rfl, hlc, hcm⟩ := hlv.shape
  go_enter Try.func123, Try.ntmps123
  go_wp2_with fail
  refine (name_any x.name _ hns).mono ?_
  rintro e w1 ⟨rfl, hx1⟩
  have x1 : Ext w w1 := hx1.of_alloc.of_alloc
  have p0 : w1.cell? ⟨w.heap.size + 1, 0, none⟩ = some (.string x.name) := hx1.cell (by simp [go_sem])
  have p1 : w1.cell? ⟨w.heap.size + 1, 1, none⟩ = some (.slice a x.letters.length cap) := hx1.cell (by simp [go_sem])
  have q0 : w1.cell? ⟨w.heap.size, 0, none⟩ = some (.int .i64 b.sounds) := hx1.cell (by simp [go_sem])
  have q1 : w1.cell? ⟨w.heap.size, 1, none⟩ = some (.slice ba b.alphabets.length bc) := hx1.cell (by simp [go_sem])
  have q2 : w1.cell? ⟨w.heap.size, 2, none⟩ = some (.slice bs b.spellings.length bd) := hx1.cell (by simp [go_sem])
  cases hn : nameM x.name
  · have Hn := Lib.hid hn; clear hn
    go_wp2_with fail
    go_ret
    exact ⟨ret_int (by rw [alphabetErrM, if_pos Hn.out]), x1⟩
  have Hn := Lib.hid hn; clear hn
  go_wp2_with fail
  refine (containsAlphabet_any l x _ v w1 (hl.ext x1) p0).mono ?_
  rintro e w2 ⟨rfl, hx2⟩
  have x2 := x1.trans hx2
  cases ha : l.any fun y => y.name.toList == x.name.toList
  rotate_left
  · have Ha := Lib.hid ha; clear ha
    go_wp2_with fail
    go_ret
    exact ⟨ret_int (by rw [alphabetErrM, if_neg (by rw [Hn.out]; decide), if_pos Ha.out]), x2⟩
  have Ha := Lib.hid ha; clear ha
  replace p0 := hx2.cell p0
  replace p1 := hx2.cell p1
  replace q0 := hx2.cell q0
  replace q1 := hx2.cell q1
  replace q2 := hx2.cell q2
  have z0 := cell_lt q0
  have z1 := cell_lt p0
  go_wp2_with fail
  refine (within_any _ _ _ [(x.letters.length : Int)] _ (IntsAt.one (by omega))).mono ?_
  rintro e w' ⟨rfl, rfl⟩
  rw [withinM_one]
  have x3 := x2.alloc (.cells #[.int .i64 (x.letters.length : Int)] 3)
  have hx3 := ext_alloc w2 (.cells #[.int .i64 (x.letters.length : Int)] 3)
  cases hi : inM x.letters.length 1 6
  · have Hi := Lib.hid hi; clear hi
    go_wp2_with fail
    go_ret
    exact ⟨ret_int (by rw [alphabetErrM, if_neg (by rw [Hn.out]; decide), if_neg (by rw [Ha.out]; decide), if_pos Hi.out]), x3⟩
  have Hi := Lib.hid hi; clear hi
  go_wp2_with fail
  refine (firstErrorLetter_any _ _ b hS x.letters _ (hb.ext x3) (hlv.ext x3)).mono ?_
  rintro e w4 ⟨rfl, hx4⟩
  go_wp2
  go_ret
  exact ⟨ret_int (by rw [alphabetErrM, if_neg (by rw [Hn.out]; decide), if_neg (by rw [Ha.out]; decide), if_neg (by rw [Hi.out]; decide)]), x3.trans hx4⟩
set_option maxHeartbeats 1000000 in
set_option maxRecDepth 100000 in
theorem firstErrorAlphabet_any (bv v : Value) (b : Book) (hS : 1 ≤ b.sounds ∧ b.sounds ≤ 4) (l : List Alphabet) (w : World) (hb : BookAt w bv b) (hl : AlphabetsAt w v l) :
    Calls Try.prog 122 #[v, .func (.func 123) #[bv] #[]] w
      fun e w' => e = .returned (.tuple #[.int .i64 (firstErr (alphabetErrM b.sounds) l).1, .int .i64 (firstErr (alphabetErrM b.sounds) l).2]) ∧ Ext w w' := by
  obtain ⟨a, cap, rfl, hlc, hcm⟩ := hl.shape
  go_enter Try.func122, Try.ntmps122
  go_wp2
  go_loopw [11] (fun i wr => ∃ k : Nat, k ≤ l.length ∧ i = .int .i64 k ∧ firstErrFrom (alphabetErrM b.sounds) (l.take k) (l.drop k) = firstErr (alphabetErrM b.sounds) l ∧ Ext w wr) (fun i _ => l.length - (intOf i).toNat)
  case atStart => exact ⟨0, Nat.zero_le _, rfl, rfl, Ext.refl _⟩
  case round =>
    obtain ⟨k, hk, rfl, hd, hx⟩ := hrel
    have Hd := Lib.hid hd; clear hd
    by_cases hlt : k < l.length
    · have hls := hl.ext hx
      have hkc : k ≤ cap := by omega
      have hcell := hls
      obtain ⟨_, _, he, -, -, hh⟩ := hcell
      obtain ⟨bb, off, rfl, h1, hns, u, h2, hu⟩ := hh k hlt
      cases he
      generalize hy : l[k] = y at *
      have Hy := Lib.hid hy; clear hy hh
      have hsh := hu.shape
      obtain ⟨ua, uc, rfl, -⟩ := hsh
      go_wp2_with fail
      have c0 : (wr.alloc (.cells #[.string y.name, .slice ua y.letters.length uc] 38)).cell? ⟨wr.heap.size, 0, none⟩ = some (.string y.name) := by simp [go_sem]
      have c1 : (wr.alloc (.cells #[.string y.name, .slice ua y.letters.length uc] 38)).cell? ⟨wr.heap.size, 1, none⟩ = some (.slice ua y.letters.length uc) := by simp [go_sem]
      have hlw := hls.ext (ext_alloc wr (.cells #[.string y.name, .slice ua y.letters.length uc] 38))
      have hbw := (hb.ext hx).ext (ext_alloc wr (.cells #[.string y.name, .slice ua y.letters.length uc] 38))
      apply Facts.wp_region [.val _, .val _, .val _, .val _, .val _, .val (.int .i64 (alphabetErrM b.sounds (l.take k) y)), .val _] (by kernel_rfl) (by kernel_rfl) trivial ?main
      case main =>
        iterate 5 (refine ⟨fun w1 hx hh => ?_, ?_⟩; focus (clear hh; have e0 := hx.cell c0; have e1 := hx.cell c1; go_simp; exact ⟨Ext.refl _, rfl⟩))
        refine ⟨fun w1 hx hh => ?_, ?_⟩
        · clear hh
          go_simp
          refine (alphabetError_any bv _ _ b hS (l.take k) y w1 (hbw.ext hx) ((hlw.ext hx).take k (by omega)) ⟨_, rfl, hns, (hu.ext (ext_alloc _ _)).ext hx⟩).mono ?_
          rintro e w' ⟨rfl, hx2⟩
          exact ⟨_, rfl, hx2, rfl⟩
        iterate 1 (refine ⟨fun w1 hx hh => ?_, ?_⟩; focus (clear hh; skip; go_simp; exact ⟨Ext.refl _, rfl⟩))
        intro w1 hx1 hh
        have hx3 := hx.trans hx1.of_alloc
        clear hh hx1 c0 c1 hlw hbw
        by_cases h0 : alphabetErrM b.sounds (l.take k) y = 0
        · have H0 := Lib.hid h0
          rw [h0]; clear h0
          go_wp2
          go_roundw
          case rel => exact ⟨k + 1, by omega, by go_num, (firstErrFrom_step _ l k hlt y Hy.out H0.out).trans Hd.out, hx3⟩
          case measure => simp [intOf]; omega
        · have H0 := Lib.hid h0
          have h1 : (alphabetErrM b.sounds (l.take k) y != 0) = true := by simpa using h0
          clear h0
          go_wp2
          go_ret2
          have := Hd.out
          rw [firstErrFrom_hit _ l k hlt y Hy.out H0.out] at this
          exact ⟨ret_two (by rw [← this]), hx3⟩
    · go_wp2
      go_ret2
      have := Hd.out
      rw [firstErrFrom_end _ _ _ (by omega)] at this
      exact ⟨ret_two (by rw [← this]), hx⟩
end Go.Proofs.Ytoifmphpeflliaa

namespace Go.Proofs.Ytoifmphpeflliaa
open Go.RowKit

def lettersOf (al : List Alphabet) (i : Int) : List Letter := match al[i.toNat]? with | some a => a.letters | none => []
def knownB (ls : List Letter) (s : ByteArray) (k : Nat) : Bool := ls.any fun y => y.c == byteAt s k
def textOk (ls : List Letter) (s : ByteArray) : Bool := (List.range s.size).all fun k => knownB ls s k
def spellingErrM (al : List Alphabet) (x : Spelling) : Int :=
  if inM x.alphabet 0 (al.length - 1) = false then 4 else if inM x.text.size 1 5 = false then 3 else if textOk (lettersOf al x.alphabet) x.text = false then 6 else 0
theorem textOk_no (ls : List Letter) (s : ByteArray) (k : Nat) (hk : k < s.size) (h : knownB ls s k = false) : textOk ls s = false := by
  unfold textOk
  rw [List.all_eq_false]
  exact ⟨k, List.mem_range.2 hk, by simp [h]⟩
theorem textOk_yes (ls : List Letter) (s : ByteArray) (h2 : ∀ j, j < s.size → knownB ls s j = true) : textOk ls s = true := by
  unfold textOk
  rw [List.all_eq_true]
  exact fun k hk => h2 k (List.mem_range.1 hk)
theorem idxM_lt {α : Type} (p : α → Bool) (l : List α) : decide (idxM p l < 0) = !l.any p := by
  rw [← idxM_ge, ← decide_not]; congr 1; rw [Int.not_le]
def SpellingV (v : Value) (x : Spelling) : Prop := v = .agg #[.int .i64 x.alphabet, .string x.text] ∧ I64 x.alphabet ∧ x.text.size ≤ 9223372036854775807

set_option maxHeartbeats 1000000 in
set_option maxRecDepth 100000 in
theorem spellingError_any (bv v u : Value) (b : Book) (x : Spelling) (w : World) (hb : BookAt w bv b) (hu : SpellingV u x) :
    Calls Try.prog 125 #[bv, v, u] w fun e w' => e = .returned (.int .i64 (spellingErrM b.alphabets x)) ∧ Ext w w' := by
  obtain ⟨ba, bc, bs, bd, rfl, -, hbl, hbc, -, -, -, hal, -⟩ := hb.open
  obtain ⟨rfl, hai, hts⟩ := hu
  have hai' : -9223372036854775808 ≤ x.alphabet ∧ x.alphabet ≤ 9223372036854775807 := hai
  go_enter Try.func125, Try.ntmps125
  go_wp2_with fail
  refine (within_any _ _ _ [x.alphabet] _ (IntsAt.oneAt (by simp) hai)).mono ?_
  rintro e w' ⟨rfl, rfl⟩
  rw [withinM_one]
  cases h1 : inM x.alphabet 0 (b.alphabets.length - 1)
  · have H1 := Lib.hid h1; clear h1
    go_wp2_with fail
    go_ret
    exact ⟨ret_int (by rw [spellingErrM, if_pos H1.out]), (by first | (with_reducible exact Ext.refl _) | (with_reducible assumption) | (show Below _ _ _; go_grown; done))⟩
  have hin : 0 ≤ x.alphabet ∧ x.alphabet ≤ b.alphabets.length - 1 := by simpa [inM] using h1
  have H1 := Lib.hid h1; clear h1
  go_wp2_with fail
  refine (within_any _ _ _ [(x.text.size : Int)] _ (IntsAt.oneAt (by simp) (by omega))).mono ?_
  rintro e w' ⟨rfl, rfl⟩
  rw [withinM_one]
  cases h2 : inM x.text.size 1 5
  · have H2 := Lib.hid h2; clear h2
    go_wp2_with fail
    go_ret
    exact ⟨ret_int (by rw [spellingErrM, if_neg (by rw [H1.out]; decide), if_pos H2.out]), (by first | (with_reducible exact Ext.refl _) | (with_reducible assumption) | (show Below _ _ _; go_grown; done))⟩
  have H2 := Lib.hid h2; clear h2
  go_wp2_with fail
  have hlt : x.alphabet.toNat < b.alphabets.length := by omega
  have hls : lettersOf b.alphabets x.alphabet = (b.alphabets[x.alphabet.toNat]).letters := by
    rw [lettersOf, List.getElem?_eq_getElem hlt]
  have Hls := Lib.hid hls; clear hls
  go_loopw [27] (fun i wr => ∃ k : Nat, k ≤ x.text.size ∧ i = .int .i64 k ∧ Ext w wr ∧ (wr.cell? ⟨w.heap.size, 1, none⟩ = some (.slice ba b.alphabets.length bc) ∧ wr.cell? ⟨w.heap.size + 1, 0, none⟩ = some (.int .i64 x.alphabet) ∧ wr.cell? ⟨w.heap.size + 1, 1, none⟩ = some (.string x.text)) ∧
    ∀ j, j < k → knownB (lettersOf b.alphabets x.alphabet) x.text j = true) (fun i _ => x.text.size - (intOf i).toNat)
  case atStart => exact ⟨0, Nat.zero_le _, rfl, (by first | (with_reducible exact Ext.refl _) | (with_reducible assumption) | (show Below _ _ _; go_grown; done)), ⟨by simp [go_sem], by simp [go_sem], by simp [go_sem]⟩, fun _ h => absurd h (Nat.not_lt_zero _)⟩
  case round =>
    obtain ⟨k, hk, rfl, hx, ⟨c1, c2, c3⟩, hno⟩ := hrel
    have Hno := Lib.hid hno; clear hno
    by_cases hkt : k < x.text.size
    · go_wp2_with fail
      obtain ⟨_, _, he, -, -, hh⟩ := hal.ext hx
      obtain ⟨bb, off, rfl, -, -, lv, c4, hlv⟩ := hh x.alphabet.toNat hlt
      cases he
      have hbe := byteAt_eq x.text k hkt
      have hi2 : x.alphabet < (b.alphabets.length : Int) := by omega
      clear hh
      apply Facts.wp_region [.val _, .val _, .val _, .val _, .val _, .val _, .val _, .val _, .val _, .val _, .val _, .val _, .val _, .val _] (by kernel_rfl) (by kernel_rfl) trivial ?main
      case main =>
        iterate 12 (refine ⟨fun w1 hx hh => ?_, ?_⟩; focus (clear hh; have e0 := hx.cell c1; have e1 := hx.cell c2; have e2 := hx.cell c3; have e3 := hx.cell c4; go_simp; exact ⟨Ext.refl _, rfl⟩))
        refine ⟨fun w1 hx hh => ?_, ?_⟩
        · clear hh
          go_simp
          refine (letterAt_any _ _ lv w1 (hlv.ext hx)).mono ?_
          rintro e w' ⟨rfl, hx2⟩
          exact ⟨_, rfl, hx2, rfl⟩
        iterate 1 (refine ⟨fun w1 hx hh => ?_, ?_⟩; focus (clear hh; skip; go_simp; exact ⟨Ext.refl _, rfl⟩))
        intro w1 hx1 hh
        have hx3 := hx.trans hx1
        have cs := And.intro (hx1.cell c1) (And.intro (hx1.cell c2) (hx1.cell c3))
        clear hh c1 c2 c3 c4 hlv hx1 hal
        have hkn : decide (idxM (fun y : Letter => y.c == ((x.text[k]'hkt).toNat : Int)) (b.alphabets[x.alphabet.toNat]).letters < 0) = !knownB (lettersOf b.alphabets x.alphabet) x.text k := by
          rw [idxM_lt, Hls.out, knownB, hbe]
        clear hbe
        cases hb : knownB (lettersOf b.alphabets x.alphabet) x.text k
        · rw [hb, Bool.not_false] at hkn
          have Hb := Lib.hid hb; clear hb
          go_simp
          go_wp2
          go_ret
          exact ⟨ret_int (by rw [spellingErrM, if_neg (by rw [H1.out]; decide), if_neg (by rw [H2.out]; decide), if_pos (textOk_no _ _ k hkt Hb.out)]), hx3⟩
        · rw [hb, Bool.not_true] at hkn
          have Hb := Lib.hid hb; clear hb
          go_simp
          go_wp2
          go_roundw
          case rel => exact ⟨k + 1, by omega, by go_num, hx3, cs, fun j hj => by
            rcases Nat.lt_or_ge j k with hjk | hjk
            · exact Hno.out j hjk
            · obtain rfl : j = k := by omega
              exact Hb.out⟩
          case measure => simp [intOf]; omega
    · go_wp2
      go_ret
      exact ⟨ret_int (by rw [spellingErrM, if_neg (by rw [H1.out]; decide), if_neg (by rw [H2.out]; decide), if_neg (by rw [textOk_yes _ _ fun j hj => Hno.out j (by omega)]; decide)]), hx⟩
end Go.Proofs.Ytoifmphpeflliaa

namespace Go.Proofs.Ytoifmphpeflliaa
open Go.RowKit

set_option maxHeartbeats 1000000 in
set_option maxRecDepth 100000 in
theorem firstErrorSpelling_any (bv v : Value) (b : Book) (l : List Spelling) (w : World) (hb : BookAt w bv b) (hl : SpellingsAt w v l) :
    Calls Try.prog 124 #[v, .func (.func 125) #[bv] #[]] w
      fun e w' => e = .returned (.tuple #[.int .i64 (firstErr (fun _ y => spellingErrM b.alphabets y) l).1, .int .i64 (firstErr (fun _ y => spellingErrM b.alphabets y) l).2]) ∧ Ext w w' := by
  obtain ⟨a, cap, rfl, hlc, hcm⟩ := hl.shape
  go_enter Try.func124, Try.ntmps124
  go_wp2
  go_loopw [11] (fun i wr => ∃ k : Nat, k ≤ l.length ∧ i = .int .i64 k ∧ firstErrFrom (fun _ y => spellingErrM b.alphabets y) (l.take k) (l.drop k) = firstErr (fun _ y => spellingErrM b.alphabets y) l ∧ Ext w wr) (fun i _ => l.length - (intOf i).toNat)
  case atStart => exact ⟨0, Nat.zero_le _, rfl, rfl, Ext.refl _⟩
  case round =>
    obtain ⟨k, hk, rfl, hd, hx⟩ := hrel
    have Hd := Lib.hid hd; clear hd
    by_cases hlt : k < l.length
    · have hls := hl.ext hx
      have hkc : k ≤ cap := by omega
      have hcell := hls
      obtain ⟨_, _, he, -, -, hh⟩ := hcell
      obtain ⟨bb, off, rfl, h1, h2, hi, hts⟩ := hh k hlt
      cases he
      generalize hy : l[k] = y at *
      have Hy := Lib.hid hy; clear hy hh
      go_wp2_with fail
      have c0 : (wr.alloc (.cells #[.int .i64 y.alphabet, .string y.text] 42)).cell? ⟨wr.heap.size, 0, none⟩ = some (.int .i64 y.alphabet) := by simp [go_sem]
      have c1 : (wr.alloc (.cells #[.int .i64 y.alphabet, .string y.text] 42)).cell? ⟨wr.heap.size, 1, none⟩ = some (.string y.text) := by simp [go_sem]
      have hlw := hls.ext (ext_alloc wr (.cells #[.int .i64 y.alphabet, .string y.text] 42))
      have hbw := (hb.ext hx).ext (ext_alloc wr (.cells #[.int .i64 y.alphabet, .string y.text] 42))
      apply Facts.wp_region [.val _, .val _, .val _, .val _, .val _, .val (.int .i64 (spellingErrM b.alphabets y)), .val _] (by kernel_rfl) (by kernel_rfl) trivial ?main
      case main =>
        iterate 5 (refine ⟨fun w1 hx hh => ?_, ?_⟩; focus (clear hh; have e0 := hx.cell c0; have e1 := hx.cell c1; go_simp; exact ⟨Ext.refl _, rfl⟩))
        refine ⟨fun w1 hx hh => ?_, ?_⟩
        · clear hh
          go_simp
          refine (spellingError_any bv _ _ b y w1 (hbw.ext hx) ⟨rfl, hi, hts⟩).mono ?_
          rintro e w' ⟨rfl, hx2⟩
          exact ⟨_, rfl, hx2, rfl⟩
        iterate 1 (refine ⟨fun w1 hx hh => ?_, ?_⟩; focus (clear hh; skip; go_simp; exact ⟨Ext.refl _, rfl⟩))
        intro w1 hx1 hh
        have hx3 := hx.trans hx1.of_alloc
        clear hh hx1 c0 c1 hlw hbw
        by_cases h0 : spellingErrM b.alphabets y = 0
        · have H0 := Lib.hid h0
          rw [h0]; clear h0
          go_wp2
          go_roundw
          case rel => exact ⟨k + 1, by omega, by go_num, (firstErrFrom_step _ l k hlt y Hy.out H0.out).trans Hd.out, hx3⟩
          case measure => simp [intOf]; omega
        · have H0 := Lib.hid h0
          have h1 : (spellingErrM b.alphabets y != 0) = true := by simpa using h0
          clear h0
          go_wp2
          go_ret2
          have := Hd.out
          rw [firstErrFrom_hit _ l k hlt y Hy.out H0.out] at this
          exact ⟨ret_two (by rw [← this]), hx3⟩
    · go_wp2
      go_ret2
      have := Hd.out
      rw [firstErrFrom_end _ _ _ (by omega)] at this
      exact ⟨ret_two (by rw [← this]), hx⟩
end Go.Proofs.Ytoifmphpeflliaa

namespace Go.Proofs.Ytoifmphpeflliaa
open Go.RowKit

def alphErr (b : Book) : Int × Int := firstErr (alphabetErrM b.sounds) b.alphabets
def spelErr (b : Book) : Int × Int := firstErr (fun _ y => spellingErrM b.alphabets y) b.spellings
def checkM (b : Book) : Int × Int × Int :=
  if inM b.sounds 1 4 = false then (1, 0, 7) else if inM b.alphabets.length 1 3 = false then (2, 0, 3) else if (alphErr b).2 ≠ 0 then (2, (alphErr b).1, (alphErr b).2)
  else if (5 : Int) < b.spellings.length then (3, 0, 3) else if (spelErr b).2 ≠ 0 then (3, (spelErr b).1, (spelErr b).2) else (0, 0, 0)
theorem ret_three {a b c : Int} {t : Int × Int × Int} (h : (a, b, c) = t) : Ending.returned (.tuple #[.int .i64 a, .int .i64 b, .int .i64 c]) = .returned (.tuple #[.int .i64 t.1, .int .i64 t.2.1, .int .i64 t.2.2]) := by subst h; rfl

set_option maxHeartbeats 1000000 in
set_option maxRecDepth 100000 in
theorem check_any (bv : Value) (b : Book) (w : World) (hb : BookAt w bv b) :
    Calls Try.prog 82 #[bv] w fun e w' => e = .returned (.tuple #[.int .i64 (checkM b).1, .int .i64 (checkM b).2.1, .int .i64 (checkM b).2.2]) ∧ Ext w w' := by
  obtain ⟨ba, bc, bs, bd, rfl, hbi, hbl, hbc, hsl, hsc, -, hal, hsp⟩ := hb.open
  have hbi' : -9223372036854775808 ≤ b.sounds ∧ b.sounds ≤ 9223372036854775807 := hbi
  have hA := Lib.hid hal
  have hP := Lib.hid hsp
  clear hal hsp
  go_enter Try.func82, Try.ntmps82
  go_wp2_with fail
  refine (within_any _ _ _ [b.sounds] _ (IntsAt.oneAt (by simp) hbi)).mono ?_
  rintro e w' ⟨rfl, rfl⟩
  rw [withinM_one]
  cases h1 : inM b.sounds 1 4
  · have H1 := Lib.hid h1; clear h1
    go_wp2_with fail
    go_ret3
    exact ⟨ret_three (by rw [checkM, if_pos H1.out]), (by first | (with_reducible exact Ext.refl _) | (with_reducible assumption) | (show Below _ _ _; go_grown; done))⟩
  have hS : 1 ≤ b.sounds ∧ b.sounds ≤ 4 := by simpa [inM] using h1
  have H1 := Lib.hid h1; clear h1
  go_wp2_with fail
  refine (within_any _ _ _ [(b.alphabets.length : Int)] _ (IntsAt.oneAt (by simp) (by omega))).mono ?_
  rintro e w' ⟨rfl, rfl⟩
  rw [withinM_one]
  cases h2 : inM b.alphabets.length 1 3
  · have H2 := Lib.hid h2; clear h2
    go_wp2_with fail
    go_ret3
    exact ⟨ret_three (by rw [checkM, if_neg (by rw [H1.out]; decide), if_pos H2.out]), (by first | (with_reducible exact Ext.refl _) | (with_reducible assumption) | (show Below _ _ _; go_grown; done))⟩
  have H2 := Lib.hid h2; clear h2
  go_wp2_with fail
  refine (firstErrorAlphabet_any _ _ b hS b.alphabets _ (hb.ext (by first | (with_reducible exact Ext.refl _) | (with_reducible assumption) | (show Below _ _ _; go_grown; done))) (hA.out.ext (by first | (with_reducible exact Ext.refl _) | (with_reducible assumption) | (show Below _ _ _; go_grown; done)))).mono ?_
  rintro e w1 ⟨rfl, hx1⟩
  have x1 : Ext w w1 := Ext.trans (by first | (with_reducible exact Ext.refl _) | (with_reducible assumption) | (show Below _ _ _; go_grown; done)) hx1
  have p0 : w1.cell? ⟨w.heap.size + 1, 0, none⟩ = some (.int .i64 b.sounds) := hx1.cell (by simp [go_sem])
  have p1 : w1.cell? ⟨w.heap.size + 1, 1, none⟩ = some (.slice ba b.alphabets.length bc) := hx1.cell (by simp [go_sem])
  have p2 : w1.cell? ⟨w.heap.size + 1, 2, none⟩ = some (.slice bs b.spellings.length bd) := hx1.cell (by simp [go_sem])
  clear hx1
  generalize hf : firstErr (alphabetErrM b.sounds) b.alphabets = f1
  have Hf : Hid (alphErr b = f1) := Lib.hid hf
  clear hf
  obtain ⟨at1, e1⟩ := f1
  by_cases h3 : e1 = 0
  rotate_left
  · have h3' : (e1 != 0) = true := by simpa using h3
    have H3 := Lib.hid h3; clear h3
    go_wp2_with fail
    go_ret3
    exact ⟨ret_three (by rw [checkM, if_neg (by rw [H1.out]; decide), if_neg (by rw [H2.out]; decide), Hf.out, if_pos H3.out]), x1⟩
  subst h3
  by_cases h4 : (5 : Int) < b.spellings.length
  · go_wp2_with fail
    go_ret3
    exact ⟨ret_three (by rw [checkM, if_neg (by rw [H1.out]; decide), if_neg (by rw [H2.out]; decide), Hf.out, if_neg (fun h => h rfl), if_pos (by omega)]), x1⟩
  go_wp2_with fail
  refine (firstErrorSpelling_any _ _ b b.spellings _ (hb.ext x1) (hP.out.ext x1)).mono ?_
  rintro e w2 ⟨rfl, hx2⟩
  have x2 := x1.trans hx2
  generalize hg : firstErr (fun _ y => spellingErrM b.alphabets y) b.spellings = f2
  have Hg : Hid (spelErr b = f2) := Lib.hid hg
  clear hg
  obtain ⟨at2, e2⟩ := f2
  by_cases h5 : e2 = 0
  · subst h5
    go_wp2_with fail
    go_ret3
    exact ⟨ret_three (by rw [checkM, if_neg (by rw [H1.out]; decide), if_neg (by rw [H2.out]; decide), Hf.out, if_neg (fun h => h rfl), if_neg (by omega), Hg.out, if_neg (fun h => h rfl)]), x2⟩
  · have h5' : (e2 != 0) = true := by simpa using h5
    have H5 := Lib.hid h5; clear h5
    go_wp2_with fail
    go_ret3
    exact ⟨ret_three (by rw [checkM, if_neg (by rw [H1.out]; decide), if_neg (by rw [H2.out]; decide), Hf.out, if_neg (fun h => h rfl), if_neg (by omega), Hg.out, if_pos H5.out]), x2⟩

def errM (b : Book) : Int := (checkM b).2.2
/-- the error of a book, then that of indices -/
def openM (b : Book) (l : List Int) : Int := if errM b ≠ 0 then errM b else if withinM 0 (b.spellings.length - 1) l = false then 4 else 0
def emptyBook : Value := .agg #[.int .i64 0, .slice none 0 0, .slice none 0 0]
/-- a book, if there is no error -/
def OpenV (w : World) (b : Book) (e : Int) (v : Value) : Prop := ∃ u, v = .tuple #[u, .int .i64 e] ∧ (e = 0 → BookAt w u b) ∧ (e ≠ 0 → u = emptyBook)

set_option maxHeartbeats 1000000 in
set_option maxRecDepth 100000 in
theorem open_any (bv v : Value) (b : Book) (l : List Int) (w : World) (hb : BookAt w bv b) (hl : IntsAt w v l) :
    Calls Try.prog 39 #[bv, v] w fun e w' => ∃ u, e = .returned u ∧ OpenV w' b (openM b l) u ∧ Ext w w' := by
  obtain ⟨ba, bc, bs, bd, rfl, hbi, hbl, hbc, hsl, hsc, -⟩ := hb.open
  go_enter Try.func39, Try.ntmps39
  go_wp2_with fail
  refine (check_any _ b _ (hb.ext (by first | (with_reducible exact Ext.refl _) | (with_reducible assumption) | (show Below _ _ _; go_grown; done)))).mono ?_
  rintro e w1 ⟨rfl, hx1⟩
  have x1 : Ext w w1 := Ext.trans (by first | (with_reducible exact Ext.refl _) | (with_reducible assumption) | (show Below _ _ _; go_grown; done)) hx1
  have p0 : w1.cell? ⟨w.heap.size, 0, none⟩ = some (.int .i64 b.sounds) := hx1.cell (by simp [go_sem])
  have p1 : w1.cell? ⟨w.heap.size, 1, none⟩ = some (.slice ba b.alphabets.length bc) := hx1.cell (by simp [go_sem])
  have p2 : w1.cell? ⟨w.heap.size, 2, none⟩ = some (.slice bs b.spellings.length bd) := hx1.cell (by simp [go_sem])
  have q0 : w1.cell? ⟨w.heap.size + 1, 0, none⟩ = some (.int .i64 0) := hx1.cell (by simp [go_sem])
  have q1 : w1.cell? ⟨w.heap.size + 1, 1, none⟩ = some (.slice none 0 0) := hx1.cell (by simp [go_sem])
  have q2 : w1.cell? ⟨w.heap.size + 1, 2, none⟩ = some (.slice none 0 0) := hx1.cell (by simp [go_sem])
  have z1 : w.heap.size + 1 < w1.heap.size := cell_lt q0
  have fz : ∀ o, w1.frozen? ⟨w.heap.size + 1, o, none⟩ = false := fun o => by rw [hx1.frozen (by simp)]; simp [go_sem]
  have f0 := fz 0
  have f1 := fz 1
  have f2 := fz 2
  clear fz hx1
  generalize hc : checkM b = c
  have Hc := Lib.hid hc
  clear hc
  obtain ⟨pt, at1, er⟩ := c
  by_cases h0 : er = 0
  rotate_left
  · have h0' : (er != 0) = true := by simpa using h0
    have H0 := Lib.hid h0; clear h0
    go_wp2_with fail
    have r := three_cells q0 q1 q2 (.int .i64 0) (.slice none 0 0) (.slice none 0 0)
    refine bodyPost_ret (v := .tuple #[emptyBook, .int .i64 er]) (by simp [results, Try.results39, go_sem, r.1, r.2.1, r.2.2, emptyBook]) rfl ⟨_, rfl, ⟨_, by rw [openM, errM, Hc.out, if_pos H0.out], fun h => ?_, fun _ => rfl⟩, ?_⟩
    · rw [openM, errM, Hc.out, if_pos H0.out] at h; exact absurd h H0.out
    · exact ((x1.setCell (by simp) _).setCell (by simp) _).setCell (by simp) _
  subst h0
  have hopen : ∀ x, openM b l = x ↔ (if withinM 0 (b.spellings.length - 1) l = false then 4 else 0) = x := fun x => by rw [openM, errM, Hc.out, if_neg (fun h => h rfl)]
  have Hopen := Lib.hid hopen; clear hopen
  go_wp2_with fail
  refine (within_any _ _ _ l _ (hl.ext x1)).mono ?_
  rintro e w' ⟨rfl, rfl⟩
  cases h1 : withinM 0 (b.spellings.length - 1) l
  · have H1 := Lib.hid h1; clear h1
    have ho : openM b l = 4 := (Hopen.out 4).2 (if_pos H1.out)
    have Ho := Lib.hid ho; clear ho
    go_wp2_with fail
    have r := three_cells q0 q1 q2 (.int .i64 0) (.slice none 0 0) (.slice none 0 0)
    refine bodyPost_ret (v := .tuple #[emptyBook, .int .i64 4]) (by simp [results, Try.results39, go_sem, r.1, r.2.1, r.2.2, emptyBook]) rfl ⟨_, rfl, ⟨_, by rw [Ho.out], fun h => ?_, fun _ => rfl⟩, ?_⟩
    · rw [Ho.out] at h; cases h
    · exact ((x1.setCell (by simp) _).setCell (by simp) _).setCell (by simp) _
  · have H1 := Lib.hid h1; clear h1
    have ho : openM b l = 0 := (Hopen.out 0).2 (if_neg (by rw [H1.out]; decide))
    have Ho := Lib.hid ho; clear ho
    go_wp2_with fail
    have r := three_cells q0 q1 q2 (.int .i64 b.sounds) (.slice ba b.alphabets.length bc) (.slice bs b.spellings.length bd)
    have x3 : Ext w (((w1.setCell ⟨w.heap.size + 1, 0, none⟩ (.int .i64 b.sounds)).setCell ⟨w.heap.size + 1, 1, none⟩ (.slice ba b.alphabets.length bc)).setCell ⟨w.heap.size + 1, 2, none⟩ (.slice bs b.spellings.length bd)) :=
      ((x1.setCell (by simp) _).setCell (by simp) _).setCell (by simp) _
    refine bodyPost_ret (v := .tuple #[.agg #[.int .i64 b.sounds, .slice ba b.alphabets.length bc, .slice bs b.spellings.length bd], .int .i64 0]) (by simp [results, Try.results39, go_sem, r.1, r.2.1, r.2.2]) rfl ⟨_, rfl, ⟨_, by rw [Ho.out], fun _ => hb.ext x3, fun h => absurd Ho.out h⟩, x3⟩
end Go.Proofs.Ytoifmphpeflliaa
