/-
  WHAT alphabetError AND check.First RETURN: the first error of an alphabet; the first alphabet with an error.
-/
import Derived.Test.YtbodmgilcohfjaaFirst
namespace Go.Proofs.Ytbodmgilcohfjaa
open Go.RowKit

def alphabetErrM (S : Int) (before : List Alphabet) (x : Alphabet) : Int :=
  if nameM x.name = false then 6 else if (before.any fun y => y.name.toList == x.name.toList) = true then 5 else if inM x.letters.length 1 6 = false then 3 else (firstErr (letterErrM S) x.letters).2

set_option maxHeartbeats 1000000 in
theorem alphabetError_any (bv v u : Value) (b : Book) (hS : 1 ≤ b.sounds ∧ b.sounds ≤ 4) (l : List Alphabet) (x : Alphabet) (w : World) (hb : BookAt w bv b) (hl : AlphabetsAt w v l) (hu : AlphabetV w u x) :
    Calls Try.prog 46 #[bv, v, u] w fun e w' => e = .returned (.int .i64 (alphabetErrM b.sounds l x)) ∧ Ext w w' := by
  obtain ⟨ba, bc, bs, bd, rfl, -⟩ := hb.open
  obtain ⟨lv, rfl, hns, hlv⟩ := hu
  obtain ⟨a, cap, rfl, hlc, hcm⟩ := hlv.shape
  go_enter Try.func46, Try.ntmps46
  go_wp2_with fail
  refine (name_any x.name _ hns).mono ?_
  rintro e w1 ⟨rfl, hx1⟩
  have x1 : Ext w w1 := hx1.of_alloc.of_alloc
  have p0 : w1.cell? ⟨w.heap.size + 1, 0, none⟩ = some (.string x.name) := hx1.cell (by simp [go_sem])
  have p1 : w1.cell? ⟨w.heap.size + 1, 1, none⟩ = some (.slice a x.letters.length cap) := hx1.cell (by simp [go_sem])
  have q0 : w1.cell? ⟨w.heap.size, 0, none⟩ = some (.int .i64 b.sounds) := hx1.cell (by simp [go_sem])
  have q1 : w1.cell? ⟨w.heap.size, 1, none⟩ = some (.slice ba b.alphabets.length bc) := hx1.cell (by simp [go_sem])
  have q2 : w1.cell? ⟨w.heap.size, 2, none⟩ = some (.slice bs b.spellings.length bd) := hx1.cell (by simp [go_sem])
  cases hn : nameM x.name
  · have Hn := Lib.hid hn; clear hn
    go_wp2_with fail
    go_ret
    exact ⟨ret_int (by rw [alphabetErrM, if_pos Hn.out]), x1⟩
  have Hn := Lib.hid hn; clear hn
  go_wp2_with fail
  refine (containsAlphabet_any l x _ v w1 (hl.ext x1) p0).mono ?_
  rintro e w2 ⟨rfl, hx2⟩
  have x2 := x1.trans hx2
  cases ha : l.any fun y => y.name.toList == x.name.toList
  rotate_left
  · have Ha := Lib.hid ha; clear ha
    go_wp2_with fail
    go_ret
    exact ⟨ret_int (by rw [alphabetErrM, if_neg (by rw [Hn.out]; decide), if_pos Ha.out]), x2⟩
  have Ha := Lib.hid ha; clear ha
  replace p0 := hx2.cell p0
  replace p1 := hx2.cell p1
  replace q0 := hx2.cell q0
  replace q1 := hx2.cell q1
  replace q2 := hx2.cell q2
  have z0 := cell_lt q0
  have z1 := cell_lt p0
  go_wp2_with fail
  refine (within_any _ _ _ [(x.letters.length : Int)] _ (IntsAt.one (by omega))).mono ?_
  rintro e w' ⟨rfl, rfl⟩
  rw [withinM_one]
  have x3 := x2.alloc (.cells #[.int .i64 (x.letters.length : Int)] 3)
  have hx3 := ext_alloc w2 (.cells #[.int .i64 (x.letters.length : Int)] 3)
  cases hi : inM x.letters.length 1 6
  · have Hi := Lib.hid hi; clear hi
    go_wp2_with fail
    go_ret
    exact ⟨ret_int (by rw [alphabetErrM, if_neg (by rw [Hn.out]; decide), if_neg (by rw [Ha.out]; decide), if_pos Hi.out]), x3⟩
  have Hi := Lib.hid hi; clear hi
  go_wp2_with fail
  refine (firstErrorLetter_any _ _ b hS x.letters _ (hb.ext x3) (hlv.ext x3)).mono ?_
  rintro e w4 ⟨rfl, hx4⟩
  go_wp2
  go_ret
  exact ⟨ret_int (by rw [alphabetErrM, if_neg (by rw [Hn.out]; decide), if_neg (by rw [Ha.out]; decide), if_neg (by rw [Hi.out]; decide)]), x3.trans hx4⟩
set_option maxHeartbeats 1000000 in
set_option maxRecDepth 100000 in
theorem firstErrorAlphabet_any (bv v : Value) (b : Book) (hS : 1 ≤ b.sounds ∧ b.sounds ≤ 4) (l : List Alphabet) (w : World) (hb : BookAt w bv b) (hl : AlphabetsAt w v l) :
    Calls Try.prog 45 #[v, .func (.func 46) #[bv] #[]] w
      fun e w' => e = .returned (.tuple #[.int .i64 (firstErr (alphabetErrM b.sounds) l).1, .int .i64 (firstErr (alphabetErrM b.sounds) l).2]) ∧ Ext w w' := by
  obtain ⟨a, cap, rfl, hlc, hcm⟩ := hl.shape
  go_enter Try.func45, Try.ntmps45
  go_wp2
  go_loopw [11] (fun i wr => ∃ k : Nat, k ≤ l.length ∧ i = .int .i64 k ∧ firstErrFrom (alphabetErrM b.sounds) (l.take k) (l.drop k) = firstErr (alphabetErrM b.sounds) l ∧ Ext w wr) (fun i _ => l.length - (intOf i).toNat)
  case atStart => exact ⟨0, Nat.zero_le _, rfl, rfl, Ext.refl _⟩
  case round =>
    obtain ⟨k, hk, rfl, hd, hx⟩ := hrel
    have Hd := Lib.hid hd; clear hd
    by_cases hlt : k < l.length
    · have hls := hl.ext hx
      have hkc : k ≤ cap := by omega
      have hcell := hls
      obtain ⟨_, _, he, -, -, hh⟩ := hcell
      obtain ⟨bb, off, rfl, h1, hns, u, h2, hu⟩ := hh k hlt
      cases he
      generalize hy : l[k] = y at *
      have Hy := Lib.hid hy; clear hy hh
      have hsh := hu.shape
      obtain ⟨ua, uc, rfl, -⟩ := hsh
      go_wp2_with fail
      have c0 : (wr.alloc (.cells #[.string y.name, .slice ua y.letters.length uc] 67)).cell? ⟨wr.heap.size, 0, none⟩ = some (.string y.name) := by simp [go_sem]
      have c1 : (wr.alloc (.cells #[.string y.name, .slice ua y.letters.length uc] 67)).cell? ⟨wr.heap.size, 1, none⟩ = some (.slice ua y.letters.length uc) := by simp [go_sem]
      have hlw := hls.ext (ext_alloc wr (.cells #[.string y.name, .slice ua y.letters.length uc] 67))
      have hbw := (hb.ext hx).ext (ext_alloc wr (.cells #[.string y.name, .slice ua y.letters.length uc] 67))
      apply Facts.wp_region [.val _, .val _, .val _, .val _, .val _, .val (.int .i64 (alphabetErrM b.sounds (l.take k) y)), .val _] (by kernel_rfl) (by kernel_rfl) trivial ?main
      case main =>
        iterate 5 (refine ⟨fun w1 hx hh => ?_, ?_⟩; focus (clear hh; have e0 := hx.cell c0; have e1 := hx.cell c1; go_simp; exact ⟨Ext.refl _, rfl⟩))
        refine ⟨fun w1 hx hh => ?_, ?_⟩
        · clear hh
          go_simp
          refine (alphabetError_any bv _ _ b hS (l.take k) y w1 (hbw.ext hx) ((hlw.ext hx).take k (by omega)) ⟨_, rfl, hns, (hu.ext (ext_alloc _ _)).ext hx⟩).mono ?_
          rintro e w' ⟨rfl, hx2⟩
          exact ⟨_, rfl, hx2, rfl⟩
        iterate 1 (refine ⟨fun w1 hx hh => ?_, ?_⟩; focus (clear hh; skip; go_simp; exact ⟨Ext.refl _, rfl⟩))
        intro w1 hx1 hh
        have hx3 := hx.trans hx1.of_alloc
        clear hh hx1 c0 c1 hlw hbw
        by_cases h0 : alphabetErrM b.sounds (l.take k) y = 0
        · have H0 := Lib.hid h0
          rw [h0]; clear h0
          go_wp2
          go_roundw
          case rel => exact ⟨k + 1, by omega, by go_num, (firstErrFrom_step _ l k hlt y Hy.out H0.out).trans Hd.out, hx3⟩
          case measure => simp [intOf]; omega
        · have H0 := Lib.hid h0
          have h1 : (alphabetErrM b.sounds (l.take k) y != 0) = true := by simpa using h0
          clear h0
          go_wp2
          go_ret2
          have := Hd.out
          rw [firstErrFrom_hit _ l k hlt y Hy.out H0.out] at this
          exact ⟨ret_two (by rw [← this]), hx3⟩
    · go_wp2
      go_ret2
      have := Hd.out
      rw [firstErrFrom_end _ _ _ (by omega)] at this
      exact ⟨ret_two (by rw [← this]), hx⟩
end Go.Proofs.Ytbodmgilcohfjaa
