/-
  A FORM THAT IS OPENED: open and openFor of the program.
  WHAT THE SMALL FUNCTIONS ON LISTS OF NUMBERS RETURN: the error of something heard, whether numbers are ascending, the bits of some indices, the indices of some bits.
  WHAT bits AND members RETURN: the bits of some indices below 5, the indices of bits below 32.
  WHAT members RETURNS: the indices of bits below 32, ascending.
  WHAT THE FUNCTIONS ON A SOUND STRING RETURN: with one more sound; whether a letter gives a sound.
  WHAT slices.Compare, compare, heardAs AND list RETURN: how sound strings are compared, made and handed out.
  HOW TWO ARRAYS OF FIVE NUMBERS, AND TWO SOUND STRINGS, ARE COMPARED.
  WHAT compare RETURNS: shorter sound strings first, then sound by sound.
  WHAT compare, heardAs AND list RETURN, said of lists.
  WHAT list RETURNS: the sounds of a sound string, in new memory.
-/
import Derived.Test.YtcamegaimleomaaGreatBunAB
import Derived.Outline
import Derived.Maps.AppendAt
namespace Go.Proofs.YtcamegaimleomaaGreat
set_option linter.unusedSimpArgs false
set_option linter.unusedVariables false
open Go.RowKit
set_option linter.unusedVariables false

theorem two_cells {w : World} {B : Nat} {x y : Value} (h0 : w.cell? ⟨B, 0, none⟩ = some x) (h1 : w.cell? ⟨B, 1, none⟩ = some y) (a b : Value) :
    ((w.setCell ⟨B, 0, none⟩ a).setCell ⟨B, 1, none⟩ b).cell? ⟨B, 0, none⟩ = some a ∧ ((w.setCell ⟨B, 0, none⟩ a).setCell ⟨B, 1, none⟩ b).cell? ⟨B, 1, none⟩ = some b :=
  ⟨set_other (set_cell h0 a) (.inr (by simp)) b, set_cell (set_other h1 (.inr (by simp)) a) b⟩
set_option maxHeartbeats 1000000 in
set_option maxRecDepth 100000 in
theorem openF_any (sv : Value) (s : Shelf) (n : Int) (hn : I64 n) (W w : World) (hWx : Ext W w) (hsW : ShelfAt W sv s) :
    Calls Tryz.prog 89 #[sv, .int .i64 n] w fun e w' => ∃ u, e = .returned u ∧ OpenF W s n (openErrM s n) u ∧ Ext w w' := by
  have hs := hsW.ext hWx
  obtain ⟨a, c, rfl, hw, hc1, hc2, hf⟩ := hsW.open
  clear hsW
  go_enter Tryz.func89, Tryz.ntmps89
  go_wp2_with fail
  refine (checkS_any _ s _ (hs.ext (by first | (with_reducible exact Ext.refl _) | (with_reducible assumption) | (show Below _ _ _; go_grown; done)))).mono ?_
  rintro e w1 ⟨rfl, hx1⟩
  have x1 : Ext w w1 := Ext.trans (by first | (with_reducible exact Ext.refl _) | (with_reducible assumption) | (show Below _ _ _; go_grown; done)) hx1
  have p0 : w1.cell? ⟨w.heap.size, 0, none⟩ = some (.int .i64 s.width) := hx1.cell (by simp [go_sem])
  have p1 : w1.cell? ⟨w.heap.size, 1, none⟩ = some (.slice a s.forms.length c) := hx1.cell (by simp [go_sem])
  have q0 : w1.cell? ⟨w.heap.size + 1, 0, none⟩ = some (.string ⟨#[]⟩) := hx1.cell (by simp [go_sem])
  have q1 : w1.cell? ⟨w.heap.size + 1, 1, none⟩ = some (.slice none 0 0) := hx1.cell (by simp [go_sem])
  have z1 : w.heap.size + 1 < w1.heap.size := cell_lt q0
  have z0 : w.heap.size < w1.heap.size := cell_lt p0
  have fz : ∀ o, w1.frozen? ⟨w.heap.size + 1, o, none⟩ = false := fun o => by rw [hx1.frozen (by simp)]; simp [go_sem]
  have f0 := fz 0
  have f1 := fz 1
  clear fz hx1
  generalize hc : checkS s = cc
  have Hc := Lib.hid hc
  clear hc
  obtain ⟨pt, at1, er⟩ := cc
  by_cases h0 : er = 0
  rotate_left
  · have h0' : (er != 0) = true := by simpa using h0
    have H0 := Lib.hid h0; clear h0
    have ho : openErrM s n = er := by rw [openErrM, errS, Hc.out, if_pos H0.out]
    have Ho := Lib.hid ho; clear ho
    clear hf
    go_wp2_with fail
    have r := two_cells q0 q1 (.string ⟨#[]⟩) (.slice none 0 0)
    refine bodyPost_ret (v := .tuple #[emptyForm, .int .i64 er]) (by simp [results, Tryz.results89, go_sem, r.1, r.2, emptyForm]) rfl ⟨_, rfl, ⟨_, by rw [Ho.out], fun h => ?_, fun _ => rfl⟩, ?_⟩
    · rw [Ho.out] at h; exact absurd h H0.out
    · exact (x1.setCell (by simp) _).setCell (by simp) _
  subst h0
  have hopen : openErrM s n = if inM n 0 (s.forms.length - 1) = false then 4 else 0 := by rw [openErrM, errS, Hc.out, if_neg (fun h => h rfl)]
  have wl : IntKind.i64.wrap ((s.forms.length : Int) - 1) = (s.forms.length : Int) - 1 := IntWalk.i64_in _ (by omega)
  have Hopen := Lib.hid hopen; clear hopen
  have Hf := Lib.hid hf
  clear hf
  go_wp2_with fail
  refine (within_any _ _ _ [n] _ (IntsAt.one hn)).mono ?_
  rintro e w' ⟨rfl, rfl⟩
  rw [withinM_one]
  cases h1 : inM n 0 (s.forms.length - 1)
  · have ho : openErrM s n = 4 := by rw [Hopen.out, if_pos h1]
    have Ho := Lib.hid ho; clear ho h1
    go_wp2_with fail
    have r := two_cells q0 q1 (.string ⟨#[]⟩) (.slice none 0 0)
    have r0 := (ext_alloc ((w1.setCell ⟨w.heap.size + 1, 0, none⟩ (.string ⟨#[]⟩)).setCell ⟨w.heap.size + 1, 1, none⟩ (.slice none 0 0)) (.cells #[.int .i64 n] 3)).cell r.1
    have r1 := (ext_alloc ((w1.setCell ⟨w.heap.size + 1, 0, none⟩ (.string ⟨#[]⟩)).setCell ⟨w.heap.size + 1, 1, none⟩ (.slice none 0 0)) (.cells #[.int .i64 n] 3)).cell r.2
    refine bodyPost_ret (v := .tuple #[emptyForm, .int .i64 4]) (by simp [results, Tryz.results89, go_sem, r0, r1, emptyForm]) rfl ⟨_, rfl, ⟨_, by rw [Ho.out], fun h => ?_, fun _ => rfl⟩, ?_⟩
    · rw [Ho.out] at h; cases h
    · exact ((x1.setCell (by simp) _).setCell (by simp) _).alloc _
  · have ho : openErrM s n = 0 := by rw [Hopen.out, if_neg (by rw [h1]; decide)]
    have Ho := Lib.hid ho; clear ho
    have hr : 0 ≤ n ∧ n ≤ s.forms.length - 1 := by simpa [inM] using h1
    clear h1
    obtain ⟨k, rfl⟩ : ∃ k : Nat, n = k := ⟨n.toNat, by omega⟩
    have hk : k < s.forms.length := by omega
    have k1 : (k : Int) < (s.forms.length : Int) := by omega
    obtain ⟨fb, fo, rfl, h1, hns, u, h2, hp⟩ := Hf.out.get hk
    replace h1 := x1.cell (hWx.cell h1)
    replace h2 := x1.cell (hWx.cell h2)
    have Hnm := Lib.hid hns
    have Hp := Lib.hid hp
    have zf : fb < w1.heap.size := cell_lt h1
    obtain ⟨ua, uc, rfl, -⟩ := hp.shape
    clear hp hns
    go_wp2_with fail
    have r := two_cells q0 q1 (.string (s.forms[k]).name) (.slice ua (s.forms[k]).parts.length uc)
    have r0 := (ext_alloc ((w1.setCell ⟨w.heap.size + 1, 0, none⟩ (.string (s.forms[k]).name)).setCell ⟨w.heap.size + 1, 1, none⟩ (.slice ua (s.forms[k]).parts.length uc)) (.cells #[.int .i64 k] 3)).cell r.1
    have r1 := (ext_alloc ((w1.setCell ⟨w.heap.size + 1, 0, none⟩ (.string (s.forms[k]).name)).setCell ⟨w.heap.size + 1, 1, none⟩ (.slice ua (s.forms[k]).parts.length uc)) (.cells #[.int .i64 k] 3)).cell r.2
    have x3 : Ext w (((w1.setCell ⟨w.heap.size + 1, 0, none⟩ (.string (s.forms[k]).name)).setCell ⟨w.heap.size + 1, 1, none⟩ (.slice ua (s.forms[k]).parts.length uc)).alloc (.cells #[.int .i64 k] 3)) := ((x1.setCell (by simp) _).setCell (by simp) _).alloc _
    refine bodyPost_ret (v := .tuple #[.agg #[.string (s.forms[k]).name, .slice ua (s.forms[k]).parts.length uc], .int .i64 0]) (by simp [results, Tryz.results89, go_sem, r0, r1]) rfl ⟨_, rfl, ⟨_, by rw [Ho.out], fun _ => ⟨k, hk, rfl, ⟨_, rfl, Hnm.out, Hp.out⟩⟩, fun h => absurd Ho.out h⟩, x3⟩
/-- the error of a shelf and a form, and of a letter -/
def openForErrM (s : Shelf) (n : Int) (l : List ByteArray) : Int := if openErrM s n ≠ 0 then openErrM s n else letterErrL l
/-- a form, if there is no error; nothing is said of it if there is one -/
def OpenG (w : World) (s : Shelf) (n : Int) (e : Int) (v : Value) : Prop := ∃ u, v = .tuple #[u, .int .i64 e] ∧ (e = 0 → ∃ i : Nat, ∃ hi : i < s.forms.length, n = i ∧ FormV w u s.forms[i])
set_option maxHeartbeats 1000000 in
set_option maxRecDepth 100000 in
theorem openFor_any (sv v : Value) (s : Shelf) (n : Int) (hn : I64 n) (l : List ByteArray) (W w : World) (hWx : Ext W w) (hsW : ShelfAt W sv s) (hl : StrsAt w v l) :
    Calls Tryz.prog 48 #[sv, .int .i64 n, v] w fun e w' => ∃ u, e = .returned u ∧ OpenG W s n (openForErrM s n l) u ∧ Ext w w' := by
  obtain ⟨a, c, rfl, hw, hc1, hc2, hf⟩ := hsW.open
  clear hf
  go_enter Tryz.func48, Tryz.ntmps48
  go_wp2_with fail
  refine (openF_any _ s n hn W _ (hWx.trans (by first | (with_reducible exact Ext.refl _) | (with_reducible assumption) | (show Below _ _ _; go_grown; done))) hsW).mono ?_
  rintro e w1 ⟨uu, rfl, ⟨u, rfl, h1, h2⟩, hx1⟩
  have x1 : Ext w w1 := Ext.trans (by first | (with_reducible exact Ext.refl _) | (with_reducible assumption) | (show Below _ _ _; go_grown; done)) hx1
  have q0 : w1.cell? ⟨w.heap.size + 1, 0, none⟩ = some (.string ⟨#[]⟩) := hx1.cell (by simp [go_sem])
  have q1 : w1.cell? ⟨w.heap.size + 1, 1, none⟩ = some (.slice none 0 0) := hx1.cell (by simp [go_sem])
  have z1 : w.heap.size + 1 < w1.heap.size := cell_lt q0
  have fz : ∀ o, w1.frozen? ⟨w.heap.size + 1, o, none⟩ = false := fun o => by rw [hx1.frozen (by simp)]; simp [go_sem]
  have f0 := fz 0
  have f1 := fz 1
  clear fz hx1
  obtain ⟨nm, pa, pn, pc, rfl⟩ : ∃ nm pa pn pc, u = .agg #[.string nm, .slice pa pn pc] := by
    by_cases h : openErrM s n = 0
    · obtain ⟨i, hi, -, uu, rfl, -, hp⟩ := h1 h
      obtain ⟨pa, pc, rfl, -⟩ := hp.shape
      exact ⟨_, _, _, _, rfl⟩
    · exact ⟨_, _, _, _, h2 h⟩
  clear h2
  have H1 := Lib.hid h1
  clear h1
  by_cases h0 : openErrM s n = 0
  · have ho : openForErrM s n l = letterErrL l := by rw [openForErrM, if_neg (by simpa using h0)]
    have hH := H1.out h0
    have Ho := Lib.hid ho
    have HH := Lib.hid hH
    rw [h0]
    clear ho hH h0 H1
    have hlw := hl.ext (x1.trans (ext_alloc w1 (.cells #[.string nm, .slice pa pn pc] 92)))
    go_wp2_with fail
    refine (letterError_any' _ l _ hlw).mono ?_
    rintro e w2 ⟨rfl, hx2⟩
    have x2 : Ext w1 w2 := hx2.of_alloc
    have b0 : w2.cell? ⟨w1.heap.size, 0, none⟩ = some (.string nm) := hx2.cell (by simp [go_sem])
    have b1 : w2.cell? ⟨w1.heap.size, 1, none⟩ = some (.slice pa pn pc) := hx2.cell (by simp [go_sem])
    have f0' := (x2.frozen (p := ⟨w.heap.size + 1, 0, none⟩) z1).trans f0
    have f1' := (x2.frozen (p := ⟨w.heap.size + 1, 1, none⟩) z1).trans f1
    replace q0 := x2.cell q0
    replace q1 := x2.cell q1
    replace z1 : w.heap.size + 1 < w2.heap.size := cell_lt q0
    have z2 : w1.heap.size < w2.heap.size := cell_lt b0
    clear f0 f1 hx2 hlw
    go_wp2_with fail
    have r := two_cells q0 q1 (.string nm) (.slice pa pn pc)
    refine bodyPost_ret (v := .tuple #[.agg #[.string nm, .slice pa pn pc], .int .i64 (letterErrL l)]) (by simp [results, Tryz.results48, go_sem, r.1, r.2]) rfl ⟨_, rfl, ⟨_, by rw [Ho.out], fun _ => ?_⟩, ((x1.trans x2).setCell (by simp) _).setCell (by simp) _⟩
    exact HH.out
  · have ho : openForErrM s n l = openErrM s n := by rw [openForErrM, if_pos h0]
    have h0' : (openErrM s n == 0) = false := by simpa using h0
    have H0 := Lib.hid h0
    have Ho := Lib.hid ho
    generalize openErrM s n = er at *
    clear ho h0
    go_wp2_with fail
    have r := two_cells q0 q1 (.string nm) (.slice pa pn pc)
    have r0 := (ext_alloc ((w1.setCell ⟨w.heap.size + 1, 0, none⟩ (.string nm)).setCell ⟨w.heap.size + 1, 1, none⟩ (.slice pa pn pc)) (.cells #[.string nm, .slice pa pn pc] 92)).cell r.1
    have r1 := (ext_alloc ((w1.setCell ⟨w.heap.size + 1, 0, none⟩ (.string nm)).setCell ⟨w.heap.size + 1, 1, none⟩ (.slice pa pn pc)) (.cells #[.string nm, .slice pa pn pc] 92)).cell r.2
    refine bodyPost_ret (v := .tuple #[.agg #[.string nm, .slice pa pn pc], .int .i64 er]) (by simp [results, Tryz.results48, go_sem, r0, r1]) rfl ⟨_, rfl, ⟨_, by rw [Ho.out], fun h => ?_⟩, ((x1.setCell (by simp) _).setCell (by simp) _).alloc _⟩
    rw [Ho.out] at h
    exact absurd h H0.out
end Go.Proofs.YtcamegaimleomaaGreat

namespace Go.Proofs.YtcamegaimleomaaGreat
set_option linter.unusedSimpArgs false
set_option linter.unusedVariables false
open Go.RowKit

def heardErrM (S : Int) (l : List Int) : Int := if 5 < l.length then 3 else if withinM 0 (S - 1) l = false then 7 else 0
set_option maxRecDepth 100000 in
theorem heardError_any (bv v : Value) (b : Book) (hS : 1 ≤ b.sounds ∧ b.sounds ≤ 4) (l : List Int) (w : World) (hb : BookAt w bv b) (hl : IntsAt w v l) :
    Calls Tryz.prog 75 #[bv, v] w fun e w' => e = .returned (.int .i64 (heardErrM b.sounds l)) ∧ Ext w w' := by
  obtain ⟨ba, bc, bs, bd, rfl, -⟩ := hb.open
  obtain ⟨a, cap, rfl, hlc, hcm⟩ := hl.shape
  by_cases h5 : (5 : Int) < l.length
  · go_enter Tryz.func75, Tryz.ntmps75
    go_wp2_with fail
    go_ret
    exact ⟨ret_int (by rw [heardErrM, if_pos (by omega)]), (by first | (with_reducible exact Ext.refl _) | (with_reducible assumption) | (show Below _ _ _; go_grown; done))⟩
  go_enter Tryz.func75, Tryz.ntmps75
  go_wp2_with fail
  refine (within_any _ _ _ l _ (hl.ext (ext_alloc _ _))).mono ?_
  rintro e w' ⟨rfl, rfl⟩
  cases h : withinM 0 (b.sounds - 1) l
  all_goals
    have H := Lib.hid h; clear h
    go_wp2_with fail
    go_ret
  · exact ⟨ret_int (by rw [heardErrM, if_neg (by omega), if_pos H.out]), (by first | (with_reducible exact Ext.refl _) | (with_reducible assumption) | (show Below _ _ _; go_grown; done))⟩
  · exact ⟨ret_int (by rw [heardErrM, if_neg (by omega), if_neg (by rw [H.out]; decide)]), (by first | (with_reducible exact Ext.refl _) | (with_reducible assumption) | (show Below _ _ _; go_grown; done))⟩

def ascM (l : List Int) : Bool := (List.range l.length).all fun k => k == 0 || decide (l.getD (k - 1) 0 < l.getD k 0)
theorem ascM_no (l : List Int) (k : Nat) (h0 : 0 < k) (hk : k < l.length) (x y : Int) (hx : l[k] = x) (hy : l[k - 1]'(by omega) = y) (h : x ≤ y) : ascM l = false := by
  unfold ascM
  rw [List.all_eq_false]
  refine ⟨k, List.mem_range.2 hk, ?_⟩
  rw [List.getD_eq_getElem?_getD, List.getD_eq_getElem?_getD, List.getElem?_eq_getElem hk, List.getElem?_eq_getElem (show k - 1 < l.length by omega)]
  simp only [Option.getD_some, hx, hy]
  simp; omega
theorem ascM_yes (l : List Int) (h : ∀ k (_ : 0 < k) (hk : k < l.length), l[k - 1]'(by omega) < l[k]) : ascM l = true := by
  unfold ascM
  rw [List.all_eq_true]
  intro k hk
  have hk := List.mem_range.1 hk
  by_cases h0 : k = 0
  · subst h0; rfl
  · rw [List.getD_eq_getElem?_getD, List.getD_eq_getElem?_getD, List.getElem?_eq_getElem hk, List.getElem?_eq_getElem (show k - 1 < l.length by omega)]
    simp only [Option.getD_some]
    have := h k (by omega) hk
    simp [this]
set_option maxRecDepth 100000 in
theorem ascending_any (v : Value) (l : List Int) (w : World) (hl : IntsAt w v l) :
    Calls Tryz.prog 126 #[v] w fun e w' => e = .returned (.bool (ascM l)) ∧ Ext w w' := by
  obtain ⟨a, cap, rfl, hlc, hcm⟩ := hl.shape
  go_enter Tryz.func126, Tryz.ntmps126
  go_wp2
  go_loopw [3] (fun i wr => ∃ k : Nat, 1 ≤ k ∧ (k ≤ l.length ∨ k = 1) ∧ i = .int .i64 k ∧ Ext w wr ∧ ∀ j (_ : 0 < j) (hj : j < l.length), j < k → l[j - 1]'(by omega) < l[j]) (fun i _ => l.length - (intOf i).toNat)
  case atStart => exact ⟨1, by omega, .inr rfl, rfl, Ext.refl _, fun j h0 hj h1 => by omega⟩
  case round =>
    obtain ⟨k, hk0, hk, rfl, hx, hno⟩ := hrel
    have Hno := Lib.hid hno; clear hno
    by_cases hlt : k < l.length
    · obtain ⟨_, _, he, -, -, hh⟩ := hl.ext hx
      obtain ⟨b, off, rfl, c0, -⟩ := hh k hlt
      obtain ⟨b', off', he', c1, -⟩ := hh (k - 1) (by omega)
      cases he
      cases he'
      generalize hy : l[k] = y at *
      generalize hz : l[k - 1]'(by omega) = z at *
      have Hy := Lib.hid hy
      have Hz := Lib.hid hz
      clear hy hz hh
      simp only [Nat.mul_one] at c0 c1
      obtain ⟨m, hm⟩ : ∃ m, k = m + 1 := ⟨k - 1, by omega⟩
      subst hm
      simp only [Nat.add_sub_cancel] at c1 Hz
      have mw : IntKind.i64.wrap (m : Int) = m := IntWalk.i64_in _ (by omega)
      have mlt : (m : Int) < (l.length : Int) := by omega
      by_cases hyz : y ≤ z
      all_goals
        go_wp2_with fail
        apply Facts.wp_region [.val _, .val _, .val _, .val _, .val _, .val _, .val _, .val _, .val _, .val _] (by kernel_rfl) (by kernel_rfl) trivial ?main
        case main =>
          iterate 10 (refine ⟨fun w1 hx hh => ?_, ?_⟩; focus (clear hh; have e0 := hx.cell c0; have e1 := hx.cell c1; go_simp; exact ⟨Ext.refl _, rfl⟩))
          intro w1 hx1 hh
          have hx3 := hx.trans hx1
          clear hh c0 c1
          go_simp
          go_wp2
          first
            | (go_ret
               exact ⟨ret_bool (ascM_no l _ (by omega) hlt y z Hy.out Hz.out hyz).symm, hx3⟩)
            | (go_roundw
               case rel => exact ⟨m + 1 + 1, by omega, .inl (by omega), by go_num, hx3, fun j h0 hj h1 => by
                 rcases Nat.lt_or_ge j (m + 1) with hjk | hjk
                 · exact Hno.out j h0 hj hjk
                 · obtain rfl : j = m + 1 := by omega
                   have e1 := Hy.out
                   have e2 := Hz.out
                   simp only [Nat.add_sub_cancel]
                   omega⟩
               case measure => simp [intOf]; omega)
    · go_wp2
      go_ret
      exact ⟨ret_bool (ascM_yes l fun j h0 hj => Hno.out j h0 hj (by omega)).symm, hx⟩
end Go.Proofs.YtcamegaimleomaaGreat

namespace Go.Proofs.YtcamegaimleomaaGreat
set_option linter.unusedSimpArgs false
set_option linter.unusedVariables false
open Go.RowKit

def bitsM (l : List Nat) : Nat := l.foldl (fun s i => s ||| 2 ^ i) 0
def ints (l : List Nat) : List Int := l.map (fun n : Nat => (n : Int))
theorem bitsM_snoc (l : List Nat) (x : Nat) : bitsM (l ++ [x]) = bitsM l ||| 2 ^ x := by simp [bitsM]
theorem foldl_lt : ∀ (l : List Nat) (s : Nat), s < 32 → (∀ x ∈ l, x < 5) → l.foldl (fun s i => s ||| 2 ^ i) s < 32
  | [], _, hs, _ => hs
  | x :: l, s, hs, h => foldl_lt l _ (Nat.or_lt_two_pow (n := 5) hs (Nat.pow_lt_pow_right (m := x) (n := 5) (by decide) (h x (by simp)))) fun y hy => h y (by simp [hy])
theorem bitsM_lt (l : List Nat) (h : ∀ x ∈ l, x < 5) : bitsM l < 32 := foldl_lt l 0 (by decide) h
theorem or_small : ∀ (s : Fin 32) (x : Fin 5), bits BinOp.or IntKind.i64 ((s.1 : Nat) : Int) ((2 ^ x.1 : Nat) : Int) = ((s.1 ||| 2 ^ x.1 : Nat) : Int) := by decide +kernel

theorem bits_any (v : Value) (l : List Nat) (h5 : ∀ x ∈ l, x < 5) (w : World) (hl : IntsAt w v (ints l)) :
    Calls Tryz.prog 125 #[v] w fun e w' => e = .returned (.int .i64 (bitsM l)) ∧ w = w' := by
  obtain ⟨a, cap, rfl, hlc, hcm, hc⟩ := hl
  have hlen : (ints l).length = l.length := by simp [ints]
  have hc' : ∀ i, i < l.length → ∃ b off, a = some ⟨b, off, none⟩ ∧ w.cell? ⟨b, off + i, none⟩ = some (.int .i64 ((l.getD i 0 : Nat) : Int)) := fun i hi => by
    obtain ⟨b, off, e, r, -⟩ := hc i (by omega)
    refine ⟨b, off, e, ?_⟩
    rw [Nat.mul_one] at r
    rw [r, List.getD_eq_getElem?_getD, List.getElem?_eq_getElem hi]
    simp [ints]
  rw [hlen] at hlc ⊢
  clear hc hlen
  have H5 := Lib.hid h5
  clear h5
  go_enter Tryz.func125, Tryz.ntmps125
  go_wp2
  go_loop [3, 8] (fun s i => ∃ k : Nat, k ≤ l.length ∧ i = .int .i64 k ∧ s = .int .i64 (bitsM (l.take k))) (fun _ i => l.length - (intOf i).toNat)
  case atStart => exact ⟨0, Nat.zero_le _, rfl, rfl⟩
  case round =>
    obtain ⟨k, hk, rfl, rfl⟩ := hrel
    by_cases hlt : k < l.length
    · obtain ⟨b, off, rfl, hck⟩ := hc' k hlt
      clear hc'
      have hx5 : l[k] < 5 := H5.out _ (List.getElem_mem hlt)
      have hb := bitsM_lt (l.take k) fun x hx => H5.out x (List.mem_of_mem_take hx)
      have hst : bitsM (l.take (k + 1)) = bitsM (l.take k) ||| 2 ^ l[k] := by rw [List.take_succ_eq_append_getElem hlt, bitsM_snoc]
      rw [List.getD_eq_getElem?_getD, List.getElem?_eq_getElem hlt, Option.getD_some] at hck
      generalize hs : bitsM (l.take k) = s at *
      generalize hx : l[k] = x at *
      have Hst := Lib.hid hst
      clear hst hs hx
      have hx6 : x = 0 ∨ x = 1 ∨ x = 2 ∨ x = 3 ∨ x = 4 := by omega
      rcases hx6 with rfl | rfl | rfl | rfl | rfl
      · have hor : bits BinOp.or IntKind.i64 (s : Int) 1 = ((s ||| 2 ^ 0 : Nat) : Int) := or_small ⟨s, hb⟩ ⟨0, hx5⟩
        go_wp2
        go_round
        case rel => exact ⟨k + 1, by omega, by go_num, by rw [Hst.out]⟩
        case measure => simp [intOf]; omega
      · have hor : bits BinOp.or IntKind.i64 (s : Int) 2 = ((s ||| 2 ^ 1 : Nat) : Int) := or_small ⟨s, hb⟩ ⟨1, hx5⟩
        go_wp2
        go_round
        case rel => exact ⟨k + 1, by omega, by go_num, by rw [Hst.out]⟩
        case measure => simp [intOf]; omega
      · have hor : bits BinOp.or IntKind.i64 (s : Int) 4 = ((s ||| 2 ^ 2 : Nat) : Int) := or_small ⟨s, hb⟩ ⟨2, hx5⟩
        go_wp2
        go_round
        case rel => exact ⟨k + 1, by omega, by go_num, by rw [Hst.out]⟩
        case measure => simp [intOf]; omega
      · have hor : bits BinOp.or IntKind.i64 (s : Int) 8 = ((s ||| 2 ^ 3 : Nat) : Int) := or_small ⟨s, hb⟩ ⟨3, hx5⟩
        go_wp2
        go_round
        case rel => exact ⟨k + 1, by omega, by go_num, by rw [Hst.out]⟩
        case measure => simp [intOf]; omega
      · have hor : bits BinOp.or IntKind.i64 (s : Int) 16 = ((s ||| 2 ^ 4 : Nat) : Int) := or_small ⟨s, hb⟩ ⟨4, hx5⟩
        go_wp2
        go_round
        case rel => exact ⟨k + 1, by omega, by go_num, by rw [Hst.out]⟩
        case measure => simp [intOf]; omega
    · go_wp2
      go_ret
      exact ⟨ret_int (by rw [List.take_of_length_le (by omega)]), rfl⟩
end Go.Proofs.YtcamegaimleomaaGreat

namespace Go.Proofs.YtcamegaimleomaaGreat
set_option linter.unusedSimpArgs false
set_option linter.unusedVariables false
open Go.RowKit

/-- an owned row of numbers is a list in memory -/
theorem IntsAt.of_own {w : World} {B : Nat} {e : TypeId} {v : Value} {l : List Int} (h : w.ownsRow B e 1 v l.length (l.map (Value.int .i64))) (hI : ∀ x ∈ l, I64 x) : IntsAt w v l := by
  rcases h.2 with ⟨rfl, hn⟩ | ⟨g, cap, cur, rfl, hb, hg, hnc, hcm, hcs, htake⟩
  · have : l = [] := List.eq_nil_of_length_eq_zero hn
    subst this; exact SliceAt.nil
  · refine ⟨_, _, rfl, hnc, by simpa [maxLen] using hcm, fun i hi => ⟨g, 0, rfl, ?_, hI _ (List.getElem_mem hi)⟩⟩
    have := h.cells (g := g) rfl i (.int .i64 l[i]) (by simp [hi])
    have e : (⟨g, 0, none⟩ : Addr).add i = ⟨g, 0 + i * 1, none⟩ := by unfold Addr.add; split <;> simp_all
    rw [e] at this; exact this
theorem Ext.grown {a w w' : World} {row : Option Nat} (h : Ext a w) (hg : w.grownBy w' row) (hr : ∀ k, row = some k → a.heap.size ≤ k) : Ext a w' := Below.grown h hg h.size hr

def membersTo (n k : Nat) : List Nat := (List.range k).filter fun i => n.testBit i
def membersM (n : Nat) : List Nat := membersTo n 5
theorem membersTo_succ (n k : Nat) : membersTo n (k + 1) = membersTo n k ++ (if n.testBit k then [k] else []) := by
  unfold membersTo
  rw [List.range_succ, List.filter_append]
  cases h : n.testBit k <;> simp [h]
theorem membersTo_len (n k : Nat) : (membersTo n k).length ≤ k := by
  have := List.length_filter_le (fun i => n.testBit i) (List.range k)
  simpa [membersTo] using this
theorem members_end : ∀ (n : Fin 32) (k : Fin 6), n.1 < 2 ^ k.1 → membersTo n.1 k.1 = membersM n.1 := by decide +kernel
theorem and_yes : ∀ (n : Fin 32) (k : Fin 5), n.1.testBit k.1 = true → bits BinOp.and IntKind.i64 ((n.1 : Nat) : Int) ((2 ^ k.1 : Nat) : Int) = ((2 ^ k.1 : Nat) : Int) := by decide +kernel
theorem and_no : ∀ (n : Fin 32) (k : Fin 5), n.1.testBit k.1 = false → bits BinOp.and IntKind.i64 ((n.1 : Nat) : Int) ((2 ^ k.1 : Nat) : Int) = 0 := by decide +kernel

theorem infoInt : (Tryz.prog.info? 3).map (fun i => (i.zero, i.size, i.bytes)) = some (some (.int .i64 0), 1, 8) := by kernel_rfl

theorem members_I64 (n : Nat) : ∀ x ∈ ints (membersM n), I64 x := by
  intro x hx
  simp only [ints, membersM, membersTo, List.mem_map, List.mem_filter, List.mem_range] at hx
  obtain ⟨y, ⟨hy, -⟩, rfl⟩ := hx
  unfold I64; omega
theorem own_snoc {w : World} {B : Nat} {e : TypeId} {v : Value} {n k : Nat} {m : Nat} (hm : m = (ints (membersTo n k)).length + 1) (hb : membersTo n (k + 1) = membersTo n k ++ [k])
    (h : w.ownsRow B e 1 v m ((ints (membersTo n k)).map (Value.int .i64) ++ [.int .i64 (k : Int)])) : w.ownsRow B e 1 v (ints (membersTo n (k + 1))).length ((ints (membersTo n (k + 1))).map (Value.int .i64)) := by
  subst hm
  rw [hb]
  simpa [ints] using h
set_option maxRecDepth 100000 in
set_option maxHeartbeats 1000000 in
theorem members_any (n : Nat) (hn : n < 32) (w : World) :
    Calls Tryz.prog 158 #[.int .i64 n] w fun e w' => ∃ v, e = .returned v ∧ IntsAt w' v (ints (membersM n)) ∧ Ext w w' := by
  obtain ⟨i0, hi, hz0, hz1, hz2⟩ := info_parts infoInt
  go_enter Tryz.func158, Tryz.ntmps158
  go_wp2
  go_loopw [3, 4] (fun v i wr => ∃ k : Nat, k ≤ 5 ∧ i = .int .i64 k ∧ Ext w wr ∧ wr.ownsRow w.heap.size 3 1 v (ints (membersTo n k)).length ((ints (membersTo n k)).map (Value.int .i64))) (fun _ i _ => 5 - (intOf i).toNat)
  case atStart => exact ⟨0, by omega, rfl, Ext.refl _, World.ownsRow_nil _ _ _ _⟩
  case round =>
    obtain ⟨k, hk, rfl, hx, hown⟩ := hrel
    have hsz := hx.size
    have hst := membersTo_succ n k
    have hk6 : k = 0 ∨ k = 1 ∨ k = 2 ∨ k = 3 ∨ k = 4 ∨ k = 5 := by omega
    rcases hk6 with rfl | rfl | rfl | rfl | rfl | rfl
    · by_cases hle : (1 : Int) ≤ n
      · cases hb : n.testBit 0
        · have hand : bits BinOp.and IntKind.i64 (n : Int) 1 = 0 := and_no ⟨n, hn⟩ ⟨0, by omega⟩ hb
          rw [hb] at hst
          have Hst := Lib.hid hst
          clear hb hst
          go_wp2
          go_roundw
          case rel => exact ⟨1, by omega, rfl, hx, by have := Hst.out; simp only [Bool.false_eq_true, if_false, List.append_nil] at this; rw [this]; exact hown⟩
          case measure => simp [intOf]
        · have hand : bits BinOp.and IntKind.i64 (n : Int) 1 = 1 := and_yes ⟨n, hn⟩ ⟨0, by omega⟩ hb
          rw [hb] at hst
          have Hst := Lib.hid hst
          have hml : (ints (membersTo n 0)).length ≤ 5 := by have := membersTo_len n 0; simp only [ints, List.length_map]; omega
          clear hb hst
          go_wp2_with ((at_builtin; refine wpList_append_own _ rfl _ _ 26 rfl w.heap.size 3 i0 (.int .i64 0) 1 8 Tryz.underlying26 hi hz0 hz1 hz2 rfl (by decide) _ _ _ rfl (hown.alloc _) ⟨wr.heap.size, 0, none⟩ 1 1 [.int .i64 0] rfl rfl (cell_one_new _ _ _) (by simp [Value.oneCell']) (by unfold maxLen; omega) (by omega) (by simp; omega) ?_; intro v' w1 hown' hgrow _))
          have hx1 : Ext w w1 := Ext.grown (hx.alloc _) hgrow fun k hk => (hown.lt k hk).1
          go_roundw
          case rel => exact ⟨1, by omega, rfl, hx1, own_snoc rfl (by simpa using Hst.out) hown'⟩
          case measure => simp [intOf]
      · have hfin := members_end ⟨n, hn⟩ ⟨0, by omega⟩ (by simp only; omega)
        simp only at hfin
        rw [hfin] at hown
        clear hst hfin
        go_wp2
        go_ret
        exact ⟨_, rfl, IntsAt.of_own hown (members_I64 n), hx⟩
    · by_cases hle : (2 : Int) ≤ n
      · cases hb : n.testBit 1
        · have hand : bits BinOp.and IntKind.i64 (n : Int) 2 = 0 := and_no ⟨n, hn⟩ ⟨1, by omega⟩ hb
          rw [hb] at hst
          have Hst := Lib.hid hst
          clear hb hst
          go_wp2
          go_roundw
          case rel => exact ⟨2, by omega, rfl, hx, by have := Hst.out; simp only [Bool.false_eq_true, if_false, List.append_nil] at this; rw [this]; exact hown⟩
          case measure => simp [intOf]
        · have hand : bits BinOp.and IntKind.i64 (n : Int) 2 = 2 := and_yes ⟨n, hn⟩ ⟨1, by omega⟩ hb
          rw [hb] at hst
          have Hst := Lib.hid hst
          have hml : (ints (membersTo n 1)).length ≤ 5 := by have := membersTo_len n 1; simp only [ints, List.length_map]; omega
          clear hb hst
          go_wp2_with ((at_builtin; refine wpList_append_own _ rfl _ _ 26 rfl w.heap.size 3 i0 (.int .i64 0) 1 8 Tryz.underlying26 hi hz0 hz1 hz2 rfl (by decide) _ _ _ rfl (hown.alloc _) ⟨wr.heap.size, 0, none⟩ 1 1 [.int .i64 1] rfl rfl (cell_one_new _ _ _) (by simp [Value.oneCell']) (by unfold maxLen; omega) (by omega) (by simp; omega) ?_; intro v' w1 hown' hgrow _))
          have hx1 : Ext w w1 := Ext.grown (hx.alloc _) hgrow fun k hk => (hown.lt k hk).1
          go_roundw
          case rel => exact ⟨2, by omega, rfl, hx1, own_snoc rfl (by simpa using Hst.out) hown'⟩
          case measure => simp [intOf]
      · have hfin := members_end ⟨n, hn⟩ ⟨1, by omega⟩ (by simp only; omega)
        simp only at hfin
        rw [hfin] at hown
        clear hst hfin
        go_wp2
        go_ret
        exact ⟨_, rfl, IntsAt.of_own hown (members_I64 n), hx⟩
    · by_cases hle : (4 : Int) ≤ n
      · cases hb : n.testBit 2
        · have hand : bits BinOp.and IntKind.i64 (n : Int) 4 = 0 := and_no ⟨n, hn⟩ ⟨2, by omega⟩ hb
          rw [hb] at hst
          have Hst := Lib.hid hst
          clear hb hst
          go_wp2
          go_roundw
          case rel => exact ⟨3, by omega, rfl, hx, by have := Hst.out; simp only [Bool.false_eq_true, if_false, List.append_nil] at this; rw [this]; exact hown⟩
          case measure => simp [intOf]
        · have hand : bits BinOp.and IntKind.i64 (n : Int) 4 = 4 := and_yes ⟨n, hn⟩ ⟨2, by omega⟩ hb
          rw [hb] at hst
          have Hst := Lib.hid hst
          have hml : (ints (membersTo n 2)).length ≤ 5 := by have := membersTo_len n 2; simp only [ints, List.length_map]; omega
          clear hb hst
          go_wp2_with ((at_builtin; refine wpList_append_own _ rfl _ _ 26 rfl w.heap.size 3 i0 (.int .i64 0) 1 8 Tryz.underlying26 hi hz0 hz1 hz2 rfl (by decide) _ _ _ rfl (hown.alloc _) ⟨wr.heap.size, 0, none⟩ 1 1 [.int .i64 2] rfl rfl (cell_one_new _ _ _) (by simp [Value.oneCell']) (by unfold maxLen; omega) (by omega) (by simp; omega) ?_; intro v' w1 hown' hgrow _))
          have hx1 : Ext w w1 := Ext.grown (hx.alloc _) hgrow fun k hk => (hown.lt k hk).1
          go_roundw
          case rel => exact ⟨3, by omega, rfl, hx1, own_snoc rfl (by simpa using Hst.out) hown'⟩
          case measure => simp [intOf]
      · have hfin := members_end ⟨n, hn⟩ ⟨2, by omega⟩ (by simp only; omega)
        simp only at hfin
        rw [hfin] at hown
        clear hst hfin
        go_wp2
        go_ret
        exact ⟨_, rfl, IntsAt.of_own hown (members_I64 n), hx⟩
    · by_cases hle : (8 : Int) ≤ n
      · cases hb : n.testBit 3
        · have hand : bits BinOp.and IntKind.i64 (n : Int) 8 = 0 := and_no ⟨n, hn⟩ ⟨3, by omega⟩ hb
          rw [hb] at hst
          have Hst := Lib.hid hst
          clear hb hst
          go_wp2
          go_roundw
          case rel => exact ⟨4, by omega, rfl, hx, by have := Hst.out; simp only [Bool.false_eq_true, if_false, List.append_nil] at this; rw [this]; exact hown⟩
          case measure => simp [intOf]
        · have hand : bits BinOp.and IntKind.i64 (n : Int) 8 = 8 := and_yes ⟨n, hn⟩ ⟨3, by omega⟩ hb
          rw [hb] at hst
          have Hst := Lib.hid hst
          have hml : (ints (membersTo n 3)).length ≤ 5 := by have := membersTo_len n 3; simp only [ints, List.length_map]; omega
          clear hb hst
          go_wp2_with ((at_builtin; refine wpList_append_own _ rfl _ _ 26 rfl w.heap.size 3 i0 (.int .i64 0) 1 8 Tryz.underlying26 hi hz0 hz1 hz2 rfl (by decide) _ _ _ rfl (hown.alloc _) ⟨wr.heap.size, 0, none⟩ 1 1 [.int .i64 3] rfl rfl (cell_one_new _ _ _) (by simp [Value.oneCell']) (by unfold maxLen; omega) (by omega) (by simp; omega) ?_; intro v' w1 hown' hgrow _))
          have hx1 : Ext w w1 := Ext.grown (hx.alloc _) hgrow fun k hk => (hown.lt k hk).1
          go_roundw
          case rel => exact ⟨4, by omega, rfl, hx1, own_snoc rfl (by simpa using Hst.out) hown'⟩
          case measure => simp [intOf]
      · have hfin := members_end ⟨n, hn⟩ ⟨3, by omega⟩ (by simp only; omega)
        simp only at hfin
        rw [hfin] at hown
        clear hst hfin
        go_wp2
        go_ret
        exact ⟨_, rfl, IntsAt.of_own hown (members_I64 n), hx⟩
    · by_cases hle : (16 : Int) ≤ n
      · cases hb : n.testBit 4
        · have hand : bits BinOp.and IntKind.i64 (n : Int) 16 = 0 := and_no ⟨n, hn⟩ ⟨4, by omega⟩ hb
          rw [hb] at hst
          have Hst := Lib.hid hst
          clear hb hst
          go_wp2
          go_roundw
          case rel => exact ⟨5, by omega, rfl, hx, by have := Hst.out; simp only [Bool.false_eq_true, if_false, List.append_nil] at this; rw [this]; exact hown⟩
          case measure => simp [intOf]
        · have hand : bits BinOp.and IntKind.i64 (n : Int) 16 = 16 := and_yes ⟨n, hn⟩ ⟨4, by omega⟩ hb
          rw [hb] at hst
          have Hst := Lib.hid hst
          have hml : (ints (membersTo n 4)).length ≤ 5 := by have := membersTo_len n 4; simp only [ints, List.length_map]; omega
          clear hb hst
          go_wp2_with ((at_builtin; refine wpList_append_own _ rfl _ _ 26 rfl w.heap.size 3 i0 (.int .i64 0) 1 8 Tryz.underlying26 hi hz0 hz1 hz2 rfl (by decide) _ _ _ rfl (hown.alloc _) ⟨wr.heap.size, 0, none⟩ 1 1 [.int .i64 4] rfl rfl (cell_one_new _ _ _) (by simp [Value.oneCell']) (by unfold maxLen; omega) (by omega) (by simp; omega) ?_; intro v' w1 hown' hgrow _))
          have hx1 : Ext w w1 := Ext.grown (hx.alloc _) hgrow fun k hk => (hown.lt k hk).1
          go_roundw
          case rel => exact ⟨5, by omega, rfl, hx1, own_snoc rfl (by simpa using Hst.out) hown'⟩
          case measure => simp [intOf]
      · have hfin := members_end ⟨n, hn⟩ ⟨4, by omega⟩ (by simp only; omega)
        simp only at hfin
        rw [hfin] at hown
        clear hst hfin
        go_wp2
        go_ret
        exact ⟨_, rfl, IntsAt.of_own hown (members_I64 n), hx⟩
    · have hle : ¬ (32 : Int) ≤ n := by omega
      clear hst
      go_wp2
      go_ret
      exact ⟨_, rfl, IntsAt.of_own hown (members_I64 n), hx⟩
end Go.Proofs.YtcamegaimleomaaGreat

namespace Go.Proofs.YtcamegaimleomaaGreat
set_option linter.unusedSimpArgs false
set_option linter.unusedVariables false
open Go.RowKit

def ssRaw (n a b c d e : Int) : Value := .agg #[.int .i64 n, .int .i64 a, .int .i64 b, .int .i64 c, .int .i64 d, .int .i64 e]
def ssV (l : List Int) : Value := ssRaw l.length (l.getD 0 0) (l.getD 1 0) (l.getD 2 0) (l.getD 3 0) (l.getD 4 0)

theorem with_silent (n a b c d e : Int) (w : World) :
    Calls Tryz.prog 165 #[ssRaw n a b c d e, .int .i64 (-1)] w fun r w' => r = .returned (ssRaw n a b c d e) ∧ Ext w w' := by
  unfold ssRaw
  go_enter Tryz.func165, Tryz.ntmps165
  go_wp2
  refine bodyPost_ret (v := .agg #[.int .i64 n, .int .i64 a, .int .i64 b, .int .i64 c, .int .i64 d, .int .i64 e]) (by simp [results, Tryz.results165, go_sem]) rfl ⟨rfl, ?_⟩
  exact (by first | (with_reducible exact Ext.refl _) | (with_reducible assumption) | (show Below _ _ _; go_grown; done))
set_option maxHeartbeats 1000000 in
theorem with_raw (n : Nat) (s a b c d e : Int) (hs : s ≠ -1) (hn : n < 5) (w : World) :
    Calls Tryz.prog 165 #[ssRaw n a b c d e, .int .i64 s] w
      fun r w' => r = .returned (ssRaw (n + 1) (if n = 0 then s else a) (if n = 1 then s else b) (if n = 2 then s else c) (if n = 3 then s else d) (if n = 4 then s else e)) ∧ Ext w w' := by
  unfold ssRaw
  have hs' : (s != -1) = true := by simpa using hs
  have hn5 : n = 0 ∨ n = 1 ∨ n = 2 ∨ n = 3 ∨ n = 4 := by omega
  rcases hn5 with rfl | rfl | rfl | rfl | rfl
  · go_enter Tryz.func165, Tryz.ntmps165
    go_wp2
    refine bodyPost_ret (v := .agg #[.int .i64 1, .int .i64 s, .int .i64 b, .int .i64 c, .int .i64 d, .int .i64 e]) (by simp [results, Tryz.results165, go_sem]) rfl ⟨rfl, ?_⟩
    exact (by first | (with_reducible exact Ext.refl _) | (with_reducible assumption) | (show Below _ _ _; go_grown; done))
  · go_enter Tryz.func165, Tryz.ntmps165
    go_wp2
    refine bodyPost_ret (v := .agg #[.int .i64 2, .int .i64 a, .int .i64 s, .int .i64 c, .int .i64 d, .int .i64 e]) (by simp [results, Tryz.results165, go_sem]) rfl ⟨rfl, ?_⟩
    exact (by first | (with_reducible exact Ext.refl _) | (with_reducible assumption) | (show Below _ _ _; go_grown; done))
  · go_enter Tryz.func165, Tryz.ntmps165
    go_wp2
    refine bodyPost_ret (v := .agg #[.int .i64 3, .int .i64 a, .int .i64 b, .int .i64 s, .int .i64 d, .int .i64 e]) (by simp [results, Tryz.results165, go_sem]) rfl ⟨rfl, ?_⟩
    exact (by first | (with_reducible exact Ext.refl _) | (with_reducible assumption) | (show Below _ _ _; go_grown; done))
  · go_enter Tryz.func165, Tryz.ntmps165
    go_wp2
    refine bodyPost_ret (v := .agg #[.int .i64 4, .int .i64 a, .int .i64 b, .int .i64 c, .int .i64 s, .int .i64 e]) (by simp [results, Tryz.results165, go_sem]) rfl ⟨rfl, ?_⟩
    exact (by first | (with_reducible exact Ext.refl _) | (with_reducible assumption) | (show Below _ _ _; go_grown; done))
  · go_enter Tryz.func165, Tryz.ntmps165
    go_wp2
    refine bodyPost_ret (v := .agg #[.int .i64 5, .int .i64 a, .int .i64 b, .int .i64 c, .int .i64 d, .int .i64 s]) (by simp [results, Tryz.results165, go_sem]) rfl ⟨rfl, ?_⟩
    exact (by first | (with_reducible exact Ext.refl _) | (with_reducible assumption) | (show Below _ _ _; go_grown; done))
theorem with_any (l : List Int) (s : Int) (hl : l.length < 5) (hs : s ≠ -1) (w : World) :
    Calls Tryz.prog 165 #[ssV l, .int .i64 s] w fun r w' => r = .returned (ssV (l ++ [s])) ∧ Ext w w' := by
  refine (with_raw l.length s _ _ _ _ _ hs hl w).mono ?_
  rintro r w' ⟨rfl, hx⟩
  refine ⟨?_, hx⟩
  match l, hl with
  | [], _ => rfl
  | [a], _ => rfl
  | [a, b], _ => rfl
  | [a, b, c], _ => rfl
  | [a, b, c, d], _ => rfl
theorem with_none (l : List Int) (w : World) :
    Calls Tryz.prog 165 #[ssV l, .int .i64 (-1)] w fun r w' => r = .returned (ssV l) ∧ Ext w w' := with_silent _ _ _ _ _ _ w

def givesM (x : Letter) (s : Int) : Bool := if s = -1 then x.silent else x.sounds.toNat.testBit s.toNat
theorem and_bit : ∀ (n : Fin 16) (k : Fin 4), (bits BinOp.and IntKind.i64 ((n.1 : Nat) : Int) ((2 ^ k.1 : Nat) : Int) != 0) = n.1.testBit k.1 := by decide +kernel
def FineL (x : Letter) : Prop := 0 ≤ x.sounds ∧ x.sounds ≤ 15

set_option maxRecDepth 100000 in
theorem gives_any (u : Value) (x : Letter) (s : Int) (hu : LetterV u x) (hf : FineL x) (hs : -1 ≤ s ∧ s ≤ 3) (w : World) :
    Calls Tryz.prog 122 #[u, .int .i64 s] w fun r w' => r = .returned (.bool (givesM x s)) ∧ Ext w w' := by
  obtain ⟨rfl, -, -⟩ := hu
  obtain ⟨n, hn, hn15⟩ : ∃ n : Nat, x.sounds = n ∧ n < 16 := ⟨x.sounds.toNat, by have := hf.1; have := hf.2; omega, by have := hf.1; have := hf.2; omega⟩
  have hb := fun k => and_bit ⟨n, hn15⟩ k
  have hgt : x.sounds.toNat = n := by omega
  have Hgt := Lib.hid hgt
  clear hgt hf
  rw [hn]
  clear hn
  have hs5 : s = -1 ∨ s = 0 ∨ s = 1 ∨ s = 2 ∨ s = 3 := by omega
  rcases hs5 with rfl | rfl | rfl | rfl | rfl
  · clear hb
    go_enter Tryz.func122, Tryz.ntmps122
    go_wp2
    go_ret
    exact ⟨rfl, (by first | (with_reducible exact Ext.refl _) | (with_reducible assumption) | (show Below _ _ _; go_grown; done))⟩
  · have hk : (bits BinOp.and IntKind.i64 (n : Int) 1 != 0) = n.testBit 0 := hb ⟨0, by omega⟩
    clear hb
    have c1 : (w.alloc (.cells #[.int .u8 x.c, .int .i64 (n : Int), .bool x.silent] 204)).cell? ⟨w.heap.size, 1, none⟩ = some (.int .i64 (n : Int)) := by simp [go_sem]
    go_enter Tryz.func122, Tryz.ntmps122
    go_wp2_with fail
    apply Facts.wp_region [.val _, .val _, .val _, .val _, .val _, .val _, .val _, .val _] (by kernel_rfl) (by kernel_rfl) trivial ?main
    case main =>
      iterate 8 (refine ⟨fun w1 hx hh => ?_, ?_⟩; focus (clear hh; have e1 := hx.cell c1; go_simp; exact ⟨Ext.refl _, rfl⟩))
      intro w1 hx1 hh
      clear hh c1
      go_simp
      go_wp2
      go_ret
      exact ⟨ret_bool (by rw [givesM, if_neg (by decide), Hgt.out]; exact hk), hx1.of_alloc⟩
  · have hk : (bits BinOp.and IntKind.i64 (n : Int) 2 != 0) = n.testBit 1 := hb ⟨1, by omega⟩
    clear hb
    have c1 : (w.alloc (.cells #[.int .u8 x.c, .int .i64 (n : Int), .bool x.silent] 204)).cell? ⟨w.heap.size, 1, none⟩ = some (.int .i64 (n : Int)) := by simp [go_sem]
    go_enter Tryz.func122, Tryz.ntmps122
    go_wp2_with fail
    apply Facts.wp_region [.val _, .val _, .val _, .val _, .val _, .val _, .val _, .val _] (by kernel_rfl) (by kernel_rfl) trivial ?main
    case main =>
      iterate 8 (refine ⟨fun w1 hx hh => ?_, ?_⟩; focus (clear hh; have e1 := hx.cell c1; go_simp; exact ⟨Ext.refl _, rfl⟩))
      intro w1 hx1 hh
      clear hh c1
      go_simp
      go_wp2
      go_ret
      exact ⟨ret_bool (by rw [givesM, if_neg (by decide), Hgt.out]; exact hk), hx1.of_alloc⟩
  · have hk : (bits BinOp.and IntKind.i64 (n : Int) 4 != 0) = n.testBit 2 := hb ⟨2, by omega⟩
    clear hb
    have c1 : (w.alloc (.cells #[.int .u8 x.c, .int .i64 (n : Int), .bool x.silent] 204)).cell? ⟨w.heap.size, 1, none⟩ = some (.int .i64 (n : Int)) := by simp [go_sem]
    go_enter Tryz.func122, Tryz.ntmps122
    go_wp2_with fail
    apply Facts.wp_region [.val _, .val _, .val _, .val _, .val _, .val _, .val _, .val _] (by kernel_rfl) (by kernel_rfl) trivial ?main
    case main =>
      iterate 8 (refine ⟨fun w1 hx hh => ?_, ?_⟩; focus (clear hh; have e1 := hx.cell c1; go_simp; exact ⟨Ext.refl _, rfl⟩))
      intro w1 hx1 hh
      clear hh c1
      go_simp
      go_wp2
      go_ret
      exact ⟨ret_bool (by rw [givesM, if_neg (by decide), Hgt.out]; exact hk), hx1.of_alloc⟩
  · have hk : (bits BinOp.and IntKind.i64 (n : Int) 8 != 0) = n.testBit 3 := hb ⟨3, by omega⟩
    clear hb
    have c1 : (w.alloc (.cells #[.int .u8 x.c, .int .i64 (n : Int), .bool x.silent] 204)).cell? ⟨w.heap.size, 1, none⟩ = some (.int .i64 (n : Int)) := by simp [go_sem]
    go_enter Tryz.func122, Tryz.ntmps122
    go_wp2_with fail
    apply Facts.wp_region [.val _, .val _, .val _, .val _, .val _, .val _, .val _, .val _] (by kernel_rfl) (by kernel_rfl) trivial ?main
    case main =>
      iterate 8 (refine ⟨fun w1 hx hh => ?_, ?_⟩; focus (clear hh; have e1 := hx.cell c1; go_simp; exact ⟨Ext.refl _, rfl⟩))
      intro w1 hx1 hh
      clear hh c1
      go_simp
      go_wp2
      go_ret
      exact ⟨ret_bool (by rw [givesM, if_neg (by decide), Hgt.out]; exact hk), hx1.of_alloc⟩
end Go.Proofs.YtcamegaimleomaaGreat

namespace Go.Proofs.YtcamegaimleomaaGreat
set_option linter.unusedSimpArgs false
set_option linter.unusedVariables false
open Go.RowKit

/-- the comparison of two lists, number by number -/
def cmpL : List Int → List Int → Int
  | [], [] => 0
  | [], _ :: _ => -1
  | _ :: _, [] => 1
  | x :: a, y :: b => if cmpM x y = 0 then cmpL a b else cmpM x y
theorem cmpL_step (l m : List Int) (k : Nat) (h1 : k < l.length) (h2 : k < m.length) : cmpL (l.drop k) (m.drop k) = if cmpM l[k] m[k] = 0 then cmpL (l.drop (k + 1)) (m.drop (k + 1)) else cmpM l[k] m[k] := by
  rw [List.drop_eq_getElem_cons h1, List.drop_eq_getElem_cons h2, cmpL]

set_option maxHeartbeats 1000000 in
theorem compareL_any (v u : Value) (l m : List Int) (w : World) (hl : IntsAt w v l) (hm : IntsAt w u m) :
    Calls Tryz.prog 177 #[v, u] w fun r w' => r = .returned (.int .i64 (cmpL l m)) ∧ w = w' := by
  obtain ⟨a, cap, rfl, hlc, hcm, hc⟩ := hl
  obtain ⟨a', cap', rfl, hlc', hcm', hc'⟩ := hm
  go_enter Tryz.func177, Tryz.ntmps177
  go_wp2
  go_loop [11] (fun i => ∃ k : Nat, k ≤ l.length ∧ k ≤ m.length ∧ i = .int .i64 k ∧ cmpL (l.drop k) (m.drop k) = cmpL l m) (fun i => l.length - (intOf i).toNat)
  case atStart => exact ⟨0, Nat.zero_le _, Nat.zero_le _, rfl, rfl⟩
  case round =>
    obtain ⟨k, hk, hk', rfl, hd⟩ := hrel
    have Hd := Lib.hid hd; clear hd
    by_cases h1 : k < l.length
    · obtain ⟨b, off, rfl, c1, -⟩ := hc k h1
      clear hc
      by_cases h2 : k < m.length
      · obtain ⟨b', off', rfl, c2, -⟩ := hc' k h2
        clear hc'
        have hst := cmpL_step l m k h1 h2
        generalize hx : l[k] = x at *
        generalize hy : m[k] = y at *
        have Hst := Lib.hid hst
        clear hx hy hst
        simp only [Nat.mul_one] at c1 c2
        by_cases h0 : cmpM x y = 0
        · have H0 := Lib.hid h0
          go_wp2_with (go_at_call 178; refine (cmp_any _ _ _).mono ?_; rintro e w' ⟨rfl, rfl⟩)
          clear h0
          go_round
          case rel => exact ⟨k + 1, by omega, by omega, by go_num, by rw [← Hd.out, Hst.out, if_pos H0.out]⟩
          case measure => simp [intOf]; omega
        · have h0' : (cmpM x y != 0) = true := by simpa using h0
          have H0 := Lib.hid h0
          clear h0
          go_wp2_with (go_at_call 178; refine (cmp_any _ _ _).mono ?_; rintro e w' ⟨rfl, rfl⟩)
          go_ret
          exact ⟨ret_int (by rw [← Hd.out, Hst.out, if_neg H0.out]), rfl⟩
      · clear hc'
        simp only [Nat.mul_one] at c1
        go_wp2
        go_ret
        exact ⟨ret_int (by rw [← Hd.out, List.drop_eq_getElem_cons h1, List.drop_eq_nil_of_le (show m.length ≤ k by omega)]; rfl), rfl⟩
    · clear hc hc'
      by_cases h2 : k < m.length
      · go_wp2
        go_ret
        exact ⟨ret_int (by rw [← Hd.out, List.drop_eq_nil_of_le (show l.length ≤ k by omega), List.drop_eq_getElem_cons h2]; rfl), rfl⟩
      · go_wp2
        go_ret
        exact ⟨ret_int (by rw [← Hd.out, List.drop_eq_nil_of_le (show l.length ≤ k by omega), List.drop_eq_nil_of_le (show m.length ≤ k by omega)]; rfl), rfl⟩
end Go.Proofs.YtcamegaimleomaaGreat

namespace Go.Proofs.YtcamegaimleomaaGreat
set_option linter.unusedSimpArgs false
set_option linter.unusedVariables false
open Go.RowKit

set_option maxHeartbeats 1000000 in
theorem eq_array (a b c d e a' b' c' d' e' : Int) (k : Nat) (w : World) :
    (Op.equalIn (k + 2) 88 (.agg #[.int .i64 a, .int .i64 b, .int .i64 c, .int .i64 d, .int .i64 e]) (.agg #[.int .i64 a', .int .i64 b', .int .i64 c', .int .i64 d', .int .i64 e'])).run Tryz.prog w =
      .ok (a == a' && (b == b' && (c == c' && (d == d' && e == e')))) w := by
  have ha : ∀ w, (isAgg 3).run Tryz.prog w = .ok false w := fun _ => by kernel_rfl
  rw [Op.equalIn]
  simp only [go_sem]
  simp [List.range', go_sem]
  by_cases h1 : a = a' <;> by_cases h2 : b = b' <;> by_cases h3 : c = c' <;> by_cases h4 : d = d' <;> by_cases h5 : e = e' <;> simp [h1, h2, h3, h4, h5]
theorem neq_array (a b c d e a' b' c' d' e' : Int) (w : World) :
    (binOp .neq 88 (.agg #[.int .i64 a, .int .i64 b, .int .i64 c, .int .i64 d, .int .i64 e]) (.agg #[.int .i64 a', .int .i64 b', .int .i64 c', .int .i64 d', .int .i64 e'])).run Tryz.prog w =
      .ok (.bool (!(a == a' && (b == b' && (c == c' && (d == d' && e == e')))))) w := by
  rw [run_neq_struct, eq_array]
  rfl
theorem eq_sound (n a b c d e n' a' b' c' d' e' : Int) (k : Nat) (w : World) :
    (Op.equalIn (k + 3) 167 (ssRaw n a b c d e) (ssRaw n' a' b' c' d' e')).run Tryz.prog w =
      .ok (n == n' && (a == a' && (b == b' && (c == c' && (d == d' && e == e'))))) w := by
  have ha : ∀ w, (isAgg 3).run Tryz.prog w = .ok false w := fun _ => by kernel_rfl
  have hb : ∀ w, (isAgg 88).run Tryz.prog w = .ok true w := fun _ => by kernel_rfl
  have hs : ∀ w, (sizeOf 88).run Tryz.prog w = .ok 5 w := fun _ => by kernel_rfl
  unfold ssRaw
  rw [run_equalIn_struct _ _ _ _ _ (by kernel_rfl) (by kernel_rfl)]
  have hf : ((Tryz.prog.fieldsOf 167).toList.map fun f => (f.name, f.type, f.offset)) = [("long", 3, 0), ("sounds", 88, 1)] := by kernel_rfl
  generalize (Tryz.prog.fieldsOf 167).toList = fs at *
  obtain ⟨f, g, rfl⟩ : ∃ f g, fs = [f, g] := by
    rcases fs with _ | ⟨f, _ | ⟨g, _ | ⟨h, r⟩⟩⟩
    · simp at hf
    · simp at hf
    · exact ⟨f, g, rfl⟩
    · simp at hf
  simp only [List.map_cons, List.map_nil, List.cons.injEq, Prod.mk.injEq, and_true] at hf
  obtain ⟨⟨h1, h2, h3⟩, h4, h5, h6⟩ := hf
  have e1 := eq_array a b c d e a' b' c' d' e' k
  simp [Op.eqFields, h1, h2, h3, h4, h5, h6, part, ha, hb, hs, go_sem, e1]
  by_cases hn : n = n' <;> by_cases g1 : a = a' <;> by_cases g2 : b = b' <;> by_cases g3 : c = c' <;> by_cases g4 : d = d' <;> by_cases g5 : e = e' <;> simp [hn, g1, g2, g3, g4, g5]
end Go.Proofs.YtcamegaimleomaaGreat

namespace Go.Proofs.YtcamegaimleomaaGreat
set_option linter.unusedSimpArgs false
set_option linter.unusedVariables false
open Go.RowKit

theorem IntsAt.five {w : World} {B o : Nat} {a b c d e : Int} (h0 : w.cell? ⟨B, o, none⟩ = some (.int .i64 a)) (h1 : w.cell? ⟨B, o + 1, none⟩ = some (.int .i64 b)) (h2 : w.cell? ⟨B, o + 2, none⟩ = some (.int .i64 c))
    (h3 : w.cell? ⟨B, o + 3, none⟩ = some (.int .i64 d)) (h4 : w.cell? ⟨B, o + 4, none⟩ = some (.int .i64 e)) (hi : I64 a ∧ I64 b ∧ I64 c ∧ I64 d ∧ I64 e) : IntsAt w (.slice (some ⟨B, o, none⟩) 5 5) [a, b, c, d, e] := by
  refine ⟨_, _, rfl, Nat.le_refl _, by omega, fun i hi5 => ⟨B, o, rfl, ?_⟩⟩
  obtain ⟨i0, i1, i2, i3, i4⟩ := hi
  have h5 : i = 0 ∨ i = 1 ∨ i = 2 ∨ i = 3 ∨ i = 4 := by simp at hi5; omega
  rcases h5 with rfl | rfl | rfl | rfl | rfl
  · exact ⟨h0, i0⟩
  · exact ⟨h1, i1⟩
  · exact ⟨h2, i2⟩
  · exact ⟨h3, i3⟩
  · exact ⟨h4, i4⟩

set_option maxRecDepth 100000 in
set_option maxHeartbeats 1000000 in
theorem compare_raw (n a b c d e n' a' b' c' d' e' : Int) (w : World) (hi : I64 a ∧ I64 b ∧ I64 c ∧ I64 d ∧ I64 e) (hi' : I64 a' ∧ I64 b' ∧ I64 c' ∧ I64 d' ∧ I64 e') :
    Calls Tryz.prog 157 #[ssRaw n a b c d e, ssRaw n' a' b' c' d' e'] w
      fun r w' => r = .returned (.int .i64 (if (n == n' && !(a == a' && (b == b' && (c == c' && (d == d' && e == e'))))) = true then cmpL [a, b, c, d, e] [a', b', c', d', e'] else cmpM n n')) ∧ Ext w w' := by
  unfold ssRaw
  cases hn : (n == n')
  · go_enter Tryz.func157, Tryz.ntmps157
    go_wp2_with fail
    refine (cmp_any _ _ _).mono ?_
    rintro r w' ⟨rfl, rfl⟩
    go_wp2
    go_ret
    exact ⟨rfl, (by first | (with_reducible exact Ext.refl _) | (with_reducible assumption) | (show Below _ _ _; go_grown; done))⟩
  · have hne := neq_array a b c d e a' b' c' d' e'
    cases hq : (a == a' && (b == b' && (c == c' && (d == d' && e == e'))))
    · rw [hq] at hne
      have Hq := Lib.hid hq
      clear hq
      obtain ⟨W, hW⟩ : ∃ W, W = (w.alloc (.cells #[.int .i64 n, .int .i64 a, .int .i64 b, .int .i64 c, .int .i64 d, .int .i64 e] 167)).alloc (.cells #[.int .i64 n', .int .i64 a', .int .i64 b', .int .i64 c', .int .i64 d', .int .i64 e'] 167) := ⟨_, rfl⟩
      have l1 : IntsAt W (.slice (some ⟨w.heap.size, 1, none⟩) 5 5) [a, b, c, d, e] := by
        subst hW
        exact IntsAt.five (by simp [go_sem]) (by simp [go_sem]) (by simp [go_sem]) (by simp [go_sem]) (by simp [go_sem]) hi
      have l2 : IntsAt W (.slice (some ⟨w.heap.size + 1, 1, none⟩) 5 5) [a', b', c', d', e'] := by
        subst hW
        exact IntsAt.five (by simp [go_sem]) (by simp [go_sem]) (by simp [go_sem]) (by simp [go_sem]) (by simp [go_sem]) hi'
      have HW := Lib.hid hW
      clear hW
      go_enter Tryz.func157, Tryz.ntmps157
      go_wp2_with fail
      rw [← HW.out]
      apply Facts.wp_region [.val _, .val _, .val _, .val _, .val _, .val _] (by kernel_rfl) (by kernel_rfl) trivial ?main
      case main =>
        iterate 4 (refine ⟨fun w1 hx hh => ?_, ?_⟩; focus (clear hh; skip; go_simp; exact ⟨Ext.refl _, rfl⟩))
        refine ⟨fun w1 hx hh => ?_, ?_⟩
        · clear hh
          go_simp
          refine (compareL_any _ _ [a, b, c, d, e] [a', b', c', d', e'] w1 (l1.ext hx) (l2.ext hx)).mono ?_
          rintro e w' ⟨rfl, rfl⟩
          exact ⟨_, rfl, Ext.refl _, rfl⟩
        iterate 1 (refine ⟨fun w1 hx hh => ?_, ?_⟩; focus (clear hh; skip; go_simp; exact ⟨Ext.refl _, rfl⟩))
        intro w1 hx1 hh
        have hx3 : Ext w W := by rw [HW.out]; exact (ext_alloc _ _).alloc _
        clear hh l1 l2
        go_simp
        go_wp2
        go_ret
        exact ⟨rfl, hx3.trans hx1⟩
    · rw [hq] at hne
      have Hq := Lib.hid hq
      clear hq
      go_enter Tryz.func157, Tryz.ntmps157
      go_wp2_with fail
      refine (cmp_any _ _ _).mono ?_
      rintro r w' ⟨rfl, rfl⟩
      go_wp2
      go_ret
      exact ⟨rfl, (by first | (with_reducible exact Ext.refl _) | (with_reducible assumption) | (show Below _ _ _; go_grown; done))⟩
end Go.Proofs.YtcamegaimleomaaGreat

namespace Go.Proofs.YtcamegaimleomaaGreat
set_option linter.unusedSimpArgs false
set_option linter.unusedVariables false
open Go.RowKit
set_option linter.unusedSimpArgs false

def pad (l : List Int) : List Int := [l.getD 0 0, l.getD 1 0, l.getD 2 0, l.getD 3 0, l.getD 4 0]
def cmpSS (l m : List Int) : Int := if l.length = m.length then cmpL l m else cmpM l.length m.length
theorem cmpM_self (x : Int) : cmpM x x = 0 := by rw [cmpM, if_neg (by omega), if_neg (by omega)]
theorem cmpL_self : ∀ l : List Int, cmpL l l = 0
  | [] => rfl
  | x :: l => by rw [cmpL, if_pos (cmpM_self x), cmpL_self l]
theorem cmp_pad (l m : List Int) (h : l.length = m.length) (h5 : l.length ≤ 5) : cmpL (pad l) (pad m) = cmpL l m := by
  have z : cmpM 0 0 = 0 := rfl
  match l, m, h, h5 with
  | [], [], _, _ => rfl
  | [a], [a'], _, _ => simp [pad, cmpL, z]
  | [a, b], [a', b'], _, _ => simp [pad, cmpL, z]
  | [a, b, c], [a', b', c'], _, _ => simp [pad, cmpL, z]
  | [a, b, c, d], [a', b', c', d'], _, _ => simp [pad, cmpL, z]
  | [a, b, c, d, e], [a', b', c', d', e'], _, _ => rfl
theorem getD_I64 (l : List Int) (h : ∀ x ∈ l, I64 x) (i : Nat) : I64 (l.getD i 0) := by
  rw [List.getD_eq_getElem?_getD]
  cases hi : l[i]? with
  | none => simp [I64]
  | some x => exact h x (List.mem_of_getElem? hi)
theorem compare_any (l m : List Int) (h : l.length ≤ 5) (hl : ∀ x ∈ l, I64 x) (hm : ∀ x ∈ m, I64 x) (w : World) :
    Calls Tryz.prog 157 #[ssV l, ssV m] w fun r w' => r = .returned (.int .i64 (cmpSS l m)) ∧ Ext w w' := by
  refine (compare_raw l.length _ _ _ _ _ m.length _ _ _ _ _ w ⟨getD_I64 l hl 0, getD_I64 l hl 1, getD_I64 l hl 2, getD_I64 l hl 3, getD_I64 l hl 4⟩ ⟨getD_I64 m hm 0, getD_I64 m hm 1, getD_I64 m hm 2, getD_I64 m hm 3, getD_I64 m hm 4⟩).mono ?_
  rintro r w' ⟨rfl, hx⟩
  refine ⟨ret_int ?_, hx⟩
  unfold cmpSS
  by_cases hn : l.length = m.length
  · rw [if_pos hn]
    have hn' : ((l.length : Int) == (m.length : Int)) = true := by rw [beq_iff_eq]; omega
    rw [hn', Bool.true_and, ← cmp_pad l m hn h]
    split
    · rfl
    · rename_i hq
      simp only [Bool.not_eq_true', Bool.not_eq_false, Bool.and_eq_true, beq_iff_eq] at hq
      obtain ⟨q0, q1, q2, q3, q4⟩ := hq
      have : pad l = pad m := by unfold pad; rw [q0, q1, q2, q3, q4]
      rw [this, cmpL_self, hn, cmpM_self]
  · rw [if_neg hn, if_neg]
    simp only [Bool.and_eq_true, beq_iff_eq]
    intro hh
    exact hn (by omega)

set_option maxRecDepth 100000 in
theorem heardAs_0 (v : Value) (w : World) (hl : IntsAt w v []) :
    Calls Tryz.prog 96 #[v] w fun r w' => r = .returned (ssV []) ∧ Ext w w' := by
  obtain ⟨p, cap, rfl, hlc, hcm, hc⟩ := hl
  have hcopy : (Builtin.copy_ #[26, 26] 3 #[.slice (some ⟨w.heap.size + 1, 1, none⟩) 5 5, .slice p 0 cap]).run Tryz.prog ((w.alloc (.cells #[.int .i64 0, .int .i64 0, .int .i64 0, .int .i64 0, .int .i64 0, .int .i64 0] 167)).alloc (.cells #[.int .i64 0, .int .i64 0, .int .i64 0, .int .i64 0, .int .i64 0, .int .i64 0] 167)) = .ok (goInt 0) ((w.alloc (.cells #[.int .i64 0, .int .i64 0, .int .i64 0, .int .i64 0, .int .i64 0, .int .i64 0] 167)).alloc (.cells #[.int .i64 0, .int .i64 0, .int .i64 0, .int .i64 0, .int .i64 0, .int .i64 0] 167)) :=
    run_copy_none _ _ _ _ 3 _ _ _ _ _ _ Tryz.underlying26 (by kernel_rfl) rfl
  go_enter Tryz.func96, Tryz.ntmps96
  go_wp2
  refine bodyPost_ret (v := .agg #[.int .i64 0, .int .i64 0, .int .i64 0, .int .i64 0, .int .i64 0, .int .i64 0]) (by simp [results, Tryz.results96, go_sem]) rfl ⟨rfl, ?_⟩
  exact (by first | (with_reducible exact Ext.refl _) | (with_reducible assumption) | (show Below _ _ _; go_grown; done))
set_option maxRecDepth 100000 in
theorem heardAs_1 (a : Int) (v : Value) (w : World) (hl : IntsAt w v [a]) :
    Calls Tryz.prog 96 #[v] w fun r w' => r = .returned (ssV [a]) ∧ Ext w w' := by
  obtain ⟨p, cap, rfl, hlc, hcm, hc⟩ := hl
  obtain ⟨_, _, rfl, h0, -⟩ := hc 0 (by simp)
  clear hc
  simp only [Nat.zero_mul, Nat.one_mul, Nat.reduceMul, Nat.add_zero, List.length_cons, List.length_nil, List.getElem_cons_zero, List.getElem_cons_succ] at h0 hlc ⊢
  rename_i bb off
  have hcopy : (Builtin.copy_ #[26, 26] 3 #[.slice (some ⟨w.heap.size + 1, 1, none⟩) 5 5, .slice (some ⟨bb, off, none⟩) 1 cap]).run Tryz.prog ((w.alloc (.cells #[.int .i64 0, .int .i64 0, .int .i64 0, .int .i64 0, .int .i64 0, .int .i64 0] 167)).alloc (.cells #[.int .i64 1, .int .i64 0, .int .i64 0, .int .i64 0, .int .i64 0, .int .i64 0] 167)) = .ok (goInt 1) ((w.alloc (.cells #[.int .i64 0, .int .i64 0, .int .i64 0, .int .i64 0, .int .i64 0, .int .i64 0] 167)).alloc (.cells #[.int .i64 1, .int .i64 a, .int .i64 0, .int .i64 0, .int .i64 0, .int .i64 0] 167)) := by
    have hlt := cell_lt h0
    rw [run_copy_cells (P := Tryz.prog) ((w.alloc (.cells #[.int .i64 0, .int .i64 0, .int .i64 0, .int .i64 0, .int .i64 0, .int .i64 0] 167)).alloc (.cells #[.int .i64 1, .int .i64 0, .int .i64 0, .int .i64 0, .int .i64 0, .int .i64 0] 167)) 26 26 3 3 (w.heap.size + 1) 1 5 5 ⟨bb, off, none⟩ 1 cap [.int .i64 a] Tryz.underlying26 (by kernel_rfl) rfl ?_ ?_ ?_ (by simp [Value.oneCell'])]
    · simp [World.setCells, go_sem]
    · intro j u hj
      have hx := (ext_alloc w (.cells #[.int .i64 0, .int .i64 0, .int .i64 0, .int .i64 0, .int .i64 0, .int .i64 0] 167)).alloc (.cells #[.int .i64 1, .int .i64 0, .int .i64 0, .int .i64 0, .int .i64 0, .int .i64 0] 167)
      match j, hj with
      | 0, hj => simp at hj; subst hj; exact hx.cell h0
    · intro j hj
      have hj : j = 0 := by simp at hj; omega
      rcases hj with rfl <;> simp [go_sem]
    · intro j hj
      have hj : j = 0 := by simp at hj; omega
      rcases hj with rfl <;> simp [go_sem]
  go_enter Tryz.func96, Tryz.ntmps96
  go_wp2
  refine bodyPost_ret (v := .agg #[.int .i64 1, .int .i64 a, .int .i64 0, .int .i64 0, .int .i64 0, .int .i64 0]) (by simp [results, Tryz.results96, go_sem]) rfl ⟨rfl, ?_⟩
  exact (by first | (with_reducible exact Ext.refl _) | (with_reducible assumption) | (show Below _ _ _; go_grown; done))
set_option maxRecDepth 100000 in
theorem heardAs_2 (a b : Int) (v : Value) (w : World) (hl : IntsAt w v [a, b]) :
    Calls Tryz.prog 96 #[v] w fun r w' => r = .returned (ssV [a, b]) ∧ Ext w w' := by
  obtain ⟨p, cap, rfl, hlc, hcm, hc⟩ := hl
  obtain ⟨_, _, rfl, h0, -⟩ := hc 0 (by simp)
  obtain ⟨_, _, e1, h1, -⟩ := hc 1 (by simp)
  cases e1
  clear hc
  simp only [Nat.zero_mul, Nat.one_mul, Nat.reduceMul, Nat.add_zero, List.length_cons, List.length_nil, List.getElem_cons_zero, List.getElem_cons_succ] at h0 h1 hlc ⊢
  rename_i bb off
  have hcopy : (Builtin.copy_ #[26, 26] 3 #[.slice (some ⟨w.heap.size + 1, 1, none⟩) 5 5, .slice (some ⟨bb, off, none⟩) 2 cap]).run Tryz.prog ((w.alloc (.cells #[.int .i64 0, .int .i64 0, .int .i64 0, .int .i64 0, .int .i64 0, .int .i64 0] 167)).alloc (.cells #[.int .i64 2, .int .i64 0, .int .i64 0, .int .i64 0, .int .i64 0, .int .i64 0] 167)) = .ok (goInt 2) ((w.alloc (.cells #[.int .i64 0, .int .i64 0, .int .i64 0, .int .i64 0, .int .i64 0, .int .i64 0] 167)).alloc (.cells #[.int .i64 2, .int .i64 a, .int .i64 b, .int .i64 0, .int .i64 0, .int .i64 0] 167)) := by
    have hlt := cell_lt h0
    rw [run_copy_cells (P := Tryz.prog) ((w.alloc (.cells #[.int .i64 0, .int .i64 0, .int .i64 0, .int .i64 0, .int .i64 0, .int .i64 0] 167)).alloc (.cells #[.int .i64 2, .int .i64 0, .int .i64 0, .int .i64 0, .int .i64 0, .int .i64 0] 167)) 26 26 3 3 (w.heap.size + 1) 1 5 5 ⟨bb, off, none⟩ 2 cap [.int .i64 a, .int .i64 b] Tryz.underlying26 (by kernel_rfl) rfl ?_ ?_ ?_ (by simp [Value.oneCell'])]
    · simp [World.setCells, go_sem]
    · intro j u hj
      have hx := (ext_alloc w (.cells #[.int .i64 0, .int .i64 0, .int .i64 0, .int .i64 0, .int .i64 0, .int .i64 0] 167)).alloc (.cells #[.int .i64 2, .int .i64 0, .int .i64 0, .int .i64 0, .int .i64 0, .int .i64 0] 167)
      match j, hj with
      | 0, hj => simp at hj; subst hj; exact hx.cell h0
      | 1, hj => simp at hj; subst hj; exact hx.cell h1
    · intro j hj
      have hj : j = 0 ∨ j = 1 := by simp at hj; omega
      rcases hj with rfl | rfl <;> simp [go_sem]
    · intro j hj
      have hj : j = 0 ∨ j = 1 := by simp at hj; omega
      rcases hj with rfl | rfl <;> simp [go_sem]
  go_enter Tryz.func96, Tryz.ntmps96
  go_wp2
  refine bodyPost_ret (v := .agg #[.int .i64 2, .int .i64 a, .int .i64 b, .int .i64 0, .int .i64 0, .int .i64 0]) (by simp [results, Tryz.results96, go_sem]) rfl ⟨rfl, ?_⟩
  exact (by first | (with_reducible exact Ext.refl _) | (with_reducible assumption) | (show Below _ _ _; go_grown; done))
set_option maxRecDepth 100000 in
theorem heardAs_3 (a b c : Int) (v : Value) (w : World) (hl : IntsAt w v [a, b, c]) :
    Calls Tryz.prog 96 #[v] w fun r w' => r = .returned (ssV [a, b, c]) ∧ Ext w w' := by
  obtain ⟨p, cap, rfl, hlc, hcm, hc⟩ := hl
  obtain ⟨_, _, rfl, h0, -⟩ := hc 0 (by simp)
  obtain ⟨_, _, e1, h1, -⟩ := hc 1 (by simp)
  cases e1
  obtain ⟨_, _, e2, h2, -⟩ := hc 2 (by simp)
  cases e2
  clear hc
  simp only [Nat.zero_mul, Nat.one_mul, Nat.reduceMul, Nat.add_zero, List.length_cons, List.length_nil, List.getElem_cons_zero, List.getElem_cons_succ] at h0 h1 h2 hlc ⊢
  rename_i bb off
  have hcopy : (Builtin.copy_ #[26, 26] 3 #[.slice (some ⟨w.heap.size + 1, 1, none⟩) 5 5, .slice (some ⟨bb, off, none⟩) 3 cap]).run Tryz.prog ((w.alloc (.cells #[.int .i64 0, .int .i64 0, .int .i64 0, .int .i64 0, .int .i64 0, .int .i64 0] 167)).alloc (.cells #[.int .i64 3, .int .i64 0, .int .i64 0, .int .i64 0, .int .i64 0, .int .i64 0] 167)) = .ok (goInt 3) ((w.alloc (.cells #[.int .i64 0, .int .i64 0, .int .i64 0, .int .i64 0, .int .i64 0, .int .i64 0] 167)).alloc (.cells #[.int .i64 3, .int .i64 a, .int .i64 b, .int .i64 c, .int .i64 0, .int .i64 0] 167)) := by
    have hlt := cell_lt h0
    rw [run_copy_cells (P := Tryz.prog) ((w.alloc (.cells #[.int .i64 0, .int .i64 0, .int .i64 0, .int .i64 0, .int .i64 0, .int .i64 0] 167)).alloc (.cells #[.int .i64 3, .int .i64 0, .int .i64 0, .int .i64 0, .int .i64 0, .int .i64 0] 167)) 26 26 3 3 (w.heap.size + 1) 1 5 5 ⟨bb, off, none⟩ 3 cap [.int .i64 a, .int .i64 b, .int .i64 c] Tryz.underlying26 (by kernel_rfl) rfl ?_ ?_ ?_ (by simp [Value.oneCell'])]
    · simp [World.setCells, go_sem]
    · intro j u hj
      have hx := (ext_alloc w (.cells #[.int .i64 0, .int .i64 0, .int .i64 0, .int .i64 0, .int .i64 0, .int .i64 0] 167)).alloc (.cells #[.int .i64 3, .int .i64 0, .int .i64 0, .int .i64 0, .int .i64 0, .int .i64 0] 167)
      match j, hj with
      | 0, hj => simp at hj; subst hj; exact hx.cell h0
      | 1, hj => simp at hj; subst hj; exact hx.cell h1
      | 2, hj => simp at hj; subst hj; exact hx.cell h2
    · intro j hj
      have hj : j = 0 ∨ j = 1 ∨ j = 2 := by simp at hj; omega
      rcases hj with rfl | rfl | rfl <;> simp [go_sem]
    · intro j hj
      have hj : j = 0 ∨ j = 1 ∨ j = 2 := by simp at hj; omega
      rcases hj with rfl | rfl | rfl <;> simp [go_sem]
  go_enter Tryz.func96, Tryz.ntmps96
  go_wp2
  refine bodyPost_ret (v := .agg #[.int .i64 3, .int .i64 a, .int .i64 b, .int .i64 c, .int .i64 0, .int .i64 0]) (by simp [results, Tryz.results96, go_sem]) rfl ⟨rfl, ?_⟩
  exact (by first | (with_reducible exact Ext.refl _) | (with_reducible assumption) | (show Below _ _ _; go_grown; done))
set_option maxRecDepth 100000 in
theorem heardAs_4 (a b c d : Int) (v : Value) (w : World) (hl : IntsAt w v [a, b, c, d]) :
    Calls Tryz.prog 96 #[v] w fun r w' => r = .returned (ssV [a, b, c, d]) ∧ Ext w w' := by
  obtain ⟨p, cap, rfl, hlc, hcm, hc⟩ := hl
  obtain ⟨_, _, rfl, h0, -⟩ := hc 0 (by simp)
  obtain ⟨_, _, e1, h1, -⟩ := hc 1 (by simp)
  cases e1
  obtain ⟨_, _, e2, h2, -⟩ := hc 2 (by simp)
  cases e2
  obtain ⟨_, _, e3, h3, -⟩ := hc 3 (by simp)
  cases e3
  clear hc
  simp only [Nat.zero_mul, Nat.one_mul, Nat.reduceMul, Nat.add_zero, List.length_cons, List.length_nil, List.getElem_cons_zero, List.getElem_cons_succ] at h0 h1 h2 h3 hlc ⊢
  rename_i bb off
  have hcopy : (Builtin.copy_ #[26, 26] 3 #[.slice (some ⟨w.heap.size + 1, 1, none⟩) 5 5, .slice (some ⟨bb, off, none⟩) 4 cap]).run Tryz.prog ((w.alloc (.cells #[.int .i64 0, .int .i64 0, .int .i64 0, .int .i64 0, .int .i64 0, .int .i64 0] 167)).alloc (.cells #[.int .i64 4, .int .i64 0, .int .i64 0, .int .i64 0, .int .i64 0, .int .i64 0] 167)) = .ok (goInt 4) ((w.alloc (.cells #[.int .i64 0, .int .i64 0, .int .i64 0, .int .i64 0, .int .i64 0, .int .i64 0] 167)).alloc (.cells #[.int .i64 4, .int .i64 a, .int .i64 b, .int .i64 c, .int .i64 d, .int .i64 0] 167)) := by
    have hlt := cell_lt h0
    rw [run_copy_cells (P := Tryz.prog) ((w.alloc (.cells #[.int .i64 0, .int .i64 0, .int .i64 0, .int .i64 0, .int .i64 0, .int .i64 0] 167)).alloc (.cells #[.int .i64 4, .int .i64 0, .int .i64 0, .int .i64 0, .int .i64 0, .int .i64 0] 167)) 26 26 3 3 (w.heap.size + 1) 1 5 5 ⟨bb, off, none⟩ 4 cap [.int .i64 a, .int .i64 b, .int .i64 c, .int .i64 d] Tryz.underlying26 (by kernel_rfl) rfl ?_ ?_ ?_ (by simp [Value.oneCell'])]
    · simp [World.setCells, go_sem]
    · intro j u hj
      have hx := (ext_alloc w (.cells #[.int .i64 0, .int .i64 0, .int .i64 0, .int .i64 0, .int .i64 0, .int .i64 0] 167)).alloc (.cells #[.int .i64 4, .int .i64 0, .int .i64 0, .int .i64 0, .int .i64 0, .int .i64 0] 167)
      match j, hj with
      | 0, hj => simp at hj; subst hj; exact hx.cell h0
      | 1, hj => simp at hj; subst hj; exact hx.cell h1
      | 2, hj => simp at hj; subst hj; exact hx.cell h2
      | 3, hj => simp at hj; subst hj; exact hx.cell h3
    · intro j hj
      have hj : j = 0 ∨ j = 1 ∨ j = 2 ∨ j = 3 := by simp at hj; omega
      rcases hj with rfl | rfl | rfl | rfl <;> simp [go_sem]
    · intro j hj
      have hj : j = 0 ∨ j = 1 ∨ j = 2 ∨ j = 3 := by simp at hj; omega
      rcases hj with rfl | rfl | rfl | rfl <;> simp [go_sem]
  go_enter Tryz.func96, Tryz.ntmps96
  go_wp2
  refine bodyPost_ret (v := .agg #[.int .i64 4, .int .i64 a, .int .i64 b, .int .i64 c, .int .i64 d, .int .i64 0]) (by simp [results, Tryz.results96, go_sem]) rfl ⟨rfl, ?_⟩
  exact (by first | (with_reducible exact Ext.refl _) | (with_reducible assumption) | (show Below _ _ _; go_grown; done))
set_option maxRecDepth 100000 in
theorem heardAs_5 (a b c d e : Int) (v : Value) (w : World) (hl : IntsAt w v [a, b, c, d, e]) :
    Calls Tryz.prog 96 #[v] w fun r w' => r = .returned (ssV [a, b, c, d, e]) ∧ Ext w w' := by
  obtain ⟨p, cap, rfl, hlc, hcm, hc⟩ := hl
  obtain ⟨_, _, rfl, h0, -⟩ := hc 0 (by simp)
  obtain ⟨_, _, e1, h1, -⟩ := hc 1 (by simp)
  cases e1
  obtain ⟨_, _, e2, h2, -⟩ := hc 2 (by simp)
  cases e2
  obtain ⟨_, _, e3, h3, -⟩ := hc 3 (by simp)
  cases e3
  obtain ⟨_, _, e4, h4, -⟩ := hc 4 (by simp)
  cases e4
  clear hc
  simp only [Nat.zero_mul, Nat.one_mul, Nat.reduceMul, Nat.add_zero, List.length_cons, List.length_nil, List.getElem_cons_zero, List.getElem_cons_succ] at h0 h1 h2 h3 h4 hlc ⊢
  rename_i bb off
  have hcopy : (Builtin.copy_ #[26, 26] 3 #[.slice (some ⟨w.heap.size + 1, 1, none⟩) 5 5, .slice (some ⟨bb, off, none⟩) 5 cap]).run Tryz.prog ((w.alloc (.cells #[.int .i64 0, .int .i64 0, .int .i64 0, .int .i64 0, .int .i64 0, .int .i64 0] 167)).alloc (.cells #[.int .i64 5, .int .i64 0, .int .i64 0, .int .i64 0, .int .i64 0, .int .i64 0] 167)) = .ok (goInt 5) ((w.alloc (.cells #[.int .i64 0, .int .i64 0, .int .i64 0, .int .i64 0, .int .i64 0, .int .i64 0] 167)).alloc (.cells #[.int .i64 5, .int .i64 a, .int .i64 b, .int .i64 c, .int .i64 d, .int .i64 e] 167)) := by
    have hlt := cell_lt h0
    rw [run_copy_cells (P := Tryz.prog) ((w.alloc (.cells #[.int .i64 0, .int .i64 0, .int .i64 0, .int .i64 0, .int .i64 0, .int .i64 0] 167)).alloc (.cells #[.int .i64 5, .int .i64 0, .int .i64 0, .int .i64 0, .int .i64 0, .int .i64 0] 167)) 26 26 3 3 (w.heap.size + 1) 1 5 5 ⟨bb, off, none⟩ 5 cap [.int .i64 a, .int .i64 b, .int .i64 c, .int .i64 d, .int .i64 e] Tryz.underlying26 (by kernel_rfl) rfl ?_ ?_ ?_ (by simp [Value.oneCell'])]
    · simp [World.setCells, go_sem]
    · intro j u hj
      have hx := (ext_alloc w (.cells #[.int .i64 0, .int .i64 0, .int .i64 0, .int .i64 0, .int .i64 0, .int .i64 0] 167)).alloc (.cells #[.int .i64 5, .int .i64 0, .int .i64 0, .int .i64 0, .int .i64 0, .int .i64 0] 167)
      match j, hj with
      | 0, hj => simp at hj; subst hj; exact hx.cell h0
      | 1, hj => simp at hj; subst hj; exact hx.cell h1
      | 2, hj => simp at hj; subst hj; exact hx.cell h2
      | 3, hj => simp at hj; subst hj; exact hx.cell h3
      | 4, hj => simp at hj; subst hj; exact hx.cell h4
    · intro j hj
      have hj : j = 0 ∨ j = 1 ∨ j = 2 ∨ j = 3 ∨ j = 4 := by simp at hj; omega
      rcases hj with rfl | rfl | rfl | rfl | rfl <;> simp [go_sem]
    · intro j hj
      have hj : j = 0 ∨ j = 1 ∨ j = 2 ∨ j = 3 ∨ j = 4 := by simp at hj; omega
      rcases hj with rfl | rfl | rfl | rfl | rfl <;> simp [go_sem]
  go_enter Tryz.func96, Tryz.ntmps96
  go_wp2
  refine bodyPost_ret (v := .agg #[.int .i64 5, .int .i64 a, .int .i64 b, .int .i64 c, .int .i64 d, .int .i64 e]) (by simp [results, Tryz.results96, go_sem]) rfl ⟨rfl, ?_⟩
  exact (by first | (with_reducible exact Ext.refl _) | (with_reducible assumption) | (show Below _ _ _; go_grown; done))
theorem heardAs_any (l : List Int) (h5 : l.length ≤ 5) (v : Value) (w : World) (hl : IntsAt w v l) :
    Calls Tryz.prog 96 #[v] w fun r w' => r = .returned (ssV l) ∧ Ext w w' := by
  match l, h5, hl with
  | [], _, hl => exact heardAs_0 v w hl
  | [a], _, hl => exact heardAs_1 a v w hl
  | [a, b], _, hl => exact heardAs_2 a b v w hl
  | [a, b, c], _, hl => exact heardAs_3 a b c v w hl
  | [a, b, c, d], _, hl => exact heardAs_4 a b c d v w hl
  | [a, b, c, d, e], _, hl => exact heardAs_5 a b c d e v w hl
end Go.Proofs.YtcamegaimleomaaGreat

namespace Go.Proofs.YtcamegaimleomaaGreat
set_option linter.unusedSimpArgs false
set_option linter.unusedVariables false
set_option linter.unusedVariables false
open Go.RowKit
set_option linter.unusedSimpArgs false

set_option maxRecDepth 100000 in
theorem list_0 (hi : ∀ x ∈ ([] : List Int), I64 x) (w : World) :
    Calls Tryz.prog 127 #[ssV []] w fun r w' => ∃ v, r = .returned v ∧ IntsAt w' v [] ∧ Ext w w' := by
  have hmk : ∀ w, (Instr.makeSlice 26 (.int .i64 0) (.int .i64 0)).run Tryz.prog w = .ok (.slice (some ⟨w.heap.size, 0, none⟩) 0 0) (w.alloc (.cells #[] 3)) := fun _ => by kernel_rfl
  have hcopy : (Builtin.copy_ #[26, 26] 3 #[.slice (some ⟨w.heap.size + 1, 0, none⟩) 0 0, .slice (some ⟨w.heap.size, 1, none⟩) 5 5]).run Tryz.prog ((w.alloc (.cells #[.int .i64 0, .int .i64 0, .int .i64 0, .int .i64 0, .int .i64 0, .int .i64 0] 167)).alloc (.cells #[] 3)) = .ok (goInt 0) ((w.alloc (.cells #[.int .i64 0, .int .i64 0, .int .i64 0, .int .i64 0, .int .i64 0, .int .i64 0] 167)).alloc (.cells #[] 3)) :=
    run_copy_none _ _ _ _ 3 _ _ _ _ _ _ Tryz.underlying26 (by kernel_rfl) rfl
  go_enter Tryz.func127, Tryz.ntmps127
  unfold ssV ssRaw
  go_wp2
  go_ret
  refine ⟨_, rfl, ⟨_, _, rfl, Nat.le_refl _, by decide, fun i h => ?_⟩, (by first | (with_reducible exact Ext.refl _) | (with_reducible assumption) | (show Below _ _ _; go_grown; done))⟩
  simp at h
set_option maxRecDepth 100000 in
theorem list_1 (a : Int) (hi : ∀ x ∈ ([a] : List Int), I64 x) (w : World) :
    Calls Tryz.prog 127 #[ssV [a]] w fun r w' => ∃ v, r = .returned v ∧ IntsAt w' v [a] ∧ Ext w w' := by
  have hmk : ∀ w, (Instr.makeSlice 26 (.int .i64 1) (.int .i64 1)).run Tryz.prog w = .ok (.slice (some ⟨w.heap.size, 0, none⟩) 1 1) (w.alloc (.cells #[.int .i64 0] 3)) := fun _ => by kernel_rfl
  have hcopy : (Builtin.copy_ #[26, 26] 3 #[.slice (some ⟨w.heap.size + 1, 0, none⟩) 1 1, .slice (some ⟨w.heap.size, 1, none⟩) 5 5]).run Tryz.prog ((w.alloc (.cells #[.int .i64 1, .int .i64 a, .int .i64 0, .int .i64 0, .int .i64 0, .int .i64 0] 167)).alloc (.cells #[.int .i64 0] 3)) = .ok (goInt 1) ((w.alloc (.cells #[.int .i64 1, .int .i64 a, .int .i64 0, .int .i64 0, .int .i64 0, .int .i64 0] 167)).alloc (.cells #[.int .i64 a] 3)) := by
    rw [run_copy_cells (P := Tryz.prog) ((w.alloc (.cells #[.int .i64 1, .int .i64 a, .int .i64 0, .int .i64 0, .int .i64 0, .int .i64 0] 167)).alloc (.cells #[.int .i64 0] 3)) 26 26 3 3 (w.heap.size + 1) 0 1 1 ⟨w.heap.size, 1, none⟩ 5 5 [.int .i64 a] Tryz.underlying26 (by kernel_rfl) rfl ?_ ?_ ?_ (by simp [Value.oneCell'])]
    · simp [World.setCells, go_sem]
    · intro j u hj
      match j, hj with
      | 0, hj => simp at hj; subst hj; simp [go_sem, Addr.add]
    · intro j hj
      have hj : j = 0 := by simp at hj; omega
      rcases hj with rfl <;> simp [go_sem]
    · intro j hj
      have hj : j = 0 := by simp at hj; omega
      rcases hj with rfl <;> simp [go_sem]
  go_enter Tryz.func127, Tryz.ntmps127
  unfold ssV ssRaw
  go_wp2
  go_ret
  refine ⟨_, rfl, ⟨_, _, rfl, Nat.le_refl _, by decide, fun i h => ?_⟩, (by first | (with_reducible exact Ext.refl _) | (with_reducible assumption) | (show Below _ _ _; go_grown; done))⟩
  have hj : i = 0 := by simp at h; omega
  rcases hj with rfl
  · exact ⟨_, _, rfl, by simp [go_sem], hi _ (by simp)⟩
set_option maxRecDepth 100000 in
theorem list_2 (a b : Int) (hi : ∀ x ∈ ([a, b] : List Int), I64 x) (w : World) :
    Calls Tryz.prog 127 #[ssV [a, b]] w fun r w' => ∃ v, r = .returned v ∧ IntsAt w' v [a, b] ∧ Ext w w' := by
  have hmk : ∀ w, (Instr.makeSlice 26 (.int .i64 2) (.int .i64 2)).run Tryz.prog w = .ok (.slice (some ⟨w.heap.size, 0, none⟩) 2 2) (w.alloc (.cells #[.int .i64 0, .int .i64 0] 3)) := fun _ => by kernel_rfl
  have hcopy : (Builtin.copy_ #[26, 26] 3 #[.slice (some ⟨w.heap.size + 1, 0, none⟩) 2 2, .slice (some ⟨w.heap.size, 1, none⟩) 5 5]).run Tryz.prog ((w.alloc (.cells #[.int .i64 2, .int .i64 a, .int .i64 b, .int .i64 0, .int .i64 0, .int .i64 0] 167)).alloc (.cells #[.int .i64 0, .int .i64 0] 3)) = .ok (goInt 2) ((w.alloc (.cells #[.int .i64 2, .int .i64 a, .int .i64 b, .int .i64 0, .int .i64 0, .int .i64 0] 167)).alloc (.cells #[.int .i64 a, .int .i64 b] 3)) := by
    rw [run_copy_cells (P := Tryz.prog) ((w.alloc (.cells #[.int .i64 2, .int .i64 a, .int .i64 b, .int .i64 0, .int .i64 0, .int .i64 0] 167)).alloc (.cells #[.int .i64 0, .int .i64 0] 3)) 26 26 3 3 (w.heap.size + 1) 0 2 2 ⟨w.heap.size, 1, none⟩ 5 5 [.int .i64 a, .int .i64 b] Tryz.underlying26 (by kernel_rfl) rfl ?_ ?_ ?_ (by simp [Value.oneCell'])]
    · simp [World.setCells, go_sem]
    · intro j u hj
      match j, hj with
      | 0, hj => simp at hj; subst hj; simp [go_sem, Addr.add]
      | 1, hj => simp at hj; subst hj; simp [go_sem, Addr.add]
    · intro j hj
      have hj : j = 0 ∨ j = 1 := by simp at hj; omega
      rcases hj with rfl | rfl <;> simp [go_sem]
    · intro j hj
      have hj : j = 0 ∨ j = 1 := by simp at hj; omega
      rcases hj with rfl | rfl <;> simp [go_sem]
  go_enter Tryz.func127, Tryz.ntmps127
  unfold ssV ssRaw
  go_wp2
  go_ret
  refine ⟨_, rfl, ⟨_, _, rfl, Nat.le_refl _, by decide, fun i h => ?_⟩, (by first | (with_reducible exact Ext.refl _) | (with_reducible assumption) | (show Below _ _ _; go_grown; done))⟩
  have hj : i = 0 ∨ i = 1 := by simp at h; omega
  rcases hj with rfl | rfl
  · exact ⟨_, _, rfl, by simp [go_sem], hi _ (by simp)⟩
  · exact ⟨_, _, rfl, by simp [go_sem], hi _ (by simp)⟩
set_option maxRecDepth 100000 in
theorem list_3 (a b c : Int) (hi : ∀ x ∈ ([a, b, c] : List Int), I64 x) (w : World) :
    Calls Tryz.prog 127 #[ssV [a, b, c]] w fun r w' => ∃ v, r = .returned v ∧ IntsAt w' v [a, b, c] ∧ Ext w w' := by
  have hmk : ∀ w, (Instr.makeSlice 26 (.int .i64 3) (.int .i64 3)).run Tryz.prog w = .ok (.slice (some ⟨w.heap.size, 0, none⟩) 3 3) (w.alloc (.cells #[.int .i64 0, .int .i64 0, .int .i64 0] 3)) := fun _ => by kernel_rfl
  have hcopy : (Builtin.copy_ #[26, 26] 3 #[.slice (some ⟨w.heap.size + 1, 0, none⟩) 3 3, .slice (some ⟨w.heap.size, 1, none⟩) 5 5]).run Tryz.prog ((w.alloc (.cells #[.int .i64 3, .int .i64 a, .int .i64 b, .int .i64 c, .int .i64 0, .int .i64 0] 167)).alloc (.cells #[.int .i64 0, .int .i64 0, .int .i64 0] 3)) = .ok (goInt 3) ((w.alloc (.cells #[.int .i64 3, .int .i64 a, .int .i64 b, .int .i64 c, .int .i64 0, .int .i64 0] 167)).alloc (.cells #[.int .i64 a, .int .i64 b, .int .i64 c] 3)) := by
    rw [run_copy_cells (P := Tryz.prog) ((w.alloc (.cells #[.int .i64 3, .int .i64 a, .int .i64 b, .int .i64 c, .int .i64 0, .int .i64 0] 167)).alloc (.cells #[.int .i64 0, .int .i64 0, .int .i64 0] 3)) 26 26 3 3 (w.heap.size + 1) 0 3 3 ⟨w.heap.size, 1, none⟩ 5 5 [.int .i64 a, .int .i64 b, .int .i64 c] Tryz.underlying26 (by kernel_rfl) rfl ?_ ?_ ?_ (by simp [Value.oneCell'])]
    · simp [World.setCells, go_sem]
    · intro j u hj
      match j, hj with
      | 0, hj => simp at hj; subst hj; simp [go_sem, Addr.add]
      | 1, hj => simp at hj; subst hj; simp [go_sem, Addr.add]
      | 2, hj => simp at hj; subst hj; simp [go_sem, Addr.add]
    · intro j hj
      have hj : j = 0 ∨ j = 1 ∨ j = 2 := by simp at hj; omega
      rcases hj with rfl | rfl | rfl <;> simp [go_sem]
    · intro j hj
      have hj : j = 0 ∨ j = 1 ∨ j = 2 := by simp at hj; omega
      rcases hj with rfl | rfl | rfl <;> simp [go_sem]
  go_enter Tryz.func127, Tryz.ntmps127
  unfold ssV ssRaw
  go_wp2
  go_ret
  refine ⟨_, rfl, ⟨_, _, rfl, Nat.le_refl _, by decide, fun i h => ?_⟩, (by first | (with_reducible exact Ext.refl _) | (with_reducible assumption) | (show Below _ _ _; go_grown; done))⟩
  have hj : i = 0 ∨ i = 1 ∨ i = 2 := by simp at h; omega
  rcases hj with rfl | rfl | rfl
  · exact ⟨_, _, rfl, by simp [go_sem], hi _ (by simp)⟩
  · exact ⟨_, _, rfl, by simp [go_sem], hi _ (by simp)⟩
  · exact ⟨_, _, rfl, by simp [go_sem], hi _ (by simp)⟩
set_option maxRecDepth 100000 in
theorem list_4 (a b c d : Int) (hi : ∀ x ∈ ([a, b, c, d] : List Int), I64 x) (w : World) :
    Calls Tryz.prog 127 #[ssV [a, b, c, d]] w fun r w' => ∃ v, r = .returned v ∧ IntsAt w' v [a, b, c, d] ∧ Ext w w' := by
  have hmk : ∀ w, (Instr.makeSlice 26 (.int .i64 4) (.int .i64 4)).run Tryz.prog w = .ok (.slice (some ⟨w.heap.size, 0, none⟩) 4 4) (w.alloc (.cells #[.int .i64 0, .int .i64 0, .int .i64 0, .int .i64 0] 3)) := fun _ => by kernel_rfl
  have hcopy : (Builtin.copy_ #[26, 26] 3 #[.slice (some ⟨w.heap.size + 1, 0, none⟩) 4 4, .slice (some ⟨w.heap.size, 1, none⟩) 5 5]).run Tryz.prog ((w.alloc (.cells #[.int .i64 4, .int .i64 a, .int .i64 b, .int .i64 c, .int .i64 d, .int .i64 0] 167)).alloc (.cells #[.int .i64 0, .int .i64 0, .int .i64 0, .int .i64 0] 3)) = .ok (goInt 4) ((w.alloc (.cells #[.int .i64 4, .int .i64 a, .int .i64 b, .int .i64 c, .int .i64 d, .int .i64 0] 167)).alloc (.cells #[.int .i64 a, .int .i64 b, .int .i64 c, .int .i64 d] 3)) := by
    rw [run_copy_cells (P := Tryz.prog) ((w.alloc (.cells #[.int .i64 4, .int .i64 a, .int .i64 b, .int .i64 c, .int .i64 d, .int .i64 0] 167)).alloc (.cells #[.int .i64 0, .int .i64 0, .int .i64 0, .int .i64 0] 3)) 26 26 3 3 (w.heap.size + 1) 0 4 4 ⟨w.heap.size, 1, none⟩ 5 5 [.int .i64 a, .int .i64 b, .int .i64 c, .int .i64 d] Tryz.underlying26 (by kernel_rfl) rfl ?_ ?_ ?_ (by simp [Value.oneCell'])]
    · simp [World.setCells, go_sem]
    · intro j u hj
      match j, hj with
      | 0, hj => simp at hj; subst hj; simp [go_sem, Addr.add]
      | 1, hj => simp at hj; subst hj; simp [go_sem, Addr.add]
      | 2, hj => simp at hj; subst hj; simp [go_sem, Addr.add]
      | 3, hj => simp at hj; subst hj; simp [go_sem, Addr.add]
    · intro j hj
      have hj : j = 0 ∨ j = 1 ∨ j = 2 ∨ j = 3 := by simp at hj; omega
      rcases hj with rfl | rfl | rfl | rfl <;> simp [go_sem]
    · intro j hj
      have hj : j = 0 ∨ j = 1 ∨ j = 2 ∨ j = 3 := by simp at hj; omega
      rcases hj with rfl | rfl | rfl | rfl <;> simp [go_sem]
  go_enter Tryz.func127, Tryz.ntmps127
  unfold ssV ssRaw
  go_wp2
  go_ret
  refine ⟨_, rfl, ⟨_, _, rfl, Nat.le_refl _, by decide, fun i h => ?_⟩, (by first | (with_reducible exact Ext.refl _) | (with_reducible assumption) | (show Below _ _ _; go_grown; done))⟩
  have hj : i = 0 ∨ i = 1 ∨ i = 2 ∨ i = 3 := by simp at h; omega
  rcases hj with rfl | rfl | rfl | rfl
  · exact ⟨_, _, rfl, by simp [go_sem], hi _ (by simp)⟩
  · exact ⟨_, _, rfl, by simp [go_sem], hi _ (by simp)⟩
  · exact ⟨_, _, rfl, by simp [go_sem], hi _ (by simp)⟩
  · exact ⟨_, _, rfl, by simp [go_sem], hi _ (by simp)⟩
set_option maxRecDepth 100000 in
theorem list_5 (a b c d e : Int) (hi : ∀ x ∈ ([a, b, c, d, e] : List Int), I64 x) (w : World) :
    Calls Tryz.prog 127 #[ssV [a, b, c, d, e]] w fun r w' => ∃ v, r = .returned v ∧ IntsAt w' v [a, b, c, d, e] ∧ Ext w w' := by
  have hmk : ∀ w, (Instr.makeSlice 26 (.int .i64 5) (.int .i64 5)).run Tryz.prog w = .ok (.slice (some ⟨w.heap.size, 0, none⟩) 5 5) (w.alloc (.cells #[.int .i64 0, .int .i64 0, .int .i64 0, .int .i64 0, .int .i64 0] 3)) := fun _ => by kernel_rfl
  have hcopy : (Builtin.copy_ #[26, 26] 3 #[.slice (some ⟨w.heap.size + 1, 0, none⟩) 5 5, .slice (some ⟨w.heap.size, 1, none⟩) 5 5]).run Tryz.prog ((w.alloc (.cells #[.int .i64 5, .int .i64 a, .int .i64 b, .int .i64 c, .int .i64 d, .int .i64 e] 167)).alloc (.cells #[.int .i64 0, .int .i64 0, .int .i64 0, .int .i64 0, .int .i64 0] 3)) = .ok (goInt 5) ((w.alloc (.cells #[.int .i64 5, .int .i64 a, .int .i64 b, .int .i64 c, .int .i64 d, .int .i64 e] 167)).alloc (.cells #[.int .i64 a, .int .i64 b, .int .i64 c, .int .i64 d, .int .i64 e] 3)) := by
    rw [run_copy_cells (P := Tryz.prog) ((w.alloc (.cells #[.int .i64 5, .int .i64 a, .int .i64 b, .int .i64 c, .int .i64 d, .int .i64 e] 167)).alloc (.cells #[.int .i64 0, .int .i64 0, .int .i64 0, .int .i64 0, .int .i64 0] 3)) 26 26 3 3 (w.heap.size + 1) 0 5 5 ⟨w.heap.size, 1, none⟩ 5 5 [.int .i64 a, .int .i64 b, .int .i64 c, .int .i64 d, .int .i64 e] Tryz.underlying26 (by kernel_rfl) rfl ?_ ?_ ?_ (by simp [Value.oneCell'])]
    · simp [World.setCells, go_sem]
    · intro j u hj
      match j, hj with
      | 0, hj => simp at hj; subst hj; simp [go_sem, Addr.add]
      | 1, hj => simp at hj; subst hj; simp [go_sem, Addr.add]
      | 2, hj => simp at hj; subst hj; simp [go_sem, Addr.add]
      | 3, hj => simp at hj; subst hj; simp [go_sem, Addr.add]
      | 4, hj => simp at hj; subst hj; simp [go_sem, Addr.add]
    · intro j hj
      have hj : j = 0 ∨ j = 1 ∨ j = 2 ∨ j = 3 ∨ j = 4 := by simp at hj; omega
      rcases hj with rfl | rfl | rfl | rfl | rfl <;> simp [go_sem]
    · intro j hj
      have hj : j = 0 ∨ j = 1 ∨ j = 2 ∨ j = 3 ∨ j = 4 := by simp at hj; omega
      rcases hj with rfl | rfl | rfl | rfl | rfl <;> simp [go_sem]
  go_enter Tryz.func127, Tryz.ntmps127
  unfold ssV ssRaw
  go_wp2
  go_ret
  refine ⟨_, rfl, ⟨_, _, rfl, Nat.le_refl _, by decide, fun i h => ?_⟩, (by first | (with_reducible exact Ext.refl _) | (with_reducible assumption) | (show Below _ _ _; go_grown; done))⟩
  have hj : i = 0 ∨ i = 1 ∨ i = 2 ∨ i = 3 ∨ i = 4 := by simp at h; omega
  rcases hj with rfl | rfl | rfl | rfl | rfl
  · exact ⟨_, _, rfl, by simp [go_sem], hi _ (by simp)⟩
  · exact ⟨_, _, rfl, by simp [go_sem], hi _ (by simp)⟩
  · exact ⟨_, _, rfl, by simp [go_sem], hi _ (by simp)⟩
  · exact ⟨_, _, rfl, by simp [go_sem], hi _ (by simp)⟩
  · exact ⟨_, _, rfl, by simp [go_sem], hi _ (by simp)⟩
theorem list_any (l : List Int) (h5 : l.length ≤ 5) (hi : ∀ x ∈ l, I64 x) (w : World) :
    Calls Tryz.prog 127 #[ssV l] w fun r w' => ∃ v, r = .returned v ∧ IntsAt w' v l ∧ Ext w w' := by
  match l, h5, hi with
  | [], _, hi => exact list_0 hi w
  | [a], _, hi => exact list_1 a hi w
  | [a, b], _, hi => exact list_2 a b hi w
  | [a, b, c], _, hi => exact list_3 a b c hi w
  | [a, b, c, d], _, hi => exact list_4 a b c d hi w
  | [a, b, c, d, e], _, hi => exact list_5 a b c d e hi w
end Go.Proofs.YtcamegaimleomaaGreat
