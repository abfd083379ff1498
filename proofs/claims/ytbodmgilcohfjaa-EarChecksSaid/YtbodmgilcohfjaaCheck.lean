/-
  WHAT ear.Check AND open RETURN, for any book: the part, the index and the error that the document says; the book, and its error, or that of an index.
-/
import Derived.Test.YtbodmgilcohfjaaSpells
namespace Go.Proofs.Ytbodmgilcohfjaa
open Go.RowKit

def alphErr (b : Book) : Int × Int := firstErr (alphabetErrM b.sounds) b.alphabets
def spelErr (b : Book) : Int × Int := firstErr (fun _ y => spellingErrM b.alphabets y) b.spellings
def checkM (b : Book) : Int × Int × Int :=
  if inM b.sounds 1 4 = false then (1, 0, 7) else if inM b.alphabets.length 1 3 = false then (2, 0, 3) else if (alphErr b).2 ≠ 0 then (2, (alphErr b).1, (alphErr b).2)
  else if (5 : Int) < b.spellings.length then (3, 0, 3) else if (spelErr b).2 ≠ 0 then (3, (spelErr b).1, (spelErr b).2) else (0, 0, 0)
theorem ret_three {a b c : Int} {t : Int × Int × Int} (h : (a, b, c) = t) : Ending.returned (.tuple #[.int .i64 a, .int .i64 b, .int .i64 c]) = .returned (.tuple #[.int .i64 t.1, .int .i64 t.2.1, .int .i64 t.2.2]) := by subst h; rfl

set_option maxHeartbeats 1000000 in
set_option maxRecDepth 100000 in
theorem check_any (bv : Value) (b : Book) (w : World) (hb : BookAt w bv b) :
    Calls Try.prog 17 #[bv] w fun e w' => e = .returned (.tuple #[.int .i64 (checkM b).1, .int .i64 (checkM b).2.1, .int .i64 (checkM b).2.2]) ∧ Ext w w' := by
  obtain ⟨ba, bc, bs, bd, rfl, hbi, hbl, hbc, hsl, hsc, -, hal, hsp⟩ := hb.open
  have hbi' : -9223372036854775808 ≤ b.sounds ∧ b.sounds ≤ 9223372036854775807 := hbi
  have hA := Lib.hid hal
  have hP := Lib.hid hsp
  clear hal hsp
  go_enter Try.func17, Try.ntmps17
  go_wp2_with fail
  refine (within_any _ _ _ [b.sounds] _ (IntsAt.oneAt (by simp) hbi)).mono ?_
  rintro e w' ⟨rfl, rfl⟩
  rw [withinM_one]
  cases h1 : inM b.sounds 1 4
  · have H1 := Lib.hid h1; clear h1
    go_wp2_with fail
    go_ret3
    exact ⟨ret_three (by rw [checkM, if_pos H1.out]), (by first | (with_reducible exact Ext.refl _) | (with_reducible assumption) | (show Below _ _ _; go_grown; done))⟩
  have hS : 1 ≤ b.sounds ∧ b.sounds ≤ 4 := by simpa [inM] using h1
  have H1 := Lib.hid h1; clear h1
  go_wp2_with fail
  refine (within_any _ _ _ [(b.alphabets.length : Int)] _ (IntsAt.oneAt (by simp) (by omega))).mono ?_
  rintro e w' ⟨rfl, rfl⟩
  rw [withinM_one]
  cases h2 : inM b.alphabets.length 1 3
  · have H2 := Lib.hid h2; clear h2
    go_wp2_with fail
    go_ret3
    exact ⟨ret_three (by rw [checkM, if_neg (by rw [H1.out]; decide), if_pos H2.out]), (by first | (with_reducible exact Ext.refl _) | (with_reducible assumption) | (show Below _ _ _; go_grown; done))⟩
  have H2 := Lib.hid h2; clear h2
  go_wp2_with fail
  refine (firstErrorAlphabet_any _ _ b hS b.alphabets _ (hb.ext (by first | (with_reducible exact Ext.refl _) | (with_reducible assumption) | (show Below _ _ _; go_grown; done))) (hA.out.ext (by first | (with_reducible exact Ext.refl _) | (with_reducible assumption) | (show Below _ _ _; go_grown; done)))).mono ?_
  rintro e w1 ⟨rfl, hx1⟩
  have x1 : Ext w w1 := Ext.trans (by first | (with_reducible exact Ext.refl _) | (with_reducible assumption) | (show Below _ _ _; go_grown; done)) hx1
  have p0 : w1.cell? ⟨w.heap.size + 1, 0, none⟩ = some (.int .i64 b.sounds) := hx1.cell (by simp [go_sem])
  have p1 : w1.cell? ⟨w.heap.size + 1, 1, none⟩ = some (.slice ba b.alphabets.length bc) := hx1.cell (by simp [go_sem])
  have p2 : w1.cell? ⟨w.heap.size + 1, 2, none⟩ = some (.slice bs b.spellings.length bd) := hx1.cell (by simp [go_sem])
  clear hx1
  generalize hf : firstErr (alphabetErrM b.sounds) b.alphabets = f1
  have Hf : Hid (alphErr b = f1) := Lib.hid hf
  clear hf
  obtain ⟨at1, e1⟩ := f1
  by_cases h3 : e1 = 0
  rotate_left
  · have h3' : (e1 != 0) = true := by simpa using h3
    have H3 := Lib.hid h3; clear h3
    go_wp2_with fail
    go_ret3
    exact ⟨ret_three (by rw [checkM, if_neg (by rw [H1.out]; decide), if_neg (by rw [H2.out]; decide), Hf.out, if_pos H3.out]), x1⟩
  subst h3
  by_cases h4 : (5 : Int) < b.spellings.length
  · go_wp2_with fail
    go_ret3
    exact ⟨ret_three (by rw [checkM, if_neg (by rw [H1.out]; decide), if_neg (by rw [H2.out]; decide), Hf.out, if_neg (fun h => h rfl), if_pos (by omega)]), x1⟩
  go_wp2_with fail
  refine (firstErrorSpelling_any _ _ b b.spellings _ (hb.ext x1) (hP.out.ext x1)).mono ?_
  rintro e w2 ⟨rfl, hx2⟩
  have x2 := x1.trans hx2
  generalize hg : firstErr (fun _ y => spellingErrM b.alphabets y) b.spellings = f2
  have Hg : Hid (spelErr b = f2) := Lib.hid hg
  clear hg
  obtain ⟨at2, e2⟩ := f2
  by_cases h5 : e2 = 0
  · subst h5
    go_wp2_with fail
    go_ret3
    exact ⟨ret_three (by rw [checkM, if_neg (by rw [H1.out]; decide), if_neg (by rw [H2.out]; decide), Hf.out, if_neg (fun h => h rfl), if_neg (by omega), Hg.out, if_neg (fun h => h rfl)]), x2⟩
  · have h5' : (e2 != 0) = true := by simpa using h5
    have H5 := Lib.hid h5; clear h5
    go_wp2_with fail
    go_ret3
    exact ⟨ret_three (by rw [checkM, if_neg (by rw [H1.out]; decide), if_neg (by rw [H2.out]; decide), Hf.out, if_neg (fun h => h rfl), if_neg (by omega), Hg.out, if_pos H5.out]), x2⟩

def errM (b : Book) : Int := (checkM b).2.2
/-- the error of a book, then that of indices -/
def openM (b : Book) (l : List Int) : Int := if errM b ≠ 0 then errM b else if withinM 0 (b.spellings.length - 1) l = false then 4 else 0
def emptyBook : Value := .agg #[.int .i64 0, .slice none 0 0, .slice none 0 0]
/-- a book, if there is no error -/
def OpenV (w : World) (b : Book) (e : Int) (v : Value) : Prop := ∃ u, v = .tuple #[u, .int .i64 e] ∧ (e = 0 → BookAt w u b) ∧ (e ≠ 0 → u = emptyBook)

set_option maxHeartbeats 1000000 in
set_option maxRecDepth 100000 in
theorem open_any (bv v : Value) (b : Book) (l : List Int) (w : World) (hb : BookAt w bv b) (hl : IntsAt w v l) :
    Calls Try.prog 55 #[bv, v] w fun e w' => ∃ u, e = .returned u ∧ OpenV w' b (openM b l) u ∧ Ext w w' := by
  obtain ⟨ba, bc, bs, bd, rfl, hbi, hbl, hbc, hsl, hsc, -⟩ := hb.open
  go_enter Try.func55, Try.ntmps55
  go_wp2_with fail
  refine (check_any _ b _ (hb.ext (by first | (with_reducible exact Ext.refl _) | (with_reducible assumption) | (show Below _ _ _; go_grown; done)))).mono ?_
  rintro e w1 ⟨rfl, hx1⟩
  have x1 : Ext w w1 := Ext.trans (by first | (with_reducible exact Ext.refl _) | (with_reducible assumption) | (show Below _ _ _; go_grown; done)) hx1
  have p0 : w1.cell? ⟨w.heap.size, 0, none⟩ = some (.int .i64 b.sounds) := hx1.cell (by simp [go_sem])
  have p1 : w1.cell? ⟨w.heap.size, 1, none⟩ = some (.slice ba b.alphabets.length bc) := hx1.cell (by simp [go_sem])
  have p2 : w1.cell? ⟨w.heap.size, 2, none⟩ = some (.slice bs b.spellings.length bd) := hx1.cell (by simp [go_sem])
  have q0 : w1.cell? ⟨w.heap.size + 1, 0, none⟩ = some (.int .i64 0) := hx1.cell (by simp [go_sem])
  have q1 : w1.cell? ⟨w.heap.size + 1, 1, none⟩ = some (.slice none 0 0) := hx1.cell (by simp [go_sem])
  have q2 : w1.cell? ⟨w.heap.size + 1, 2, none⟩ = some (.slice none 0 0) := hx1.cell (by simp [go_sem])
  have z1 : w.heap.size + 1 < w1.heap.size := cell_lt q0
  have fz : ∀ o, w1.frozen? ⟨w.heap.size + 1, o, none⟩ = false := fun o => by rw [hx1.frozen (by simp)]; simp [go_sem]
  have f0 := fz 0
  have f1 := fz 1
  have f2 := fz 2
  clear fz hx1
  generalize hc : checkM b = c
  have Hc := Lib.hid hc
  clear hc
  obtain ⟨pt, at1, er⟩ := c
  by_cases h0 : er = 0
  rotate_left
  · have h0' : (er != 0) = true := by simpa using h0
    have H0 := Lib.hid h0; clear h0
    go_wp2_with fail
    have r := three_cells q0 q1 q2 (.int .i64 0) (.slice none 0 0) (.slice none 0 0)
    refine bodyPost_ret (v := .tuple #[emptyBook, .int .i64 er]) (by simp [results, Try.results55, go_sem, r.1, r.2.1, r.2.2, emptyBook]) rfl ⟨_, rfl, ⟨_, by rw [openM, errM, Hc.out, if_pos H0.out], fun h => ?_, fun _ => rfl⟩, ?_⟩
    · rw [openM, errM, Hc.out, if_pos H0.out] at h; exact absurd h H0.out
    · exact ((x1.setCell (by simp) _).setCell (by simp) _).setCell (by simp) _
  subst h0
  have hopen : ∀ x, openM b l = x ↔ (if withinM 0 (b.spellings.length - 1) l = false then 4 else 0) = x := fun x => by rw [openM, errM, Hc.out, if_neg (fun h => h rfl)]
  have Hopen := Lib.hid hopen; clear hopen
  go_wp2_with fail
  refine (within_any _ _ _ l _ (hl.ext x1)).mono ?_
  rintro e w' ⟨rfl, rfl⟩
  cases h1 : withinM 0 (b.spellings.length - 1) l
  · have H1 := Lib.hid h1; clear h1
    have ho : openM b l = 4 := (Hopen.out 4).2 (if_pos H1.out)
    have Ho := Lib.hid ho; clear ho
    go_wp2_with fail
    have r := three_cells q0 q1 q2 (.int .i64 0) (.slice none 0 0) (.slice none 0 0)
    refine bodyPost_ret (v := .tuple #[emptyBook, .int .i64 4]) (by simp [results, Try.results55, go_sem, r.1, r.2.1, r.2.2, emptyBook]) rfl ⟨_, rfl, ⟨_, by rw [Ho.out], fun h => ?_, fun _ => rfl⟩, ?_⟩
    · rw [Ho.out] at h; cases h
    · exact ((x1.setCell (by simp) _).setCell (by simp) _).setCell (by simp) _
  · have H1 := Lib.hid h1; clear h1
    have ho : openM b l = 0 := (Hopen.out 0).2 (if_neg (by rw [H1.out]; decide))
    have Ho := Lib.hid ho; clear ho
    go_wp2_with fail
    have r := three_cells q0 q1 q2 (.int .i64 b.sounds) (.slice ba b.alphabets.length bc) (.slice bs b.spellings.length bd)
    have x3 : Ext w (((w1.setCell ⟨w.heap.size + 1, 0, none⟩ (.int .i64 b.sounds)).setCell ⟨w.heap.size + 1, 1, none⟩ (.slice ba b.alphabets.length bc)).setCell ⟨w.heap.size + 1, 2, none⟩ (.slice bs b.spellings.length bd)) :=
      ((x1.setCell (by simp) _).setCell (by simp) _).setCell (by simp) _
    refine bodyPost_ret (v := .tuple #[.agg #[.int .i64 b.sounds, .slice ba b.alphabets.length bc, .slice bs b.spellings.length bd], .int .i64 0]) (by simp [results, Try.results55, go_sem, r.1, r.2.1, r.2.2]) rfl ⟨_, rfl, ⟨_, by rw [Ho.out], fun _ => hb.ext x3, fun h => absurd Ho.out h⟩, x3⟩
end Go.Proofs.Ytbodmgilcohfjaa
