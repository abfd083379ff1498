/-
  LetterRoom: with more room a letter is of no fewer forms, and needs no more corrections.
  AN ARRAY OF THREE BYTES that is handed in, opened.
  THE WAYS IN WHICH A LETTER IS OF A FORM, as lists of counts, plain: what fills they are, in which order they come.
  HOW MANY WORDS ROOMS CAN HAVE, all lists of them in order, plain.
  THE SHAPES OF A FORM, plain: what rooms with so many words make of it; the fewest corrections to a shape are those to the form's slots.
  Shape and Far of the reference.
  LISTS OF LISTS THAT A CALL MAKES ITSELF: a row of slices, each with numbers of its own.
-/
import Derived.Test.YtcamegaimleomaaGreatBunAP
import Derived.Test.YtcamegaimleomaaGreatBunAN
import Derived.Test.YtcamegaimleomaaGreatBunAK
import Derived.Test.YtcamegaimleomaaGreatBunAL
import Derived.Test.YtcamegaimleomaaGreatBunAD
import Derived.Test.YtcamegaimleomaaGreatBunAE
import Derived.Test.YtcamegaimleomaaGreatBunAG
import Derived.Test.YtcamegaimleomaaGreatBunAO
import Derived.Test.YtcamegaimleomaaGreatBunAC
import Derived.Maps.AppendAt
import Derived.Laws.AppendOwnNone
namespace Go.Proofs.YtcamegaimleomaaGreat
set_option linter.unusedSimpArgs false
set_option linter.unusedVariables false
open Go.RowKit
set_option linter.unusedVariables false
set_option linter.unusedSimpArgs false

theorem infoFormL : (Tryz.prog.info? 55).map (fun i => (i.zero, i.size, i.bytes)) = some (some (.agg #[.string ByteArray.empty, .slice none 0 0]), 2, 40) := by kernel_rfl
theorem more_words (a b : Int) (p : Part) : (morePart a b p).words = p.words := by unfold morePart; split <;> rfl
theorem more_I64 {a b : Int} (ha : 0 ≤ a) (hb : 0 ≤ b) {p : Part} (h : ValidPart p) : I64 (morePart a b p).lo ∧ I64 (morePart a b p).hi := by
  have h2 := (morePart_ok ha hb h).1
  by_cases hw : (morePart a b p).words = []
  · obtain ⟨r1, r2, r3, r4⟩ := h2.r hw
    constructor <;> constructor <;> omega
  · obtain ⟨r1, r2⟩ := h2.z hw
    rw [r1, r2]
    constructor <;> constructor <;> omega
theorem mend_bad {s : Shelf} {l : List ByteArray} (h : errS s ≠ 0 ∨ s.forms.length = 0 ∨ letterErrL l ≠ 0) : openForErrM s 0 l ≠ 0 := by
  unfold openForErrM
  by_cases ho : openErrM s 0 = 0
  · rw [if_neg (by rw [ho]; simp)]
    rcases h with h | h | h
    · unfold openErrM at ho
      rw [if_pos h] at ho
      exact absurd ho h
    · unfold openErrM at ho
      split at ho
      · rename_i h1; exact absurd ho h1
      · rw [h, if_pos (by decide)] at ho
        exact absurd ho (by decide)
    · exact h
  · rw [if_pos ho]; exact ho
theorem box_room {w : World} {fa : Option Addr} {fc : Nat} {s : Shelf} {y0 y1 y2 : Nat} (hb : ShelfAt w (.agg #[.int .i64 s.width, .slice fa s.forms.length fc]) s) :
    ∃ W, W = (w.alloc (.cells #[.int .i64 s.width, .slice fa s.forms.length fc] 24)).alloc (.cells #[.int .u8 y0, .int .u8 y1, .int .u8 y2] 49) ∧ ShelfAt W (.agg #[.int .i64 s.width, .slice fa s.forms.length fc]) s ∧ W.cell? ⟨w.heap.size, 0, none⟩ = some (.int .i64 s.width) ∧ W.cell? ⟨w.heap.size, 1, none⟩ = some (.slice fa s.forms.length fc) ∧
      W.cell? ⟨w.heap.size + 1, 0, none⟩ = some (.int .u8 y0) ∧ W.cell? ⟨w.heap.size + 1, 1, none⟩ = some (.int .u8 y1) ∧ W.cell? ⟨w.heap.size + 1, 2, none⟩ = some (.int .u8 y2) ∧ Ext w W :=
  ⟨_, rfl, (hb.ext (ext_alloc _ _)).ext (ext_alloc _ _), by simp [go_sem], by simp [go_sem], by simp [go_sem], by simp [go_sem], by simp [go_sem], (ext_alloc _ _).trans (ext_alloc _ _)⟩
set_option maxRecDepth 100000 in
set_option maxHeartbeats 8000000 in
theorem roomL_any (sv lv : Value) (s : Shelf) (l : List ByteArray) (y0 y1 y2 : Nat) (hy0 : y0 ≤ 255) (hy1 : y1 ≤ 255) (hy2 : y2 ≤ 255) (w : World) (hs : ShelfAt w sv s) (hl : StrsAt w lv l) :
    Calls Tryz.prog 6 #[sv, lv, .agg #[.int .u8 y0, .int .u8 y1, .int .u8 y2]] w fun e w' => e = .returned (.bool true) ∧ Ext w w' := by
  obtain ⟨fa, fc, rfl, -⟩ := hs.open
  obtain ⟨la, lc, rfl, -⟩ := hl.shape
  obtain ⟨W, hW, hb, q0, q1, p0, p1, p2, x1⟩ := box_room (y0 := y0) (y1 := y1) (y2 := y2) hs
  replace hl := hl.ext x1
  have z1 := cell_lt q0
  have z2 := cell_lt p0
  have HW := Lib.hid hW
  clear hs hW
  go_enter Tryz.func6, Tryz.ntmps6
  go_wp2_with fail
  rw [← HW.out]
  clear HW
  by_cases hbad : errS s ≠ 0 ∨ s.forms.length = 0 ∨ letterErrL l ≠ 0
  · have g1 := mend_bad hbad
    have g1' := neT g1
    have hme := fun w' v1 v2 (h1 : ShelfAt w' v1 s) (h2 : StrsAt w' v2 l) => Mend_any v1 v2 s 0 (by constructor <;> decide) l w' h1 h2
    generalize openForErrM s 0 l = e1 at *
    generalize mendM s 0 l = m1 at *
    clear g1
    by_cases h1 : errS s = 0
    · by_cases h2 : s.forms.length = 0
      · have h2' : ((s.forms.length : Int) == 0) = true := by rw [h2]; rfl
        clear h2 hbad
        refine (validL_any _ s _ hb).mono ?_
        rw [show (errS s == 0) = true from by rw [h1]; rfl]
        rintro e w3 ⟨rfl, hx⟩
        (replace hb := hb.ext hx; replace q0 := hx.cell q0; replace q1 := hx.cell q1; replace p0 := hx.cell p0; replace p1 := hx.cell p1; replace p2 := hx.cell p2; replace z1 := cell_lt q0; replace z2 := cell_lt p0; replace x1 := x1.trans hx; replace hl := hl.ext hx; clear hx)
        clear h1
        go_wp2_with fail
        refine (hme _ _ _ hb hl).mono ?_
        rintro e w2 ⟨rfl, hx⟩
        (replace hb := hb.ext hx; replace q0 := hx.cell q0; replace q1 := hx.cell q1; replace p0 := hx.cell p0; replace p1 := hx.cell p1; replace p2 := hx.cell p2; replace z1 := cell_lt q0; replace z2 := cell_lt p0; replace x1 := x1.trans hx; replace hl := hl.ext hx; clear hx)
        go_wp2_with fail
        refine (awakeL_any _).mono ?_
        rintro e w7 ⟨rfl, hx⟩
        go_wp2
        go_ret
        exact ⟨rfl, x1.trans hx⟩
      · have h3 : letterErrL l ≠ 0 := by
          rcases hbad with h | h | h
          · exact absurd h1 h
          · exact absurd h h2
          · exact h
        have h2' : ((s.forms.length : Int) == 0) = false := by simpa using h2
        have h3' := neT h3
        clear h2 hbad h3
        refine (validL_any _ s _ hb).mono ?_
        rw [show (errS s == 0) = true from by rw [h1]; rfl]
        rintro e w3 ⟨rfl, hx⟩
        (replace hb := hb.ext hx; replace q0 := hx.cell q0; replace q1 := hx.cell q1; replace p0 := hx.cell p0; replace p1 := hx.cell p1; replace p2 := hx.cell p2; replace z1 := cell_lt q0; replace z2 := cell_lt p0; replace x1 := x1.trans hx; replace hl := hl.ext hx; clear hx)
        clear h1
        go_wp2_with fail
        refine (refLett_any _ l _ hl).mono ?_
        rintro e w4 ⟨rfl, hx⟩
        (replace hb := hb.ext hx; replace q0 := hx.cell q0; replace q1 := hx.cell q1; replace p0 := hx.cell p0; replace p1 := hx.cell p1; replace p2 := hx.cell p2; replace z1 := cell_lt q0; replace z2 := cell_lt p0; replace x1 := x1.trans hx; replace hl := hl.ext hx; clear hx)
        generalize letterErrL l = e2 at *
        go_wp2_with fail
        refine (hme _ _ _ hb hl).mono ?_
        rintro e w2 ⟨rfl, hx⟩
        (replace hb := hb.ext hx; replace q0 := hx.cell q0; replace q1 := hx.cell q1; replace p0 := hx.cell p0; replace p1 := hx.cell p1; replace p2 := hx.cell p2; replace z1 := cell_lt q0; replace z2 := cell_lt p0; replace x1 := x1.trans hx; replace hl := hl.ext hx; clear hx)
        go_wp2_with fail
        refine (awakeL_any _).mono ?_
        rintro e w7 ⟨rfl, hx⟩
        go_wp2
        go_ret
        exact ⟨rfl, x1.trans hx⟩
    · clear hbad
      refine (validL_any _ s _ hb).mono ?_
      rw [show (errS s == 0) = false from by simpa using h1]
      rintro e w3 ⟨rfl, hx⟩
      (replace hb := hb.ext hx; replace q0 := hx.cell q0; replace q1 := hx.cell q1; replace p0 := hx.cell p0; replace p1 := hx.cell p1; replace p2 := hx.cell p2; replace z1 := cell_lt q0; replace z2 := cell_lt p0; replace x1 := x1.trans hx; replace hl := hl.ext hx; clear hx)
      clear h1
      go_wp2_with fail
      refine (hme _ _ _ hb hl).mono ?_
      rintro e w2 ⟨rfl, hx⟩
      (replace hb := hb.ext hx; replace q0 := hx.cell q0; replace q1 := hx.cell q1; replace p0 := hx.cell p0; replace p1 := hx.cell p1; replace p2 := hx.cell p2; replace z1 := cell_lt q0; replace z2 := cell_lt p0; replace x1 := x1.trans hx; replace hl := hl.ext hx; clear hx)
      go_wp2_with fail
      refine (awakeL_any _).mono ?_
      rintro e w7 ⟨rfl, hx⟩
      go_wp2
      go_ret
      exact ⟨rfl, x1.trans hx⟩
  · have h1 : errS s = 0 := Decidable.not_not.1 fun e => hbad (.inl e)
    have h2 : s.forms.length ≠ 0 := fun e => hbad (.inr (.inl e))
    have h3 : letterErrL l = 0 := Decidable.not_not.1 fun e => hbad (.inr (.inr e))
    have hv4 := (errS_ok h1).n
    have V := Lib.hid (errS_ok h1)
    have H1 := Lib.hid h1
    have H3 := Lib.hid h3
    have h2' : ((s.forms.length : Int) == 0) = false := by simpa using h2
    have H2 := Lib.hid h2
    clear hbad h1 h3 h2
    refine (validL_any _ s _ hb).mono ?_
    rw [show (errS s == 0) = true from by rw [H1.out]; rfl]
    rintro e w3 ⟨rfl, hx⟩
    (replace hb := hb.ext hx; replace q0 := hx.cell q0; replace q1 := hx.cell q1; replace p0 := hx.cell p0; replace p1 := hx.cell p1; replace p2 := hx.cell p2; replace z1 := cell_lt q0; replace z2 := cell_lt p0; replace x1 := x1.trans hx; replace hl := hl.ext hx; clear hx)
    go_wp2_with fail
    refine (refLett_any _ l _ hl).mono ?_
    rw [H3.out]
    rintro e w4 ⟨rfl, hx⟩
    (replace hb := hb.ext hx; replace q0 := hx.cell q0; replace q1 := hx.cell q1; replace p0 := hx.cell p0; replace p1 := hx.cell p1; replace p2 := hx.cell p2; replace z1 := cell_lt q0; replace z2 := cell_lt p0; replace x1 := x1.trans hx; replace hl := hl.ext hx; clear hx)
    have hwh := fun w' v (h : ShelfAt w' v s) => which_any v s y0 hy0 w' h H2.out hv4
    obtain ⟨k, hk⟩ : ∃ k, k = y0 % s.forms.length := ⟨_, rfl⟩
    have hkl : k < s.forms.length := by rw [hk]; exact Nat.mod_lt _ (by have := H2.out; omega)
    rw [← hk] at hwh
    clear hk h2'
    have k1 : (k : Int) < (s.forms.length : Int) := by omega
    have hkI : I64 k := by constructor <;> omega
    go_wp2_with fail
    refine (hwh _ _ hb).mono ?_
    rintro e w5 ⟨rfl, hx⟩
    (replace hb := hb.ext hx; replace q0 := hx.cell q0; replace q1 := hx.cell q1; replace p0 := hx.cell p0; replace p1 := hx.cell p1; replace p2 := hx.cell p2; replace z1 := cell_lt q0; replace z2 := cell_lt p0; replace x1 := x1.trans hx; replace hl := hl.ext hx; clear hx)
    clear hwh
    go_upto_region 6 with fail
    obtain ⟨i0, hi, hz0, hz1, hz2⟩ := info_parts infoFormL
    obtain ⟨j0, hj, hj0, hj1, hj2⟩ := info_parts infoPartL
    obtain ⟨fb, fo, rfl, -⟩ : ∃ b o, fa = some ⟨b, o, none⟩ ∧ True := by
      obtain ⟨u, e, -, h⟩ := hb
      obtain rfl : u = .slice fa s.forms.length fc := by simpa using e.symm
      obtain ⟨b, o, e, -⟩ := h.get hkl
      exact ⟨b, o, e, trivial⟩
    have hfm : FormsAt w5 (.slice (some ⟨fb, fo, none⟩) s.forms.length fc) s.forms := by
      obtain ⟨u, e, -, h⟩ := hb
      obtain rfl : u = .slice (some ⟨fb, fo, none⟩) s.forms.length fc := by simpa using e.symm
      exact h
    have hsw : I64 s.width := by obtain ⟨u, e, h, -⟩ := hb; exact h
    obtain ⟨pv, fc1, fc2, fc3, fc4⟩ := forms_cells hfm
    obtain ⟨-, hnc, hncm⟩ := hfm.len
    obtain ⟨B2, hB2⟩ : ∃ B2, B2 = w5.heap.size := ⟨_, rfl⟩
    obtain ⟨W5, hW5⟩ : ∃ W5, W5 = w5.alloc (.cells #[.int .i64 s.width, .slice (some ⟨fb, fo, none⟩) s.forms.length fc] 24) := ⟨_, rfl⟩
    have xw5 : Ext w5 W5 := by rw [hW5]; exact ext_alloc _ _
    have zW5 : W5.heap.size = B2 + 1 := by rw [hW5, hB2]; simp
    have m0 : W5.cell? ⟨B2, 0, none⟩ = some (.int .i64 s.width) := by rw [hW5, hB2]; simp [go_sem]
    have m1 : W5.cell? ⟨B2, 1, none⟩ = some (.slice (some ⟨fb, fo, none⟩) s.forms.length fc) := by rw [hW5, hB2]; simp [go_sem]
    have mf : W5.frozen? ⟨B2, 1, none⟩ = false := by rw [hW5, hB2]; simp [go_sem]
    have b1 := xw5.cell q1
    have zb1 := cell_lt b1
    rw [← hW5, ← hB2]
    have row0 : (W5.alloc (.cells #[] 55)).ownsRow W5.heap.size 55 2 (.slice (some ⟨W5.heap.size, 0, none⟩) 0 0) 0 [] := World.ownsRow_made W5 #[] 0 (Nat.le_refl _) (by unfold maxLen; omega) rfl
    have hnews := range_news (w := W5.alloc (.cells #[] 55)) (b := fb) (o := fo) (fun j hj => (ext_alloc _ _).cell (xw5.cell (fc1 j hj)))
    have hone := range_one fc2
    have Fc1 := Lib.hid fc1
    have Fc3 := Lib.hid fc3
    have Fc4 := Lib.hid fc4
    have Hb := Lib.hid hb
    have Hnews := Lib.hid hnews
    have Hone := Lib.hid hone
    have zB2 : w5.heap.size ≤ B2 := by omega
    have hB2' : B2 < W5.heap.size := by omega
    clear hfm fc1 fc2 fc3 fc4 hnews hone hW5 hB2 zW5
    go_upto_region 7 with (at_builtin; go_loud (refine wpList_append_own_at _ rfl _ _ 22 rfl W5.heap.size 55 i0 (.agg #[.string ByteArray.empty, .slice none 0 0]) 2 40 Tryz.underlying22 hi hz0 hz1 hz2 rfl (by decide) (.slice (some ⟨W5.heap.size, 0, none⟩) 0 0) 0 [] rfl row0 ⟨fb, fo, none⟩ s.forms.length fc _ rfl (by rw [List.length_map, List.length_range]) Hnews.out Hone.out (by unfold maxLen; omega) (by omega) (by simp) ?_; intro v1 w6 hown1 hgrow1 _ _; have x6 : Ext W5 w6 := Ext.grown ((Ext.refl W5).alloc _) hgrow1 (fun k hk => by cases hk; exact Nat.le_refl _); have m1' := x6.cell m1; have mf' := (x6.frozen (cell_lt m1)).trans mf; obtain ⟨g1, cap1, rfl, hg1, hg1z, hc1, hc1m, hgc, hgf⟩ := own_cells hown1 (by omega)))
    obtain ⟨W6, hW6⟩ : ∃ W6, W6 = w6.setCell ⟨B2, 1, none⟩ (.slice (some ⟨g1, 0, none⟩) s.forms.length cap1) := ⟨_, rfl⟩
    have x56 : Ext w5 W6 := by rw [hW6]; exact (xw5.trans x6).setCell (p := ⟨B2, 1, none⟩) zB2 _
    have M0 : W6.cell? ⟨B2, 0, none⟩ = some (.int .i64 s.width) := by rw [hW6]; exact set_other (x6.cell m0) (.inr (by simp)) _
    have M1 : W6.cell? ⟨B2, 1, none⟩ = some (.slice (some ⟨g1, 0, none⟩) s.forms.length cap1) := by rw [hW6]; exact set_cell m1' _
    have hBg : B2 < g1 := by omega
    have hG : ∀ j, j < s.forms.length * 2 → W6.cell? ⟨g1, j, none⟩ = some (formF (fun j => (formsN s.forms j).name) pv j) := fun j hj => by
      rw [hW6]
      refine set_other ?_ (.inl (by show B2 ≠ g1; omega)) _
      rw [hgc j (by simpa using hj), List.nil_append, range_get _ _ j hj]
    have hGf : ∀ j, W6.frozen? ⟨g1, j, none⟩ = false := fun j => by rw [hW6, World.frozen?_setCell]; exact hgf j
    have hgz : g1 < W6.heap.size := by rw [hW6]; simpa [World.setCell] using hg1z
    have a0 : W6.cell? ⟨g1, k * 2, none⟩ = some (.string (formsN s.forms k).name) := by
      rw [hG _ (by omega)]; unfold formF; rw [if_pos (by omega), show k * 2 / 2 = k from by omega]
    have a1 : W6.cell? ⟨g1, k * 2 + 1, none⟩ = some (pv k) := by
      rw [hG _ (by omega)]; unfold formF; rw [if_neg (by omega), show (k * 2 + 1) / 2 = k from by omega]
    have hpk := Fc3.out k hkl
    obtain ⟨pa, pc, hpv, hpc, hpcm⟩ := hpk.shape
    rw [hpv] at a1 hpk
    have hVf : ValidForm (formsN s.forms k) := by rw [formsN_is hkl]; exact V.out.forms _ (List.getElem_mem hkl)
    obtain ⟨f, hf⟩ : ∃ f, formsN s.forms k = f := ⟨_, rfl⟩
    rw [hf] at a0 a1 hpk hpv hpc hVf
    have Hf := Lib.hid hf
    have Hpv := Lib.hid hpv
    have HG := Lib.hid hG
    have HGf := Lib.hid hGf
    have HVf := Lib.hid hVf
    have hsz56 := x56.size
    replace q0 := x56.cell q0
    replace q1 := x56.cell q1
    replace p0 := x56.cell p0
    replace p1 := x56.cell p1
    replace p2 := x56.cell p2
    rw [← hW6]
    clear hf hpv hG hGf hW6 hgc hgf hVf m0 m1 mf b1 zb1 row0 hown1 hgrow1 x6 xw5 m1' mf' hg1 hg1z
    go_upto_region 8 with fail
    have zb6 := cell_lt q0
    have zX6 := cell_lt p0
    refine room_r8 (w0 := w5) (x56.trans (ext_alloc _ _)) (by simp [go_sem]) (by simp [go_sem]) hpk HVf.out.n _ ?_
    intro v63 v64 v65 v66 v67 W8 g2 cap2 us h8
    have x68 : Ext W6 W8 := Below.trans (ext_alloc W6 (.cells #[.string f.name, .slice pa f.parts.length pc] 55)) h8.b
    have n3 : W8.cell? ⟨W6.heap.size, 0, none⟩ = some (.string f.name) := h8.d _ (by simp [go_sem])
    have c3 := h8.c
    have hBg2 := h8.lt
    have hg2z := h8.z
    have H8 := Lib.hid h8
    have hm5 := HVf.out.n
    have X1 := x68.cell p1
    have X2 := x68.cell p2
    have hXg2 : w.heap.size + 1 < g2 := by omega
    have zX8 := cell_lt X1
    clear h8
    go_upto_block 0 with fail
    refine room_b0 hy1 hy2 X1 X2 hXg2 c3 hBg2 hm5 H8.out.le H8.out.row hg2z H8.out.s (fun j hj => by have : partsN f.parts j = f.parts[j] := (by unfold partsN; rw [List.getD_eq_getElem?_getD, List.getElem?_eq_getElem hj]; rfl); rw [this]; exact HVf.out.parts _ (List.getElem_mem hj)) _ ?_
    intro v12 v13 v68 v69 v70 v71 v72 v73 v74 v75 v76 v77 v78 v79 v80 v81 v82 v83 v84 v85 v86 v87 v88 v89 v90 v91 v92 v93 v94 v95 v96 v97 v98 v99 v100 v101 v102 v103 v104 v105 v106 wc hpost
    obtain ⟨hb8, hprow⟩ := hpost
    have hsz8 := hb8.size
    obtain ⟨a, ha⟩ : ∃ a : Int, ((y1 % 3 : Nat) : Int) = a := ⟨_, rfl⟩
    obtain ⟨b, hb'⟩ : ∃ b : Int, ((y2 % 3 : Nat) : Int) = b := ⟨_, rfl⟩
    have ha0 : 0 ≤ a := by omega
    have hb0 : 0 ≤ b := by omega
    rw [ha, hb'] at hprow
    clear ha hb'
    have hg12 : g1 < g2 := by omega
    have keep : ∀ B o v, W6.cell? ⟨B, o, none⟩ = some v → wc.cell? ⟨B, o, none⟩ = some v := fun B o v h => by
      have hB := cell_lt h
      rw [hb8.cell (p := ⟨B, o, none⟩) (by show B < g2; simp at hB; omega)]
      exact x68.cell h
    have C3 : wc.cell? ⟨W6.heap.size, 1, none⟩ = some (.slice (some ⟨g2, 0, none⟩) f.parts.length cap2) := by rw [hb8.cell (p := ⟨W6.heap.size, 1, none⟩) hBg2]; exact c3
    have C0 : wc.cell? ⟨W6.heap.size, 0, none⟩ = some (.string f.name) := by rw [hb8.cell (p := ⟨W6.heap.size, 0, none⟩) hBg2]; exact n3
    have N0 := keep _ _ _ M0
    have N1 := keep _ _ _ M1
    have G0 := keep _ _ _ a0
    have G1 := keep _ _ _ a1
    have fz : ∀ o, wc.frozen? ⟨g1, o, none⟩ = false := fun o => by
      rw [hb8.frozen (p := ⟨g1, o, none⟩) hg12, x68.frozen (p := ⟨g1, o, none⟩) hgz]
      exact HGf.out o
    have F0 := fz (k * 2)
    have F1 := fz (k * 2 + 1)
    have zB2c := cell_lt N0
    have zg1c := cell_lt G0
    have zB3c := cell_lt C0
    have Keep := Lib.hid keep
    have Hb8 := Lib.hid hb8
    have Hprow := Lib.hid hprow
    clear hb8 hprow keep fz
    go_upto_region 17 with fail
    obtain ⟨W9, hW9⟩ : ∃ W9, W9 = (wc.setCell ⟨g1, k * 2, none⟩ (.string f.name)).setCell ⟨g1, k * 2 + 1, none⟩ (.slice (some ⟨g2, 0, none⟩) f.parts.length cap2) := ⟨_, rfl⟩
    have hg15 : w5.heap.size ≤ g1 := by omega
    have xw9 : Ext w5 W9 := by
      rw [hW9]
      exact ((Below.trans (x56.trans x68) (Below.mono Hb8.out (by omega))).setCell (p := ⟨g1, _, none⟩) hg15 _).setCell (p := ⟨g1, _, none⟩) hg15 _
    have hmore : ShelfAt W9 (.agg #[.int .i64 s.width, .slice (some ⟨g1, 0, none⟩) s.forms.length cap1]) (moreShelf a b s k) := by
      have hGc := fun j (hj : j < s.forms.length * 2) => Keep.out _ _ _ (HG.out j hj)
      refine more_shelf (pv := pv) (nv := .slice (some ⟨g2, 0, none⟩) f.parts.length cap2) hsw hkl (by omega) hc1m (fun j hj => ?_) Fc4.out (fun j hj hjk => ?_) (fun j hj => (Fc3.out j hj).ext xw9) ?_ ?_
      · have h0 := hGc (j * 2) (by omega)
        unfold formF at h0
        rw [if_pos (by omega), show j * 2 / 2 = j from by omega] at h0
        rw [hW9]
        refine set_other ?_ (.inr (by show k * 2 + 1 ≠ j * 2; omega)) _
        by_cases e : j = k
        · subst e
          rw [Hf.out]
          exact set_cell G0 _
        · exact set_other h0 (.inr (by show k * 2 ≠ j * 2; omega)) _
      · have h0 := hGc (j * 2 + 1) (by omega)
        unfold formF at h0
        rw [if_neg (by omega), show (j * 2 + 1) / 2 = j from by omega] at h0
        rw [hW9]
        exact set_other (set_other h0 (.inr (by show k * 2 ≠ j * 2 + 1; omega)) _) (.inr (by show k * 2 + 1 ≠ j * 2 + 1; omega)) _
      · rw [hW9]
        exact set_cell (set_other G1 (.inr (by simp)) _) _
      · rw [Hf.out]
        refine PRow.parts (us := us) ?_ (fun j hj => ?_) (fun p hp => more_I64 ha0 hb0 (HVf.out.parts p hp)) H8.out.le H8.out.m
        · rw [hW9]
          exact (Hprow.out.other (by show g1 ≠ g2; omega) _).other (by show g1 ≠ g2; omega) _
        · rw [more_words]
          exact (H8.out.s j hj).ext xw9
    have r0 : W9.cell? ⟨B2, 0, none⟩ = some (.int .i64 s.width) := by rw [hW9]; exact set_other (set_other N0 (.inl (by show g1 ≠ B2; omega)) _) (.inl (by show g1 ≠ B2; omega)) _
    have r1 : W9.cell? ⟨B2, 1, none⟩ = some (.slice (some ⟨g1, 0, none⟩) s.forms.length cap1) := by rw [hW9]; exact set_other (set_other N1 (.inl (by show g1 ≠ B2; omega)) _) (.inl (by show g1 ≠ B2; omega)) _
    have kq : ∀ o v, wc.cell? ⟨w.heap.size, o, none⟩ = some v → W9.cell? ⟨w.heap.size, o, none⟩ = some v := fun o v h => by
      rw [hW9]; exact set_other (set_other h (.inl (by show g1 ≠ w.heap.size; omega)) _) (.inl (by show g1 ≠ w.heap.size; omega)) _
    have s0 := kq _ _ (Keep.out _ _ _ q0)
    have s1 := kq _ _ (Keep.out _ _ _ q1)
    have t1 := cell_lt r0
    have t2 := cell_lt s0
    have hbS := Hb.out.ext xw9
    have hlS := hl.ext xw9
    have hxF := x1.trans xw9
    have hle : (moreShelf a b s k).forms.length = s.forms.length := List.length_modify ..
    have hse : shelfErrM s l = 0 := by unfold shelfErrM; rw [if_neg (by rw [H1.out]; simp), H3.out]
    have hse2 : shelfErrM (moreShelf a b s k) l = 0 := by unfold shelfErrM; rw [if_neg (by rw [moreShelf_ok ha0 hb0 H1.out]; simp), H3.out]
    obtain ⟨d1, d2, d3⟩ := mend_more ha0 hb0 H1.out H3.out k hkl
    have hom := of_more ha0 hb0 H1.out k l
    obtain ⟨s2, hs2⟩ : ∃ s2, moreShelf a b s k = s2 := ⟨_, rfl⟩
    have hme := fun w' v1 v2 (x1 : ShelfAt w' v1 s) (x2 : StrsAt w' v2 l) => Mend_any v1 v2 s k hkI l w' x1 x2
    have hme2 := fun w' v1 v2 (x1 : ShelfAt w' v1 (moreShelf a b s k)) (x2 : StrsAt w' v2 l) => Mend_any v1 v2 (moreShelf a b s k) k hkI l w' x1 x2
    have hoA := fun w' v1 v2 (x1 : ShelfAt w' v1 s) (x2 : StrsAt w' v2 l) => of_any v1 v2 s l w' x1 x2
    have hoB := fun w' v1 v2 (x1 : ShelfAt w' v1 (moreShelf a b s k)) (x2 : StrsAt w' v2 l) => of_any v1 v2 (moreShelf a b s k) l w' x1 x2
    rw [d1] at hme
    rw [d2] at hme2
    rw [hse] at hoA
    rw [hse2] at hoB
    rw [hs2] at hmore hme2 hoB hom d3
    generalize mendM s k l = ma at *
    generalize mendM s2 k l = mb at *
    have hol : (ofM s l).length ≤ s.forms.length := ofTo_len s.forms l s.forms.length
    generalize ofM s l = oa at *
    generalize ofM s2 l = ob at *
    have Hom := Lib.hid hom
    have hgt : ¬ (ma : Int) < (mb : Int) := by omega
    rw [← hW9]
    clear hW9 N0 N1 G0 G1 F0 F1 C3 C0 kq q0 q1 p0 p1 p2 M0 M1 a0 a1 n3 c3 X1 X2 hl hb x1 hle hse hse2 d1 d2 d3 hom hs2 Keep Hb8 Hprow H8 HG HGf Fc1 Fc3 Fc4 Hf Hpv HVf Hb V
    go_wp2_with fail
    refine (hoA _ _ _ hbS hlS).mono ?_
    rintro e w10 ⟨u, rfl, ⟨ov, rfl, ho, -⟩, hx⟩
    replace ho := ho rfl
    (replace hbS := hbS.ext hx; replace hlS := hlS.ext hx; replace hmore := hmore.ext hx; replace r0 := hx.cell r0; replace r1 := hx.cell r1; replace s0 := hx.cell s0; replace s1 := hx.cell s1; replace t1 := cell_lt r0; replace t2 := cell_lt s0; replace hxF := hxF.trans hx)
    clear hx hoA
    go_wp2_with fail
    refine (hoB _ _ _ hmore hlS).mono ?_
    rintro e w11 ⟨u, rfl, ⟨ov2, rfl, ho2, -⟩, hx⟩
    replace ho2 := ho2 rfl
    replace ho := ho.ext hx
    (replace hbS := hbS.ext hx; replace hlS := hlS.ext hx; replace hmore := hmore.ext hx; replace r0 := hx.cell r0; replace r1 := hx.cell r1; replace s0 := hx.cell s0; replace s1 := hx.cell s1; replace t1 := cell_lt r0; replace t2 := cell_lt s0; replace hxF := hxF.trans hx)
    clear hx hoB
    go_wp2_with fail
    refine (hme _ _ _ hbS hlS).mono ?_
    rintro e w12 ⟨rfl, hx⟩
    replace ho := ho.ext hx
    replace ho2 := ho2.ext hx
    (replace hbS := hbS.ext hx; replace hlS := hlS.ext hx; replace hmore := hmore.ext hx; replace r0 := hx.cell r0; replace r1 := hx.cell r1; replace s0 := hx.cell s0; replace s1 := hx.cell s1; replace t1 := cell_lt r0; replace t2 := cell_lt s0; replace hxF := hxF.trans hx)
    clear hx hme
    go_wp2_with fail
    refine (hme2 _ _ _ hmore hlS).mono ?_
    rintro e w13 ⟨rfl, hx⟩
    replace ho := ho.ext hx
    replace ho2 := ho2.ext hx
    replace hxF := hxF.trans hx
    clear hx hme2 hbS hlS hmore r0 r1 s0 s1 t1 t2
    obtain ⟨oaa, oac, rfl, -⟩ := ho.shape
    obtain ⟨oba, obc, rfl, -⟩ := ho2.shape
    go_upto_block 2 with fail
    refine room_b2 ho ho2 Hom.out (by omega) _ ?_
    intro v6 v22 v157 v158 v159 v160 v161 v162 v163 v164 v165 v166 v167 v168 v169 w14 hx
    replace hxF := hxF.trans hx
    clear hx ho ho2
    go_wp2_with fail
    refine (awakeL_any _).mono ?_
    rintro e w15 ⟨rfl, hx⟩
    go_wp2
    go_ret
    exact ⟨rfl, hxF.trans hx⟩
end Go.Proofs.YtcamegaimleomaaGreat

namespace Go.Proofs.YtcamegaimleomaaGreat
set_option linter.unusedSimpArgs false
set_option linter.unusedVariables false
open Go.ChangeShapes Go.WideShapes Go.RowKit
set_option maxRecDepth 100000
section
variable {H : Type} {enc : TypeId × Value → H} {w : World} {base : Nat} {sp : Nat → Bool} {held : Bool}
theorem arrayL_of {t e : TypeId} {k : IntKind} {n : Nat} (ht : Tryz.prog.underlying t = some (.array n e)) (he : Tryz.prog.underlying e = some (.int k)) (hce : Tryz.prog.cellsOf e = 1) (hct : Tryz.prog.cellsOf t = n)
    {r : Reach} {b0 : Nat} {v : Value} {d : DataW H} {ps : List MemPlace} (hval : Value.okWide Tryz.prog w r b0 t v) (hd : DataW.Trod enc Tryz.prog w base sp held t v d ps) :
    ∃ l : List Int, v = .agg (l.map (Value.int k)).toArray ∧ l.length = n ∧ ∀ x ∈ l, (Lit.int k x).wf = true := by
  simp only [Value.okWide, ht] at hval
  obtain ⟨cs, rfl, -, -⟩ := hval
  obtain ⟨fuel, h⟩ := hd
  simp only [Value.cells] at h
  obtain ⟨xs, m, -, -, hl, hxl, hel⟩ := DataW.trod_array ht h
  rw [hct] at hl
  rw [hce] at hel
  have hone : ∀ i (hi : i < n), ∃ a : Int, cs.toList[i]'(by omega) = .int k a ∧ (Lit.int k a).wf = true := by
    intro i hi
    have h1 := hel i hi
    rw [Nat.mul_one, List.getElem?_eq_getElem (by omega)] at h1
    have e1 : (cs.toList.drop i).take 1 = [cs.toList[i]'(by omega)] := by
      rw [List.drop_eq_getElem_cons (by omega)]; rfl
    rw [e1] at h1
    obtain ⟨a, ea, -, wa⟩ := DataW.trod_int he h1
    simp only [List.cons.injEq, and_true] at ea
    exact ⟨a, ea, wa⟩
  have key : ∀ l : List Value, (∀ i (hi : i < l.length), ∃ a : Int, l[i] = .int k a ∧ (Lit.int k a).wf = true) → ∃ q : List Int, l = q.map (Value.int k) ∧ ∀ x ∈ q, (Lit.int k x).wf = true := by
    intro l
    induction l with
    | nil => exact fun _ => ⟨[], rfl, by simp⟩
    | cons c l ih =>
      intro hc
      obtain ⟨a, ea, wa⟩ := hc 0 (by simp)
      obtain ⟨q, eq, wq⟩ := ih fun i hi => by
        have := hc (i + 1) (by simpa using hi)
        simpa using this
      refine ⟨a :: q, ?_, ?_⟩
      · simp only [List.getElem_cons_zero] at ea
        rw [ea, eq]; rfl
      · intro x hx
        rcases List.mem_cons.1 hx with rfl | hx
        · exact wa
        · exact wq x hx
  obtain ⟨q, eq, wq⟩ := key cs.toList fun i hi => hone i (by omega)
  refine ⟨q, ?_, by rw [← hl, eq]; simp, wq⟩
  congr 1
  rw [← eq]
/-- an array of three bytes -/
theorem bytes3L_of {r : Reach} {b0 : Nat} {v : Value} {d : DataW H} {ps : List MemPlace} (hval : Value.okWide Tryz.prog w r b0 49 v) (hd : DataW.Trod enc Tryz.prog w base sp held 49 v d ps) :
    ∃ x y z : Nat, v = .agg #[.int .u8 x, .int .u8 y, .int .u8 z] ∧ x ≤ 255 ∧ y ≤ 255 ∧ z ≤ 255 := by
  obtain ⟨l, rfl, hl, hw⟩ := arrayL_of Tryz.underlying49 Tryz.underlying5 cellsU8 (by kernel_rfl) hval hd
  match l, hl with
  | [a, b, c], _ =>
    have ha := wf_u8 (hw a (by simp))
    have hb := wf_u8 (hw b (by simp))
    have hc := wf_u8 (hw c (by simp))
    unfold U8 at ha hb hc
    refine ⟨a.toNat, b.toNat, c.toNat, ?_, by omega, by omega, by omega⟩
    rw [show ((a.toNat : Nat) : Int) = a from by omega, show ((b.toNat : Nat) : Int) = b from by omega, show ((c.toNat : Nat) : Int) = c from by omega]
    rfl
end
end Go.Proofs.YtcamegaimleomaaGreat

namespace Go.Proofs.YtcamegaimleomaaGreat
set_option linter.unusedSimpArgs false
set_option linter.unusedVariables false
set_option linter.unusedVariables false

/-- counts as a list, over others -/
def ovr : (Nat → Int) → Nat → List Nat → (Nat → Int)
  | c, _, [] => c
  | c, k, n :: ns => ovr (updC c k n) (k + 1) ns
def waysL : List (List Slot) → List ByteArray → List (List Nat)
  | [], left => if left.length = 0 then [[]] else []
  | sl :: r, left => (List.range (sl.length + 1)).flatMap fun n => if sizeOk sl left n = true then (waysL r (left.drop n)).map (n :: ·) else []
theorem waysTo_flat (step : Nat → List (Nat → Int)) (sl : List Slot) (left : List ByteArray) : ∀ k, waysTo step sl left k = (List.range k).flatMap fun n => if sizeOk sl left n = true then step n else []
  | 0 => rfl
  | k + 1 => by rw [waysTo, waysTo_flat step sl left k, List.range_succ, List.flatMap_append]; simp
theorem ways_list : ∀ (ss : List (List Slot)) (k : Nat) (left : List ByteArray) (c : Nat → Int), waysF ss k left c = (waysL ss left).map (ovr c k)
  | [], k, left, c => by unfold waysF waysL; split <;> rfl
  | sl :: r, k, left, c => by
    rw [waysF, waysTo_flat, waysL, List.map_flatMap]
    congr 1
    funext n
    split
    · rw [ways_list r (k + 1) _ _, List.map_map]; rfl
    · rfl
theorem waysL_mem {sl : List Slot} {r : List (List Slot)} {left : List ByteArray} {ns : List Nat} : ns ∈ waysL (sl :: r) left ↔ ∃ n m, ns = n :: m ∧ n ≤ sl.length ∧ sizeOk sl left n = true ∧ m ∈ waysL r (left.drop n) := by
  rw [waysL, List.mem_flatMap]
  constructor
  · rintro ⟨n, hn, h⟩
    split at h
    · rename_i hs
      obtain ⟨m, hm, rfl⟩ := List.mem_map.1 h
      exact ⟨n, m, rfl, by have := List.mem_range.1 hn; omega, hs, hm⟩
    · cases h
  · rintro ⟨n, m, rfl, h1, h2, h3⟩
    exact ⟨n, List.mem_range.2 (by omega), by rw [if_pos h2]; exact List.mem_map.2 ⟨m, h3, rfl⟩⟩
theorem waysL_len : ∀ (ss : List (List Slot)) (left : List ByteArray) (ns : List Nat), ns ∈ waysL ss left → ns.length = ss.length
  | [], left, ns, h => by
    unfold waysL at h
    split at h
    · rw [List.mem_singleton] at h; subst h; rfl
    · cases h
  | sl :: r, left, ns, h => by
    obtain ⟨n, m, rfl, -, -, hm⟩ := waysL_mem.1 h
    rw [List.length_cons, List.length_cons, waysL_len r _ m hm]
theorem ovr_at : ∀ (ns : List Nat) (c : Nat → Int) (k j : Nat), ovr c k ns j = if k ≤ j ∧ j < k + ns.length then ((ns.getD (j - k) 0 : Nat) : Int) else c j
  | [], c, k, j => by rw [ovr, if_neg (by simp only [List.length_nil]; omega)]
  | n :: ns, c, k, j => by
    rw [ovr, ovr_at ns _ (k + 1) j]
    by_cases hj : j = k
    · subst hj
      rw [if_neg (by omega), if_pos (by simp)]
      simp [updC]
    · by_cases h : k + 1 ≤ j ∧ j < k + 1 + ns.length
      · rw [if_pos h, if_pos (by simp; omega)]
        have : j - k = (j - (k + 1)) + 1 := by omega
        rw [this, List.getD_cons_succ]
      · rw [if_neg h, if_neg (by simp; omega)]
        simp [updC, hj]
/-- the fills by counts, part by part -/
def fillsR : List Part → List Nat → List ByteArray → List (List ByteArray)
  | p :: ps, n :: ns, l => if roomyM p then l.take n :: fillsR ps ns (l.drop n) else fillsR ps ns (l.drop n)
  | _, _, _ => []
theorem fillsR_nil (ns : List Nat) (l : List ByteArray) : fillsR [] ns l = [] := by cases ns <;> rfl
theorem fills_rec (ps : List Part) (c : Nat → Int) (ns : List Nat) (l : List ByteArray) (hn : ns.length = ps.length) (hc : ∀ j (h : j < ns.length), c j = (ns[j] : Nat)) : ∀ k, k ≤ ps.length → (fillsTo ps c l k).1 ++ fillsR (ps.drop k) (ns.drop k) (fillsTo ps c l k).2 = fillsR ps ns l
  | 0, _ => by simp [fillsTo]
  | k + 1, hk => by
    have ih := fills_rec ps c ns l hn hc k (by omega)
    have hlt : k < ps.length := by omega
    have hln : k < ns.length := by omega
    rw [List.drop_eq_getElem_cons hlt, List.drop_eq_getElem_cons hln, fillsR] at ih
    have e : ps.getD k ⟨[], 0, 0⟩ = ps[k] := by rw [List.getD_eq_getElem?_getD, List.getElem?_eq_getElem hlt]; rfl
    have e2 : (c k).toNat = ns[k] := by rw [hc k hln]; simp
    rw [fillsTo, e, e2]
    cases hr : roomyM ps[k]
    · rw [hr] at ih
      simpa using ih
    · rw [hr] at ih
      simpa using ih
theorem fills_is (ps : List Part) (ns : List Nat) (l : List ByteArray) (hn : ns.length = ps.length) : fillsM ps (ovr (fun _ => 0) 0 ns) l = fillsR ps ns l := by
  have := fills_rec ps (ovr (fun _ => 0) 0 ns) ns l hn (fun j h => by rw [ovr_at, if_pos (by omega)]; simp [h]) ps.length (Nat.le_refl _)
  rw [List.drop_length, fillsR_nil, List.append_nil] at this
  exact this
/-- the lengths in the rooms -/
def lensR : List Part → List Nat → List Int
  | p :: ps, n :: ns => if roomyM p then (n : Int) :: lensR ps ns else lensR ps ns
  | _, _ => []
theorem given_size {ws left : List ByteArray} {n : Nat} (hw : ∀ s ∈ ws, wordM s = true) (h : n ≤ ws.length) (hs : sizeOk (givenM ws) left n = true) : n = ws.length ∧ left.take n = ws := by
  obtain ⟨h1, h2, h3⟩ := sizeOk_iff.1 hs
  have hlen : (givenM ws).length = ws.length := by simp [givenM]
  have hn : n = ws.length := by
    rcases h2 with h2 | h2
    · omega
    · by_cases hlt : n < ws.length
      · have e : (givenM ws).getD n noSlot = ⟨ws[n], false⟩ := by rw [List.getD_eq_getElem?_getD, List.getElem?_eq_getElem (by omega)]; simp [givenM]
        rw [e] at h2; cases h2
      · omega
  subst hn
  refine ⟨rfl, List.ext_getElem (by rw [List.length_take]; omega) fun i hi h2 => ?_⟩
  have := h3 i h2
  have e : (givenM ws).getD i noSlot = ⟨ws[i], false⟩ := by rw [List.getD_eq_getElem?_getD, List.getElem?_eq_getElem (by omega)]; simp [givenM]
  rw [e] at this
  unfold takesM at this
  rw [toList_ne (hw _ (List.getElem_mem h2)), Bool.false_or] at this
  have e2 : left.getD i ByteArray.empty = left[i]'(by omega) := by rw [List.getD_eq_getElem?_getD, List.getElem?_eq_getElem (by omega)]; rfl
  rw [e2] at this
  rw [List.getElem_take]
  exact (toList_inj (eq_of_beq this)).symm
theorem room_size {lo hi : Int} {left : List ByteArray} {n : Nat} (hlh : lo ≤ hi) (h0 : 0 ≤ lo) (h : n ≤ (roomSlotsM lo hi.toNat).length) (hs : sizeOk (roomSlotsM lo hi.toNat) left n = true) : n ≤ left.length ∧ lo ≤ n ∧ (n : Int) ≤ hi := by
  obtain ⟨h1, h2, -⟩ := sizeOk_iff.1 hs
  have hlen : (roomSlotsM lo hi.toNat).length = hi.toNat := by simp [roomSlotsM]
  rw [hlen] at h h2
  refine ⟨h1, ?_, by omega⟩
  rcases h2 with h2 | h2
  · omega
  · by_cases hlt : n < hi.toNat
    · have e : (roomSlotsM lo hi.toNat).getD n noSlot = ⟨ByteArray.empty, decide (lo ≤ (n : Int))⟩ := by rw [List.getD_eq_getElem?_getD, List.getElem?_eq_getElem (by omega)]; simp [roomSlotsM]
      rw [e] at h2
      exact of_decide_eq_true h2
    · omega
theorem part_given {p : Part} (hv : ValidPart p) (hr : roomyM p = false) : partSlotsM p = givenM p.words ∧ ∀ s ∈ p.words, wordM s = true := by
  have hne : p.words ≠ [] := fun e => by unfold roomyM at hr; rw [e] at hr; simp at hr
  have hw := hv.w
  unfold wordsM at hw
  rw [List.all_eq_true] at hw
  exact ⟨by unfold partSlotsM; rw [(hv.z hne).2]; simp [roomSlotsM], hw⟩
theorem part_room {p : Part} (hv : ValidPart p) (hr : roomyM p = true) : partSlotsM p = roomSlotsM p.lo p.hi.toNat ∧ 0 ≤ p.lo ∧ p.lo ≤ p.hi ∧ 1 ≤ p.hi ∧ p.hi ≤ 3 := by
  have he : p.words = [] := by unfold roomyM at hr; exact List.eq_nil_of_length_eq_zero (by simpa using hr)
  exact ⟨by unfold partSlotsM; rw [he]; rfl, hv.r he⟩
/-- a way's fills are right, and make the letter -/
theorem way_fills : ∀ (ps : List Part) (l : List ByteArray) (ns : List Nat), (∀ p ∈ ps, ValidPart p) → (∀ s ∈ l, wordM s = true) → ns ∈ waysL (ps.map partSlotsM) l →
    builtR ps (fillsR ps ns l) = l ∧ PutOk (roomsM ps) (fillsR ps ns l) ∧ (fillsR ps ns l).length = (roomsM ps).length ∧ (fillsR ps ns l).map (fun x => (x.length : Int)) = lensR ps ns
  | [], l, ns, _, _, h => by
    unfold waysL at h
    simp only [List.map_nil] at h
    split at h
    · rename_i h0
      rw [List.mem_singleton] at h; subst h
      exact ⟨(List.eq_nil_of_length_eq_zero h0).symm, ⟨by simp [fillsR], by simp [fillsR], by simp [fillsR]⟩, rfl, rfl⟩
    · cases h
  | p :: ps, l, ns, hv, hw, h => by
    rw [List.map_cons] at h
    obtain ⟨n, m, rfl, h1, h2, h3⟩ := waysL_mem.1 h
    have hvp := hv p List.mem_cons_self
    obtain ⟨i1, i2, i3, i4⟩ := way_fills ps (l.drop n) m (fun q hq => hv q (List.mem_cons_of_mem _ hq)) (fun s hs => hw s (List.mem_of_mem_drop hs)) h3
    rw [fillsR, builtR, lensR]
    cases hr : roomyM p
    · obtain ⟨e1, e2⟩ := part_given hvp hr
      rw [e1] at h1 h2
      obtain ⟨e3, e4⟩ := given_size e2 (by simpa [givenM] using h1) h2
      have hrm : roomsM (p :: ps) = roomsM ps := by simp [roomsM, hr]
      rw [hrm]
      simp only [Bool.false_eq_true, if_false]
      refine ⟨?_, i2, i3, i4⟩
      rw [i1]
      conv => rhs; rw [← List.take_append_drop n l, e4]
    · obtain ⟨e1, e2, e3, e4, e5⟩ := part_room hvp hr
      rw [e1] at h1 h2
      obtain ⟨g1, g2, g3⟩ := room_size e3 e2 h1 h2
      have hrm : roomsM (p :: ps) = p :: roomsM ps := by simp [roomsM, hr]
      have hlt : (l.take n).length = n := by rw [List.length_take]; omega
      rw [hrm]
      simp only [if_true, List.headD_cons, List.tail_cons, List.map_cons, hlt]
      refine ⟨by rw [i1, List.take_append_drop], ⟨by simp; omega, fun i hi hi2 => ?_, fun x hx => ?_⟩, by simp [i3], by rw [i4]⟩
      · cases i with
        | zero => simp only [List.getElem_cons_zero, hlt]; exact ⟨g2, g3⟩
        | succ i => simpa using i2.at_ i (by simpa using hi) (by simpa using hi2)
      · rcases List.mem_cons.1 hx with rfl | hx
        · exact fun s hs => hw s (List.mem_of_mem_take hs)
        · exact i2.w x hx
/-- fills that are right are one of the ways of their letter -/
theorem fills_way : ∀ (ps : List Part) (fs : List (List ByteArray)), (∀ p ∈ ps, ValidPart p) → PutOk (roomsM ps) fs → fs.length = (roomsM ps).length → ∃ ns, ns ∈ waysL (ps.map partSlotsM) (builtR ps fs) ∧ fillsR ps ns (builtR ps fs) = fs
  | [], fs, _, _, hn => by
    have : fs = [] := List.eq_nil_of_length_eq_zero hn
    subst this
    exact ⟨[], by simp [waysL, builtR], rfl⟩
  | p :: ps, fs, hv, hp, hn => by
    have hvp := hv p List.mem_cons_self
    have hv' : ∀ q ∈ ps, ValidPart q := fun q hq => hv q (List.mem_cons_of_mem _ hq)
    cases hr : roomyM p
    · have hrm : roomsM (p :: ps) = roomsM ps := by simp [roomsM, hr]
      rw [hrm] at hp hn
      obtain ⟨ns, i1, i2⟩ := fills_way ps fs hv' hp hn
      obtain ⟨e1, e2⟩ := part_given hvp hr
      have hb : builtR (p :: ps) fs = p.words ++ builtR ps fs := by rw [builtR, hr]; rfl
      have hd : (p.words ++ builtR ps fs).drop p.words.length = builtR ps fs := List.drop_left
      rw [hb]
      refine ⟨p.words.length :: ns, ?_, by rw [fillsR, hr, hd]; exact i2⟩
      rw [List.map_cons, e1]
      refine waysL_mem.2 ⟨_, _, rfl, by simp [givenM], sizeOk_iff.2 ⟨by simp, .inl (by simp [givenM]), fun i hi => ?_⟩, by rw [hd]; exact i1⟩
      have e : (givenM p.words).getD i noSlot = ⟨p.words[i], false⟩ := by rw [List.getD_eq_getElem?_getD, List.getElem?_eq_getElem (by simp [givenM]; exact hi)]; simp [givenM]
      have e3 : (p.words ++ builtR ps fs).getD i ByteArray.empty = p.words[i] := by rw [List.getD_eq_getElem?_getD, List.getElem?_append_left hi, List.getElem?_eq_getElem hi]; rfl
      rw [e, e3]
      simp [takesM]
    · have hrm : roomsM (p :: ps) = p :: roomsM ps := by simp [roomsM, hr]
      rw [hrm] at hp hn
      cases fs with
      | nil => simp at hn
      | cons x fs =>
        obtain ⟨t1, t2, t3⟩ := hp.tail
        obtain ⟨ns, i1, i2⟩ := fills_way ps fs hv' t1 (by simpa using hn)
        obtain ⟨e1, e2, e3, e4, e5⟩ := part_room hvp hr
        have hb : builtR (p :: ps) (x :: fs) = x ++ builtR ps fs := by rw [builtR, hr]; rfl
        have hd : (x ++ builtR ps fs).drop x.length = builtR ps fs := List.drop_left
        have ht : (x ++ builtR ps fs).take x.length = x := List.take_left
        have hlen : (roomSlotsM p.lo p.hi.toNat).length = p.hi.toNat := by simp [roomSlotsM]
        rw [hb]
        refine ⟨x.length :: ns, ?_, by rw [fillsR, hr, hd, ht]; simp [i2]⟩
        rw [List.map_cons, e1]
        refine waysL_mem.2 ⟨_, _, rfl, by rw [hlen]; omega, sizeOk_iff.2 ⟨by simp, ?_, fun i hi => ?_⟩, by rw [hd]; exact i1⟩
        · by_cases hlt : x.length < p.hi.toNat
          · right
            have e : (roomSlotsM p.lo p.hi.toNat).getD x.length noSlot = ⟨ByteArray.empty, decide (p.lo ≤ (x.length : Int))⟩ := by rw [List.getD_eq_getElem?_getD, List.getElem?_eq_getElem (by omega)]; simp [roomSlotsM]
            rw [e]
            exact decide_eq_true t2.1
          · left; rw [hlen]; omega
        · have e : (roomSlotsM p.lo p.hi.toNat).getD i noSlot = ⟨ByteArray.empty, decide (p.lo ≤ (i : Int))⟩ := by rw [List.getD_eq_getElem?_getD, List.getElem?_eq_getElem (by omega)]; simp [roomSlotsM]
          rw [e]
          simp [takesM]
/-! ### in which order the ways come -/
def intsN (ns : List Nat) : List Int := ns.map fun (n : Nat) => ((n : Nat) : Int)
theorem lexL_cons (x y : Int) (a b : List Int) : lexL (x :: a) (y :: b) = if x = y then lexL a b else decide (x < y) := rfl
theorem lexL_asym : ∀ (a b : List Int), lexL a b = true → lexL b a = false
  | [], _, h => by simp [lexL] at h
  | _ :: _, [], h => by simp [lexL] at h
  | x :: a, y :: b, h => by
    rw [lexL_cons] at h ⊢
    by_cases e : x = y
    · subst e
      rw [if_pos rfl] at h ⊢
      exact lexL_asym a b h
    · rw [if_neg e] at h
      rw [if_neg (Ne.symm e)]
      have := of_decide_eq_true h
      exact decide_eq_false (by omega)
theorem lexL_self : ∀ a : List Int, lexL a a = false
  | [] => rfl
  | x :: a => by rw [lexL_cons, if_pos rfl]; exact lexL_self a
theorem ways_sorted : ∀ (ss : List (List Slot)) (left : List ByteArray), (waysL ss left).Pairwise fun a b => lexL (intsN a) (intsN b) = true
  | [], left => by unfold waysL; split <;> simp
  | sl :: r, left => by
    rw [waysL, List.pairwise_flatMap]
    refine ⟨fun n hn => ?_, ?_⟩
    · split
      · rw [List.pairwise_map]
        exact (ways_sorted r (left.drop n)).imp fun {a b} h => by
          show lexL ((n : Int) :: intsN a) ((n : Int) :: intsN b) = true
          rw [lexL_cons, if_pos rfl]; exact h
      · simp
    · refine List.pairwise_lt_range.imp fun {n m} h a ha b hb => ?_
      split at ha
      · split at hb
        · obtain ⟨a, -, rfl⟩ := List.mem_map.1 ha
          obtain ⟨b, -, rfl⟩ := List.mem_map.1 hb
          show lexL ((n : Int) :: intsN a) ((m : Int) :: intsN b) = true
          rw [lexL_cons, if_neg (by omega)]
          exact decide_eq_true (by omega)
        · cases hb
      · cases ha
theorem lex_pad : ∀ (a b z : List Int), a.length = b.length → lexL (a ++ z) (b ++ z) = lexL a b
  | [], [], z, _ => by rw [List.nil_append, lexL_self]; rfl
  | x :: a, y :: b, z, h => by
    rw [List.cons_append, List.cons_append, lexL_cons, lexL_cons, lex_pad a b z (by simpa using h)]
  | [], _ :: _, z, h => by simp at h
  | _ :: _, [], z, h => by simp at h
theorem ovr_five {ns : List Nat} (h : ns.length ≤ 5) : [ovr (fun _ => 0) 0 ns 0, ovr (fun _ => 0) 0 ns 1, ovr (fun _ => 0) 0 ns 2, ovr (fun _ => 0) 0 ns 3, ovr (fun _ => 0) 0 ns 4] = intsN ns ++ List.replicate (5 - ns.length) 0 := by
  match ns, h with
  | [], _ => rfl
  | [a], _ => rfl
  | [a, b], _ => rfl
  | [a, b, c], _ => rfl
  | [a, b, c, d], _ => rfl
  | [a, b, c, d, e], _ => rfl
theorem before_lex {a b : List Nat} (h : a.length ≤ 5) (e : a.length = b.length) : beforeM (ovr (fun _ => 0) 0 a) (ovr (fun _ => 0) 0 b) = lexL (intsN a) (intsN b) := by
  unfold beforeM
  rw [ovr_five h, ovr_five (by omega), ← e, lex_pad _ _ _ (by simp [intsN, e])]
theorem pick_head {α : Type} (bf : α → α → Bool) (z h : α) : ∀ t : List α, (∀ x ∈ t, bf x h = false) → (pickB bf z (h :: t)).1 = h := by
  intro t
  refine snoc_ind (p := fun t => (∀ x ∈ t, bf x h = false) → (pickB bf z (h :: t)).1 = h) (fun _ => rfl) (fun t x ih ht => ?_) t
  have := ih fun y hy => ht y (List.mem_append_left _ hy)
  rw [← List.cons_append, pickB_snoc, pickB_many, this, if_neg]
  rintro (h0 | h0)
  · simp at h0
  · rw [ht x (by simp)] at h0; cases h0
/-- the lengths in the rooms are in the order of the counts -/
theorem lens_lex : ∀ (ps : List Part) (la lb : List ByteArray) (a b : List Nat), (∀ p ∈ ps, ValidPart p) → a ∈ waysL (ps.map partSlotsM) la → b ∈ waysL (ps.map partSlotsM) lb → lessM (lensR ps a) (lensR ps b) = lexL (intsN a) (intsN b)
  | [], la, lb, a, b, _, ha, hb => by
    have h1 := waysL_len _ _ _ ha
    have h2 := waysL_len _ _ _ hb
    rw [List.eq_nil_of_length_eq_zero h1, List.eq_nil_of_length_eq_zero h2]; rfl
  | p :: ps, la, lb, a, b, hv, ha, hb => by
    rw [List.map_cons] at ha hb
    obtain ⟨n, a, rfl, a1, a2, a3⟩ := waysL_mem.1 ha
    obtain ⟨m, b, rfl, b1, b2, b3⟩ := waysL_mem.1 hb
    have ih := lens_lex ps _ _ a b (fun q hq => hv q (List.mem_cons_of_mem _ hq)) a3 b3
    have hvp := hv p List.mem_cons_self
    rw [lensR, lensR]
    show _ = lexL ((n : Int) :: intsN a) ((m : Int) :: intsN b)
    rw [lexL_cons]
    cases hr : roomyM p
    · obtain ⟨e1, e2⟩ := part_given hvp hr
      rw [e1] at a1 a2 b1 b2
      obtain ⟨e3, -⟩ := given_size e2 (by simpa [givenM] using a1) a2
      obtain ⟨e4, -⟩ := given_size e2 (by simpa [givenM] using b1) b2
      rw [e3, e4, if_pos rfl]
      simpa using ih
    · simp only [if_true]
      rw [lessM, ih]
/-- what LetterMade needs of the ways -/
theorem made_first {f : Form} (hv : ValidForm f) {fs : List (List ByteArray)} (hp : PutOk (roomsM f.parts) fs) (hn : fs.length = (roomsM f.parts).length) :
    (formWays f.parts (builtM f.parts fs)).length ≠ 0 ∧ builtM f.parts (fillsM f.parts (firstWayM f.parts (builtM f.parts fs)) (builtM f.parts fs)) = builtM f.parts fs ∧
      PutOk (roomsM f.parts) (fillsM f.parts (firstWayM f.parts (builtM f.parts fs)) (builtM f.parts fs)) ∧ (fillsM f.parts (firstWayM f.parts (builtM f.parts fs)) (builtM f.parts fs)).length = (roomsM f.parts).length ∧
      lessM (fs.map fun x => (x.length : Int)) ((fillsM f.parts (firstWayM f.parts (builtM f.parts fs)) (builtM f.parts fs)).map fun x => (x.length : Int)) = false ∧
      ((formWays f.parts (builtM f.parts fs)).length ≤ 1 → fillsM f.parts (firstWayM f.parts (builtM f.parts fs)) (builtM f.parts fs) = fs) := by
  obtain ⟨-, -, hw⟩ := made_ed f.parts fs hv.parts hp hn
  obtain ⟨ns, h1, h2⟩ := fills_way f.parts fs hv.parts hp hn
  rw [built_is]
  generalize hl : builtR f.parts fs = l at *
  have h5 := hv.n
  have hways : formWays f.parts l = (waysL (f.parts.map partSlotsM) l).map (ovr (fun _ => 0) 0) := by unfold formWays; rw [ways_list]
  have hlen := fun m (hm : m ∈ waysL (f.parts.map partSlotsM) l) => (waysL_len _ _ _ hm).trans (List.length_map ..)
  have hsort := ways_sorted (f.parts.map partSlotsM) l
  cases hW : waysL (f.parts.map partSlotsM) l with
  | nil => rw [hW] at h1; cases h1
  | cons hd tl =>
    rw [hW] at hsort hlen h1 hways
    have hhd := hlen hd List.mem_cons_self
    have hlt := (List.pairwise_cons.1 hsort).1
    have hfirst : firstWayM f.parts l = ovr (fun _ => 0) 0 hd := by
      unfold firstWayM
      rw [hways, List.map_cons]
      refine pick_head _ _ _ _ fun x hx => ?_
      obtain ⟨m, hm, rfl⟩ := List.mem_map.1 hx
      rw [before_lex (by rw [hlen m (List.mem_cons_of_mem _ hm)]; exact h5) (by rw [hhd, hlen m (List.mem_cons_of_mem _ hm)])]
      exact lexL_asym _ _ (hlt m hm)
    have hin : hd ∈ waysL (f.parts.map partSlotsM) l := by rw [hW]; exact List.mem_cons_self
    have hin2 : ns ∈ waysL (f.parts.map partSlotsM) l := by rw [hW]; exact h1
    obtain ⟨g1, g2, g3, g4⟩ := way_fills f.parts l hd hv.parts hw hin
    obtain ⟨-, -, -, k4⟩ := way_fills f.parts l ns hv.parts hw hin2
    rw [h2] at k4
    rw [hfirst, fills_is _ _ _ hhd, built_is]
    refine ⟨by rw [hways]; simp, g1, g2, g3, ?_, fun hle => ?_⟩
    · rw [g4, k4, lens_lex f.parts l l ns hd hv.parts hin2 hin]
      rcases List.mem_cons.1 h1 with rfl | h
      · exact lexL_self _
      · exact lexL_asym _ _ (hlt ns h)
    · rw [hways, List.length_map, List.length_cons] at hle
      have : tl = [] := List.eq_nil_of_length_eq_zero (by omega)
      subst this
      rw [List.mem_singleton] at h1
      subst h1
      exact h2
end Go.Proofs.YtcamegaimleomaaGreat

namespace Go.Proofs.YtcamegaimleomaaGreat
set_option linter.unusedSimpArgs false
set_option linter.unusedVariables false
set_option linter.unusedVariables false

def noPart : Part := ⟨[], 0, 0⟩
/-- one number more -/
def cntStep (p : Part) (L : List Nat) : List (List Nat) := (List.range' p.lo.toNat (p.hi.toNat + 1 - p.lo.toNat)).map fun x => L ++ [x]
def cntTo (rooms : List Part) : Nat → List (List Nat)
  | 0 => [[]]
  | k + 1 => (cntTo rooms k).flatMap (cntStep (rooms.getD k noPart))
def countsM (rooms : List Part) : List (List Nat) := cntTo rooms rooms.length
def RoomOk (p : Part) : Prop := 0 ≤ p.lo ∧ p.lo ≤ p.hi ∧ p.hi ≤ 3
theorem getD_ok {rooms : List Part} (h : ∀ p ∈ rooms, RoomOk p) (k : Nat) : RoomOk (rooms.getD k noPart) := by
  rw [List.getD_eq_getElem?_getD]
  by_cases hk : k < rooms.length
  · rw [List.getElem?_eq_getElem hk]; exact h _ (List.getElem_mem hk)
  · rw [List.getElem?_eq_none (by omega)]; exact ⟨by decide, by decide, by decide⟩
theorem cntStep_fine {p : Part} (hp : RoomOk p) {L M : List Nat} (h : M ∈ cntStep p L) : ∃ x : Nat, M = L ++ [x] ∧ p.lo ≤ x ∧ (x : Int) ≤ p.hi := by
  unfold cntStep at h
  obtain ⟨x, hx, rfl⟩ := List.mem_map.1 h
  obtain ⟨h1, h2, h3⟩ := hp
  rw [List.mem_range'_1] at hx
  exact ⟨x, rfl, by omega, by omega⟩
theorem cntStep_len {p : Part} (hp : RoomOk p) (L : List Nat) : (cntStep p L).length ≤ 4 := by
  obtain ⟨h1, h2, h3⟩ := hp
  unfold cntStep
  rw [List.length_map, List.length_range']
  omega
theorem cntTo_fine {rooms : List Part} (h : ∀ p ∈ rooms, RoomOk p) : ∀ k, ∀ L ∈ cntTo rooms k, L.length = k ∧ ∀ x ∈ L, x ≤ 3
  | 0, L, hL => by
    rw [cntTo, List.mem_singleton] at hL; subst hL; simp
  | k + 1, L, hL => by
    rw [cntTo, List.mem_flatMap] at hL
    obtain ⟨M, hM, h2⟩ := hL
    obtain ⟨i1, i2⟩ := cntTo_fine h k M hM
    have ho := getD_ok h k
    obtain ⟨x, rfl, -, h4⟩ := cntStep_fine ho h2
    obtain ⟨-, -, h5⟩ := ho
    refine ⟨by simp [i1], fun y hy => ?_⟩
    rcases List.mem_append.1 hy with hy | hy
    · exact i2 y hy
    · rw [List.mem_singleton] at hy; subst hy; omega
theorem cntFlat_len {p : Part} (hp : RoomOk p) : ∀ LL : List (List Nat), (LL.flatMap (cntStep p)).length ≤ 4 * LL.length
  | [] => by simp
  | L :: LL => by
    have := cntFlat_len hp LL
    have h4 := cntStep_len hp L
    rw [List.flatMap_cons, List.length_append, List.length_cons]
    omega
theorem cntTo_len {rooms : List Part} (h : ∀ p ∈ rooms, RoomOk p) : ∀ k, (cntTo rooms k).length ≤ 4 ^ k
  | 0 => by simp [cntTo]
  | k + 1 => by
    have ih := cntTo_len h k
    have := cntFlat_len (getD_ok h k) (cntTo rooms k)
    rw [cntTo, Nat.pow_succ]
    omega
theorem cntTo_ne {rooms : List Part} (h : ∀ p ∈ rooms, RoomOk p) : ∀ k, cntTo rooms k ≠ []
  | 0 => by simp [cntTo]
  | k + 1 => by
    have ih := cntTo_ne h k
    obtain ⟨h1, h2, h3⟩ := getD_ok h k
    rw [cntTo]
    cases hc : cntTo rooms k with
    | nil => exact absurd hc ih
    | cons L LL =>
      rw [List.flatMap_cons]
      intro e
      have e1 := (List.append_eq_nil_iff.1 e).1
      have : (cntStep (rooms.getD k noPart) L).length = 0 := by rw [e1]; rfl
      unfold cntStep at this
      rw [List.length_map, List.length_range'] at this
      omega
theorem cnt_next (p : Part) (LL : List (List Nat)) (q : Nat) (h : q < LL.length) : (LL.take (q + 1)).flatMap (cntStep p) = (LL.take q).flatMap (cntStep p) ++ cntStep p LL[q] := by
  rw [List.take_succ_eq_append_getElem h, List.flatMap_append]
  simp
/-- those with fewer than m -/
def cntBelow (a m : Nat) (L : List Nat) : List (List Nat) := (List.range' a (m - a)).map fun x => L ++ [x]
theorem cntBelow_snoc (a m : Nat) (L : List Nat) (h : a ≤ m) : cntBelow a (m + 1) L = cntBelow a m L ++ [L ++ [m]] := by
  unfold cntBelow
  rw [show m + 1 - a = (m - a) + 1 from by omega, List.range'_1_concat, List.map_append, show a + (m - a) = m from by omega]
  rfl
theorem cntBelow_len (a m : Nat) (L : List Nat) : (cntBelow a m L).length = m - a := by unfold cntBelow; rw [List.length_map, List.length_range']
/-- from the front -/
def countsR : List Part → List (List Nat)
  | [] => [[]]
  | p :: ps => (List.range' p.lo.toNat (p.hi.toNat + 1 - p.lo.toNat)).flatMap fun n => (countsR ps).map (n :: ·)
theorem cntTo_front (rooms : List Part) : ∀ k, k ≤ rooms.length → (cntTo rooms k).flatMap (fun c => (countsR (rooms.drop k)).map (c ++ ·)) = countsR rooms
  | 0, _ => by
    rw [cntTo, List.drop_zero]
    simp
  | k + 1, hk => by
    have ih := cntTo_front rooms k (by omega)
    have hlt : k < rooms.length := by omega
    rw [← ih, cntTo, List.drop_eq_getElem_cons hlt, countsR, List.flatMap_assoc]
    congr 1
    funext c
    have e : rooms.getD k noPart = rooms[k] := by rw [List.getD_eq_getElem?_getD, List.getElem?_eq_getElem hlt]; rfl
    rw [e, cntStep, List.flatMap_map, List.map_flatMap]
    congr 1
    funext n
    rw [List.map_map]
    congr 1
    funext m
    simp
theorem counts_front (rooms : List Part) : countsM rooms = countsR rooms := by
  have := cntTo_front rooms rooms.length (Nat.le_refl _)
  rw [List.drop_length, countsR] at this
  rw [← this]
  unfold countsM
  simp
end Go.Proofs.YtcamegaimleomaaGreat

namespace Go.Proofs.YtcamegaimleomaaGreat
set_option linter.unusedSimpArgs false
set_option linter.unusedVariables false
set_option linter.unusedVariables false

def blank (n : Nat) : List ByteArray := List.replicate n ByteArray.empty
def shapeR (ps : List Part) (ns : List Nat) : List ByteArray := builtR ps (ns.map blank)
/-- slots, some of the free ones left out -/
inductive Skips : List Slot → List Slot → Prop where
  | nil : Skips [] []
  | keep (s : Slot) {a b : List Slot} : Skips a b → Skips (s :: a) (⟨s.word, false⟩ :: b)
  | skip (s : Slot) {a b : List Slot} : s.free = true → Skips a b → Skips (s :: a) b
theorem skips_more {ss tt : List Slot} (h : Skips ss tt) : MoreS tt ss := by
  induction h with
  | nil => exact .nil
  | keep s _ ih => exact .same ⟨s.word, false⟩ s rfl (fun h => by cases h) ih
  | skip s hf _ ih => exact .more s hf ih
theorem skips_out {l : List ByteArray} {ss : List Slot} {n : Nat} (h : EdS l ss n) : ∃ tt, Skips ss tt ∧ EdS l tt n := by
  induction h with
  | nil => exact ⟨[], .nil, .nil⟩
  | keep x s ht _ ih => obtain ⟨tt, h1, h2⟩ := ih; exact ⟨_, .keep s h1, .keep x _ ht h2⟩
  | turn x s _ ih => obtain ⟨tt, h1, h2⟩ := ih; exact ⟨_, .keep s h1, .turn x _ h2⟩
  | drop x _ ih => obtain ⟨tt, h1, h2⟩ := ih; exact ⟨tt, h1, .drop x h2⟩
  | put s _ ih => obtain ⟨tt, h1, h2⟩ := ih; exact ⟨_, .keep s h1, .put _ h2⟩
  | skip s hf _ ih => obtain ⟨tt, h1, h2⟩ := ih; exact ⟨tt, .skip s hf h1, h2⟩
theorem Skips.append {a b c d : List Slot} (h : Skips a b) (g : Skips c d) : Skips (a ++ c) (b ++ d) := by
  induction h with
  | nil => exact g
  | keep s _ ih => exact .keep s ih
  | skip s hf _ ih => exact .skip s hf ih
theorem skips_split : ∀ (a : List Slot) {c t : List Slot}, Skips (a ++ c) t → ∃ x y, t = x ++ y ∧ Skips a x ∧ Skips c y
  | [], c, t, h => ⟨[], t, rfl, .nil, h⟩
  | s :: a, c, t, h => by
    rw [List.cons_append] at h
    cases h with
    | keep _ h => obtain ⟨x, y, rfl, h1, h2⟩ := skips_split a h; exact ⟨_ :: x, y, rfl, .keep s h1, h2⟩
    | skip _ hf h => obtain ⟨x, y, rfl, h1, h2⟩ := skips_split a h; exact ⟨x, y, rfl, .skip s hf h1, h2⟩
theorem skips_given : ∀ (w : List ByteArray) {t : List Slot}, Skips (givenM w) t ↔ t = givenM w
  | [], t => ⟨fun h => by cases h; rfl, fun h => by subst h; exact .nil⟩
  | s :: w, t => by
    constructor
    · intro h
      have e : givenM (s :: w) = ⟨s, false⟩ :: givenM w := rfl
      rw [e] at h
      cases h with
      | keep _ h => rw [(skips_given w).1 h]; rfl
      | skip _ hf h => cases hf
    · rintro rfl
      exact .keep ⟨s, false⟩ ((skips_given w).2 rfl)
theorem skips_free : ∀ (r : List Slot) {t : List Slot}, (∀ s ∈ r, s = ⟨ByteArray.empty, true⟩) → (Skips r t ↔ ∃ m, m ≤ r.length ∧ t = givenM (blank m))
  | [], t, _ => ⟨fun h => by cases h; exact ⟨0, Nat.le_refl _, rfl⟩, fun ⟨m, hm, e⟩ => by
    have : m = 0 := by simpa using hm
    subst this; rw [e]; exact .nil⟩
  | s :: r, t, hr => by
    have ih := fun t => skips_free r (t := t) fun x hx => hr x (List.mem_cons_of_mem _ hx)
    have hs := hr s List.mem_cons_self
    subst hs
    constructor
    · intro h
      cases h with
      | keep _ h =>
        obtain ⟨m, hm, rfl⟩ := (ih _).1 h
        exact ⟨m + 1, by simpa using hm, rfl⟩
      | skip _ hf h =>
        obtain ⟨m, hm, rfl⟩ := (ih _).1 h
        exact ⟨m, by simp; omega, rfl⟩
    · rintro ⟨m, hm, rfl⟩
      cases m with
      | zero => exact .skip _ rfl ((ih _).2 ⟨0, Nat.zero_le _, rfl⟩)
      | succ m => exact .keep ⟨ByteArray.empty, true⟩ ((ih _).2 ⟨m, by simpa using hm, rfl⟩)
theorem given_blank (a b : Nat) : givenM (blank (a + b)) = givenM (blank a) ++ givenM (blank b) := by
  unfold blank givenM
  rw [← List.replicate_append_replicate, List.map_append]
theorem room_split (lo n : Nat) (h : lo ≤ n) : roomSlotsM (lo : Int) n = givenM (blank lo) ++ List.replicate (n - lo) ⟨ByteArray.empty, true⟩ := by
  obtain ⟨d, rfl⟩ := Nat.exists_eq_add_of_le h
  unfold roomSlotsM
  rw [List.range_add, List.map_append, List.map_map, Nat.add_sub_cancel_left]
  congr 1
  · refine List.ext_getElem (by simp [givenM, blank]) fun i h1 h2 => ?_
    have hi : i < lo := by simpa using h1
    simp only [List.getElem_map, List.getElem_range, givenM, blank, List.getElem_replicate]
    rw [decide_eq_false (by omega)]
  · refine List.ext_getElem (by simp) fun i h1 h2 => ?_
    simp only [List.getElem_map, List.getElem_range, Function.comp, List.getElem_replicate]
    rw [decide_eq_true (by omega)]
theorem skips_room {lo n : Nat} (h : lo ≤ n) {t : List Slot} : Skips (roomSlotsM (lo : Int) n) t ↔ ∃ m, lo ≤ m ∧ m ≤ n ∧ t = givenM (blank m) := by
  rw [room_split lo n h]
  have hfr : ∀ s ∈ List.replicate (n - lo) (⟨ByteArray.empty, true⟩ : Slot), s = ⟨ByteArray.empty, true⟩ := fun s hs => List.eq_of_mem_replicate hs
  constructor
  · intro hs
    obtain ⟨x, y, rfl, h1, h2⟩ := skips_split _ hs
    rw [(skips_given _).1 h1]
    obtain ⟨m, hm, rfl⟩ := (skips_free _ hfr).1 h2
    rw [List.length_replicate] at hm
    exact ⟨lo + m, by omega, by omega, (given_blank lo m).symm⟩
  · rintro ⟨m, h1, h2, rfl⟩
    obtain ⟨d, rfl⟩ := Nat.exists_eq_add_of_le h1
    rw [given_blank]
    exact ((skips_given _).2 rfl).append ((skips_free _ hfr).2 ⟨d, by rw [List.length_replicate]; omega, rfl⟩)
theorem given_app (a b : List ByteArray) : givenM (a ++ b) = givenM a ++ givenM b := by simp [givenM]
/-- all shapes, and no others, are the form's slots with some free ones left out -/
theorem skips_form : ∀ (ps : List Part), (∀ p ∈ ps, ValidPart p) → ∀ t, Skips (formSlotsM ps) t ↔ ∃ ns, ns ∈ countsR (roomsM ps) ∧ t = givenM (shapeR ps ns)
  | [], _, t => by
    constructor
    · intro h; cases h; exact ⟨[], by simp [roomsM, countsR], rfl⟩
    · rintro ⟨ns, h, rfl⟩
      have : ns = [] := by simpa [roomsM, countsR] using h
      subst this
      exact .nil
  | p :: ps, hv, t => by
    have ih := skips_form ps fun q hq => hv q (List.mem_cons_of_mem _ hq)
    have hvp := hv p List.mem_cons_self
    have e : formSlotsM (p :: ps) = partSlotsM p ++ formSlotsM ps := by simp [formSlotsM]
    rw [e]
    cases hr : roomyM p
    · have hrm : roomsM (p :: ps) = roomsM ps := by simp [roomsM, hr]
      obtain ⟨e1, e2⟩ := part_given hvp hr
      have hb : ∀ ns, shapeR (p :: ps) ns = p.words ++ shapeR ps ns := fun ns => by unfold shapeR; rw [builtR, hr]; rfl
      rw [hrm, e1]
      constructor
      · intro h
        obtain ⟨x, y, rfl, h1, h2⟩ := skips_split _ h
        obtain ⟨ns, hn, rfl⟩ := (ih _).1 h2
        exact ⟨ns, hn, by rw [(skips_given _).1 h1, hb, given_app]⟩
      · rintro ⟨ns, hn, rfl⟩
        rw [hb, given_app]
        exact ((skips_given _).2 rfl).append ((ih _).2 ⟨ns, hn, rfl⟩)
    · have hrm : roomsM (p :: ps) = p :: roomsM ps := by simp [roomsM, hr]
      obtain ⟨e1, e2, e3, e4, e5⟩ := part_room hvp hr
      have hb : ∀ n ns, shapeR (p :: ps) (n :: ns) = blank n ++ shapeR ps ns := fun n ns => by unfold shapeR; rw [builtR, hr]; rfl
      obtain ⟨lo, hlo⟩ : ∃ lo : Nat, p.lo = lo := ⟨p.lo.toNat, by omega⟩
      rw [hrm, e1, hlo, countsR, hlo]
      have hle : lo ≤ p.hi.toNat := by omega
      constructor
      · intro h
        obtain ⟨x, y, rfl, h1, h2⟩ := skips_split _ h
        obtain ⟨m, m1, m2, rfl⟩ := (skips_room hle).1 h1
        obtain ⟨ns, hn, rfl⟩ := (ih _).1 h2
        refine ⟨m :: ns, List.mem_flatMap.2 ⟨m, ?_, List.mem_map.2 ⟨ns, hn, rfl⟩⟩, by rw [hb, given_app]⟩
        rw [List.mem_range'_1, Int.toNat_natCast]; omega
      · rintro ⟨ns, hn, rfl⟩
        obtain ⟨m, hm, hn1⟩ := List.mem_flatMap.1 hn
        obtain ⟨ns, hn2, rfl⟩ := List.mem_map.1 hn1
        rw [List.mem_range'_1, Int.toNat_natCast] at hm
        rw [hb, given_app]
        exact ((skips_room hle).2 ⟨m, by omega, by omega, rfl⟩).append ((ih _).2 ⟨ns, hn2, rfl⟩)
/-- the least of the first k -/
def bestF (g : Nat → Nat) : Nat → Nat
  | 0 => g 0
  | k + 1 => min (bestF g k) (g k)
theorem bestF_one (g : Nat → Nat) : bestF g 1 = g 0 := by simp [bestF]
theorem bestF_le (g : Nat → Nat) : ∀ k j, j < k → bestF g k ≤ g j
  | 0, j, h => by omega
  | k + 1, j, h => by
    rw [bestF]
    by_cases e : j = k
    · subst e; exact Nat.min_le_right _ _
    · exact Nat.le_trans (Nat.min_le_left _ _) (bestF_le g k j (by omega))
theorem bestF_is (g : Nat → Nat) : ∀ k, 0 < k → ∃ j, j < k ∧ bestF g k = g j
  | 0, h => by omega
  | k + 1, _ => by
    rw [bestF]
    rcases Nat.le_total (bestF g k) (g k) with h | h
    · rw [Nat.min_eq_left h]
      by_cases hk : k = 0
      · subst hk; exact ⟨0, by omega, rfl⟩
      · obtain ⟨j, hj, e⟩ := bestF_is g k (by omega)
        exact ⟨j, by omega, e⟩
    · rw [Nat.min_eq_right h]; exact ⟨k, by omega, rfl⟩
theorem rooms_ok {ps : List Part} (h : ∀ p ∈ ps, ValidPart p) : ∀ p ∈ roomsM ps, RoomOk p := fun p hp => by
  have hm := List.mem_filter.1 hp
  obtain ⟨e1, e2, e3, e4, e5⟩ := part_room (h p hm.1) hm.2
  exact ⟨e2, e3, e5⟩
/-- the fewest corrections to the form's slots are those to the nearest shape -/
theorem cost_shapes {ps : List Part} (hv : ∀ p ∈ ps, ValidPart p) (l : List ByteArray) :
    (costM l (formSlotsM ps)).2 = bestF (fun j => lsM l (shapeR ps ((countsM (roomsM ps)).getD j []))) (countsM (roomsM ps)).length := by
  have hne : 0 < (countsM (roomsM ps)).length := List.length_pos_iff.2 (cntTo_ne (rooms_ok hv) _)
  apply Nat.le_antisymm
  · obtain ⟨j, hj, e⟩ := bestF_is (fun j => lsM l (shapeR ps ((countsM (roomsM ps)).getD j []))) _ hne
    rw [e]
    have hm : (countsM (roomsM ps)).getD j [] ∈ countsR (roomsM ps) := by
      rw [← counts_front, List.getD_eq_getElem?_getD, List.getElem?_eq_getElem hj]; exact List.getElem_mem hj
    exact cost_more (skips_more ((skips_form ps hv _).2 ⟨_, hm, rfl⟩)) l
  · obtain ⟨t, h1, h2⟩ := skips_out (cost_is l (formSlotsM ps))
    obtain ⟨ns, hn, rfl⟩ := (skips_form ps hv _).1 h1
    rw [← counts_front] at hn
    obtain ⟨j, hj, e⟩ := List.getElem_of_mem hn
    refine Nat.le_trans (bestF_le _ _ j hj) ?_
    show lsM l (shapeR ps ((countsM (roomsM ps)).getD j [])) ≤ _
    rw [List.getD_eq_getElem?_getD, List.getElem?_eq_getElem hj, Option.getD_some, e]
    exact cost_le h2
end Go.Proofs.YtcamegaimleomaaGreat

namespace Go.Proofs.YtcamegaimleomaaGreat
set_option linter.unusedSimpArgs false
set_option linter.unusedVariables false
open Go.RowKit
set_option linter.unusedVariables false
set_option linter.unusedSimpArgs false

theorem infoStringL : (Tryz.prog.info? 9).map (fun i => (i.zero, i.size, i.bytes)) = some (some (.string ByteArray.empty), 1, 16) := by kernel_rfl
theorem blank_at {w : World} {g n : Nat} (h : RowAtV w g n (fun _ => .string ByteArray.empty)) (hn : n ≤ 100) : StrsAt w (.slice (some ⟨g, 0, none⟩) n n) (blank n) := by
  have hl : (blank n).length = n := by simp [blank]
  refine ⟨_, _, by rw [hl], by rw [hl]; exact Nat.le_refl _, by omega, fun i hi => ⟨g, 0, rfl, ?_⟩⟩
  rw [hl] at hi
  have e : (blank n)[i]'(by rw [hl]; exact hi) = ByteArray.empty := by simp [blank]
  refine ⟨?_, by rw [e]; simp⟩
  rw [e, Nat.zero_add, Nat.mul_one]
  exact (h i hi).1
theorem blank_snoc (ns : List Nat) (k : Nat) (h : k < ns.length) : (ns.take (k + 1)).map blank = (ns.take k).map blank ++ [blank ns[k]] := by
  rw [List.take_succ_eq_append_getElem h, List.map_append]; rfl
set_option maxRecDepth 100000 in
set_option maxHeartbeats 2000000 in
theorem shape_any (fv mv : Value) (f : Form) (ns : List Nat) (w : World) (hV : ValidForm f) (hf : FormV w fv f) (hm : IntsAt w mv (ints ns)) (hn : (roomsM f.parts).length = ns.length) (h3 : ∀ n ∈ ns, n ≤ 3) :
    Calls Tryz.prog 103 #[fv, mv] w fun e w' => ∃ u, e = .returned u ∧ StrsAt w' u (shapeR f.parts ns) ∧ Ext w w' := by
  have hf0 := hf
  obtain ⟨pv, rfl, hns, hp⟩ := hf
  obtain ⟨pa, pc, rfl, -⟩ := hp.shape
  have hil : (ints ns).length = ns.length := by simp [ints]
  obtain ⟨ma, mc, rfl, -⟩ := hm.shape
  rw [hil] at hm ⊢
  obtain ⟨i0, hi, hz0, hz1, hz2⟩ := info_parts infoStrs
  have hrl : (roomsM f.parts).length ≤ 5 := Nat.le_trans (List.length_filter_le _ _) hV.n
  obtain ⟨N, hN⟩ : ∃ N, N = ns.length := ⟨_, rfl⟩
  rw [← hN] at hm hn ⊢
  have hN5 : N ≤ 5 := by omega
  have HN := Lib.hid hN
  have H3 := Lib.hid h3
  clear h3 hN hrl
  go_enter Tryz.func103, Tryz.ntmps103
  go_wp2_with fail
  obtain ⟨W, hW⟩ : ∃ W, W = w.alloc (.cells #[.string f.name, .slice pa f.parts.length pc] 55) := ⟨_, rfl⟩
  have xW : Ext w W := by rw [hW]; exact ext_alloc _ _
  have b0 : W.cell? ⟨w.heap.size, 0, none⟩ = some (.string f.name) := by rw [hW]; simp [go_sem]
  have b1 : W.cell? ⟨w.heap.size, 1, none⟩ = some (.slice pa f.parts.length pc) := by rw [hW]; simp [go_sem]
  rw [← hW]
  clear hW
  go_loopw [5, 6] (fun v iv wr => ∃ k : Nat, k ≤ N ∧ iv = .int .i64 k ∧ Ext W wr ∧ RowF W.heap.size ((ns.take k).map blank) v wr) (fun _ i _ => N - (intOf i).toNat)
  case atStart => exact ⟨0, Nat.zero_le _, rfl, Ext.refl _, [], World.ownsRow_nil _ _ _ _, fun i x L h => by simp at h⟩
  case round =>
    obtain ⟨k, hk, rfl, hxr, hown⟩ := hrel
    by_cases hlt : k < N
    · have k1 : (k : Int) < (N : Int) := by omega
      have hlt' : k < ns.length := by have := HN.out; omega
      obtain ⟨mb, mo, rfl, c0, -⟩ := SliceAt.get ((hm.ext xW).ext hxr) (by rw [hil]; exact hlt')
      have ce : (ints ns)[k]'(by rw [hil]; exact hlt') = ((ns[k] : Nat) : Int) := by simp [ints]
      rw [ce, Nat.mul_one] at c0
      have hsn := blank_snoc ns k hlt'
      have hn3 := H3.out _ (List.getElem_mem hlt')
      generalize ns[k] = n at *
      have hpl : ((ns.take k).map blank).length = k := by rw [List.length_map, List.length_take]; omega
      generalize (ns.take k).map blank = fl at *
      obtain ⟨w2, mk, row2, x2, z2⟩ := make_row Tryz.underlying25 infoStringL rfl (by decide) wr n (by omega)
      have hbl := blank_at row2 (by omega)
      obtain ⟨vals, hv2, hv3⟩ := hown
      have Hsn := Lib.hid hsn
      have Hv2 := Lib.hid hv2
      have Hv3 := Lib.hid hv3
      have Hbl := Lib.hid hbl
      have own2 := Ext.owns hv2 x2
      rw [hpl] at own2
      have Own2 := Lib.hid own2
      have Hpl := Lib.hid hpl
      have hszr := hxr.size
      have hszW := xW.size
      have Z2 := Lib.hid z2
      clear ce hsn hv2 hv3 hbl own2 row2 hpl z2
      go_wp2_with (at_builtin; go_loud (refine wpList_append_own_at _ rfl _ _ 31 rfl W.heap.size 25 i0 (.slice none 0 0) 1 24 Tryz.underlying31 hi hz0 hz1 hz2 rfl (by decide) u5 k vals rfl (World.ownsRow.alloc Own2.out _) ⟨w2.heap.size, 0, none⟩ 1 1 [.slice (some ⟨wr.heap.size, 0, none⟩) n n] rfl rfl (cell_one_at (by simp [go_sem])) (by simp [Value.oneCell']) (by unfold maxLen; omega) (by omega) (by have := x2.size; simp; omega) ?_; intro v' w4 hown' hgrow _ hblk))
      have hx4 : Ext W w4 := Ext.grown ((hxr.trans x2).alloc _) hgrow fun k hk => (Own2.out.lt k hk).1
      have hrow := rowF_push (L := blank n) Hv2.out Hv3.out x2 ⟨some ⟨wr.heap.size, 0, none⟩, n, by simp [blank], Hbl.out, fun ad e => by
        obtain rfl := Option.some.inj e
        have := Z2.out; exact ⟨by simp, by show wr.heap.size < w2.heap.size; omega⟩⟩ (by rw [Hpl.out]; exact hown') hgrow (by simpa using hblk)
      go_roundw
      case rel => exact ⟨k + 1, by omega, by go_num, hx4, by rw [Hsn.out]; exact hrow⟩
      case measure => simp [intOf]; omega
    · obtain rfl : k = N := by omega
      have hF := hown.at_
      rw [show ns.take k = ns from List.take_of_length_le (by rw [← HN.out]; exact Nat.le_refl _)] at hF
      obtain ⟨va, vc, rfl, -⟩ := hF.shape
      rw [List.length_map, ← HN.out] at hF ⊢
      replace b0 := hxr.cell b0
      replace b1 := hxr.cell b1
      have z1 := cell_lt b0
      have hfW := (hf0.ext xW).ext hxr
      have hx := xW.trans hxr
      go_wp2_with fail
      refine (refBuilt_any _ _ f (ns.map blank) hV.n (fun p hp => by have := (hV.parts p hp).n; omega) (fun l hl => by
        obtain ⟨n, hn, rfl⟩ := List.mem_map.1 hl
        have := H3.out n hn
        simp [blank]; omega) (by rw [List.length_map, ← HN.out]; exact hn) _ hfW hF).mono ?_
      rintro e w' ⟨u, rfl, hu, -, hx'⟩
      rw [built_is] at hu
      go_wp2
      go_ret
      exact ⟨_, rfl, hu, hx.trans hx'⟩
set_option maxRecDepth 100000 in
theorem far_any (fv sv : Value) (f s : List ByteArray) (w : World) (hf : StrsAt w fv f) (hs : StrsAt w sv s) (hfn : f.length ≤ 100) (hsn : s.length ≤ 100) :
    Calls Tryz.prog 115 #[fv, sv] w fun e w' => e = .returned (.int .i64 (lsM f s : Nat)) ∧ Ext w w' := by
  have h1 := least_any fv sv f s w hf hs hfn hsn
  obtain ⟨fa, fc, rfl, -⟩ := hf.shape
  obtain ⟨sa, sc, rfl, -⟩ := hs.shape
  go_enter Tryz.func115, Tryz.ntmps115
  go_wp2_with fail
  refine h1.mono ?_
  rintro e w1 ⟨G, h, rfl, hrow, hrs, x1⟩
  obtain ⟨g, eg, hGg, hrg⟩ := hrs 0 (Nat.le_refl _) (Nat.zero_le _)
  have r0 := (hrow 0 (by omega)).1
  rw [eg] at r0
  have c0 := (hrg 0 (by omega)).1
  have e0 : lsAt f s 0 0 = lsM f s := by unfold lsAt; rw [List.drop_zero, List.drop_zero]
  simp only [e0] at c0
  have l1 : (0 : Int) < (f.length : Int) + 1 := by omega
  have l2 : (0 : Int) < (s.length : Int) + 1 := by omega
  obtain ⟨n, hn⟩ : ∃ n, lsM f s = n := ⟨_, rfl⟩
  rw [hn] at c0
  have Hn := Lib.hid hn
  clear hn hrow hrs hrg eg e0 h1
  go_wp2
  go_ret
  exact ⟨by rw [Hn.out]; rfl, x1⟩
end Go.Proofs.YtcamegaimleomaaGreat

namespace Go.Proofs.YtcamegaimleomaaGreat
set_option linter.unusedSimpArgs false
set_option linter.unusedVariables false
open Go.RowKit
set_option linter.unusedVariables false

/-- a list of lists -/
def listRL (w : World) (b o : Nat) (l : List Nat) : Prop := ∃ s, w.cell? ⟨b, o, none⟩ = some s ∧ IntsAt w s (ints l)
theorem listRL.keeps : Keeps listRL := fun _ _ _ _ _ hx ⟨s, h1, h2⟩ => ⟨s, hx.cell h1, h2.ext hx⟩
abbrev ListsAtL : World → Value → List (List Nat) → Prop := SliceAt 1 listRL
theorem ListsAtL.ext {w w' : World} {v : Value} {l : List (List Nat)} (h : ListsAtL w v l) (hx : Ext w w') : ListsAtL w' v l := SliceAt.ext listRL.keeps h hx
theorem IntsAt.nothingL (w : World) : IntsAt w (.slice none 0 0) [] := ⟨none, 0, rfl, Nat.le_refl _, by decide, fun i hi => absurd hi (Nat.not_lt_zero _)⟩
theorem IntsAt.grownByL {w w' : World} {row : Option Nat} {sa : Option Addr} {n sc : Nat} {l : List Int} (h : IntsAt w (.slice sa n sc) l) (hg : w.grownBy w' row) (hne : ∀ ad, sa = some ad → some ad.block ≠ row) : IntsAt w' (.slice sa n sc) l := by
  obtain ⟨a, cap, e, h2, h3, h4⟩ := h
  obtain ⟨rfl, rfl, rfl⟩ := Value.slice.inj e
  refine ⟨_, _, rfl, h2, h3, fun i hi => ?_⟩
  obtain ⟨b, o, rfl, r⟩ := h4 i hi
  exact ⟨b, o, rfl, hg.cell r.1 (show some b ≠ row from hne ⟨b, o, none⟩ rfl), r.2⟩
/-- one element: a slice with these numbers, not in the row's own block -/
def ElemAtL (w : World) (own : Option Nat) (x : Value) (L : List Nat) : Prop := ∃ sa sc, x = .slice sa L.length sc ∧ IntsAt w (.slice sa L.length sc) (ints L) ∧ ∀ ad, sa = some ad → ad.block < w.heap.size ∧ some ad.block ≠ own
/-- a row of lists of one's own -/
def ListsOwnL (w : World) (base : Nat) (v : Value) (LL : List (List Nat)) : Prop :=
  ∃ vs : List Value, w.ownsRow base 26 1 v LL.length vs ∧ ∀ (i : Nat) (x : Value) (L : List Nat), vs[i]? = some x → LL[i]? = some L → ElemAtL w v.ownBlock x L
theorem ListsOwnL.nil (w : World) (base : Nat) : ListsOwnL w base (.slice none 0 0) [] := ⟨[], World.ownsRow_nil _ _ _ _, fun i x L h => by simp at h⟩
theorem ListsOwnL.ext {w w' : World} {base : Nat} {v : Value} {LL : List (List Nat)} (h : ListsOwnL w base v LL) (hx : Ext w w') : ListsOwnL w' base v LL := by
  obtain ⟨vs, h1, h2⟩ := h
  refine ⟨vs, Ext.owns h1 hx, fun i x L hi hL => ?_⟩
  obtain ⟨sa, sc, rfl, h3, h4⟩ := h2 i x L hi hL
  exact ⟨sa, sc, rfl, h3.ext hx, fun ad e => ⟨Nat.lt_of_lt_of_le (h4 ad e).1 hx.size, (h4 ad e).2⟩⟩
theorem ListsOwnL.at_ {w : World} {base : Nat} {v : Value} {LL : List (List Nat)} (h : ListsOwnL w base v LL) : ListsAtL w v LL := by
  obtain ⟨vs, h1, h2⟩ := h
  have hlen : vs.length = LL.length := by have := h1.1; omega
  have hcells := fun g hg => h1.cells (g := g) hg
  rcases h1.2 with ⟨rfl, hn⟩ | ⟨g, cap, cur, rfl, hb, hg, hnc, hcm, hcs, htake⟩
  · have : LL = [] := List.eq_nil_of_length_eq_zero hn
    subst this; exact SliceAt.nil
  · refine ⟨_, _, rfl, hnc, by simpa [maxLen] using hcm, fun i hi => ⟨g, 0, rfl, ?_⟩⟩
    have hv : vs[i]? = some vs[i] := List.getElem?_eq_getElem (by omega)
    obtain ⟨sa, sc, e, h3, -⟩ := h2 i vs[i] LL[i] hv (List.getElem?_eq_getElem hi)
    have := hcells g rfl i vs[i] hv
    have ea : (⟨g, 0, none⟩ : Addr).add i = ⟨g, 0 + i * 1, none⟩ := by unfold Addr.add; split <;> simp_all
    rw [ea, e] at this
    exact ⟨_, this, h3⟩
/-- one more list at the end -/
theorem ListsOwnL.push {w wA w' : World} {base : Nat} {v v' x : Value} {LL : List (List Nat)} {L : List Nat} {vs : List Value} (h1 : w.ownsRow base 26 1 v LL.length vs) (h2 : ∀ (i : Nat) (x : Value) (L : List Nat), vs[i]? = some x → LL[i]? = some L → ElemAtL w v.ownBlock x L) (hx : Ext w wA) {t : TypeId}
    (hv : ∃ sa sc, x = .slice sa L.length sc ∧ IntsAt wA x (ints L) ∧ ∀ ad, sa = some ad → w.heap.size ≤ ad.block ∧ ad.block < wA.heap.size)
    (hown : w'.ownsRow base 26 1 v' (LL.length + 1) (vs ++ [x])) (hg : (wA.alloc (.cells #[x] t)).grownBy w' v.ownBlock) (hb : v'.ownBlock = v.ownBlock ∨ v'.ownBlock = some (wA.heap.size + 1)) :
    ListsOwnL w' base v' (LL ++ [L]) := by
  have hlt := fun k hk => h1.lt k hk
  have h2A : ∀ (i : Nat) (x : Value) (L : List Nat), vs[i]? = some x → LL[i]? = some L → ElemAtL wA v.ownBlock x L := fun i x L hi hL => by
    obtain ⟨sa, sc, rfl, h3, h4⟩ := h2 i x L hi hL
    exact ⟨sa, sc, rfl, h3.ext hx, fun ad e => ⟨Nat.lt_of_lt_of_le (h4 ad e).1 hx.size, (h4 ad e).2⟩⟩
  have hlen : vs.length = LL.length := by have := h1.1; omega
  have hg0 : wA.grownBy (wA.alloc (.cells #[x] t)) v.ownBlock := World.grownBy_alloc _ _ _
  have hsz : (wA.alloc (.cells #[x] t)).heap.size = wA.heap.size + 1 := by simp
  have hsz2 := hg.size
  have keep : ∀ (sa : Option Addr) (n sc : Nat) (l : List Int), IntsAt wA (.slice sa n sc) l → (∀ ad, sa = some ad → ad.block < wA.heap.size ∧ some ad.block ≠ v.ownBlock) → IntsAt w' (.slice sa n sc) l ∧ ∀ ad, sa = some ad → ad.block < w'.heap.size ∧ some ad.block ≠ v'.ownBlock := fun sa n sc l hi hne => by
    refine ⟨(hi.grownByL hg0 fun ad e => (hne ad e).2).grownByL hg fun ad e => (hne ad e).2, fun ad e => ⟨by have := (hne ad e).1; omega, ?_⟩⟩
    rcases hb with hb | hb
    · rw [hb]; exact (hne ad e).2
    · rw [hb]; intro e2; have := (hne ad e).1; have := Option.some.inj e2; omega
  refine ⟨vs ++ [x], by rw [List.length_append]; exact hown, fun i y M hi hM => ?_⟩
  rcases Nat.lt_or_ge i vs.length with h3 | h3
  · rw [List.getElem?_append_left h3] at hi
    rw [List.getElem?_append_left (by omega)] at hM
    obtain ⟨sa, sc, rfl, h4, h5⟩ := h2A i y M hi hM
    obtain ⟨k1, k2⟩ := keep sa _ sc _ h4 h5
    exact ⟨sa, sc, rfl, k1, k2⟩
  · rw [List.getElem?_append_right h3] at hi
    rw [List.getElem?_append_right (by omega)] at hM
    have hi0 : i - vs.length = 0 := by
      rcases Nat.eq_zero_or_pos (i - vs.length) with h6 | h6
      · exact h6
      · rw [List.getElem?_eq_none (by simp; omega)] at hi; cases hi
    rw [hi0] at hi
    rw [show i - LL.length = 0 from by omega] at hM
    obtain rfl : x = y := by simpa using hi
    obtain rfl : L = M := by simpa using hM
    obtain ⟨sa, sc, rfl, h4, h5⟩ := hv
    obtain ⟨k1, k2⟩ := keep sa _ sc _ h4 fun ad e => ⟨(h5 ad e).2, fun e2 => by have := (hlt ad.block e2.symm).2; have := (h5 ad e).1; omega⟩
    exact ⟨sa, sc, rfl, k1, k2⟩
theorem intsL_news {w : World} {ad : Addr} {n c : Nat} {l : List Int} (h : IntsAt w (.slice (some ad) n c) l) : ∀ j u, (l.map (Value.int .i64))[j]? = some u → w.cell? (ad.add j) = some u := by
  intro j u hu
  have hj : j < l.length := by
    rcases Nat.lt_or_ge j l.length with h1 | h1
    · exact h1
    · rw [List.getElem?_eq_none (by simpa using h1)] at hu; cases hu
  obtain ⟨a, cap, e, -, -, h4⟩ := h
  obtain ⟨b, o, e2, r⟩ := h4 j hj
  have e3 := (Value.slice.inj e).1
  rw [e2] at e3
  obtain rfl := Option.some.inj e3
  rw [List.getElem?_eq_getElem (by simpa using hj)] at hu
  obtain rfl := Option.some.inj hu
  have ea : (⟨b, o, none⟩ : Addr).add j = ⟨b, o + j * 1, none⟩ := by unfold Addr.add; split <;> simp_all
  rw [ea, List.getElem_map]
  exact r.1
theorem intsL_cells (l : List Int) : ∀ u ∈ l.map (Value.int .i64), u.oneCell' = true := fun u hu => by
  obtain ⟨x, -, rfl⟩ := List.mem_map.1 hu
  simp [Value.oneCell']
theorem infoIntsL : (Tryz.prog.info? 26).map (fun i => (i.zero, i.size, i.bytes)) = some (some (.slice none 0 0), 1, 24) := by kernel_rfl
/-- a list of lists where a list of nothing is nil -/
def listZL (w : World) (b o : Nat) (l : List Nat) : Prop := ∃ s, w.cell? ⟨b, o, none⟩ = some s ∧ IntsAt w s (ints l) ∧ (l = [] → s = .slice none 0 0)
theorem listZL.keeps : Keeps listZL := fun _ _ _ _ _ hx ⟨s, h1, h2, h3⟩ => ⟨s, hx.cell h1, h2.ext hx, h3⟩
abbrev ListsZL : World → Value → List (List Nat) → Prop := SliceAt 1 listZL
theorem ListsZL.ext {w w' : World} {v : Value} {l : List (List Nat)} (h : ListsZL w v l) (hx : Ext w w') : ListsZL w' v l := SliceAt.ext listZL.keeps h hx
theorem ListsZL.of {w : World} {v : Value} {l : List (List Nat)} (h : ListsAtL w v l) (hne : ∀ L ∈ l, L ≠ []) : ListsZL w v l := by
  obtain ⟨a, cap, e, h2, h3, h4⟩ := h
  refine ⟨a, cap, e, h2, h3, fun i hi => ?_⟩
  obtain ⟨b, o, e2, s, h5, h6⟩ := h4 i hi
  exact ⟨b, o, e2, s, h5, h6, fun e3 => absurd e3 (hne _ (List.getElem_mem hi))⟩
theorem ListsZL.at_ {w : World} {v : Value} {l : List (List Nat)} (h : ListsZL w v l) : ListsAtL w v l := by
  obtain ⟨a, cap, e, h2, h3, h4⟩ := h
  refine ⟨a, cap, e, h2, h3, fun i hi => ?_⟩
  obtain ⟨b, o, e2, s, h5, h6, -⟩ := h4 i hi
  exact ⟨b, o, e2, s, h5, h6⟩
end Go.Proofs.YtcamegaimleomaaGreat
