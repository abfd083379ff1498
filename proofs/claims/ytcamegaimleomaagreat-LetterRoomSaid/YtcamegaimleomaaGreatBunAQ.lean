/-
  LetterRoom: with more room a letter is of no fewer forms, and needs no more corrections.
  AN ARRAY OF THREE BYTES that is handed in, opened.
-/
import Derived.Test.YtcamegaimleomaaGreatBunAP
import Derived.Test.YtcamegaimleomaaGreatBunAN
namespace Go.Proofs.YtcamegaimleomaaGreat
set_option linter.unusedSimpArgs false
set_option linter.unusedVariables false
open Go.RowKit
set_option linter.unusedVariables false
set_option linter.unusedSimpArgs false

theorem infoFormL : (Tryz.prog.info? 55).map (fun i => (i.zero, i.size, i.bytes)) = some (some (.agg #[.string ByteArray.empty, .slice none 0 0]), 2, 40) := by kernel_rfl
theorem more_words (a b : Int) (p : Part) : (morePart a b p).words = p.words := by unfold morePart; split <;> rfl
theorem more_I64 {a b : Int} (ha : 0 ≤ a) (hb : 0 ≤ b) {p : Part} (h : ValidPart p) : I64 (morePart a b p).lo ∧ I64 (morePart a b p).hi := by
  have h2 := (morePart_ok ha hb h).1
  by_cases hw : (morePart a b p).words = []
  · obtain ⟨r1, r2, r3, r4⟩ := h2.r hw
    constructor <;> constructor <;> omega
  · obtain ⟨r1, r2⟩ := h2.z hw
    rw [r1, r2]
    constructor <;> constructor <;> omega
theorem mend_bad {s : Shelf} {l : List ByteArray} (h : errS s ≠ 0 ∨ s.forms.length = 0 ∨ letterErrL l ≠ 0) : openForErrM s 0 l ≠ 0 := by
  unfold openForErrM
  by_cases ho : openErrM s 0 = 0
  · rw [if_neg (by rw [ho]; simp)]
    rcases h with h | h | h
    · unfold openErrM at ho
      rw [if_pos h] at ho
      exact absurd ho h
    · unfold openErrM at ho
      split at ho
      · rename_i h1; exact absurd ho h1
      · rw [h, if_pos (by decide)] at ho
        exact absurd ho (by decide)
    · exact h
  · rw [if_pos ho]; exact ho
theorem box_room {w : World} {fa : Option Addr} {fc : Nat} {s : Shelf} {y0 y1 y2 : Nat} (hb : ShelfAt w (.agg #[.int .i64 s.width, .slice fa s.forms.length fc]) s) :
    ∃ W, W = (w.alloc (.cells #[.int .i64 s.width, .slice fa s.forms.length fc] 24)).alloc (.cells #[.int .u8 y0, .int .u8 y1, .int .u8 y2] 49) ∧ ShelfAt W (.agg #[.int .i64 s.width, .slice fa s.forms.length fc]) s ∧ W.cell? ⟨w.heap.size, 0, none⟩ = some (.int .i64 s.width) ∧ W.cell? ⟨w.heap.size, 1, none⟩ = some (.slice fa s.forms.length fc) ∧
      W.cell? ⟨w.heap.size + 1, 0, none⟩ = some (.int .u8 y0) ∧ W.cell? ⟨w.heap.size + 1, 1, none⟩ = some (.int .u8 y1) ∧ W.cell? ⟨w.heap.size + 1, 2, none⟩ = some (.int .u8 y2) ∧ Ext w W :=
  ⟨_, rfl, (hb.ext (ext_alloc _ _)).ext (ext_alloc _ _), by simp [go_sem], by simp [go_sem], by simp [go_sem], by simp [go_sem], by simp [go_sem], (ext_alloc _ _).trans (ext_alloc _ _)⟩
set_option maxRecDepth 100000 in
set_option maxHeartbeats 8000000 in
theorem roomL_any (sv lv : Value) (s : Shelf) (l : List ByteArray) (y0 y1 y2 : Nat) (hy0 : y0 ≤ 255) (hy1 : y1 ≤ 255) (hy2 : y2 ≤ 255) (w : World) (hs : ShelfAt w sv s) (hl : StrsAt w lv l) :
    Calls Tryz.prog 6 #[sv, lv, .agg #[.int .u8 y0, .int .u8 y1, .int .u8 y2]] w fun e w' => e = .returned (.bool true) ∧ Ext w w' := by
  obtain ⟨fa, fc, rfl, -⟩ := hs.open
  obtain ⟨la, lc, rfl, -⟩ := hl.shape
  obtain ⟨W, hW, hb, q0, q1, p0, p1, p2, x1⟩ := box_room (y0 := y0) (y1 := y1) (y2 := y2) hs
  replace hl := hl.ext x1
  have z1 := cell_lt q0
  have z2 := cell_lt p0
  have HW := Lib.hid hW
  clear hs hW
  go_enter Tryz.func6, Tryz.ntmps6
  go_wp2_with fail
  rw [← HW.out]
  clear HW
  by_cases hbad : errS s ≠ 0 ∨ s.forms.length = 0 ∨ letterErrL l ≠ 0
  · have g1 := mend_bad hbad
    have g1' := neT g1
    have hme := fun w' v1 v2 (h1 : ShelfAt w' v1 s) (h2 : StrsAt w' v2 l) => Mend_any v1 v2 s 0 (by constructor <;> decide) l w' h1 h2
    generalize openForErrM s 0 l = e1 at *
    generalize mendM s 0 l = m1 at *
    clear g1
    by_cases h1 : errS s = 0
    · by_cases h2 : s.forms.length = 0
      · have h2' : ((s.forms.length : Int) == 0) = true := by rw [h2]; rfl
        clear h2 hbad
        refine (validL_any _ s _ hb).mono ?_
        rw [show (errS s == 0) = true from by rw [h1]; rfl]
        rintro e w3 ⟨rfl, hx⟩
        (replace hb := hb.ext hx; replace q0 := hx.cell q0; replace q1 := hx.cell q1; replace p0 := hx.cell p0; replace p1 := hx.cell p1; replace p2 := hx.cell p2; replace z1 := cell_lt q0; replace z2 := cell_lt p0; replace x1 := x1.trans hx; replace hl := hl.ext hx; clear hx)
        clear h1
        go_wp2_with fail
        refine (hme _ _ _ hb hl).mono ?_
        rintro e w2 ⟨rfl, hx⟩
        (replace hb := hb.ext hx; replace q0 := hx.cell q0; replace q1 := hx.cell q1; replace p0 := hx.cell p0; replace p1 := hx.cell p1; replace p2 := hx.cell p2; replace z1 := cell_lt q0; replace z2 := cell_lt p0; replace x1 := x1.trans hx; replace hl := hl.ext hx; clear hx)
        go_wp2_with fail
        refine (awakeL_any _).mono ?_
        rintro e w7 ⟨rfl, hx⟩
        go_wp2
        go_ret
        exact ⟨rfl, x1.trans hx⟩
      · have h3 : letterErrL l ≠ 0 := by
          rcases hbad with h | h | h
          · exact absurd h1 h
          · exact absurd h h2
          · exact h
        have h2' : ((s.forms.length : Int) == 0) = false := by simpa using h2
        have h3' := neT h3
        clear h2 hbad h3
        refine (validL_any _ s _ hb).mono ?_
        rw [show (errS s == 0) = true from by rw [h1]; rfl]
        rintro e w3 ⟨rfl, hx⟩
        (replace hb := hb.ext hx; replace q0 := hx.cell q0; replace q1 := hx.cell q1; replace p0 := hx.cell p0; replace p1 := hx.cell p1; replace p2 := hx.cell p2; replace z1 := cell_lt q0; replace z2 := cell_lt p0; replace x1 := x1.trans hx; replace hl := hl.ext hx; clear hx)
        clear h1
        go_wp2_with fail
        refine (refLett_any _ l _ hl).mono ?_
        rintro e w4 ⟨rfl, hx⟩
        (replace hb := hb.ext hx; replace q0 := hx.cell q0; replace q1 := hx.cell q1; replace p0 := hx.cell p0; replace p1 := hx.cell p1; replace p2 := hx.cell p2; replace z1 := cell_lt q0; replace z2 := cell_lt p0; replace x1 := x1.trans hx; replace hl := hl.ext hx; clear hx)
        generalize letterErrL l = e2 at *
        go_wp2_with fail
        refine (hme _ _ _ hb hl).mono ?_
        rintro e w2 ⟨rfl, hx⟩
        (replace hb := hb.ext hx; replace q0 := hx.cell q0; replace q1 := hx.cell q1; replace p0 := hx.cell p0; replace p1 := hx.cell p1; replace p2 := hx.cell p2; replace z1 := cell_lt q0; replace z2 := cell_lt p0; replace x1 := x1.trans hx; replace hl := hl.ext hx; clear hx)
        go_wp2_with fail
        refine (awakeL_any _).mono ?_
        rintro e w7 ⟨rfl, hx⟩
        go_wp2
        go_ret
        exact ⟨rfl, x1.trans hx⟩
    · clear hbad
      refine (validL_any _ s _ hb).mono ?_
      rw [show (errS s == 0) = false from by simpa using h1]
      rintro e w3 ⟨rfl, hx⟩
      (replace hb := hb.ext hx; replace q0 := hx.cell q0; replace q1 := hx.cell q1; replace p0 := hx.cell p0; replace p1 := hx.cell p1; replace p2 := hx.cell p2; replace z1 := cell_lt q0; replace z2 := cell_lt p0; replace x1 := x1.trans hx; replace hl := hl.ext hx; clear hx)
      clear h1
      go_wp2_with fail
      refine (hme _ _ _ hb hl).mono ?_
      rintro e w2 ⟨rfl, hx⟩
      (replace hb := hb.ext hx; replace q0 := hx.cell q0; replace q1 := hx.cell q1; replace p0 := hx.cell p0; replace p1 := hx.cell p1; replace p2 := hx.cell p2; replace z1 := cell_lt q0; replace z2 := cell_lt p0; replace x1 := x1.trans hx; replace hl := hl.ext hx; clear hx)
      go_wp2_with fail
      refine (awakeL_any _).mono ?_
      rintro e w7 ⟨rfl, hx⟩
      go_wp2
      go_ret
      exact ⟨rfl, x1.trans hx⟩
  · have h1 : errS s = 0 := Decidable.not_not.1 fun e => hbad (.inl e)
    have h2 : s.forms.length ≠ 0 := fun e => hbad (.inr (.inl e))
    have h3 : letterErrL l = 0 := Decidable.not_not.1 fun e => hbad (.inr (.inr e))
    have hv4 := (errS_ok h1).n
    have V := Lib.hid (errS_ok h1)
    have H1 := Lib.hid h1
    have H3 := Lib.hid h3
    have h2' : ((s.forms.length : Int) == 0) = false := by simpa using h2
    have H2 := Lib.hid h2
    clear hbad h1 h3 h2
    refine (validL_any _ s _ hb).mono ?_
    rw [show (errS s == 0) = true from by rw [H1.out]; rfl]
    rintro e w3 ⟨rfl, hx⟩
    (replace hb := hb.ext hx; replace q0 := hx.cell q0; replace q1 := hx.cell q1; replace p0 := hx.cell p0; replace p1 := hx.cell p1; replace p2 := hx.cell p2; replace z1 := cell_lt q0; replace z2 := cell_lt p0; replace x1 := x1.trans hx; replace hl := hl.ext hx; clear hx)
    go_wp2_with fail
    refine (refLett_any _ l _ hl).mono ?_
    rw [H3.out]
    rintro e w4 ⟨rfl, hx⟩
    (replace hb := hb.ext hx; replace q0 := hx.cell q0; replace q1 := hx.cell q1; replace p0 := hx.cell p0; replace p1 := hx.cell p1; replace p2 := hx.cell p2; replace z1 := cell_lt q0; replace z2 := cell_lt p0; replace x1 := x1.trans hx; replace hl := hl.ext hx; clear hx)
    have hwh := fun w' v (h : ShelfAt w' v s) => which_any v s y0 hy0 w' h H2.out hv4
    obtain ⟨k, hk⟩ : ∃ k, k = y0 % s.forms.length := ⟨_, rfl⟩
    have hkl : k < s.forms.length := by rw [hk]; exact Nat.mod_lt _ (by have := H2.out; omega)
    rw [← hk] at hwh
    clear hk h2'
    have k1 : (k : Int) < (s.forms.length : Int) := by omega
    have hkI : I64 k := by constructor <;> omega
    go_wp2_with fail
    refine (hwh _ _ hb).mono ?_
    rintro e w5 ⟨rfl, hx⟩
    (replace hb := hb.ext hx; replace q0 := hx.cell q0; replace q1 := hx.cell q1; replace p0 := hx.cell p0; replace p1 := hx.cell p1; replace p2 := hx.cell p2; replace z1 := cell_lt q0; replace z2 := cell_lt p0; replace x1 := x1.trans hx; replace hl := hl.ext hx; clear hx)
    clear hwh
    go_upto_region 6 with fail
    obtain ⟨i0, hi, hz0, hz1, hz2⟩ := info_parts infoFormL
    obtain ⟨j0, hj, hj0, hj1, hj2⟩ := info_parts infoPartL
    obtain ⟨fb, fo, rfl, -⟩ : ∃ b o, fa = some ⟨b, o, none⟩ ∧ True := by
      obtain ⟨u, e, -, h⟩ := hb
      obtain rfl : u = .slice fa s.forms.length fc := by simpa using e.symm
      obtain ⟨b, o, e, -⟩ := h.get hkl
      exact ⟨b, o, e, trivial⟩
    have hfm : FormsAt w5 (.slice (some ⟨fb, fo, none⟩) s.forms.length fc) s.forms := by
      obtain ⟨u, e, -, h⟩ := hb
      obtain rfl : u = .slice (some ⟨fb, fo, none⟩) s.forms.length fc := by simpa using e.symm
      exact h
    have hsw : I64 s.width := by obtain ⟨u, e, h, -⟩ := hb; exact h
    obtain ⟨pv, fc1, fc2, fc3, fc4⟩ := forms_cells hfm
    obtain ⟨-, hnc, hncm⟩ := hfm.len
    obtain ⟨B2, hB2⟩ : ∃ B2, B2 = w5.heap.size := ⟨_, rfl⟩
    obtain ⟨W5, hW5⟩ : ∃ W5, W5 = w5.alloc (.cells #[.int .i64 s.width, .slice (some ⟨fb, fo, none⟩) s.forms.length fc] 24) := ⟨_, rfl⟩
    have xw5 : Ext w5 W5 := by rw [hW5]; exact ext_alloc _ _
    have zW5 : W5.heap.size = B2 + 1 := by rw [hW5, hB2]; simp
    have m0 : W5.cell? ⟨B2, 0, none⟩ = some (.int .i64 s.width) := by rw [hW5, hB2]; simp [go_sem]
    have m1 : W5.cell? ⟨B2, 1, none⟩ = some (.slice (some ⟨fb, fo, none⟩) s.forms.length fc) := by rw [hW5, hB2]; simp [go_sem]
    have mf : W5.frozen? ⟨B2, 1, none⟩ = false := by rw [hW5, hB2]; simp [go_sem]
    have b1 := xw5.cell q1
    have zb1 := cell_lt b1
    rw [← hW5, ← hB2]
    have row0 : (W5.alloc (.cells #[] 55)).ownsRow W5.heap.size 55 2 (.slice (some ⟨W5.heap.size, 0, none⟩) 0 0) 0 [] := World.ownsRow_made W5 #[] 0 (Nat.le_refl _) (by unfold maxLen; omega) rfl
    have hnews := range_news (w := W5.alloc (.cells #[] 55)) (b := fb) (o := fo) (fun j hj => (ext_alloc _ _).cell (xw5.cell (fc1 j hj)))
    have hone := range_one fc2
    have Fc1 := Lib.hid fc1
    have Fc3 := Lib.hid fc3
    have Fc4 := Lib.hid fc4
    have Hb := Lib.hid hb
    have Hnews := Lib.hid hnews
    have Hone := Lib.hid hone
    have zB2 : w5.heap.size ≤ B2 := by omega
    have hB2' : B2 < W5.heap.size := by omega
    clear hfm fc1 fc2 fc3 fc4 hnews hone hW5 hB2 zW5
    go_upto_region 7 with (at_builtin; go_loud (refine wpList_append_own_at _ rfl _ _ 22 rfl W5.heap.size 55 i0 (.agg #[.string ByteArray.empty, .slice none 0 0]) 2 40 Tryz.underlying22 hi hz0 hz1 hz2 rfl (by decide) (.slice (some ⟨W5.heap.size, 0, none⟩) 0 0) 0 [] rfl row0 ⟨fb, fo, none⟩ s.forms.length fc _ rfl (by rw [List.length_map, List.length_range]) Hnews.out Hone.out (by unfold maxLen; omega) (by omega) (by simp) ?_; intro v1 w6 hown1 hgrow1 _ _; have x6 : Ext W5 w6 := Ext.grown ((Ext.refl W5).alloc _) hgrow1 (fun k hk => by cases hk; exact Nat.le_refl _); have m1' := x6.cell m1; have mf' := (x6.frozen (cell_lt m1)).trans mf; obtain ⟨g1, cap1, rfl, hg1, hg1z, hc1, hc1m, hgc, hgf⟩ := own_cells hown1 (by omega)))
    obtain ⟨W6, hW6⟩ : ∃ W6, W6 = w6.setCell ⟨B2, 1, none⟩ (.slice (some ⟨g1, 0, none⟩) s.forms.length cap1) := ⟨_, rfl⟩
    have x56 : Ext w5 W6 := by rw [hW6]; exact (xw5.trans x6).setCell (p := ⟨B2, 1, none⟩) zB2 _
    have M0 : W6.cell? ⟨B2, 0, none⟩ = some (.int .i64 s.width) := by rw [hW6]; exact set_other (x6.cell m0) (.inr (by simp)) _
    have M1 : W6.cell? ⟨B2, 1, none⟩ = some (.slice (some ⟨g1, 0, none⟩) s.forms.length cap1) := by rw [hW6]; exact set_cell m1' _
    have hBg : B2 < g1 := by omega
    have hG : ∀ j, j < s.forms.length * 2 → W6.cell? ⟨g1, j, none⟩ = some (formF (fun j => (formsN s.forms j).name) pv j) := fun j hj => by
      rw [hW6]
      refine set_other ?_ (.inl (by show B2 ≠ g1; omega)) _
      rw [hgc j (by simpa using hj), List.nil_append, range_get _ _ j hj]
    have hGf : ∀ j, W6.frozen? ⟨g1, j, none⟩ = false := fun j => by rw [hW6, World.frozen?_setCell]; exact hgf j
    have hgz : g1 < W6.heap.size := by rw [hW6]; simpa [World.setCell] using hg1z
    have a0 : W6.cell? ⟨g1, k * 2, none⟩ = some (.string (formsN s.forms k).name) := by
      rw [hG _ (by omega)]; unfold formF; rw [if_pos (by omega), show k * 2 / 2 = k from by omega]
    have a1 : W6.cell? ⟨g1, k * 2 + 1, none⟩ = some (pv k) := by
      rw [hG _ (by omega)]; unfold formF; rw [if_neg (by omega), show (k * 2 + 1) / 2 = k from by omega]
    have hpk := Fc3.out k hkl
    obtain ⟨pa, pc, hpv, hpc, hpcm⟩ := hpk.shape
    rw [hpv] at a1 hpk
    have hVf : ValidForm (formsN s.forms k) := by rw [formsN_is hkl]; exact V.out.forms _ (List.getElem_mem hkl)
    obtain ⟨f, hf⟩ : ∃ f, formsN s.forms k = f := ⟨_, rfl⟩
    rw [hf] at a0 a1 hpk hpv hpc hVf
    have Hf := Lib.hid hf
    have Hpv := Lib.hid hpv
    have HG := Lib.hid hG
    have HGf := Lib.hid hGf
    have HVf := Lib.hid hVf
    have hsz56 := x56.size
    replace q0 := x56.cell q0
    replace q1 := x56.cell q1
    replace p0 := x56.cell p0
    replace p1 := x56.cell p1
    replace p2 := x56.cell p2
    rw [← hW6]
    clear hf hpv hG hGf hW6 hgc hgf hVf m0 m1 mf b1 zb1 row0 hown1 hgrow1 x6 xw5 m1' mf' hg1 hg1z
    go_upto_region 8 with fail
    have zb6 := cell_lt q0
    have zX6 := cell_lt p0
    refine room_r8 (w0 := w5) (x56.trans (ext_alloc _ _)) (by simp [go_sem]) (by simp [go_sem]) hpk HVf.out.n _ ?_
    intro v63 v64 v65 v66 v67 W8 g2 cap2 us h8
    have x68 : Ext W6 W8 := Below.trans (ext_alloc W6 (.cells #[.string f.name, .slice pa f.parts.length pc] 55)) h8.b
    have n3 : W8.cell? ⟨W6.heap.size, 0, none⟩ = some (.string f.name) := h8.d _ (by simp [go_sem])
    have c3 := h8.c
    have hBg2 := h8.lt
    have hg2z := h8.z
    have H8 := Lib.hid h8
    have hm5 := HVf.out.n
    have X1 := x68.cell p1
    have X2 := x68.cell p2
    have hXg2 : w.heap.size + 1 < g2 := by omega
    have zX8 := cell_lt X1
    clear h8
    go_upto_block 0 with fail
    refine room_b0 hy1 hy2 X1 X2 hXg2 c3 hBg2 hm5 H8.out.le H8.out.row hg2z H8.out.s (fun j hj => by have : partsN f.parts j = f.parts[j] := (by unfold partsN; rw [List.getD_eq_getElem?_getD, List.getElem?_eq_getElem hj]; rfl); rw [this]; exact HVf.out.parts _ (List.getElem_mem hj)) _ ?_
    intro v12 v13 v68 v69 v70 v71 v72 v73 v74 v75 v76 v77 v78 v79 v80 v81 v82 v83 v84 v85 v86 v87 v88 v89 v90 v91 v92 v93 v94 v95 v96 v97 v98 v99 v100 v101 v102 v103 v104 v105 v106 wc hpost
    obtain ⟨hb8, hprow⟩ := hpost
    have hsz8 := hb8.size
    obtain ⟨a, ha⟩ : ∃ a : Int, ((y1 % 3 : Nat) : Int) = a := ⟨_, rfl⟩
    obtain ⟨b, hb'⟩ : ∃ b : Int, ((y2 % 3 : Nat) : Int) = b := ⟨_, rfl⟩
    have ha0 : 0 ≤ a := by omega
    have hb0 : 0 ≤ b := by omega
    rw [ha, hb'] at hprow
    clear ha hb'
    have hg12 : g1 < g2 := by omega
    have keep : ∀ B o v, W6.cell? ⟨B, o, none⟩ = some v → wc.cell? ⟨B, o, none⟩ = some v := fun B o v h => by
      have hB := cell_lt h
      rw [hb8.cell (p := ⟨B, o, none⟩) (by show B < g2; simp at hB; omega)]
      exact x68.cell h
    have C3 : wc.cell? ⟨W6.heap.size, 1, none⟩ = some (.slice (some ⟨g2, 0, none⟩) f.parts.length cap2) := by rw [hb8.cell (p := ⟨W6.heap.size, 1, none⟩) hBg2]; exact c3
    have C0 : wc.cell? ⟨W6.heap.size, 0, none⟩ = some (.string f.name) := by rw [hb8.cell (p := ⟨W6.heap.size, 0, none⟩) hBg2]; exact n3
    have N0 := keep _ _ _ M0
    have N1 := keep _ _ _ M1
    have G0 := keep _ _ _ a0
    have G1 := keep _ _ _ a1
    have fz : ∀ o, wc.frozen? ⟨g1, o, none⟩ = false := fun o => by
      rw [hb8.frozen (p := ⟨g1, o, none⟩) hg12, x68.frozen (p := ⟨g1, o, none⟩) hgz]
      exact HGf.out o
    have F0 := fz (k * 2)
    have F1 := fz (k * 2 + 1)
    have zB2c := cell_lt N0
    have zg1c := cell_lt G0
    have zB3c := cell_lt C0
    have Keep := Lib.hid keep
    have Hb8 := Lib.hid hb8
    have Hprow := Lib.hid hprow
    clear hb8 hprow keep fz
    go_upto_region 17 with fail
    obtain ⟨W9, hW9⟩ : ∃ W9, W9 = (wc.setCell ⟨g1, k * 2, none⟩ (.string f.name)).setCell ⟨g1, k * 2 + 1, none⟩ (.slice (some ⟨g2, 0, none⟩) f.parts.length cap2) := ⟨_, rfl⟩
    have hg15 : w5.heap.size ≤ g1 := by omega
    have xw9 : Ext w5 W9 := by
      rw [hW9]
      exact ((Below.trans (x56.trans x68) (Below.mono Hb8.out (by omega))).setCell (p := ⟨g1, _, none⟩) hg15 _).setCell (p := ⟨g1, _, none⟩) hg15 _
    have hmore : ShelfAt W9 (.agg #[.int .i64 s.width, .slice (some ⟨g1, 0, none⟩) s.forms.length cap1]) (moreShelf a b s k) := by
      have hGc := fun j (hj : j < s.forms.length * 2) => Keep.out _ _ _ (HG.out j hj)
      refine more_shelf (pv := pv) (nv := .slice (some ⟨g2, 0, none⟩) f.parts.length cap2) hsw hkl (by omega) hc1m (fun j hj => ?_) Fc4.out (fun j hj hjk => ?_) (fun j hj => (Fc3.out j hj).ext xw9) ?_ ?_
      · have h0 := hGc (j * 2) (by omega)
        unfold formF at h0
        rw [if_pos (by omega), show j * 2 / 2 = j from by omega] at h0
        rw [hW9]
        refine set_other ?_ (.inr (by show k * 2 + 1 ≠ j * 2; omega)) _
        by_cases e : j = k
        · subst e
          rw [Hf.out]
          exact set_cell G0 _
        · exact set_other h0 (.inr (by show k * 2 ≠ j * 2; omega)) _
      · have h0 := hGc (j * 2 + 1) (by omega)
        unfold formF at h0
        rw [if_neg (by omega), show (j * 2 + 1) / 2 = j from by omega] at h0
        rw [hW9]
        exact set_other (set_other h0 (.inr (by show k * 2 ≠ j * 2 + 1; omega)) _) (.inr (by show k * 2 + 1 ≠ j * 2 + 1; omega)) _
      · rw [hW9]
        exact set_cell (set_other G1 (.inr (by simp)) _) _
      · rw [Hf.out]
        refine PRow.parts (us := us) ?_ (fun j hj => ?_) (fun p hp => more_I64 ha0 hb0 (HVf.out.parts p hp)) H8.out.le H8.out.m
        · rw [hW9]
          exact (Hprow.out.other (by show g1 ≠ g2; omega) _).other (by show g1 ≠ g2; omega) _
        · rw [more_words]
          exact (H8.out.s j hj).ext xw9
    have r0 : W9.cell? ⟨B2, 0, none⟩ = some (.int .i64 s.width) := by rw [hW9]; exact set_other (set_other N0 (.inl (by show g1 ≠ B2; omega)) _) (.inl (by show g1 ≠ B2; omega)) _
    have r1 : W9.cell? ⟨B2, 1, none⟩ = some (.slice (some ⟨g1, 0, none⟩) s.forms.length cap1) := by rw [hW9]; exact set_other (set_other N1 (.inl (by show g1 ≠ B2; omega)) _) (.inl (by show g1 ≠ B2; omega)) _
    have kq : ∀ o v, wc.cell? ⟨w.heap.size, o, none⟩ = some v → W9.cell? ⟨w.heap.size, o, none⟩ = some v := fun o v h => by
      rw [hW9]; exact set_other (set_other h (.inl (by show g1 ≠ w.heap.size; omega)) _) (.inl (by show g1 ≠ w.heap.size; omega)) _
    have s0 := kq _ _ (Keep.out _ _ _ q0)
    have s1 := kq _ _ (Keep.out _ _ _ q1)
    have t1 := cell_lt r0
    have t2 := cell_lt s0
    have hbS := Hb.out.ext xw9
    have hlS := hl.ext xw9
    have hxF := x1.trans xw9
    have hle : (moreShelf a b s k).forms.length = s.forms.length := List.length_modify ..
    have hse : shelfErrM s l = 0 := by unfold shelfErrM; rw [if_neg (by rw [H1.out]; simp), H3.out]
    have hse2 : shelfErrM (moreShelf a b s k) l = 0 := by unfold shelfErrM; rw [if_neg (by rw [moreShelf_ok ha0 hb0 H1.out]; simp), H3.out]
    obtain ⟨d1, d2, d3⟩ := mend_more ha0 hb0 H1.out H3.out k hkl
    have hom := of_more ha0 hb0 H1.out k l
    obtain ⟨s2, hs2⟩ : ∃ s2, moreShelf a b s k = s2 := ⟨_, rfl⟩
    have hme := fun w' v1 v2 (x1 : ShelfAt w' v1 s) (x2 : StrsAt w' v2 l) => Mend_any v1 v2 s k hkI l w' x1 x2
    have hme2 := fun w' v1 v2 (x1 : ShelfAt w' v1 (moreShelf a b s k)) (x2 : StrsAt w' v2 l) => Mend_any v1 v2 (moreShelf a b s k) k hkI l w' x1 x2
    have hoA := fun w' v1 v2 (x1 : ShelfAt w' v1 s) (x2 : StrsAt w' v2 l) => of_any v1 v2 s l w' x1 x2
    have hoB := fun w' v1 v2 (x1 : ShelfAt w' v1 (moreShelf a b s k)) (x2 : StrsAt w' v2 l) => of_any v1 v2 (moreShelf a b s k) l w' x1 x2
    rw [d1] at hme
    rw [d2] at hme2
    rw [hse] at hoA
    rw [hse2] at hoB
    rw [hs2] at hmore hme2 hoB hom d3
    generalize mendM s k l = ma at *
    generalize mendM s2 k l = mb at *
    have hol : (ofM s l).length ≤ s.forms.length := ofTo_len s.forms l s.forms.length
    generalize ofM s l = oa at *
    generalize ofM s2 l = ob at *
    have Hom := Lib.hid hom
    have hgt : ¬ (ma : Int) < (mb : Int) := by omega
    rw [← hW9]
    clear hW9 N0 N1 G0 G1 F0 F1 C3 C0 kq q0 q1 p0 p1 p2 M0 M1 a0 a1 n3 c3 X1 X2 hl hb x1 hle hse hse2 d1 d2 d3 hom hs2 Keep Hb8 Hprow H8 HG HGf Fc1 Fc3 Fc4 Hf Hpv HVf Hb V
    go_wp2_with fail
    refine (hoA _ _ _ hbS hlS).mono ?_
    rintro e w10 ⟨u, rfl, ⟨ov, rfl, ho, -⟩, hx⟩
    replace ho := ho rfl
    (replace hbS := hbS.ext hx; replace hlS := hlS.ext hx; replace hmore := hmore.ext hx; replace r0 := hx.cell r0; replace r1 := hx.cell r1; replace s0 := hx.cell s0; replace s1 := hx.cell s1; replace t1 := cell_lt r0; replace t2 := cell_lt s0; replace hxF := hxF.trans hx)
    clear hx hoA
    go_wp2_with fail
    refine (hoB _ _ _ hmore hlS).mono ?_
    rintro e w11 ⟨u, rfl, ⟨ov2, rfl, ho2, -⟩, hx⟩
    replace ho2 := ho2 rfl
    replace ho := ho.ext hx
    (replace hbS := hbS.ext hx; replace hlS := hlS.ext hx; replace hmore := hmore.ext hx; replace r0 := hx.cell r0; replace r1 := hx.cell r1; replace s0 := hx.cell s0; replace s1 := hx.cell s1; replace t1 := cell_lt r0; replace t2 := cell_lt s0; replace hxF := hxF.trans hx)
    clear hx hoB
    go_wp2_with fail
    refine (hme _ _ _ hbS hlS).mono ?_
    rintro e w12 ⟨rfl, hx⟩
    replace ho := ho.ext hx
    replace ho2 := ho2.ext hx
    (replace hbS := hbS.ext hx; replace hlS := hlS.ext hx; replace hmore := hmore.ext hx; replace r0 := hx.cell r0; replace r1 := hx.cell r1; replace s0 := hx.cell s0; replace s1 := hx.cell s1; replace t1 := cell_lt r0; replace t2 := cell_lt s0; replace hxF := hxF.trans hx)
    clear hx hme
    go_wp2_with fail
    refine (hme2 _ _ _ hmore hlS).mono ?_
    rintro e w13 ⟨rfl, hx⟩
    replace ho := ho.ext hx
    replace ho2 := ho2.ext hx
    replace hxF := hxF.trans hx
    clear hx hme2 hbS hlS hmore r0 r1 s0 s1 t1 t2
    obtain ⟨oaa, oac, rfl, -⟩ := ho.shape
    obtain ⟨oba, obc, rfl, -⟩ := ho2.shape
    go_upto_block 2 with fail
    refine room_b2 ho ho2 Hom.out (by omega) _ ?_
    intro v6 v22 v157 v158 v159 v160 v161 v162 v163 v164 v165 v166 v167 v168 v169 w14 hx
    replace hxF := hxF.trans hx
    clear hx ho ho2
    go_wp2_with fail
    refine (awakeL_any _).mono ?_
    rintro e w15 ⟨rfl, hx⟩
    go_wp2
    go_ret
    exact ⟨rfl, hxF.trans hx⟩
end Go.Proofs.YtcamegaimleomaaGreat

namespace Go.Proofs.YtcamegaimleomaaGreat
set_option linter.unusedSimpArgs false
set_option linter.unusedVariables false
open Go.ChangeShapes Go.WideShapes Go.RowKit
set_option maxRecDepth 100000
section
variable {H : Type} {enc : TypeId × Value → H} {w : World} {base : Nat} {sp : Nat → Bool} {held : Bool}
theorem arrayL_of {t e : TypeId} {k : IntKind} {n : Nat} (ht : Tryz.prog.underlying t = some (.array n e)) (he : Tryz.prog.underlying e = some (.int k)) (hce : Tryz.prog.cellsOf e = 1) (hct : Tryz.prog.cellsOf t = n)
    {r : Reach} {b0 : Nat} {v : Value} {d : DataW H} {ps : List MemPlace} (hval : Value.okWide Tryz.prog w r b0 t v) (hd : DataW.Trod enc Tryz.prog w base sp held t v d ps) :
    ∃ l : List Int, v = .agg (l.map (Value.int k)).toArray ∧ l.length = n ∧ ∀ x ∈ l, (Lit.int k x).wf = true := by
  simp only [Value.okWide, ht] at hval
  obtain ⟨cs, rfl, -, -⟩ := hval
  obtain ⟨fuel, h⟩ := hd
  simp only [Value.cells] at h
  obtain ⟨xs, m, -, -, hl, hxl, hel⟩ := DataW.trod_array ht h
  rw [hct] at hl
  rw [hce] at hel
  have hone : ∀ i (hi : i < n), ∃ a : Int, cs.toList[i]'(by omega) = .int k a ∧ (Lit.int k a).wf = true := by
    intro i hi
    have h1 := hel i hi
    rw [Nat.mul_one, List.getElem?_eq_getElem (by omega)] at h1
    have e1 : (cs.toList.drop i).take 1 = [cs.toList[i]'(by omega)] := by
      rw [List.drop_eq_getElem_cons (by omega)]; rfl
    rw [e1] at h1
    obtain ⟨a, ea, -, wa⟩ := DataW.trod_int he h1
    simp only [List.cons.injEq, and_true] at ea
    exact ⟨a, ea, wa⟩
  have key : ∀ l : List Value, (∀ i (hi : i < l.length), ∃ a : Int, l[i] = .int k a ∧ (Lit.int k a).wf = true) → ∃ q : List Int, l = q.map (Value.int k) ∧ ∀ x ∈ q, (Lit.int k x).wf = true := by
    intro l
    induction l with
    | nil => exact fun _ => ⟨[], rfl, by simp⟩
    | cons c l ih =>
      intro hc
      obtain ⟨a, ea, wa⟩ := hc 0 (by simp)
      obtain ⟨q, eq, wq⟩ := ih fun i hi => by
        have := hc (i + 1) (by simpa using hi)
        simpa using this
      refine ⟨a :: q, ?_, ?_⟩
      · simp only [List.getElem_cons_zero] at ea
        rw [ea, eq]; rfl
      · intro x hx
        rcases List.mem_cons.1 hx with rfl | hx
        · exact wa
        · exact wq x hx
  obtain ⟨q, eq, wq⟩ := key cs.toList fun i hi => hone i (by omega)
  refine ⟨q, ?_, by rw [← hl, eq]; simp, wq⟩
  congr 1
  rw [← eq]
/-- an array of three bytes -/
theorem bytes3L_of {r : Reach} {b0 : Nat} {v : Value} {d : DataW H} {ps : List MemPlace} (hval : Value.okWide Tryz.prog w r b0 49 v) (hd : DataW.Trod enc Tryz.prog w base sp held 49 v d ps) :
    ∃ x y z : Nat, v = .agg #[.int .u8 x, .int .u8 y, .int .u8 z] ∧ x ≤ 255 ∧ y ≤ 255 ∧ z ≤ 255 := by
  obtain ⟨l, rfl, hl, hw⟩ := arrayL_of Tryz.underlying49 Tryz.underlying5 cellsU8 (by kernel_rfl) hval hd
  match l, hl with
  | [a, b, c], _ =>
    have ha := wf_u8 (hw a (by simp))
    have hb := wf_u8 (hw b (by simp))
    have hc := wf_u8 (hw c (by simp))
    unfold U8 at ha hb hc
    refine ⟨a.toNat, b.toNat, c.toNat, ?_, by omega, by omega, by omega⟩
    rw [show ((a.toNat : Nat) : Int) = a from by omega, show ((b.toNat : Nat) : Int) = b from by omega, show ((c.toNat : Nat) : Int) = c from by omega]
    rfl
end
end Go.Proofs.YtcamegaimleomaaGreat
