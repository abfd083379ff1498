/-
  Mend of the program, for any shelf, form and letter.
  needs and Nearest of the program.
  Nearest of the program.
  A REGION THAT DRAWS ITS ORDER, WHOSE LAST OPERATION WAITS FOR ALL OTHERS: the others first, then this one, by a fact of its own. Over any program.
  markError of the program.
  WHAT STANDS INSTEAD OF WORDS by a mark, and an append of it in a region that draws.
  marked and Apply of the program.
  Apply of the program.
-/
import Derived.Test.YtgcibmdohifiaaaBunAG
import Derived.Test.YtgcibmdohifiaaaBunAF
namespace Go.Proofs.Ytgcibmdohifiaaa
set_option linter.unusedSimpArgs false
set_option linter.unusedVariables false
open Go.RowKit
set_option linter.unusedVariables false

/-- a form, if there is no error; nothing is said of it if there is one -/
def OpenH (w : World) (s : Shelf) (n : Int) (e : Int) (v : Value) : Prop := ∃ nm pa pn pc, v = .tuple #[.agg #[.string nm, .slice pa pn pc], .int .i64 e] ∧ (e = 0 → ∃ i : Nat, ∃ hi : i < s.forms.length, n = i ∧ FormV w (.agg #[.string nm, .slice pa pn pc]) s.forms[i])
set_option maxHeartbeats 1000000 in
set_option maxRecDepth 100000 in
theorem openForH_any (sv v : Value) (s : Shelf) (n : Int) (hn : I64 n) (l : List ByteArray) (W w : World) (hWx : Ext W w) (hsW : ShelfAt W sv s) (hl : StrsAt w v l) :
    Calls Try.prog 25 #[sv, .int .i64 n, v] w fun e w' => ∃ u, e = .returned u ∧ OpenH W s n (openForErrM s n l) u ∧ Ext w w' := by
  obtain ⟨a, c, rfl, hw, hc1, hc2, hf⟩ := hsW.open
  clear hf
  go_enter Try.func25, Try.ntmps25
  go_wp2_with fail
  refine (openF_any _ s n hn W _ (hWx.trans (by first | (with_reducible exact Ext.refl _) | (with_reducible assumption) | (show Below _ _ _; go_grown; done))) hsW).mono ?_
  rintro e w1 ⟨uu, rfl, ⟨u, rfl, h1, h2⟩, hx1⟩
  have x1 : Ext w w1 := Ext.trans (by first | (with_reducible exact Ext.refl _) | (with_reducible assumption) | (show Below _ _ _; go_grown; done)) hx1
  have q0 : w1.cell? ⟨w.heap.size + 1, 0, none⟩ = some (.string ⟨#[]⟩) := hx1.cell (by simp [go_sem])
  have q1 : w1.cell? ⟨w.heap.size + 1, 1, none⟩ = some (.slice none 0 0) := hx1.cell (by simp [go_sem])
  have z1 : w.heap.size + 1 < w1.heap.size := cell_lt q0
  have fz : ∀ o, w1.frozen? ⟨w.heap.size + 1, o, none⟩ = false := fun o => by rw [hx1.frozen (by simp)]; simp [go_sem]
  have f0 := fz 0
  have f1 := fz 1
  clear fz hx1
  obtain ⟨nm, pa, pn, pc, rfl⟩ : ∃ nm pa pn pc, u = .agg #[.string nm, .slice pa pn pc] := by
    by_cases h : openErrM s n = 0
    · obtain ⟨i, hi, -, uu, rfl, -, hp⟩ := h1 h
      obtain ⟨pa, pc, rfl, -⟩ := hp.shape
      exact ⟨_, _, _, _, rfl⟩
    · exact ⟨_, _, _, _, h2 h⟩
  clear h2
  have H1 := Lib.hid h1
  clear h1
  by_cases h0 : openErrM s n = 0
  · have ho : openForErrM s n l = letterErrL l := by rw [openForErrM, if_neg (by simpa using h0)]
    have hH := H1.out h0
    have Ho := Lib.hid ho
    have HH := Lib.hid hH
    rw [h0]
    clear ho hH h0 H1
    have hlw := hl.ext (x1.trans (ext_alloc w1 (.cells #[.string nm, .slice pa pn pc] 68)))
    go_wp2_with fail
    refine (letterError_any' _ l _ hlw).mono ?_
    rintro e w2 ⟨rfl, hx2⟩
    have x2 : Ext w1 w2 := hx2.of_alloc
    have b0 : w2.cell? ⟨w1.heap.size, 0, none⟩ = some (.string nm) := hx2.cell (by simp [go_sem])
    have b1 : w2.cell? ⟨w1.heap.size, 1, none⟩ = some (.slice pa pn pc) := hx2.cell (by simp [go_sem])
    have f0' := (x2.frozen (p := ⟨w.heap.size + 1, 0, none⟩) z1).trans f0
    have f1' := (x2.frozen (p := ⟨w.heap.size + 1, 1, none⟩) z1).trans f1
    replace q0 := x2.cell q0
    replace q1 := x2.cell q1
    replace z1 : w.heap.size + 1 < w2.heap.size := cell_lt q0
    have z2 : w1.heap.size < w2.heap.size := cell_lt b0
    clear f0 f1 hx2 hlw
    go_wp2_with fail
    have r := two_cells q0 q1 (.string nm) (.slice pa pn pc)
    refine bodyPost_ret (v := .tuple #[.agg #[.string nm, .slice pa pn pc], .int .i64 (letterErrL l)]) (by simp [results, Try.results25, go_sem, r.1, r.2]) rfl ⟨_, rfl, ⟨_, _, _, _, by rw [Ho.out], fun _ => ?_⟩, ((x1.trans x2).setCell (by simp) _).setCell (by simp) _⟩
    exact HH.out
  · have ho : openForErrM s n l = openErrM s n := by rw [openForErrM, if_pos h0]
    have h0' : (openErrM s n == 0) = false := by simpa using h0
    have H0 := Lib.hid h0
    have Ho := Lib.hid ho
    generalize openErrM s n = er at *
    clear ho h0
    go_wp2_with fail
    have r := two_cells q0 q1 (.string nm) (.slice pa pn pc)
    have r0 := (ext_alloc ((w1.setCell ⟨w.heap.size + 1, 0, none⟩ (.string nm)).setCell ⟨w.heap.size + 1, 1, none⟩ (.slice pa pn pc)) (.cells #[.string nm, .slice pa pn pc] 68)).cell r.1
    have r1 := (ext_alloc ((w1.setCell ⟨w.heap.size + 1, 0, none⟩ (.string nm)).setCell ⟨w.heap.size + 1, 1, none⟩ (.slice pa pn pc)) (.cells #[.string nm, .slice pa pn pc] 68)).cell r.2
    refine bodyPost_ret (v := .tuple #[.agg #[.string nm, .slice pa pn pc], .int .i64 er]) (by simp [results, Try.results25, go_sem, r0, r1]) rfl ⟨_, rfl, ⟨_, _, _, _, by rw [Ho.out], fun h => ?_⟩, ((x1.setCell (by simp) _).setCell (by simp) _).alloc _⟩
    rw [Ho.out] at h
    exact absurd h H0.out

theorem openFor_ok {s : Shelf} {n : Int} {l : List ByteArray} (h : openForErrM s n l = 0) : openErrM s n = 0 ∧ letterErrL l = 0 := by
  unfold openForErrM at h
  by_cases h1 : openErrM s n = 0
  · rw [if_neg (by simpa using h1)] at h; exact ⟨h1, h⟩
  · rw [if_pos h1] at h; exact absurd h h1
theorem formSlots_in {f : Form} (h : ValidForm f) : ∀ s ∈ formSlotsM f.parts, s.word.size ≤ 9223372036854775807 := by
  intro s hs
  simp only [formSlotsM, List.mem_flatMap, partSlotsM, givenM, roomSlotsM, List.mem_append, List.mem_map] at hs
  obtain ⟨p, hp, hs⟩ := hs
  rcases hs with ⟨x, hx, rfl⟩ | ⟨x, hx, rfl⟩
  · have := word_size (List.all_eq_true.1 (h.parts p hp).w x hx)
    show x.size ≤ _
    omega
  · simp
theorem Ext.form {w w' : World} {v : Value} {f : Form} (hx : Ext w w') (h : FormV w v f) : FormV w' v f := by
  obtain ⟨pv, e, h1, h2⟩ := h
  exact ⟨pv, e, h1, h2.ext hx⟩
def mendM (s : Shelf) (n : Int) (l : List ByteArray) : Nat := if openForErrM s n l = 0 then (match s.forms[n.toNat]? with | some f => (costM l (formSlotsM f.parts)).2 | none => 0) else 0
set_option maxRecDepth 100000 in
set_option maxHeartbeats 1500000 in
theorem Mend_any (sv v : Value) (s : Shelf) (n : Int) (hn : I64 n) (l : List ByteArray) (w : World) (hs : ShelfAt w sv s) (hl : StrsAt w v l) :
    Calls Try.prog 10 #[sv, .int .i64 n, v] w fun e w' => e = .returned (.tuple #[.int .i64 (mendM s n l), .int .i64 (openForErrM s n l)]) ∧ Ext w w' := by
  have hs0 := hs
  obtain ⟨a, c, rfl, hw, hc1, hc2, hf⟩ := hs.open
  obtain ⟨la, lc, rfl, -⟩ := hl.shape
  clear hf
  go_enter Try.func10, Try.ntmps10
  go_wp2_with fail
  refine (openForH_any _ _ s n hn l w _ (by first | (with_reducible exact Ext.refl _) | (with_reducible assumption) | (show Below _ _ _; go_grown; done)) hs0 (hl.ext (by first | (with_reducible exact Ext.refl _) | (with_reducible assumption) | (show Below _ _ _; go_grown; done)))).mono ?_
  rintro e w1 ⟨uu, rfl, ⟨nm, pa, pn, pc, rfl, h1⟩, hx1⟩
  have x1 : Ext w w1 := Ext.trans (by first | (with_reducible exact Ext.refl _) | (with_reducible assumption) | (show Below _ _ _; go_grown; done)) hx1
  obtain ⟨er, herr⟩ : ∃ er, openForErrM s n l = er := ⟨_, rfl⟩
  rw [herr] at h1 ⊢
  have Herr := Lib.hid herr
  clear hx1
  by_cases h0 : er = 0
  · subst h0
    obtain ⟨ho, hL⟩ := openFor_ok herr
    obtain ⟨i, hi, rfl, hF⟩ := h1 rfl
    have hV : ValidForm s.forms[i] := (openErr_ok ho).1.forms _ (List.getElem_mem hi)
    obtain ⟨h15, hwd⟩ := lettErr_ok hL
    have hm : mendM s i l = (costM l (formSlotsM s.forms[i].parts)).2 := by
      unfold mendM
      rw [if_pos herr]
      simp [hi]
    have h16 := formSlots_len hV.parts
    have h5 := hV.n
    have hFw := hF
    have Hm := Lib.hid hm
    clear herr hm h1
    generalize s.forms[i] = f at *
    have hfs := fun w' (hx : Ext w w') => formSlots_any (.agg #[.string nm, .slice pa pn pc]) f hV w' (hx.form hF)
    go_wp2_with fail
    refine (hfs _ (x1.alloc _)).mono ?_
    rintro e w2 ⟨u, rfl, hrow, hx2⟩
    have x2 : Ext w w2 := Ext.trans (x1.alloc _) hx2
    have hsl : SlotsAt w2 u (formSlotsM f.parts) := hrow.at_ (formSlots_in hV)
    have hl2 := hl.ext x2
    have hme := mend_any _ u l (formSlotsM f.parts) w2 hl2 hsl ⟨by omega, by omega⟩
    obtain ⟨ua, uc, rfl, huc, hum⟩ := hsl.shape
    clear hfs hrow hx2 hsl
    go_wp2_with fail
    refine hme.mono ?_
    rintro e w3 ⟨kb, B, M, rfl, -, -, -, hM, hT, hx3⟩
    have h00 : getP (0, 0) M = some (costM l (formSlotsM f.parts)) := by
      have := hT.all 0 0 (Nat.zero_le _) (Nat.zero_le _)
      simpa [valM] using this
    have hfe := fun w' (hx : Ext w3 w') => fewest_any la ua l.length (formSlotsM f.parts).length lc uc kb B M _ w' (hM.ext hx) h00
    have Hx := Lib.hid (x2.trans hx3)
    clear hme hT hM h00 hx3
    unfold mendV at *
    go_wp2_with fail
    refine (hfe _ (Ext.refl _)).mono ?_
    rintro e w4 ⟨rfl, hx4⟩
    go_wp2
    go_ret2
    exact ⟨by rw [Hm.out, Herr.out]; rfl, Hx.out.trans hx4⟩
  · have h0' : (er != 0) = true := by simpa using h0
    have hm : mendM s n l = 0 := by unfold mendM; rw [if_neg (by rw [herr]; exact h0)]
    have Hm := Lib.hid hm
    clear h0 h1 hm herr
    go_wp2_with fail
    go_ret2
    exact ⟨by rw [Hm.out, Herr.out]; rfl, x1.alloc _⟩
end Go.Proofs.Ytgcibmdohifiaaa

namespace Go.Proofs.Ytgcibmdohifiaaa
set_option linter.unusedSimpArgs false
set_option linter.unusedVariables false
open Go.RowKit
set_option linter.unusedVariables false

def costOf (fs : List Form) (l : List ByteArray) (i : Nat) : Nat := match fs[i]? with | some f => (costM l (formSlotsM f.parts)).2 | none => 0
def needsTo (fs : List Form) (l : List ByteArray) (k : Nat) : List Ch := (List.range k).map fun i => (i, costOf fs l i)
def needsM (fs : List Form) (l : List ByteArray) : List Ch := needsTo fs l fs.length
theorem needsTo_step (fs : List Form) (l : List ByteArray) (k : Nat) : needsTo fs l (k + 1) = needsTo fs l k ++ [(k, costOf fs l k)] := by
  simp [needsTo, List.range_succ]
theorem needsTo_len (fs : List Form) (l : List ByteArray) (k : Nat) : (needsTo fs l k).length = k := by simp [needsTo]
/-! ### A row of choices of the call's own -/
def cellsH (l : List Ch) : List Value := l.flatMap fun s => [.int .i64 (s.1 : Nat), .int .i64 (s.2 : Nat)]
theorem cellsH_len (l : List Ch) : (cellsH l).length = l.length * 2 := by
  induction l with
  | nil => rfl
  | cons x l ih => simp only [cellsH, List.flatMap_cons, List.length_append, List.length_cons, List.length_nil] at *; omega
theorem cellsH_get (l : List Ch) (i : Nat) (h : i < l.length) : (cellsH l)[i * 2]? = some (.int .i64 (l[i].1 : Nat)) ∧ (cellsH l)[i * 2 + 1]? = some (.int .i64 (l[i].2 : Nat)) := by
  induction l generalizing i with
  | nil => simp at h
  | cons x l ih =>
    cases i with
    | zero => simp [cellsH]
    | succ i =>
      have := ih i (by simpa using h)
      have e : (i + 1) * 2 = i * 2 + 2 := by omega
      rw [e]
      simpa [cellsH] using this
theorem cellsH_app (l r : List Ch) : cellsH (l ++ r) = cellsH l ++ cellsH r := by simp [cellsH]
def RowH (base : Nat) (l : List Ch) (u : Value) (w : World) : Prop := w.ownsRow base 110 2 u l.length (cellsH l)
theorem RowH.ext {base : Nat} {l : List Ch} {u : Value} {w w' : World} (h : RowH base l u w) (hx : Ext w w') : RowH base l u w' := Ext.owns h hx
theorem RowH.nil {base : Nat} {w : World} : RowH base [] (.slice none 0 0) w := World.ownsRow_nil _ _ _ _
theorem RowH.snoc {base : Nat} {l : List Ch} {c : Ch} {u : Value} {w : World} (h : w.ownsRow base 110 2 u (l.length + 1) (cellsH l ++ [.int .i64 (c.1 : Nat), .int .i64 (c.2 : Nat)])) : RowH base (l ++ [c]) u w := by
  unfold RowH
  rw [cellsH_app, List.length_append]
  exact h
def chR (w : World) (b o : Nat) (c : Ch) : Prop := w.cell? ⟨b, o, none⟩ = some (.int .i64 (c.1 : Nat)) ∧ w.cell? ⟨b, o + 1, none⟩ = some (.int .i64 (c.2 : Nat))
theorem chR.keeps : Keeps chR := fun _ _ _ _ _ hx h => ⟨hx.cell h.1, hx.cell h.2⟩
abbrev ChsAt : World → Value → List Ch → Prop := SliceAt 2 chR
theorem ChsAt.ext {w w' : World} {v : Value} {l : List Ch} (h : ChsAt w v l) (hx : Ext w w') : ChsAt w' v l := SliceAt.ext chR.keeps h hx
theorem ChsAt.lies {w w' : World} {v : Value} {l : List Ch} (h : ChsAt w v l) (hx : Lies w w') : ChsAt w' v l :=
  SliceAt.lies (fun _ _ _ _ _ hx h => ⟨hx _ _ h.1, hx _ _ h.2⟩) h hx
theorem RowH.at_ {base : Nat} {l : List Ch} {u : Value} {w : World} (h : RowH base l u w) : ChsAt w u l := by
  have hcells := fun g hg => h.cells (g := g) hg
  rcases h.2 with ⟨rfl, hn⟩ | ⟨g, cap, cur, rfl, hb, hg, hnc, hcm, hcs, htake⟩
  · have : l = [] := List.eq_nil_of_length_eq_zero hn
    subst this; exact SliceAt.nil
  · refine ⟨_, _, rfl, hnc, by simpa [maxLen] using hcm, fun i hi => ⟨g, 0, rfl, ?_⟩⟩
    obtain ⟨c0, c1⟩ := cellsH_get l i hi
    have r0 := hcells g rfl _ _ c0
    have r1 := hcells g rfl _ _ c1
    have ea : ∀ j, (⟨g, 0, none⟩ : Addr).add j = ⟨g, 0 + j, none⟩ := fun j => by unfold Addr.add; split <;> simp_all
    rw [ea] at r0 r1
    exact ⟨r0, r1⟩
theorem infoCh : (Try.prog.info? 110).map (fun i => (i.zero, i.size, i.bytes)) = some (some (.agg #[.int .i64 0, .int .i64 0]), 2, 16) := by kernel_rfl
set_option maxRecDepth 100000 in
set_option maxHeartbeats 1500000 in
theorem needs_any (fv lv : Value) (fs : List Form) (l : List ByteArray) (w : World) (hf : FormsAt w fv fs) (hl : StrsAt w lv l) (h4 : fs.length ≤ 4) (hV : ∀ f ∈ fs, ValidForm f) (h15 : l.length ≤ 15) :
    Calls Try.prog 62 #[fv, lv] w fun e w' => ∃ u, e = .returned u ∧ RowH w.heap.size (needsM fs l) u w' ∧ Ext w w' := by
  obtain ⟨a, c, rfl, hc1, hc2⟩ := hf.shape
  obtain ⟨la, lc, rfl, -⟩ := hl.shape
  obtain ⟨i0, hi, hz0, hz1, hz2⟩ := info_parts infoCh
  go_enter Try.func62, Try.ntmps62
  go_wp2_with fail
  go_loopw [5, 10] (fun v i wr => ∃ k : Nat, k ≤ fs.length ∧ i = .int .i64 k ∧ Ext w wr ∧ RowH w.heap.size (needsTo fs l k) v wr) (fun _ i _ => fs.length - (intOf i).toNat)
  case atStart => exact ⟨0, Nat.zero_le _, rfl, Ext.refl _, RowH.nil⟩
  case round =>
    obtain ⟨k, hk, rfl, hxr, hown⟩ := hrel
    have hszr := hxr.size
    by_cases hlt : k < fs.length
    · have k1 : (k : Int) < (fs.length : Int) := by omega
      obtain ⟨fb, fo, rfl, g0, hsz, pu, g1, hp⟩ := (hf.ext hxr).get hlt
      have zf := cell_lt g0
      have hVk := hV _ (List.getElem_mem hlt)
      have hcost : costOf fs l k = (costM l (formSlotsM fs[k].parts)).2 := by simp [costOf, hlt]
      have hst := needsTo_step fs l k
      have hFV : FormV wr (.agg #[.string fs[k].name, pu]) fs[k] := ⟨pu, rfl, hsz, hp⟩
      obtain ⟨pa, pc, rfl, hpc, hpm⟩ := hp.shape
      have hnl := needsTo_len fs l k
      have h16 := formSlots_len hVk.parts
      have h5 := hVk.n
      have Hst := Lib.hid hst
      have Hcost := Lib.hid hcost
      have Hnl := Lib.hid hnl
      have Hl := Lib.hid (hl.ext hxr)
      have Hown := Lib.hid hown
      clear hst hcost hnl hown hp hf hl
      generalize fs[k] = f at *
      have hfs := fun w' (hx : Ext wr w') => formSlots_any (.agg #[.string f.name, .slice pa f.parts.length pc]) f hVk w' (hx.form hFV)
      go_wp2_with fail
      refine (hfs _ (ext_alloc _ _)).mono ?_
      rintro e w2 ⟨u, rfl, hrow, hx2⟩
      have x2 : Ext wr w2 := Ext.trans (ext_alloc _ _) hx2
      have hsl : SlotsAt w2 u (formSlotsM f.parts) := hrow.at_ (formSlots_in hVk)
      have hme := mend_any _ u l (formSlotsM f.parts) w2 (Hl.out.ext x2) hsl ⟨by omega, by omega⟩
      obtain ⟨ua, uc, rfl, huc, hum⟩ := hsl.shape
      clear hfs hrow hx2 hsl
      go_wp2_with fail
      refine hme.mono ?_
      rintro e w3 ⟨kb, B, M, rfl, -, -, -, hM, hT, hx3⟩
      have h00 : getP (0, 0) M = some (costM l (formSlotsM f.parts)) := by
        have := hT.all 0 0 (Nat.zero_le _) (Nat.zero_le _)
        simpa [valM] using this
      have hfe := fun w' (hx : Ext w3 w') => fewest_any la ua l.length (formSlotsM f.parts).length lc uc kb B M _ w' (hM.ext hx) h00
      have Hx := Lib.hid (x2.trans hx3)
      clear hme hT hM h00 hx3 x2
      unfold mendV at *
      go_wp2_with fail
      refine (hfe _ (Ext.refl _)).mono ?_
      rintro e w4 ⟨rfl, hx4⟩
      have x4 := Hx.out.trans hx4
      have Own4 := Lib.hid (Hown.out.ext x4)
      have hs4 := x4.size
      clear hfe hx4
      rw [← Hcost.out]
      obtain ⟨cm, hcm⟩ : ∃ cm, costOf fs l k = cm := ⟨_, rfl⟩
      rw [hcm]
      have Hcm := Lib.hid hcm
      clear hcm
      go_wp2_with (at_builtin; go_loud (refine wpList_append_own_at _ rfl _ _ 124 rfl w.heap.size 110 i0 (.agg #[.int .i64 0, .int .i64 0]) 2 16 Try.underlying124 hi hz0 hz1 hz2 rfl (by decide) u5 (needsTo fs l k).length (cellsH (needsTo fs l k)) rfl (World.ownsRow.alloc Own4.out _) ⟨w4.heap.size, 0, none⟩ 1 1 [.int .i64 (k : Nat), .int .i64 (cm : Nat)] rfl rfl (cell_two_newS _ _ _ _) (by simp [Value.oneCell']) (by unfold maxLen; rw [Hnl.out]; omega) (by rw [Hnl.out]; omega) (by simp; omega) ?_; intro v' w5 hown' hgrow _ _; have hx5 : Ext w w5 := Ext.grown ((hxr.trans x4).alloc _) hgrow fun k hk => (Own4.out.lt k hk).1))
      go_roundw
      case rel => exact ⟨k + 1, by omega, by go_num, hx5, by rw [Hst.out, Hcm.out]; exact RowH.snoc (c := (k, cm)) hown'⟩
      case measure => simp [intOf]; omega
    · have hke : k = fs.length := by omega
      subst hke
      go_wp2
      go_ret
      exact ⟨_, rfl, hown, hxr⟩
end Go.Proofs.Ytgcibmdohifiaaa

namespace Go.Proofs.Ytgcibmdohifiaaa
set_option linter.unusedSimpArgs false
set_option linter.unusedVariables false
open Go.RowKit
set_option linter.unusedVariables false

set_option maxRecDepth 100000 in
theorem values_any (a : Option Addr) (n c : Nat) (w : World) :
    Calls Try.prog 61 #[.slice a n c] w fun e w' => ∃ vb, e = .returned (.func (.func 87) #[] #[.pointer (some ⟨vb, 0, none⟩)]) ∧ w'.cell? ⟨vb, 0, none⟩ = some (.slice a n c) ∧ Ext w w' := by
  go_enter Try.func61, Try.ntmps61
  go_wp2
  go_ret
  exact ⟨_, rfl, by simp [go_sem], (by first | (with_reducible exact Ext.refl _) | (with_reducible assumption) | (show Below _ _ _; go_grown; done))⟩
set_option maxRecDepth 100000 in
set_option maxHeartbeats 1000000 in
theorem values_seq (n lo hi vb : Nat) (v : Value) (xs : List Ch) (Wd w : World) (hWd : Wd.heap.size ≤ lo) (hlh : lo ≤ hi) (hhw : hi ≤ w.heap.size) (hK : KeptM lo hi Wd w) (hv : ChsAt Wd v xs) (hvb : vb < lo) (c0 : w.cell? ⟨vb, 0, none⟩ = some v) :
    SeqOwn n Try.prog 87 #[.pointer (some ⟨vb, 0, none⟩)] (fun c => #[chV c]) (KeptM lo hi) xs w := by
  intro y J W hW hJ hY h0
  have hxW : Ext w W := hW
  have hzW := hxW.size
  have hKW := hK.trans (hxW.keptM _ _)
  obtain ⟨va, vc, rfl, hvc, hvm⟩ := hv.shape
  refine callsIn_wide.2 ?_
  simp only [List.append_toArray, List.cons_append, List.nil_append]
  replace c0 := hxW.cell c0
  have zm := cell_lt c0
  go_enter Try.func87, Try.ntmps87
  go_wp2_with fail
  go_loopw [7] (fun ix wr => ∃ k : Nat, k ≤ xs.length ∧ ix = .int .i64 k ∧ KeptM lo hi W wr ∧ W.heap.size ≤ wr.heap.size ∧ J (xs.take k) wr) (fun ix _ => xs.length - (intOf ix).toNat)
  case atStart => exact ⟨0, Nat.zero_le _, rfl, KeptM.refl _ _ _, Nat.le_refl _, by rw [List.take_zero]; exact h0⟩
  case round =>
    obtain ⟨k, hk, rfl, hxr, hzr, hj⟩ := hrel
    by_cases hlt : k < xs.length
    · have k1 : (k : Int) < (xs.length : Int) := by omega
      have hKr := hKW.trans hxr
      obtain ⟨b, o, rfl, r0, r1⟩ := (hv.lies (hKr.o.lies hWd)).get hlt
      have zb := cell_lt r0
      have hst : xs.take (k + 1) = xs.take k ++ [xs[k]] := by rw [List.take_add_one, List.getElem?_eq_getElem hlt]; rfl
      have hm : xs.take k ++ [xs[k]] <+: xs := by rw [← hst]; exact List.take_prefix _ _
      generalize xs[k] = x at *
      have hxx : Ext wr (wr.alloc (.cells #[.int .i64 (x.1 : Nat), .int .i64 (x.2 : Nat)] 110)) := ext_alloc _ _
      have hJ2 := hJ _ _ _ (hxx.below.mono hzr) hj
      obtain ⟨fn, tmps, assign, body, hy, hR⟩ := hY _ x _ hJ2 hm
      unfold chV at hy
      have Hst := Lib.hid hst
      clear hst hm
      refine (wpIn_wide (n := n - 1 + 1)).1 ?_
      gi_wp2
      refine hR.mono ?_
      rintro e W3 ⟨rfl, hJ3, hk3⟩
      gi_wp2
      go_wp2
      go_roundw
      case rel => exact ⟨k + 1, by omega, by go_num, (hxr.trans (hxx.keptM _ _)).trans hk3, Nat.le_trans hzr (Nat.le_trans hxx.size hk3.o.size), by rw [Hst.out]; exact hJ3⟩
      case measure => simp [intOf]; omega
    · have hke : k = xs.length := by omega
      subst hke
      rw [List.take_length] at hj
      go_wp2
      go_end0
      exact ⟨⟨_, rfl⟩, hj⟩
/-- the first that needs the fewest corrections -/
def nearM (s : Shelf) (l : List ByteArray) : Ch := pickC (needsM s.forms l)
def nearErrM (s : Shelf) (l : List ByteArray) : Int := if shelfErrM s l ≠ 0 then shelfErrM s l else if s.forms.length = 0 then 9 else 0
def nearV (s : Shelf) (l : List ByteArray) : Ch := if nearErrM s l = 0 then nearM s l else (0, 0)
set_option maxRecDepth 100000 in
set_option maxHeartbeats 1500000 in
theorem Nearest_any (sv v : Value) (s : Shelf) (l : List ByteArray) (w : World) (hs : ShelfAt w sv s) (hl : StrsAt w v l) :
    Calls Try.prog 35 #[sv, v] w fun e w' => e = .returned (.tuple #[.int .i64 ((nearV s l).1 : Nat), .int .i64 ((nearV s l).2 : Nat), .int .i64 (nearErrM s l)]) ∧ Ext w w' := by
  have hs0 := hs
  obtain ⟨a, c, rfl, hw, hc1, hc2, hf⟩ := hs.open
  obtain ⟨la, lc, rfl, -⟩ := hl.shape
  go_enter Try.func35, Try.ntmps35
  go_wp2_with fail
  refine (shelfError_any _ _ s l _ (hs0.ext (by first | (with_reducible exact Ext.refl _) | (with_reducible assumption) | (show Below _ _ _; go_grown; done))) (hl.ext (by first | (with_reducible exact Ext.refl _) | (with_reducible assumption) | (show Below _ _ _; go_grown; done)))).mono ?_
  rintro e w1 ⟨rfl, hx1⟩
  have x1 : Ext w w1 := Ext.trans (by first | (with_reducible exact Ext.refl _) | (with_reducible assumption) | (show Below _ _ _; go_grown; done)) hx1
  have q1 : w1.cell? ⟨w.heap.size, 1, none⟩ = some (.slice a s.forms.length c) := hx1.cell (by simp [go_sem])
  have zq : w.heap.size < w1.heap.size := cell_lt q1
  clear hx1
  obtain ⟨er, herr⟩ : ∃ er, shelfErrM s l = er := ⟨_, rfl⟩
  rw [herr]
  by_cases h0 : er = 0
  · subst h0
    obtain ⟨hV, hL⟩ := shelfErr_ok herr
    obtain ⟨h15, hwd⟩ := lettErr_ok hL
    have hn4 := hV.n
    have hnl : (needsM s.forms l).length = s.forms.length := needsTo_len _ _ _
    have hne : nearErrM s l = if s.forms.length = 0 then 9 else 0 := by unfold nearErrM; rw [if_neg (by rw [herr]; simp)]
    have hnd := needs_any _ _ s.forms l w1 (hf.ext x1) (hl.ext x1) hn4 hV.forms h15
    have Hnl := Lib.hid hnl
    have Hne := Lib.hid hne
    clear herr hV hL hwd hnl hne hs hs0 hf
    go_wp2_with fail
    refine hnd.mono ?_
    rintro e w2 ⟨u, rfl, hrow, hx2⟩
    have hch := hrow.at_
    obtain ⟨ua, uc, rfl, huc, hum⟩ := hch.shape
    have hva := fun w => values_any ua (needsM s.forms l).length uc w
    clear hrow hnd
    go_wp2_with fail
    refine (hva w2).mono ?_
    rintro e w3 ⟨vb, rfl, cv, hx3⟩
    have hch3 := hch.ext hx3
    have zv : vb < w3.heap.size := cell_lt cv
    have hbe := bestH_any 87 #[.pointer (some ⟨vb, 0, none⟩)] (needsM s.forms l) (by rw [Hnl.out]; omega) w3 (enters_of Try.func87 (by kernel_rfl) rfl)
      (fun w' hx hz => values_seq 3 (w3.heap.size + 2) (w3.heap.size + 4) vb _ _ w3 w' (by omega) (by omega) hz (hx.keptM _ _) hch3 (by omega) (hx.cell cv))
    have x3 := (x1.trans hx2).trans hx3
    have hp : (pickB fewCh zeroCh (needsM s.forms l)).1 = nearM s l := rfl
    rw [hp, Hnl.out] at hbe
    unfold fewerF at hbe
    have Hx3 := Lib.hid x3
    clear hva hch hx2 hx3 hch3 cv zv hp x1 q1
    go_wp2_with fail
    refine hbe.mono ?_
    rintro e w4 ⟨rfl, hx4⟩
    have x4 := Hx3.out.trans hx4
    clear hbe hx4
    by_cases hz : s.forms.length = 0
    · have hne : nearErrM s l = 9 := by rw [Hne.out, if_pos hz]
      have hnv : nearV s l = (0, 0) := by unfold nearV; rw [if_neg (by rw [hne]; omega)]
      have Hnv := Lib.hid hnv
      have Hn9 := Lib.hid hne
      have hzb : ((s.forms.length : Int) == 0) = true := by rw [hz]; rfl
      clear hnv hne hz
      unfold chV
      go_wp2_with fail
      go_ret3
      exact ⟨by rw [Hnv.out, Hn9.out]; rfl, x4.alloc _⟩
    · have hne : nearErrM s l = 0 := by rw [Hne.out, if_neg hz]
      have hnv : nearV s l = nearM s l := by unfold nearV; rw [if_pos hne]
      have Hnv := Lib.hid hnv
      have Hn9 := Lib.hid hne
      have hzb : ((s.forms.length : Int) == 0) = false := by simpa using hz
      clear hnv hne hz
      generalize nearM s l = nm at *
      unfold chV
      go_wp2_with fail
      have c0 : (w4.alloc (.cells #[.int .i64 (nm.1 : Nat), .int .i64 (nm.2 : Nat)] 110)).cell? ⟨w4.heap.size, 0, none⟩ = some (.int .i64 (nm.1 : Nat)) := by simp [go_sem]
      have c1 : (w4.alloc (.cells #[.int .i64 (nm.1 : Nat), .int .i64 (nm.2 : Nat)] 110)).cell? ⟨w4.heap.size, 1, none⟩ = some (.int .i64 (nm.2 : Nat)) := by simp [go_sem]
      apply Facts.wp_region [.val _, .val _, .val _, .val _, .val _, .val _, .val _] (by kernel_rfl) (by kernel_rfl) trivial ?main
      case main =>
        iterate 7 (refine ⟨fun w1 hx hh => ?_, ?_⟩; focus (clear hh; (have f0 := hx.cell c0; have f1 := hx.cell c1); go_simp; first | exact ⟨Ext.refl _, rfl⟩ | exact Ext.refl _))
        intro w5 hx hh
        clear hh
        go_simp
        go_wp2
        go_ret3
        exact ⟨by rw [Hnv.out, Hn9.out]; rfl, (x4.alloc _).trans hx⟩
  · have h0' : (er != 0) = true := by simpa using h0
    have hne : nearErrM s l = er := by unfold nearErrM; rw [if_pos (by rw [herr]; exact h0), herr]
    have hnv : nearV s l = (0, 0) := by unfold nearV; rw [if_neg (by rw [hne]; exact h0)]
    have Hne := Lib.hid hne
    have Hnv := Lib.hid hnv
    clear h0 hne hnv herr
    go_wp2_with fail
    go_ret3
    exact ⟨by rw [Hnv.out, Hne.out]; rfl, x1⟩
end Go.Proofs.Ytgcibmdohifiaaa

namespace Go.Proofs.Ytgcibmdohifiaaa
set_option linter.unusedSimpArgs false
set_option linter.unusedVariables false
open Go.RowKit
set_option linter.unusedVariables false
set_option linter.unusedSimpArgs false
namespace Facts.Peel
open Facts.Piv (Two anyS opS any_of_anyS opS_of_stepG)
variable {P : Program}

theorem wp_monoQ {o : Oper} {a : Act} {w : World} {K : Act → World → Prop} {Q Q' : Exit → Act → World → Prop} (h : ∀ e a w, e ≠ .normal → Q e a w → Q' e a w) (hh : o.wp P a w K Q) : o.wp P a w K Q' := by
  unfold Oper.wp at *
  generalize (execOp a.eval o).run P w = r at *
  cases r with
  | ok n w' =>
    cases n <;> simp only [Oper.upon] at hh ⊢ <;>
      first
        | exact hh
        | exact h _ _ _ (by simp) hh
        | exact Calls.mono hh (fun e w'' he => by
            cases e
            · exact he
            · exact h _ _ _ (by simp) he
            · obtain ⟨a0, w0, hq⟩ := he
              exact ⟨a0, w0, h _ _ _ (by simp) hq⟩)
  | halt x w' => cases x <;> simp only [Oper.upon] at hh ⊢ <;> first | exact hh | exact h _ _ _ (by simp) hh
def lastB (l : List Oper) (o : Oper) : Bool :=
  (l.all fun x => (match x.guard with | some g => decide (g.1 < l.length) | none => true) && (x.after.toList.all fun e => !Region.binds .any e || decide (e.on < l.length))) && (o.after.toList.all fun e => !Region.binds .any e || decide (e.on < l.length)) &&
    (List.range l.length).all fun i => (depsOf (l ++ [o]).toArray (l.length + 1) l.length).contains i
theorem push_getD (listed : Array Bool) (j : Nat) (d : Bool) (h : j < listed.size) : (listed.push false).getD j d = listed.getD j d := by
  rw [Array.getD_eq_getD_getElem?, Array.getD_eq_getD_getElem?, Array.getElem?_push, if_neg (by omega)]
theorem push_last (listed : Array Bool) (d : Bool) : (listed.push false).getD listed.size d = false := by
  rw [Array.getD_eq_getD_getElem?, Array.getElem?_push, if_pos rfl]; rfl
theorem push_set (listed : Array Bool) (i : Nat) (h : i < listed.size) : (listed.push false).setIfInBounds i true = (listed.setIfInBounds i true).push false := by
  apply Array.ext_getElem?
  intro j
  rw [Array.getElem?_setIfInBounds, Array.getElem?_push, Array.getElem?_push, Array.getElem?_setIfInBounds]
  simp only [Array.size_push, Array.size_setIfInBounds]
  by_cases e : i = j
  · subst e
    rw [if_pos rfl, if_neg (show ¬ i = listed.size by omega), if_pos rfl, if_pos h, if_pos (show i < listed.size + 1 by omega)]
  · rw [if_neg e, if_neg e]
theorem any_peel {l : List Oper} {o : Oper} {Q : Exit → Act → World → Prop} (hlast : lastB l o = true) (hB : okB (l ++ [o]).toArray = true) :
    ∀ (fuel : Nat) (listed : Array Bool) (a : Act) (w : World), listed.size = l.length → listed.toList.count true + fuel = l.length → (∀ j, (listed.push false).getD j false = true → ∀ i ∈ direct (l ++ [o]).toArray j, (listed.push false).getD i false = true) →
      anyS P l.toArray (fun e a w => e = .normal ∧ stepG P (l ++ [o]).toArray o a w (fun u w2 => Q .normal (a.put o.dst u) w2)) fuel listed a w → anyS P (l ++ [o]).toArray Q (fuel + 1) (listed.push false) a w := by
  simp only [lastB, Bool.and_eq_true, List.all_eq_true, List.mem_range, Bool.or_eq_true, decide_eq_true_eq] at hlast
  obtain ⟨⟨hl1, hl2⟩, hl3⟩ := hlast
  have hat : ∀ i, i < l.length → (l ++ [o]).toArray[i]? = l.toArray[i]? := fun i hi => by
    simp only [List.getElem?_toArray]; exact List.getElem?_append_left hi
  have hato : (l ++ [o]).toArray[l.length]? = some o := by simp
  have hsz : (l ++ [o]).toArray.size = l.length + 1 := by simp
  have hb : ∀ x ∈ l, ∀ e ∈ x.after, Region.binds .any e = true → e.on < l.length := fun x hx e he hbd => by
    rcases (hl1 x hx).2 e (by simpa using he) with h | h
    · rw [hbd] at h; cases h
    · exact h
  have hbo : ∀ e ∈ o.after, Region.binds .any e = true → e.on < l.length := fun e he hbd => by
    rcases hl2 e (by simpa using he) with h | h
    · rw [hbd] at h; cases h
    · exact h
  have hmem : ∀ i x, l.toArray[i]? = some x → i < l.length ∧ x ∈ l := fun i x h => by
    rw [List.getElem?_toArray] at h
    exact ⟨(List.getElem?_eq_some_iff.1 h).1, List.mem_of_getElem? h⟩
  -- what is ready
  have ready1 : ∀ (listed : Array Bool), listed.size = l.length → ∀ i, i < l.length → (i ∈ Region.ready .any (l ++ [o]).toArray (listed.push false) ↔ i ∈ Region.ready .any l.toArray listed) := fun listed hs i hi => by
    rw [mem_ready, mem_ready, hat i hi, push_getD _ _ _ (by omega)]
    constructor
    · rintro ⟨h1, x, hx, h2⟩
      exact ⟨h1, x, hx, fun e he hbd => by have := h2 e he hbd; rwa [push_getD _ _ _ (by have := hb x (hmem i x hx).2 e he hbd; omega)] at this⟩
    · rintro ⟨h1, x, hx, h2⟩
      exact ⟨h1, x, hx, fun e he hbd => by rw [push_getD _ _ _ (by have := hb x (hmem i x hx).2 e he hbd; omega)]; exact h2 e he hbd⟩
  have ready2 : ∀ (listed : Array Bool), listed.size = l.length → ∀ i, i ∈ Region.ready .any (l ++ [o]).toArray (listed.push false) → i < l.length ∨ i = l.length := fun listed hs i hi => by
    obtain ⟨-, x, hx, -⟩ := mem_ready.1 hi
    have := (Array.getElem?_eq_some_iff.1 hx).1
    omega
  have ready3 : ∀ (listed : Array Bool), listed.size = l.length → (∀ j, j < l.length → listed.getD j false = true) → l.length ∈ Region.ready .any (l ++ [o]).toArray (listed.push false) := fun listed hs hall => by
    rw [mem_ready]
    refine ⟨by rw [← hs]; exact push_last _ _, o, hato, fun e he hbd => ?_⟩
    have := hbo e he hbd
    rw [push_getD _ _ _ (by omega)]
    exact hall _ this
  have ready4 : ∀ (listed : Array Bool), listed.size = l.length → (∀ j, (listed.push false).getD j false = true → ∀ i ∈ direct (l ++ [o]).toArray j, (listed.push false).getD i false = true) → l.length ∈ Region.ready .any (l ++ [o]).toArray (listed.push false) → ∀ j, j < l.length → listed.getD j false = true := fun listed hs hcl hr j hj => by
    obtain ⟨-, x, hx, h2⟩ := mem_ready.1 hr
    rw [hato] at hx
    obtain rfl := Option.some.inj hx
    have hd := dep_in hcl (l.length + 1) l.length (direct_ready hato h2) j (by simpa using hl3 j hj)
    rwa [push_getD _ _ _ (by omega)] at hd
  have full : ∀ (listed : Array Bool), listed.size = l.length → listed.toList.count true = l.length → ∀ j, j < l.length → listed.getD j false = true := fun listed hs hc j hj => by
    have hlen : listed.toList.count true = listed.toList.length := by simp only [Array.length_toList]; omega
    have := List.count_eq_length.1 hlen (listed[j]'(by omega)) (by simp)
    rw [Array.getD_eq_getD_getElem?, Array.getElem?_eq_getElem (by omega)]
    exact this.symm
  have setfull : ∀ (listed : Array Bool), listed.size = l.length → (∀ j, j < l.length → listed.getD j false = true) → Region.ready .any (l ++ [o]).toArray ((listed.push false).setIfInBounds l.length true) = [] := fun listed hs hall => by
    rw [List.eq_nil_iff_forall_not_mem]
    intro i hi
    obtain ⟨h1, x, hx, -⟩ := mem_ready.1 hi
    have hlt := (Array.getElem?_eq_some_iff.1 hx).1
    rw [hsz] at hlt
    by_cases e : i = l.length
    · subst e
      rw [Array.getD_eq_getD_getElem?, Array.getElem?_setIfInBounds, if_pos rfl] at h1
      simp [hs] at h1
    · rw [getD_set_ne true (Ne.symm e), push_getD _ _ _ (by omega)] at h1
      have := hall i (by omega)
      rw [Array.getD_eq_getD_getElem?, Array.getElem?_eq_getElem (by omega)] at h1 this
      simp only [Option.getD_some] at h1 this
      rw [h1] at this; cases this
  have hlast : ∀ (fuel : Nat) (listed : Array Bool) (a : Act) (w : World), listed.size = l.length → (∀ j, j < l.length → listed.getD j false = true) → stepG P (l ++ [o]).toArray o a w (fun u w2 => Q .normal (a.put o.dst u) w2) →
      opS P (l ++ [o]).toArray Q l.length (anyS P (l ++ [o]).toArray Q fuel ((listed.push false).setIfInBounds l.length true)) a w := fun fuel listed a w hs hall h => by
    refine opS_of_stepG hato h fun v w' hq => ?_
    have hr := setfull listed hs hall
    cases fuel with
    | zero => exact ⟨hr, hq⟩
    | succ fuel => exact ⟨fun _ => hq, fun i hi => by rw [hr] at hi; cases hi⟩
  intro fuel
  induction fuel with
  | zero =>
    intro listed a w hs hc hcl h
    have hall := full listed hs (by omega)
    refine ⟨fun hn => ?_, fun i hi => ?_⟩
    · have := ready3 listed hs hall
      rw [hn] at this; cases this
    · rcases ready2 listed hs i hi with h1 | h1
      · exfalso
        have h2 := (mem_ready.1 hi).1
        rw [push_getD _ _ _ (by omega)] at h2
        have := hall i h1
        rw [Array.getD_eq_getD_getElem?, Array.getElem?_eq_getElem (by omega)] at h2 this
        simp only [Option.getD_some] at h2 this
        rw [h2] at this; cases this
      · subst h1
        exact hlast 0 listed a w hs hall h.2.2
  | succ fuel ih =>
    intro listed a w hs hc hcl h
    refine ⟨fun hn => ?_, fun i hi => ?_⟩
    · exfalso
      have hnr : Region.ready .any l.toArray listed = [] := by
        rw [List.eq_nil_iff_forall_not_mem]
        intro i hi
        have hlt : i < l.length := by obtain ⟨-, x, hx, -⟩ := mem_ready.1 hi; exact (hmem i x hx).1
        have := (ready1 listed hs i hlt).2 hi
        rw [hn] at this; cases this
      -- by the order of the operations all have come up
      have hall : ∀ j, j < l.length → listed.getD j false = true := by
        intro j
        induction j using Nat.strongRecOn with
        | _ j ihj =>
          intro hj
          cases hl : listed.getD j false with
          | true => rfl
          | false =>
            exfalso
            have hr : j ∈ Region.ready .any l.toArray listed := by
              rw [mem_ready]
              refine ⟨?_, l[j], by simp [hj], fun e he hbd => ?_⟩
              · rw [Array.getD_eq_getD_getElem?, Array.getElem?_eq_getElem (by omega)] at hl ⊢
                exact hl
              · have hin : e.on ∈ direct (l ++ [o]).toArray j := by
                  simp only [direct, hat j hj, show l.toArray[j]? = some l[j] by simp [hj], List.mem_map, List.mem_filter]
                  exact ⟨e, ⟨by simpa using he, hbd⟩, rfl⟩
                have := (okB_spec hB j (by rw [hsz]; omega)).1 e.on hin
                exact ihj e.on this (by omega)
            rw [hnr] at hr; cases hr
      have hcount : listed.toList.count true = l.length := by
        have : listed.toList.count true = listed.toList.length := List.count_eq_length.2 fun b hb => by
          obtain ⟨i, hi, rfl⟩ := List.getElem_of_mem hb
          have := hall i (by simpa [hs] using hi)
          rw [Array.getD_eq_getD_getElem?, Array.getElem?_eq_getElem (by simpa using hi)] at this
          simpa using this.symm
        rw [this]; simpa using hs
      omega
    · rcases ready2 listed hs i hi with h1 | h1
      · have hr := (ready1 listed hs i h1).1 hi
        have hstep := h.2 i hr
        obtain ⟨hl0, x, hx, hafter⟩ := mem_ready.1 hi
        rw [hat i h1] at hx
        unfold opS at hstep ⊢
        rw [hat i h1, hx]
        rw [hx] at hstep
        simp only at hstep ⊢
        have hw : Region.wanted x (yielded (l ++ [o]).toArray a.tmps) = Region.wanted x (yielded l.toArray a.tmps) := by
          unfold Region.wanted
          cases hg : x.guard with
          | none => rfl
          | some g =>
            obtain ⟨g, want⟩ := g
            have := (hl1 x (hmem i x hx).2).1
            rw [hg] at this
            have hlt : g < l.length := by simpa using this
            simp only [yielded, hat g hlt]
        have hnot : listed.getD i false = false := by
          rw [push_getD _ _ _ (by omega)] at hl0
          rw [Array.getD_eq_getD_getElem?, Array.getElem?_eq_getElem (by omega)] at hl0 ⊢
          exact hl0
        have hK : ∀ a w, anyS P l.toArray (fun e a w => e = .normal ∧ stepG P (l ++ [o]).toArray o a w (fun u w2 => Q .normal (a.put o.dst u) w2)) fuel (listed.setIfInBounds i true) a w → anyS P (l ++ [o]).toArray Q (fuel + 1) ((listed.push false).setIfInBounds i true) a w := fun a w hh => by
          rw [push_set _ _ (by omega)]
          refine ih _ a w (by simpa using hs) ?_ ?_ hh
          · rw [Array.toList_setIfInBounds, List.count_set (by simpa using (by omega : i < listed.size))]
            have e : (listed.toList[i]'(by simpa using (by omega : i < listed.size))) = false := by
              rw [Array.getD_eq_getD_getElem?, Array.getElem?_eq_getElem (by omega)] at hnot
              simpa using hnot
            have e' : (listed.toList[i]'(by simpa using (by omega : i < listed.size)) == true) = false := by rw [e]; rfl
            rw [e']; simp only [Bool.false_eq_true, if_false, beq_self_eq_true, if_true]; omega
          · rw [← push_set _ _ (by omega)]
            intro j hj k hk
            by_cases e : j = i
            · subst e
              have h2 := direct_ready (ops := (l ++ [o]).toArray) (by rw [hat j h1]; exact hx) hafter k hk
              by_cases e2 : k = j
              · subst e2
                rw [Array.getD_eq_getD_getElem?, Array.getElem?_setIfInBounds, if_pos rfl, if_pos (by simp; omega)]; rfl
              · rw [getD_set_ne false (Ne.symm e2)]; exact h2
            · rw [getD_set_ne false (Ne.symm e)] at hj
              have h2 := hcl j hj k hk
              by_cases e2 : k = i
              · subst e2
                rw [Array.getD_eq_getD_getElem?, Array.getElem?_setIfInBounds, if_pos rfl, if_pos (by simp; omega)]; rfl
              · rw [getD_set_ne false (Ne.symm e2)]; exact h2
        rw [hw]
        split
        · rename_i hww
          rw [if_pos hww] at hstep
          exact Oper.wp_mono hK (wp_monoQ (fun e a w he hq => absurd hq.1 he) hstep)
        · rename_i hww
          rw [if_neg hww] at hstep
          exact hK _ _ hstep
      · subst h1
        have hall := ready4 listed hs hcl hi
        have hr : Region.ready .any l.toArray listed = [] := by
          rw [List.eq_nil_iff_forall_not_mem]
          intro i hi2
          obtain ⟨h2, x, hx, -⟩ := mem_ready.1 hi2
          have hlt := (hmem i x hx).1
          have := hall i hlt
          rw [Array.getD_eq_getD_getElem?, Array.getElem?_eq_getElem (by omega)] at h2 this
          simp only [Option.getD_some] at h2 this
          rw [h2] at this; cases this
        exact hlast (fuel + 1) listed a w hs hall (h.1 hr).2
/-- THE RULE: the others by 'Facts.Dep.Free', the last one by a fact of its own -/
theorem wp_region {E C : World → World → Prop} (T : Two E C) (p : Nat) {id : Nat} {Q : Exit → Act → World → Prop} {a : Act} {w : World} {l : List Oper} {o : Oper} (ss : List Dep.Spec) (hm : P.follows .mixedOrders = true) (hlast : lastB l o = true) (hB' : okB (l ++ [o]).toArray = true) (hB : okB l.toArray = true) (hlb : Dep.locB l.toArray 0 ss = true) (hk : Dep.Free.keepsS E C l.toArray p 0 ss)
    (h : Dep.Free.Walk E C p P l.toArray w (fun e a w => e = .normal ∧ stepG P (l ++ [o]).toArray o a w (fun u w2 => Q .normal (a.put o.dst u) w2)) 0 l ss [] [] a) : (Code.region id (l ++ [o]).toArray true).wp P Q a w := by
  have h1 := Dep.Free.any_region T p ss hB hlb hk h
  have h2 := any_peel (P := P) (Q := Q) hlast hB' l.toArray.size (Array.replicate l.toArray.size false) a { w with drawn := w.drawn + 1 } (by simp) (by simp [List.count_replicate]) (fun j hj => by
    exfalso
    rw [Array.getD_eq_getD_getElem?, Array.getElem?_push] at hj
    split at hj
    · simp at hj
    · rw [← Array.getD_eq_getD_getElem?, getD_rep] at hj; cases hj) h1
  have e : (l ++ [o]).toArray.size = l.toArray.size + 1 := by simp
  refine wp_region_any hm (any_of_anyS _ _ _ _ ?_)
  rw [e, Array.replicate_succ]
  exact h2
/-- the same, told by the number of the last operation -/
theorem wp_regionL {E C : World → World → Prop} (T : Two E C) (n p : Nat) {id : Nat} {Q : Exit → Act → World → Prop} {a : Act} {w : World} {L : List Oper} (ss : List Dep.Spec) (hm : P.follows .mixedOrders = true) (hL : L.length = n + 1) (hlast : lastB (L.take n) (L.getD n default) = true) (hB' : okB L.toArray = true) (hB : okB (L.take n).toArray = true) (hlb : Dep.locB (L.take n).toArray 0 ss = true) (hk : Dep.Free.keepsS E C (L.take n).toArray p 0 ss)
    (h : Dep.Free.Walk E C p P (L.take n).toArray w (fun e a w => e = .normal ∧ stepG P L.toArray (L.getD n default) a w (fun u w2 => Q .normal (a.put (L.getD n default).dst u) w2)) 0 (L.take n) ss [] [] a) : (Code.region id L.toArray true).wp P Q a w := by
  have e : L = L.take n ++ [L.getD n default] := by
    conv => lhs; rw [← List.take_append_drop n L]
    congr 1
    rw [List.drop_eq_getElem_cons (by omega), List.drop_of_length_le (by omega), List.getD_eq_getElem?_getD, List.getElem?_eq_getElem (by omega)]
    rfl
  have := wp_region (P := P) (id := id) (Q := Q) T p (o := L.getD n default) ss hm hlast (by rw [← e]; exact hB') hB hlb hk (by rw [← e]; exact h)
  rwa [← e] at this
end Facts.Peel
end Go.Proofs.Ytgcibmdohifiaaa

namespace Go.Proofs.Ytgcibmdohifiaaa
set_option linter.unusedSimpArgs false
set_option linter.unusedVariables false
open Go.RowKit
set_option linter.unusedVariables false

def KindsV (u : Value) (w : World) : Prop := ∃ B, u = .slice (some ⟨B, 0, none⟩) 5 5 ∧ KindsAt w B
theorem KindsV.ext {u : Value} {w w' : World} (h : KindsV u w) (hx : Ext w w') : KindsV u w' := by
  obtain ⟨B, e, h⟩ := h; exact ⟨B, e, h.ext hx⟩
noncomputable def KindsV.B {u : Value} {w : World} (h : KindsV u w) : Nat := Exists.choose h
theorem KindsV.spec {u : Value} {w : World} (h : KindsV u w) : u = .slice (some ⟨h.B, 0, none⟩) 5 5 ∧ KindsAt w h.B := Exists.choose_spec h
theorem KindAt.ext {w w' : World} {b o k : Nat} (h : KindAt w b o k) (hx : Ext w w') : KindAt w' b o k :=
  ⟨hx.cell h.c0, hx.cell h.c1, hx.cell h.c2, hx.cell h.c3, hx.cell h.c4, hx.cell h.c5⟩
def KindPt (k : Nat) (u : Value) (w : World) : Prop := ∃ B, u = .pointer (some ⟨B, k * 6, none⟩) ∧ KindAt w B (k * 6) k
theorem KindPt.ext {k : Nat} {u : Value} {w w' : World} (h : KindPt k u w) (hx : Ext w w') : KindPt k u w' := by
  obtain ⟨B, e, h⟩ := h; exact ⟨B, e, h.ext hx⟩
noncomputable def KindPt.B {k : Nat} {u : Value} {w : World} (h : KindPt k u w) : Nat := Exists.choose h
theorem KindPt.spec {k : Nat} {u : Value} {w : World} (h : KindPt k u w) : u = .pointer (some ⟨h.B, k * 6, none⟩) ∧ KindAt w h.B (k * 6) k := Exists.choose_spec h
/-- a box of six cells of one's own -/
def Box6 (n0 : Nat) (u : Value) (w : World) : Prop := ∃ B, u = .pointer (some ⟨B, 0, none⟩) ∧ n0 ≤ B ∧ ∀ o, o < 6 → (∃ x, w.cell? ⟨B, o, none⟩ = some x) ∧ w.frozen? ⟨B, o, none⟩ = false
theorem Box6.ext {n0 : Nat} {u : Value} {w w' : World} (h : Box6 n0 u w) (hx : Ext w w') : Box6 n0 u w' := by
  obtain ⟨B, h1, h2, h3⟩ := h
  refine ⟨B, h1, h2, fun o ho => ?_⟩
  obtain ⟨⟨x, hc⟩, hf⟩ := h3 o ho
  exact ⟨⟨x, hx.cell hc⟩, (hx.frozen (p := ⟨B, o, none⟩) (show B < _ from cell_lt hc)).trans hf⟩
noncomputable def Box6.B {n0 : Nat} {u : Value} {w : World} (h : Box6 n0 u w) : Nat := Exists.choose h
theorem Box6.spec {n0 : Nat} {u : Value} {w : World} (h : Box6 n0 u w) : u = .pointer (some ⟨h.B, 0, none⟩) ∧ n0 ≤ h.B ∧ ∀ o, o < 6 → (∃ x, w.cell? ⟨h.B, o, none⟩ = some x) ∧ w.frozen? ⟨h.B, o, none⟩ = false := Exists.choose_spec h
def set6 (w : World) (B : Nat) (a b c d e f : Value) : World := (((((w.setCell ⟨B, 0, none⟩ a).setCell ⟨B, 1, none⟩ b).setCell ⟨B, 2, none⟩ c).setCell ⟨B, 3, none⟩ d).setCell ⟨B, 4, none⟩ e).setCell ⟨B, 5, none⟩ f
theorem set6_cells {w : World} {B : Nat} (h : ∀ o, o < 6 → ∃ x, w.cell? ⟨B, o, none⟩ = some x) (a b c d e f : Value) :
    (set6 w B a b c d e f).cell? ⟨B, 0, none⟩ = some a ∧ (set6 w B a b c d e f).cell? ⟨B, 1, none⟩ = some b ∧ (set6 w B a b c d e f).cell? ⟨B, 2, none⟩ = some c ∧ (set6 w B a b c d e f).cell? ⟨B, 3, none⟩ = some d ∧ (set6 w B a b c d e f).cell? ⟨B, 4, none⟩ = some e ∧ (set6 w B a b c d e f).cell? ⟨B, 5, none⟩ = some f := by
  obtain ⟨x0, h0⟩ := h 0 (by omega)
  obtain ⟨x1, h1⟩ := h 1 (by omega)
  obtain ⟨x2, h2⟩ := h 2 (by omega)
  obtain ⟨x3, h3⟩ := h 3 (by omega)
  obtain ⟨x4, h4⟩ := h 4 (by omega)
  obtain ⟨x5, h5⟩ := h 5 (by omega)
  refine ⟨set_other (set_other (set_other (set_other (set_other (set_cell h0 a) (.inr (by simp)) b) (.inr (by simp)) c) (.inr (by simp)) d) (.inr (by simp)) e) (.inr (by simp)) f,
    set_other (set_other (set_other (set_other (set_cell (set_other h1 (.inr (by simp)) a) b) (.inr (by simp)) c) (.inr (by simp)) d) (.inr (by simp)) e) (.inr (by simp)) f,
    set_other (set_other (set_other (set_cell (set_other (set_other h2 (.inr (by simp)) a) (.inr (by simp)) b) c) (.inr (by simp)) d) (.inr (by simp)) e) (.inr (by simp)) f,
    set_other (set_other (set_cell (set_other (set_other (set_other h3 (.inr (by simp)) a) (.inr (by simp)) b) (.inr (by simp)) c) d) (.inr (by simp)) e) (.inr (by simp)) f,
    set_other (set_cell (set_other (set_other (set_other (set_other h4 (.inr (by simp)) a) (.inr (by simp)) b) (.inr (by simp)) c) (.inr (by simp)) d) e) (.inr (by simp)) f,
    set_cell (set_other (set_other (set_other (set_other (set_other h5 (.inr (by simp)) a) (.inr (by simp)) b) (.inr (by simp)) c) (.inr (by simp)) d) (.inr (by simp)) e) f⟩
theorem Ext.set6 {a w : World} (h : Ext a w) {B : Nat} (hB : a.heap.size ≤ B) (p q r s t u : Value) : Ext a (set6 w B p q r s t u) :=
  (((((h.setCell (p := ⟨B, 0, none⟩) hB _).setCell (p := ⟨B, 1, none⟩) hB _).setCell (p := ⟨B, 2, none⟩) hB _).setCell (p := ⟨B, 3, none⟩) hB _).setCell (p := ⟨B, 4, none⟩) hB _).setCell (p := ⟨B, 5, none⟩) hB _
theorem neq_empty {s : ByteArray} (h : ¬ s = ByteArray.empty) : (s != ByteArray.empty) = true := by
  cases hb : (s == ByteArray.empty)
  · rw [bne, hb]; rfl
  · obtain ⟨d⟩ := s
    have hd : (d == #[]) = true := hb
    exact absurd (by rw [eq_of_beq hd]; rfl) h
/-- the error of a mark -/
def markErrM (m : Mark) (l : List ByteArray) : Int :=
  if ¬ (0 ≤ m.kind ∧ m.kind ≤ 3) then 7
  else if (kWr m.kind.toNat && !wordM m.word || !kWr m.kind.toNat && !(m.word.toList == [])) = true then 6
  else if l.length < kW m.kind.toNat then 4
  else if m.kind = 1 ∧ (l.headD ByteArray.empty).toList = m.word.toList then 5 else 0

set_option maxRecDepth 100000 in
set_option maxHeartbeats 1500000 in
theorem markError_any (v : Value) (m : Mark) (l : List ByteArray) (w : World) (hk : I64 m.kind) (hm : m.word.size ≤ 9223372036854775807) (hl : StrsAt w v l) :
    Calls Try.prog 66 #[.agg #[.int .i64 m.kind, .string m.word], v] w fun e w' => e = .returned (.int .i64 (markErrM m l)) ∧ Ext w w' := by
  obtain ⟨la, lc, rfl, hlc, hlm⟩ := hl.shape
  obtain ⟨kd, wd⟩ := m
  simp only at hk hm
  obtain ⟨er, her⟩ : ∃ er, markErrM ⟨kd, wd⟩ l = er := ⟨_, rfl⟩
  rw [her]
  have Her := Lib.hid her
  clear her
  go_enter Try.func66, Try.ntmps66
  go_wp2_with fail
  refine (within_any _ _ _ [kd] _ (IntsAt.oneAt (by simp) hk)).mono ?_
  rintro e w3 ⟨rfl, rfl⟩
  rw [withinM_one]
  cases hin : inM kd 0 3
  · have he : er = 7 := by
      rw [← Her.out, markErrM, if_pos]
      intro hh
      rw [show inM kd 0 3 = true from by simp [inM]; omega] at hin
      cases hin
    go_wp2_with fail
    go_ret
    exact ⟨by rw [he]; rfl, (by first | (with_reducible exact Ext.refl _) | (with_reducible assumption) | (show Below _ _ _; go_grown; done))⟩
  · have hin' := inM_true (by rw [hin]; decide)
    obtain ⟨k, rfl⟩ : ∃ k : Nat, kd = (k : Int) := ⟨kd.toNat, by omega⟩
    have hk3 : k ≤ 3 := by omega
    have k5 : (k : Int) < 5 := by omega
    obtain ⟨W, hW⟩ : ∃ W, W = (w.alloc (.cells #[.int .i64 (k : Int), .string wd] 92)).alloc (.cells #[.int .i64 (k : Int)] 3) := ⟨_, rfl⟩
    have xW : Ext w W := by rw [hW]; exact (ext_alloc _ _).alloc _
    have c0 : W.cell? ⟨w.heap.size, 0, none⟩ = some (.int .i64 (k : Int)) := by rw [hW]; simp [go_sem]
    have c1 : W.cell? ⟨w.heap.size, 1, none⟩ = some (.string wd) := by rw [hW]; simp [go_sem]
    have hlW := hl.ext xW
    rw [← hW]
    clear hW hin hin'
    go_wp2_with fail
    apply Facts.Peel.wp_regionL (⟨fun _ _ h => h, fun _ _ _ h k => h.trans k, fun _ _ _ h k => h.trans k, Ext.refl, fun a => ext_drew a⟩ : Facts.Piv.Two Ext Ext) 6 5 [.fact KindsV, .val _, .val (.int .i64 (k : Int)), .fact (KindPt k), .val (kindVal k), .fact (Box6 W.heap.size)] (by kernel_rfl) (by kernel_rfl) (by kernel_rfl) (by kernel_rfl) (by kernel_rfl) (by kernel_rfl) ?keep ?main
    case keep => exact ⟨fun u a c hx h => h.ext hx, fun _ _ u a c hx h => h.ext hx, fun u a c hx h => h.ext hx, fun _ _ u a c hx h => h.ext hx, fun u a c hx h => h.ext hx, fun _ _ u a c hx h => h.ext hx, trivial⟩
    case main =>
      simp only [List.take_succ_cons, List.take_zero, List.getD_cons_succ, List.getD_cons_zero]
      refine ⟨fun w1 hx hh => ?_, ?_⟩
      · clear hh
        go_simp
        refine (kinds_any w1).mono ?_
        rintro e w' ⟨⟨B, rfl, hkk⟩, hx2⟩
        exact ⟨_, rfl, hx2, B, rfl, hkk⟩
      intro u11
      iterate 2 (refine ⟨fun w1 hx hh => ?_, ?_⟩; focus (clear hh; (have f0 := hx.cell c0; have f1 := hx.cell c1); go_simp; first | exact ⟨Ext.refl _, rfl⟩ | exact Ext.refl _))
      refine ⟨fun w1 hx hh => ?_, ?_⟩
      · have h0 : KindsV u11 w1 := hh 0 _ List.mem_cons_self (by kernel_rfl)
        clear hh
        have s0 := h0.spec
        generalize h0.B = B at *
        have e0 := s0.1
        have g0 := s0.2.get k (by omega)
        clear s0 h0
        subst e0
        go_simp
        first | exact ⟨Ext.refl _, B, rfl, g0⟩ | exact ⟨B, rfl, g0⟩
      intro u14
      refine ⟨fun w1 hx hh => ?_, ?_⟩
      · have h3 : KindPt k u14 w1 := hh 3 _ List.mem_cons_self (by kernel_rfl)
        clear hh
        have s3 := h3.spec
        generalize h3.B = B at *
        have e3 := s3.1
        have g0 := s3.2.c0
        have g1 := s3.2.c1
        have g2 := s3.2.c2
        have g3 := s3.2.c3
        have g4 := s3.2.c4
        have g5 := s3.2.c5
        clear s3 h3
        subst e3
        go_simp
        first | exact ⟨Ext.refl _, rfl⟩ | exact Ext.refl _
      refine ⟨fun w1 hx hh => ?_, ?_⟩
      · clear hh
        have hsz := hx.size
        go_simp
        exact ⟨ext_alloc _ _, w1.heap.size, rfl, hsz, fun o ho => by
          have : o = 0 ∨ o = 1 ∨ o = 2 ∨ o = 3 ∨ o = 4 ∨ o = 5 := by omega
          rcases this with rfl | rfl | rfl | rfl | rfl | rfl <;> exact ⟨⟨_, by simp [go_sem]; rfl⟩, by simp [go_sem]⟩⟩
      intro u5
      intro w5 hx hh
      have h5 : Box6 W.heap.size u5 w5 := hh 5 _ List.mem_cons_self
      clear hh
      refine ⟨rfl, ?_⟩
      have s5 := h5.spec
      generalize h5.B = B at *
      have e5 := s5.1
      have hB := s5.2.1
      have hc := fun o ho => (s5.2.2 o ho).1
      have hf0 := (s5.2.2 0 (by omega)).2
      have hf1 := (s5.2.2 1 (by omega)).2
      have hf2 := (s5.2.2 2 (by omega)).2
      have hf3 := (s5.2.2 3 (by omega)).2
      have hf4 := (s5.2.2 4 (by omega)).2
      have hf5 := (s5.2.2 5 (by omega)).2
      have v0 := (hc 0 (by omega)).choose_spec
      have v1 := (hc 1 (by omega)).choose_spec
      have v2 := (hc 2 (by omega)).choose_spec
      have v3 := (hc 3 (by omega)).choose_spec
      have v4 := (hc 4 (by omega)).choose_spec
      have v5 := (hc 5 (by omega)).choose_spec
      generalize (hc 0 (by omega)).choose = y0 at *
      generalize (hc 1 (by omega)).choose = y1 at *
      generalize (hc 2 (by omega)).choose = y2 at *
      generalize (hc 3 (by omega)).choose = y3 at *
      generalize (hc 4 (by omega)).choose = y4 at *
      generalize (hc 5 (by omega)).choose = y5 at *
      have h6 := set6_cells hc (.int .i64 (kW k : Nat)) (.int .i64 (kS k : Nat)) (.int .i64 (kC k : Nat)) (.bool (kWr k)) (.func (.func (canF k)) #[] #[]) (.func (.func (becF k)) #[] #[])
      have x6 := hx.set6 hB (.int .i64 (kW k : Nat)) (.int .i64 (kS k : Nat)) (.int .i64 (kC k : Nat)) (.bool (kWr k)) (.func (.func (canF k)) #[] #[]) (.func (.func (becF k)) #[] #[])
      have zB := cell_lt v0
      clear s5 h5 hc
      subst e5
      unfold kindVal
      go_simp
      have d0 := x6.cell c0
      have d1 := x6.cell c1
      have hl6 := hlW.ext x6
      obtain ⟨W6, hW6⟩ : ∃ W6, W6 = set6 w5 B (.int .i64 (kW k : Nat)) (.int .i64 (kS k : Nat)) (.int .i64 (kC k : Nat)) (.bool (kWr k)) (.func (.func (canF k)) #[] #[]) (.func (.func (becF k)) #[] #[]) := ⟨_, rfl⟩
      have HW6 := Lib.hid hW6
      rw [← hW6] at h6 x6 d0 d1 hl6
      clear hW6
      rw [show (((((w5.setCell ⟨B, 0, none⟩ (.int .i64 (kW k : Nat))).setCell ⟨B, 1, none⟩ (.int .i64 (kS k : Nat))).setCell ⟨B, 2, none⟩ (.int .i64 (kC k : Nat))).setCell ⟨B, 3, none⟩ (.bool (kWr k))).setCell ⟨B, 4, none⟩ (.func (.func (canF k)) #[] #[])).setCell ⟨B, 5, none⟩ (.func (.func (becF k)) #[] #[]) = W6 from HW6.out.symm]
      have b0 := h6.1
      have b3 := h6.2.2.2.1
      have her : er = if (kWr k && !wordM wd || !kWr k && !(wd.toList == [])) = true then 6 else if l.length < kW k then 4 else if (k : Int) = 1 ∧ (l.headD ByteArray.empty).toList = wd.toList then 5 else 0 := by
        rw [← Her.out, markErrM, if_neg (by show ¬ ¬ ((0 : Int) ≤ (k : Int) ∧ (k : Int) ≤ 3); omega)]
        rfl
      clear h6 v0 v1 v2 v3 v4 v5 hf0 hf1 hf2 hf3 hf4 hf5 HW6 Her c0 c1 hlW hx hl zB
      have zB := cell_lt b0
      have zd := cell_lt d0
      have X6 := Lib.hid x6
      clear x6
      by_cases hk1 : (k : Int) = 1
      · obtain rfl : k = 1 := by omega
        simp only [kW, kWr, Bool.true_and, Bool.not_true, Bool.false_and, Bool.or_false] at her b0 b3
        simp only [Int.natCast_one] at *
        go_wp2_with fail
        refine (isWord_any wd _ hm).mono ?_
        rintro e w7 ⟨rfl, hx7⟩
        have X7 := Lib.hid (X6.out.trans hx7)
        have p0 := hx7.cell d0
        have p1 := hx7.cell d1
        have p2 := hx7.cell b0
        have p3 := hx7.cell b3
        have hl7 := Lib.hid (hl6.ext hx7)
        clear hx7 X6 d0 d1 b0 b3 hl6 hk1
        cases hwm : wordM wd
        · have h2 : er = 6 := by rw [her, hwm]; rfl
          go_wp2_with fail
          go_ret
          exact ⟨by first | rfl | (rw [h2]; rfl), xW.trans X7.out⟩
        · have her2 : er = if l.length < 1 then 4 else if (1 : Int) = 1 ∧ (l.headD ByteArray.empty).toList = wd.toList then 5 else 0 := by rw [her, hwm]; simp
          have Her2 := Lib.hid her2
          clear her her2
          by_cases hlw : l.length < 1
          · have h2 : er = 4 := by rw [Her2.out, if_pos hlw]
            have k2 : (l.length : Int) < 1 := by omega
            go_wp2_with fail
            go_ret
            exact ⟨by first | rfl | (rw [h2]; rfl), xW.trans X7.out⟩
          · have k2 : ¬ (l.length : Int) < 1 := by omega
            have hl0 : 0 < l.length := by omega
            have k3 : (0 : Int) < (l.length : Int) := by omega
            obtain ⟨sb, so, rfl, r0, -⟩ := (hl7.out).get hl0
            simp only [Nat.zero_mul, Nat.add_zero] at r0
            have hh0 : l.headD ByteArray.empty = l[0] := by cases l with | nil => simp at hl0 | cons x r => rfl
            rw [hh0] at Her2
            generalize l[0] = x0 at *
            have zs := cell_lt r0
            go_wp2_with fail
            apply Facts.wp_region [.val _, .val _, .val _, .val _, .val _, .val _, .val _, .val _, .val _, .val _, .val _] (by kernel_rfl) (by kernel_rfl) trivial ?main
            case main =>
              iterate 11 (refine ⟨fun w1 hx hh => ?_, ?_⟩; focus (clear hh; (have f0 := hx.cell p0; have f1 := hx.cell p1; have f2 := hx.cell r0); go_simp; first | exact ⟨Ext.refl _, rfl⟩ | exact Ext.refl _))
              intro w9 hx9 hh
              clear hh
              by_cases hxw : x0.toList = wd.toList
              · have h2 : er = 5 := by rw [Her2.out, if_neg hlw, if_pos (by simp [hxw])]
                have hxb : (x0.toList == wd.toList) = true := by simpa using hxw
                go_simp
                go_wp2
                go_ret
                exact ⟨by first | rfl | (rw [h2]; rfl), (xW.trans X7.out).trans hx9⟩
              · have h2 : er = 0 := by rw [Her2.out, if_neg hlw, if_neg (fun h => hxw h.2)]
                have hxb : (x0.toList == wd.toList) = false := by simpa using hxw
                go_simp
                go_wp2
                go_ret
                exact ⟨by first | rfl | (rw [h2]; rfl), (xW.trans X7.out).trans hx9⟩
      · generalize kW k = kw at *
        cases hkr : kWr k
        · rw [hkr] at her b3
          simp only [Bool.false_and, Bool.not_false, Bool.true_and, Bool.false_or] at her
          by_cases hwe : wd.toList = []
          · have hwb : (!(wd.toList == [])) = false := by rw [hwe]; rfl
            have hwl : (wd.toList == []) = true := by rw [hwe]; rfl
            rw [hwb] at her
            simp only [Bool.false_eq_true, if_false] at her
            have Her2 := Lib.hid her
            have X7 := X6
            have p0 := d0
            have p1 := d1
            clear her hwb
            by_cases hlw : l.length < kw
            · have h2 : er = 4 := by rw [Her2.out, if_pos hlw]
              have k2 : (l.length : Int) < (kw : Int) := by omega
              go_wp2_with fail
              go_ret
              exact ⟨by first | rfl | (rw [h2]; rfl), xW.trans X7.out⟩
            · have h2 : er = 0 := by rw [Her2.out, if_neg hlw, if_neg (fun h => hk1 h.1)]
              have k2 : ¬ (l.length : Int) < (kw : Int) := by omega
              have k3 : ((k : Int) == 1) = false := by simpa using hk1
              go_wp2_with fail
              apply Facts.wp_region [.val _, .val _, .val _, .val _, .val _, .val _, .val _, .val _, .val _, .val _, .val _] (by kernel_rfl) (by kernel_rfl) trivial ?main
              case main =>
                iterate 11 (refine ⟨fun w1 hx hh => ?_, ?_⟩; focus (clear hh; (have f0 := hx.cell p0; have f1 := hx.cell p1); go_simp; first | exact ⟨Ext.refl _, rfl⟩ | exact Ext.refl _))
                intro w9 hx9 hh
                clear hh
                go_simp
                go_wp2
                go_ret
                exact ⟨by first | rfl | (rw [h2]; rfl), (xW.trans X7.out).trans hx9⟩
          · have hwb : (!(wd.toList == [])) = true := by simpa using hwe
            have h2 : er = 6 := by rw [her, if_pos hwb]
            have hie : (!wd.toList.isEmpty) = true := by simpa using hwe
            clear hwb hwe her
            go_wp2_with fail
            go_ret
            exact ⟨by first | rfl | (rw [h2]; rfl), xW.trans X6.out⟩
        · rw [hkr] at her b3
          simp only [Bool.true_and, Bool.not_true, Bool.false_and, Bool.or_false] at her
          go_wp2_with fail
          refine (isWord_any wd _ hm).mono ?_
          rintro e w7 ⟨rfl, hx7⟩
          have X7 := Lib.hid (X6.out.trans hx7)
          have p0 := hx7.cell d0
          have p1 := hx7.cell d1
          have p2 := hx7.cell b0
          have p3 := hx7.cell b3
          clear hx7 X6 d0 d1 b0 b3 hl6
          cases hwm : wordM wd
          · have h2 : er = 6 := by rw [her, hwm]; rfl
            go_wp2_with fail
            go_ret
            exact ⟨by first | rfl | (rw [h2]; rfl), xW.trans X7.out⟩
          · rw [hwm] at her
            simp only [Bool.not_true, Bool.false_eq_true, if_false] at her
            have Her2 := Lib.hid her
            clear her
            by_cases hlw : l.length < kw
            · have h2 : er = 4 := by rw [Her2.out, if_pos hlw]
              have k2 : (l.length : Int) < (kw : Int) := by omega
              go_wp2_with fail
              go_ret
              exact ⟨by first | rfl | (rw [h2]; rfl), xW.trans X7.out⟩
            · have h2 : er = 0 := by rw [Her2.out, if_neg hlw, if_neg (fun h => hk1 h.1)]
              have k2 : ¬ (l.length : Int) < (kw : Int) := by omega
              have k3 : ((k : Int) == 1) = false := by simpa using hk1
              go_wp2_with fail
              apply Facts.wp_region [.val _, .val _, .val _, .val _, .val _, .val _, .val _, .val _, .val _, .val _, .val _] (by kernel_rfl) (by kernel_rfl) trivial ?main
              case main =>
                iterate 11 (refine ⟨fun w1 hx hh => ?_, ?_⟩; focus (clear hh; (have f0 := hx.cell p0; have f1 := hx.cell p1); go_simp; first | exact ⟨Ext.refl _, rfl⟩ | exact Ext.refl _))
                intro w9 hx9 hh
                clear hh
                go_simp
                go_wp2
                go_ret
                exact ⟨by first | rfl | (rw [h2]; rfl), (xW.trans X7.out).trans hx9⟩
end Go.Proofs.Ytgcibmdohifiaaa

namespace Go.Proofs.Ytgcibmdohifiaaa
set_option linter.unusedSimpArgs false
set_option linter.unusedVariables false
open Go.RowKit
set_option linter.unusedVariables false

def ButR (own : Option Nat) (w w' : World) : Prop := w.grownBy w' own
theorem ButR.of_ext {own : Option Nat} {w w' : World} (h : Ext w w') : ButR own w w' := ⟨Below.os h, Below.tape h, Below.output h, Below.size h, fun k hk _ => Below.block h k hk⟩
theorem two_butR (own : Option Nat) : Facts.Piv.Two Ext (ButR own) :=
  ⟨fun _ _ h => ButR.of_ext h, fun _ _ _ h k => h.trans k, fun _ _ _ h k => World.grownBy.trans h k, fun _ => Ext.refl _, fun w => ext_drew w⟩
/-- words that lie in no row of one's own -/
def NewL (own : Option Nat) (l : List ByteArray) (u : Value) (w : World) : Prop := ∃ sa sc, u = .slice sa l.length sc ∧ StrsAt w (.slice sa l.length sc) l ∧ ∀ ad, sa = some ad → some ad.block ≠ own
theorem NewL.ext {own : Option Nat} {l : List ByteArray} {u : Value} {w w' : World} (h : NewL own l u w) (hx : Ext w w') : NewL own l u w' := by
  obtain ⟨sa, sc, e, h1, h2⟩ := h
  exact ⟨sa, sc, e, h1.ext hx, h2⟩
theorem NewL.but {own : Option Nat} {l : List ByteArray} {u : Value} {w w' : World} (h : NewL own l u w) (hx : ButR own w w') : NewL own l u w' := by
  obtain ⟨sa, sc, e, h1, h2⟩ := h
  exact ⟨sa, sc, e, h1.grownBy hx h2, h2⟩
theorem NewL.at_ {own : Option Nat} {l : List ByteArray} {u : Value} {w : World} (h : NewL own l u w) : StrsAt w u l := by
  obtain ⟨sa, sc, rfl, h1, h2⟩ := h
  exact h1
theorem stepG_append_strs {ops : Array Oper} {o : Oper} {a : Act} {w : World} {S : Value → World → Prop} (hgd : o.guard = none) (s x : Operand) (t : TypeId)
    (ho : o.op = .call { callee := .builtin .append, args := #[s, x], argTypes := #[t, t] })
    (base : Nat) (i : TypeInfo) (ht : Try.prog.underlying t = some (.slice 9)) (hi : Try.prog.info? 9 = some i) (hz : i.zero = some (.string ByteArray.empty)) (hsize : i.size = 1) (hby : i.bytes = 16)
    (v : Value) (l0 : List ByteArray) (hs : a.eval s = v) (hown : RowW base l0 v w) (sv : Value) (hxv : a.eval x = sv) (l : List ByteArray) (hl : StrsAt w sv l) (hb : (l0.length + l.length) * 16 ≤ 140737488355328) (hbase : base ≤ w.heap.size)
    (h : ∀ v' w', RowW base (l0 ++ l) v' w' → w.grownBy w' v.ownBlock → S v' w') : Facts.stepG Try.prog ops o a w S := by
  obtain ⟨v', w', hr, h2, h3, h5⟩ := run_append_strs base t o.type i ht hi hz hsize hby v l0 hown sv l hl hb hbase
  unfold Facts.stepG
  rw [if_pos (by unfold Region.wanted; rw [hgd])]
  unfold execOp
  simp only [ho, resolve, invoke, builtin, Sem.run_bind, Sem.run_pure, Result.andThen_ok, List.map_toArray, List.map_cons, List.map_nil, hs, hxv, hr]
  exact h v' w' h2 h3
theorem comesNew_any (u : Value) (s : ByteArray) (hs : s.size ≤ 9223372036854775807) (w : World) : Calls Try.prog 76 #[u, .string s] w fun e w' => (∃ g, e = .returned (.slice (some ⟨g, 0, none⟩) 1 1) ∧ w.heap.size ≤ g ∧ StrsAt w' (.slice (some ⟨g, 0, none⟩) 1 1) [s]) ∧ Ext w w' := by
  go_enter Try.func76, Try.ntmps76
  go_wp2
  go_ret
  refine ⟨⟨_, rfl, by simp, _, _, rfl, by simp, by decide, fun i hi => ⟨_, _, rfl, ?_⟩⟩, (by first | (with_reducible exact Ext.refl _) | (with_reducible assumption) | (show Below _ _ _; go_grown; done))⟩
  obtain rfl : i = 0 := by simp at hi; omega
  exact ⟨by simp [go_sem], hs⟩
/-- what stands there instead -/
def becM : Nat → List ByteArray → ByteArray → List ByteArray
  | 0, ws, _ => ws.take 1
  | 1, _, s => [s]
  | 3, _, s => [s]
  | _, _, _ => []
theorem becF_enters (k : Nat) (hk : k < 4) : ∀ args w, (callFunc (becF k) args).run Try.prog w = .ok (.enter (becF k) args) w := by
  have : k = 0 ∨ k = 1 ∨ k = 2 ∨ k = 3 := by omega
  rcases this with rfl | rfl | rfl | rfl
  · exact enters_of Try.func74 (by kernel_rfl) rfl
  · exact enters_of Try.func76 (by kernel_rfl) rfl
  · exact enters_of Try.func75 (by kernel_rfl) rfl
  · exact enters_of Try.func76 (by kernel_rfl) rfl
theorem bec_any (k : Nat) (hk : k < 4) (own : Option Nat) (a : Option Addr) (n c : Nat) (ws : List ByteArray) (s : ByteArray) (hs : s.size ≤ 9223372036854775807) (w : World) (hu : StrsAt w (.slice a n c) (ws.take (kW k))) (h1 : kW k ≤ ws.length)
    (ha : k = 0 → ∀ ad, a = some ad → some ad.block ≠ own) (ho : ∀ b, own = some b → b < w.heap.size) :
    Calls Try.prog (becF k) #[.slice a n c, .string s] w fun e w' => ∃ r, e = .returned r ∧ NewL own (becM k ws s) r w' ∧ Ext w w' := by
  have : k = 0 ∨ k = 1 ∨ k = 2 ∨ k = 3 := by omega
  have come : ∀ u, Calls Try.prog 76 #[u, .string s] w fun e w' => ∃ r, e = .returned r ∧ NewL own [s] r w' ∧ Ext w w' := fun u => by
    refine (comesNew_any u s hs w).mono ?_
    rintro e w' ⟨⟨g, rfl, hg, h2⟩, hx⟩
    exact ⟨_, rfl, ⟨_, _, rfl, h2, fun ad e h => by
      obtain rfl := Option.some.inj e
      have := ho _ h.symm
      simp at this
      omega⟩, hx⟩
  rcases this with rfl | rfl | rfl | rfl
  · refine (stays_any a n c (.string s) w).mono ?_
    rintro e w' ⟨rfl, hx⟩
    have hn : n = (ws.take 1).length := hu.len.1
    subst hn
    exact ⟨_, rfl, ⟨a, c, rfl, hu.ext hx, ha rfl⟩, hx⟩
  · exact come _
  · refine (goes_any (.slice a n c) (.string s) w).mono ?_
    rintro e w' ⟨rfl, hx⟩
    exact ⟨_, rfl, ⟨none, 0, rfl, SliceAt.nil, fun ad e => by cases e⟩, hx⟩
  · exact come _
/-- what a letter becomes by marks: what is left, what it has become, and the first error -/
def markedF : List Mark → List ByteArray → List ByteArray → List ByteArray × List ByteArray × Int
  | [], left, out => (left, out, 0)
  | m :: r, left, out => if markErrM m left ≠ 0 then (left, out, markErrM m left) else markedF r (left.drop (kW m.kind.toNat)) (out ++ becM m.kind.toNat left m.word)
end Go.Proofs.Ytgcibmdohifiaaa

namespace Go.Proofs.Ytgcibmdohifiaaa
set_option linter.unusedSimpArgs false
set_option linter.unusedVariables false
open Go.RowKit
set_option linter.unusedVariables false

theorem no_falseB {b : Bool} (h : b = false) (h2 : b = true) : False := by rw [h] at h2; cases h2
theorem markErr_ok {m : Mark} {l : List ByteArray} (h : markErrM m l = 0) : ∃ k : Nat, k ≤ 3 ∧ m.kind = k ∧ kW k ≤ l.length := by
  unfold markErrM at h
  split at h
  · cases h
  rename_i h1
  split at h
  · cases h
  split at h
  · cases h
  rename_i h2
  have h1' : 0 ≤ m.kind ∧ m.kind ≤ 3 := Decidable.not_not.1 h1
  exact ⟨m.kind.toNat, by omega, by omega, by omega⟩
theorem strs_take {w : World} {a : Option Addr} {n c : Nat} {l : List ByteArray} (h : StrsAt w (.slice a n c) l) (k : Nat) (hk : k ≤ l.length) : StrsAt w (.slice a k c) (l.take k) := by
  obtain ⟨a', c', e, h2, h3, h4⟩ := h
  obtain ⟨rfl, rfl, rfl⟩ := Value.slice.inj e
  have hlen : (l.take k).length = k := by rw [List.length_take]; omega
  refine ⟨_, _, by rw [hlen], by rw [hlen]; omega, h3, fun j hj => ?_⟩
  rw [hlen] at hj
  obtain ⟨b, o, e2, r⟩ := h4 j (by omega)
  exact ⟨b, o, e2, by rw [List.getElem_take]; exact r⟩
theorem becM_len (k : Nat) (ws : List ByteArray) (s : ByteArray) : (becM k ws s).length ≤ 1 := by
  unfold becM
  split <;> simp <;> omega
/-- the words that lie below, and how they are handed on -/
def LieL (S : Nat) (l : List ByteArray) (u : Value) (w : World) : Prop := ∃ a c, u = .slice a l.length c ∧ StrsAt w (.slice a l.length c) l ∧ ∀ ad, a = some ad → l.length ≠ 0 → ad.block < S
theorem lie_drop {S : Nat} {l : List ByteArray} {a : Option Addr} {c : Nat} {w : World} (h : LieL S l (.slice a l.length c) w) (k : Nat) (hk : k ≤ l.length) : LieL S (l.drop k) (.slice (if c = k then a else a.map fun x => x.add (k * 1)) (l.length - k) (c - k)) w := by
  obtain ⟨a', c', e, h1, h2⟩ := h
  obtain ⟨rfl, -, rfl⟩ := Value.slice.inj e
  have h3 := StrsAt.sliced h1 k hk
  rw [show l.length - k = (l.drop k).length from by rw [List.length_drop]] at h3 ⊢
  refine ⟨_, _, rfl, h3, fun ad e h0 => ?_⟩
  rw [List.length_drop] at h0
  split at e
  · exact h2 ad e (by omega)
  · obtain ⟨ad', e2, rfl⟩ := Option.map_eq_some_iff.1 e
    have := h2 ad' e2 (by omega)
    simp only [Addr.add]
    split <;> exact this
structure MarkedR where
  words : List ByteArray
  err : Int
def markedM (ms : List Mark) (l : List ByteArray) : MarkedR :=
  if (markedF ms l []).2.2 ≠ 0 then ⟨[], (markedF ms l []).2.2⟩
  else if 0 < (markedF ms l []).1.length then ⟨[], 2⟩
  else if 15 < (markedF ms l []).2.1.length then ⟨[], 3⟩
  else ⟨(markedF ms l []).2.1, 0⟩
set_option maxRecDepth 100000 in
set_option maxHeartbeats 3000000 in
theorem marked_any (lv mv : Value) (l : List ByteArray) (ms : List Mark) (w : World) (hl : StrsAt w lv l) (hm : MarksAt w mv ms) (h30 : ms.length ≤ 30) :
    Calls Try.prog 41 #[lv, mv] w fun e w' => ∃ u, e = .returned (.tuple #[u, .int .i64 (markedM ms l).err]) ∧ RowW w.heap.size (markedM ms l).words u w' ∧ Ext w w' := by
  obtain ⟨ma, mc, rfl, hmc, hmm⟩ := hm.shape
  obtain ⟨la, lc, rfl, hlc, hlm⟩ := hl.shape
  obtain ⟨i0, hi, hz0, hz1, hz2⟩ := info_parts infoString
  obtain ⟨R, hR⟩ : ∃ R, markedM ms l = R := ⟨_, rfl⟩
  obtain ⟨F, ee⟩ := R
  rw [hR]
  have HR := Lib.hid hR
  clear hR
  simp only
  have hlie : LieL w.heap.size l (.slice la l.length lc) w := ⟨la, lc, rfl, hl, fun ad e h0 => by
    obtain ⟨b, o, e2, r⟩ := hl.get (i := 0) (by omega)
    rw [e2] at e
    obtain rfl := Option.some.inj e
    exact cell_lt r.1⟩
  go_enter Try.func41, Try.ntmps41
  go_wp2_with fail
  go_loopw [0, 6, 13] (fun lu v i wr => ∃ (k : Nat) (left out : List ByteArray), k ≤ ms.length ∧ i = .int .i64 k ∧ Ext w wr ∧ LieL w.heap.size left lu wr ∧ RowW w.heap.size out v wr ∧ out.length ≤ k ∧ markedF (ms.drop k) left out = markedF ms l []) (fun _ _ i _ => ms.length - (intOf i).toNat)
  case atStart => exact ⟨0, l, [], Nat.zero_le _, rfl, Ext.refl _, hlie, RowW.nil, Nat.le_refl _, rfl⟩
  case round =>
    obtain ⟨k0, left, out, hk0, rfl, hxr, ⟨xa, xc, rfl, hsl, hlow⟩, hrow, hout, hmk⟩ := hrel
    have hzr := hxr.size
    obtain ⟨-, hc1, hc2⟩ := hsl.len
    by_cases hlt : k0 < ms.length
    · have k1 : (k0 : Int) < (ms.length : Int) := by omega
      obtain ⟨mb, mo, rfl, r0, r1, hI, hS⟩ := (hm.ext hxr).get hlt
      have zm := cell_lt r0
      have hd : ms.drop k0 = ms[k0] :: ms.drop (k0 + 1) := List.drop_eq_getElem_cons hlt
      rw [hd] at hmk
      generalize ms[k0] = m at *
      obtain ⟨kd, wd⟩ := m
      simp only at r0 r1 hI hS
      rw [markedF] at hmk
      obtain ⟨W, hW⟩ : ∃ W, W = wr.alloc (.cells #[.int .i64 kd, .string wd] 92) := ⟨_, rfl⟩
      have xW : Ext wr W := by rw [hW]; exact ext_alloc _ _
      have c0 : W.cell? ⟨wr.heap.size, 0, none⟩ = some (.int .i64 kd) := by rw [hW]; simp [go_sem]
      have c1 : W.cell? ⟨wr.heap.size, 1, none⟩ = some (.string wd) := by rw [hW]; simp [go_sem]
      have hmE := markError_any (.slice xa left.length xc) ⟨kd, wd⟩ left W hI hS (hsl.ext xW)
      simp only at hmE
      rw [hW] at hmE
      have Hmk := Lib.hid hmk
      have Hd := Lib.hid hd
      have Hrow := Lib.hid hrow
      have Hsl := Lib.hid hsl
      have Hlow := Lib.hid hlow
      have Hout := Lib.hid hout
      have HW := Lib.hid hW
      clear hmk hd hrow hsl hlow hlie hl hout hW
      go_wp2_with fail
      refine hmE.mono ?_
      rintro e w2 ⟨rfl, hx2⟩
      rw [← HW.out] at hx2
      have x2 : Ext wr w2 := xW.trans hx2
      replace c0 := hx2.cell c0
      replace c1 := hx2.cell c1
      have z2 := cell_lt c0
      clear hmE hx2 xW HW
      obtain ⟨er, her⟩ : ∃ er, markErrM ⟨kd, wd⟩ left = er := ⟨_, rfl⟩
      have hmk2 := Hmk.out
      rw [her] at hmk2 ⊢
      by_cases h0 : er = 0
      · subst h0
        obtain ⟨k, hk3, hkd, hkW⟩ := markErr_ok her
        simp only at hkd
        subst hkd
        rw [if_neg (by simp)] at hmk2
        simp only [Int.toNat_natCast] at hmk2
        have Hmk2 := Lib.hid hmk2
        have k5 : (k : Int) < 5 := by omega
        clear hmk2 her Hmk
        go_wp2_with fail
        obtain ⟨W, hWW⟩ : ∃ W, W = w2 := ⟨_, rfl⟩
        subst hWW
        apply Facts.Peel.wp_regionL (⟨fun _ _ h => h, fun _ _ _ h k => h.trans k, fun _ _ _ h k => h.trans k, Ext.refl, fun a => ext_drew a⟩ : Facts.Piv.Two Ext Ext) 6 5 [.fact KindsV, .val _, .val (.int .i64 (k : Int)), .fact (KindPt k), .val (kindVal k), .fact (Box6 W.heap.size)] (by kernel_rfl) (by kernel_rfl) (by kernel_rfl) (by kernel_rfl) (by kernel_rfl) (by kernel_rfl) ?keep ?main
        case keep => exact ⟨fun u a c hx h => h.ext hx, fun _ _ u a c hx h => h.ext hx, fun u a c hx h => h.ext hx, fun _ _ u a c hx h => h.ext hx, fun u a c hx h => h.ext hx, fun _ _ u a c hx h => h.ext hx, trivial⟩
        case main =>
          simp only [List.take_succ_cons, List.take_zero, List.getD_cons_succ, List.getD_cons_zero]
          refine ⟨fun w1 hx hh => ?_, ?_⟩
          · clear hh
            go_simp
            refine (kinds_any w1).mono ?_
            rintro e w' ⟨⟨B, rfl, hkk⟩, hx2⟩
            exact ⟨_, rfl, hx2, B, rfl, hkk⟩
          intro u23
          iterate 2 (refine ⟨fun w1 hx hh => ?_, ?_⟩; focus (clear hh; (have f0 := hx.cell c0; have f1 := hx.cell c1); go_simp; first | exact ⟨Ext.refl _, rfl⟩ | exact Ext.refl _))
          refine ⟨fun w1 hx hh => ?_, ?_⟩
          · have h0 : KindsV u23 w1 := hh 0 _ List.mem_cons_self (by kernel_rfl)
            clear hh
            have s0 := h0.spec
            generalize h0.B = B at *
            have e0 := s0.1
            have g0 := s0.2.get k (by omega)
            clear s0 h0
            subst e0
            go_simp
            first | exact ⟨Ext.refl _, B, rfl, g0⟩ | exact ⟨B, rfl, g0⟩
          intro u26
          refine ⟨fun w1 hx hh => ?_, ?_⟩
          · have h3 : KindPt k u26 w1 := hh 3 _ List.mem_cons_self (by kernel_rfl)
            clear hh
            have s3 := h3.spec
            generalize h3.B = B at *
            have e3 := s3.1
            have g0 := s3.2.c0
            have g1 := s3.2.c1
            have g2 := s3.2.c2
            have g3 := s3.2.c3
            have g4 := s3.2.c4
            have g5 := s3.2.c5
            clear s3 h3
            subst e3
            go_simp
            first | exact ⟨Ext.refl _, rfl⟩ | exact Ext.refl _
          refine ⟨fun w1 hx hh => ?_, ?_⟩
          · clear hh
            have hsz := hx.size
            go_simp
            exact ⟨ext_alloc _ _, w1.heap.size, rfl, hsz, fun o ho => by
              have : o = 0 ∨ o = 1 ∨ o = 2 ∨ o = 3 ∨ o = 4 ∨ o = 5 := by omega
              rcases this with rfl | rfl | rfl | rfl | rfl | rfl <;> exact ⟨⟨_, by simp [go_sem]; rfl⟩, by simp [go_sem]⟩⟩
          intro u10
          intro w5 hx hh
          have h5 : Box6 W.heap.size u10 w5 := hh 5 _ List.mem_cons_self
          clear hh
          refine ⟨rfl, ?_⟩
          have s5 := h5.spec
          generalize h5.B = B at *
          have e5 := s5.1
          have hB := s5.2.1
          have hc := fun o ho => (s5.2.2 o ho).1
          have hf0 := (s5.2.2 0 (by omega)).2
          have hf1 := (s5.2.2 1 (by omega)).2
          have hf2 := (s5.2.2 2 (by omega)).2
          have hf3 := (s5.2.2 3 (by omega)).2
          have hf4 := (s5.2.2 4 (by omega)).2
          have hf5 := (s5.2.2 5 (by omega)).2
          have v0 := (hc 0 (by omega)).choose_spec
          have v1 := (hc 1 (by omega)).choose_spec
          have v2 := (hc 2 (by omega)).choose_spec
          have v3 := (hc 3 (by omega)).choose_spec
          have v4 := (hc 4 (by omega)).choose_spec
          have v5 := (hc 5 (by omega)).choose_spec
          generalize (hc 0 (by omega)).choose = y0 at *
          generalize (hc 1 (by omega)).choose = y1 at *
          generalize (hc 2 (by omega)).choose = y2 at *
          generalize (hc 3 (by omega)).choose = y3 at *
          generalize (hc 4 (by omega)).choose = y4 at *
          generalize (hc 5 (by omega)).choose = y5 at *
          have h6 := set6_cells hc (.int .i64 (kW k : Nat)) (.int .i64 (kS k : Nat)) (.int .i64 (kC k : Nat)) (.bool (kWr k)) (.func (.func (canF k)) #[] #[]) (.func (.func (becF k)) #[] #[])
          have x6 := hx.set6 hB (.int .i64 (kW k : Nat)) (.int .i64 (kS k : Nat)) (.int .i64 (kC k : Nat)) (.bool (kWr k)) (.func (.func (canF k)) #[] #[]) (.func (.func (becF k)) #[] #[])
          have zB := cell_lt v0
          clear s5 h5 hc
          subst e5
          unfold kindVal
          go_simp
          obtain ⟨W6, hW6⟩ : ∃ W6, W6 = set6 w5 B (.int .i64 (kW k : Nat)) (.int .i64 (kS k : Nat)) (.int .i64 (kC k : Nat)) (.bool (kWr k)) (.func (.func (canF k)) #[] #[]) (.func (.func (becF k)) #[] #[]) := ⟨_, rfl⟩
          have HW6 := Lib.hid hW6
          rw [← hW6] at h6 x6
          clear hW6
          rw [show (((((w5.setCell ⟨B, 0, none⟩ (.int .i64 (kW k : Nat))).setCell ⟨B, 1, none⟩ (.int .i64 (kS k : Nat))).setCell ⟨B, 2, none⟩ (.int .i64 (kC k : Nat))).setCell ⟨B, 3, none⟩ (.bool (kWr k))).setCell ⟨B, 4, none⟩ (.func (.func (canF k)) #[] #[])).setCell ⟨B, 5, none⟩ (.func (.func (becF k)) #[] #[]) = W6 from HW6.out.symm]
          have b0 := h6.1
          have b3 := h6.2.2.2.1
          have d1 := x6.cell c1
          have b0 := h6.1
          have b5 := h6.2.2.2.2.2
          have xw6 := x2.trans x6
          have z6 := xw6.size
          have zB := cell_lt b0
          have zd := cell_lt d1
          have row6 := Hrow.out.ext xw6
          have sl6 := Hsl.out.ext xw6
          have hownlt : ∀ b, u6.ownBlock = some b → w.heap.size ≤ b ∧ b < wr.heap.size := fun b hb => Hrow.out.lt b hb
          have x6z := x2.size
          have hzW : wr.heap.size ≤ B := by omega
          have hent := becF_enters k (by omega)
          have hlow := Hlow.out
          have hbl := becM_len k left wd
          have hbec := fun w1 (hx : Ext W6 w1) => bec_any k (by omega) u6.ownBlock xa (kW k) xc left wd hS w1 (strs_take (sl6.ext hx) _ hkW) hkW (fun hk ad e he => by
            have := (hownlt _ he.symm).1
            have := hlow ad e (by subst hk; simp [kW] at hkW; omega)
            omega) (fun b hb => by have := (hownlt b hb).2; have := hx.size; omega)
          have Hh6 := Lib.hid h6
          have Hhx := Lib.hid hx
          clear h6 v0 v1 v2 v3 v4 v5 hf0 hf1 hf2 hf3 hf4 hf5 HW6 hx c0 c1 x6
          obtain ⟨bl, hbl2⟩ : ∃ bl, becM k left wd = bl := ⟨_, rfl⟩
          rw [hbl2] at hbec hbl
          have Hbl2 := Lib.hid hbl2
          generalize hkw : kW k = kw at *
          generalize becF k = bf at *
          have Hkw := Lib.hid hkw
          clear hkw hbl2
          have kcap : (kw : Int) ≤ (xc : Int) := by omega
          have klen : (kw : Int) ≤ (left.length : Int) := by omega
          go_wp2_with fail
          apply Facts.Dep.Once.wp_region (two_butR u6.ownBlock) 10 [.val _, .val _, .val _, .val _, .val _, .val _, .val _, .val _, .val _, .fact (NewL u6.ownBlock bl), .fact (RowW w.heap.size (out ++ bl)), .fact (RowW w.heap.size (out ++ bl))] (by kernel_rfl) (by kernel_rfl) (by kernel_rfl) ?keep2 ?main2
          case keep2 => exact ⟨fun u a c hx h => h.ext hx, fun _ _ u a c hx h => h.but hx, fun u a c hx h => h.ext hx, fun h => absurd rfl h, fun u a c hx h => h.ext hx, fun _ h => (no_falseB h (by kernel_rfl)).elim, trivial⟩
          case main2 =>
            iterate 9 (refine ⟨fun w1 hE hC hh => ?_, ?_⟩; focus (have hx := hE (by kernel_rfl); clear hh hE hC; (have f0 := hx.cell b0; have f1 := hx.cell b5; have f2 := hx.cell d1); go_simp; first | exact ⟨Ext.refl _, rfl⟩ | exact Ext.refl _))
            refine ⟨fun w1 hE hC hh => ?_, ?_⟩
            · have hx := hE (by kernel_rfl)
              clear hh hE hC
              go_simp
              refine (hbec _ hx).mono ?_
              rintro e w' ⟨r, rfl, h1, hx2⟩
              exact ⟨_, rfl, hx2, h1⟩
            intro u37
            refine ⟨fun w1 hE hC hh => ?_, ?_⟩
            · have h9 : NewL u6.ownBlock bl u37 w1 := hh 9 _ List.mem_cons_self (by kernel_rfl)
              have hx := hE (by kernel_rfl)
              have hx1 := hx.size
              clear hh hE hC
              refine stepG_append_strs rfl (.tmp 28) (.tmp 37) 26 rfl w.heap.size i0 Try.underlying26 hi hz0 hz1 hz2 u6 out (by go_simp) (row6.ext hx) u37 (by go_simp) bl h9.at_ (by have := Hout.out; omega) (by omega) ?_
              intro v' w' ho hg
              exact ⟨hg, ho⟩
            intro u38
            refine ⟨fun w1 hE hC hh => ?_, ?_⟩
            · have h10 : RowW w.heap.size (out ++ bl) u38 w1 := hh 10 _ List.mem_cons_self (by kernel_rfl)
              clear hh hE hC
              go_simp
              first | exact ⟨Ext.refl _, h10⟩ | exact Ext.refl _
            intro u6' w8 hC hh
            have h11 : RowW w.heap.size (out ++ bl) u6' w8 := hh 11 _ List.mem_cons_self
            clear hh
            have g0 := hC.cell b0 (fun e => by have := (hownlt _ e.symm).2; simp at this; omega)
            have x8 : Ext w w8 := Ext.grown (hxr.trans xw6) hC fun k hk => (hownlt k hk).1
            have z8 := x8.size
            have zg := cell_lt g0
            have hl8 : LieL w.heap.size left (.slice xa left.length xc) w8 := by
              rcases Nat.eq_zero_or_pos left.length with hz | hz
              · exact ⟨xa, xc, rfl, ⟨xa, xc, rfl, hc1, hc2, fun i hi => by omega⟩, hlow⟩
              · exact ⟨xa, xc, rfl, sl6.grownBy hC (fun ad e e2 => by
                  have := (hownlt _ e2.symm).1
                  have := hlow ad e (by omega)
                  omega), hlow⟩
            have Hl8 := Lib.hid (lie_drop hl8 kw (by omega))
            clear hbec hent hC
            go_simp
            go_wp2
            go_roundw
            case rel => exact ⟨k0 + 1, left.drop kw, out ++ bl, by omega, by go_num, x8, by simpa only [Nat.mul_one] using Hl8.out, h11, by have := Hout.out; rw [List.length_append]; omega, by rw [← Hmk2.out, Hbl2.out]⟩
            case measure => simp [intOf]; omega
      · rw [if_pos h0] at hmk2
        have hM : markedM ms l = ⟨[], er⟩ := by
          unfold markedM
          rw [← hmk2]
          rw [if_pos h0]
        have h0' : (er != 0) = true := by simpa using h0
        have hinj := MarkedR.mk.inj (HR.out.symm.trans hM)
        obtain ⟨hF, hE⟩ := hinj
        subst hF
        subst hE
        have xw2 := hxr.trans x2
        clear h0 hM hmk2 HR her
        go_wp2_with fail
        go_ret2
        exact ⟨_, rfl, RowW.nil, xw2⟩
    · have hke : k0 = ms.length := by omega
      subst hke
      rw [List.drop_length, markedF] at hmk
      have hM : markedM ms l = if 0 < left.length then ⟨[], 2⟩ else if 15 < out.length then ⟨[], 3⟩ else ⟨out, 0⟩ := by
        unfold markedM
        rw [← hmk]
        rfl
      obtain ⟨va, vn, vc, rfl⟩ : ∃ va vn vc, u6 = .slice va vn vc := by
        rcases hrow.2 with ⟨rfl, -⟩ | ⟨g, cap, cur, rfl, -⟩ <;> exact ⟨_, _, _, rfl⟩
      have hvn : vn = out.length := by
        rcases hrow.2 with ⟨e, hn⟩ | ⟨g, cap, cur, e, -⟩
        · obtain ⟨-, rfl, -⟩ := Value.slice.inj e; exact hn.symm
        · exact (Value.slice.inj e).2.1
      subst hvn
      have HM := Lib.hid (HR.out.symm.trans hM)
      clear hM hmk HR hlie
      by_cases h1 : 0 < left.length
      · have k2 : (0 : Int) < (left.length : Int) := by omega
        have hM2 := HM.out
        rw [if_pos h1] at hM2
        obtain ⟨rfl, rfl⟩ := MarkedR.mk.inj hM2
        clear hM2 HM
        go_wp2_with fail
        go_ret2
        exact ⟨_, rfl, RowW.nil, hxr⟩
      · have k2 : ¬ (0 : Int) < (left.length : Int) := by omega
        by_cases h2 : 15 < out.length
        · have k3 : (15 : Int) < (out.length : Int) := by omega
          have hM2 := HM.out
          rw [if_neg h1, if_pos h2] at hM2
          obtain ⟨rfl, rfl⟩ := MarkedR.mk.inj hM2
          clear hM2 HM
          go_wp2_with fail
          go_ret2
          exact ⟨_, rfl, RowW.nil, hxr⟩
        · have k3 : ¬ (15 : Int) < (out.length : Int) := by omega
          have hM2 := HM.out
          rw [if_neg h1, if_neg h2] at hM2
          obtain ⟨rfl, rfl⟩ := MarkedR.mk.inj hM2
          clear hM2 HM
          go_wp2_with fail
          go_ret2
          exact ⟨_, rfl, hrow, hxr⟩
end Go.Proofs.Ytgcibmdohifiaaa

namespace Go.Proofs.Ytgcibmdohifiaaa
set_option linter.unusedSimpArgs false
set_option linter.unusedVariables false
open Go.RowKit
set_option linter.unusedVariables false

def applyM (ms : List Mark) (l : List ByteArray) : MarkedR :=
  if letterErrL l ≠ 0 then ⟨[], letterErrL l⟩ else if 30 < ms.length then ⟨[], 3⟩ else markedM ms l
set_option maxRecDepth 100000 in
set_option maxHeartbeats 1000000 in
theorem Apply_any (lv mv : Value) (l : List ByteArray) (ms : List Mark) (w : World) (hl : StrsAt w lv l) (hm : MarksAt w mv ms) :
    Calls Try.prog 16 #[lv, mv] w fun e w' => ∃ u, e = .returned (.tuple #[u, .int .i64 (applyM ms l).err]) ∧ RowW w.heap.size (applyM ms l).words u w' ∧ Ext w w' := by
  have hl0 := hl
  have hm0 := hm
  obtain ⟨ma, mc, rfl, hmc, hmm⟩ := hm.shape
  obtain ⟨la, lc, rfl, hlc, hlm⟩ := hl.shape
  obtain ⟨R, hR⟩ : ∃ R, applyM ms l = R := ⟨_, rfl⟩
  obtain ⟨F, ee⟩ := R
  rw [hR]
  have HR := Lib.hid hR
  clear hR
  simp only
  go_enter Try.func16, Try.ntmps16
  go_wp2_with fail
  refine (letterError_any' _ l _ hl0).mono ?_
  rintro e w1 ⟨rfl, hx1⟩
  obtain ⟨er, her⟩ : ∃ e, letterErrL l = e := ⟨_, rfl⟩
  rw [her]
  by_cases h0 : er = 0
  · subst h0
    by_cases h30 : 30 < ms.length
    · have k2 : (30 : Int) < (ms.length : Int) := by omega
      have hM : applyM ms l = ⟨[], 3⟩ := by unfold applyM; rw [if_neg (by rw [her]; simp), if_pos h30]
      obtain ⟨hF, hE⟩ := MarkedR.mk.inj (HR.out.symm.trans hM)
      subst hF
      subst hE
      clear hM HR her
      go_wp2_with fail
      go_ret2
      exact ⟨_, rfl, RowW.nil, hx1⟩
    · have k2 : ¬ (30 : Int) < (ms.length : Int) := by omega
      have hM : applyM ms l = markedM ms l := by unfold applyM; rw [if_neg (by rw [her]; simp), if_neg h30]
      have hma := marked_any _ _ l ms w1 (hl0.ext hx1) (hm0.ext hx1) (by omega)
      rw [hM.symm.trans HR.out] at hma
      simp only at hma
      clear hM HR her
      go_wp2_with fail
      refine hma.mono ?_
      rintro e w2 ⟨u, rfl, hrow, hx2⟩
      go_wp2
      go_ret2
      exact ⟨_, rfl, by
        refine ⟨hrow.1, ?_⟩
        rcases hrow.2 with h | ⟨g, cap, cur, e, h1, h2⟩
        · exact .inl h
        · exact .inr ⟨g, cap, cur, e, Nat.le_trans hx1.size h1, h2⟩, hx1.trans hx2⟩
  · have h0' : (er != 0) = true := by simpa using h0
    have hM : applyM ms l = ⟨[], er⟩ := by unfold applyM; rw [if_pos (by rw [her]; exact h0), her]
    obtain ⟨hF, hE⟩ := MarkedR.mk.inj (HR.out.symm.trans hM)
    subst hF
    subst hE
    clear hM HR her h0
    go_wp2_with fail
    go_ret2
    exact ⟨_, rfl, RowW.nil, hx1⟩
end Go.Proofs.Ytgcibmdohifiaaa
