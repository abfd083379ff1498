/-
  LETTERS, MARKS, FILLS AND SHELVES that are handed in, opened.
  NUMBERS AND BYTES that are handed in, opened.
  A CALL THAT LETS ALL BE AS IT WAS, AND ANSWERS AS IT SHOULD, KEEPS A LAW's WORD.
  A LETTER MADE OF A FORM: Rooms, Put, Built and Make of the reference.
  Make of the reference; LetterForms: Check and Make of the program return what those of the reference do.
  BY WAY OF A THIRD LETTER there are no fewer corrections.
  CORRECTIONS TOWARDS SLOTS, as ways: what the choices find is the fewest; by way of another letter no fewer.
  LetterNearest: no form needs fewer corrections than Nearest says; those that need none are the forms of Of.
-/
import Derived.Test.YtgcibmdohifiaaaGreatBunAA
import Derived.Test.YtgcibmdohifiaaaGreatBunAL
import Derived.ProofKit
import Derived.OpenShut
import Derived.Test.YtgcibmdohifiaaaGreatBunAD
import Derived.Test.YtgcibmdohifiaaaGreatBunAJ
import Derived.Test.YtgcibmdohifiaaaGreatBunAI
import Derived.Test.YtgcibmdohifiaaaGreatBunAK
namespace Go.Proofs.YtgcibmdohifiaaaGreat
set_option linter.unusedSimpArgs false
set_option linter.unusedVariables false
open Go.ChangeShapes Go.WideShapes Go.RowKit
set_option maxRecDepth 100000
section
variable {H : Type} {enc : TypeId × Value → H} {w : World} {base : Nat} {sp : Nat → Bool} {held : Bool}
instance : Inhabited Part := ⟨⟨[], 0, 0⟩⟩
instance : Inhabited Form := ⟨⟨⟨#[]⟩, []⟩⟩
instance : Inhabited Mark := ⟨⟨0, ⟨#[]⟩⟩⟩
instance : Inhabited ByteArray := ⟨⟨#[]⟩⟩
theorem cellsStrs : Tryz.prog.cellsOf 29 = 1 := by kernel_rfl
theorem strs_in {fuel : Nat} {v : Value} {x : DataW H × List MemPlace} (h : DataW.trod enc Tryz.prog w base sp held fuel 29 [v] = some x) : ∃ l, StrsAt w v l :=
  slice_of Tryz.underlying29 cellsString (by decide) (fun n cs y hy => by
    obtain ⟨s, rfl, -, hs⟩ := DataW.trod_string Tryz.underlying9 hy
    exact ⟨s, fun b o hc => ⟨hc 0 (by decide), by simpa [maxLen] using hs⟩⟩) h
/-- a letter -/
theorem strsArg_of {r : Reach} {b0 : Nat} {v : Value} {d : DataW H} {ps : List MemPlace} (hval : Value.okWide Tryz.prog w r b0 29 v) (hd : DataW.Trod enc Tryz.prog w base sp held 29 v d ps) : ∃ l, StrsAt w v l := by
  obtain ⟨a0, len, cap, rfl⟩ := okWide_slice Tryz.underlying29 hval
  obtain ⟨fuel, h⟩ := hd
  exact strs_in h
/-- a list of bytes -/
theorem bytesL_of {r : Reach} {b0 : Nat} {v : Value} {d : DataW H} {ps : List MemPlace} (hval : Value.okWide Tryz.prog w r b0 56 v) (hd : DataW.Trod enc Tryz.prog w base sp held 56 v d ps) : ∃ l, BytesAt w v l := by
  obtain ⟨a0, len, cap, rfl⟩ := okWide_slice Tryz.underlying56 hval
  obtain ⟨fuel, h⟩ := hd
  exact slice_of Tryz.underlying56 cellsU8 (by decide) (fun n cs y hy => by
    obtain ⟨x, rfl, -, wx⟩ := DataW.trod_int Tryz.underlying5 hy
    exact ⟨x, fun b o hc => ⟨hc 0 (by decide), wf_u8 wx⟩⟩) h
/-- a string -/
theorem str_of {r : Reach} {b0 : Nat} {v : Value} {d : DataW H} {ps : List MemPlace} (hval : Value.okWide Tryz.prog w r b0 9 v) (hd : DataW.Trod enc Tryz.prog w base sp held 9 v d ps) : ∃ s, v = .string s ∧ s.size ≤ 9223372036854775807 := by
  obtain ⟨s, rfl⟩ := okWide_string Tryz.underlying9 hval
  obtain ⟨fuel, h⟩ := hd
  simp only [Value.cells] at h
  obtain ⟨s', e, -, hs⟩ := DataW.trod_string Tryz.underlying9 h
  simp only [List.cons.injEq, and_true] at e
  cases e
  exact ⟨_, rfl, by simpa [maxLen] using hs⟩
end
section
variable {H : Type} {enc : TypeId × Value → H} {w : World} {base : Nat} {sp : Nat → Bool} {held : Bool}
theorem cellsMark : Tryz.prog.cellsOf 140 = 2 := by kernel_rfl
theorem marksArg_of {r : Reach} {b0 : Nat} {v : Value} {d : DataW H} {ps : List MemPlace} (hval : Value.okWide Tryz.prog w r b0 47 v) (hd : DataW.Trod enc Tryz.prog w base sp held 47 v d ps) : ∃ l, MarksAt w v l := by
  obtain ⟨a0, len, cap, rfl⟩ := okWide_slice Tryz.underlying47 hval
  obtain ⟨fuel, h⟩ := hd
  exact slice_of Tryz.underlying47 cellsMark (by decide) (fun n cs y hy => by
    obtain ⟨y0, y1, m, -, hl, h0, h1⟩ := trod_struct2 Tryz.underlying140 hy
    rw [cellsMark] at hl
    obtain ⟨c0, c1, rfl⟩ := two_of hl
    simp only [cellsInt, cellsString, List.drop_zero, List.drop_succ_cons, List.take_succ_cons, List.take_zero] at h0 h1
    obtain ⟨a, ea, -, wa⟩ := DataW.trod_int Tryz.underlying3 h0
    obtain ⟨s, es, -, hs⟩ := DataW.trod_string Tryz.underlying9 h1
    simp only [List.cons.injEq, and_true] at ea es
    subst ea es
    refine ⟨⟨a, s⟩, fun b o hc => ⟨?_, ?_, wf_i64 wa, by simpa [maxLen] using hs⟩⟩
    · exact hc 0 (by decide)
    · exact hc 1 (by decide)) h
theorem fillsArg_of {r : Reach} {b0 : Nat} {v : Value} {d : DataW H} {ps : List MemPlace} (hval : Value.okWide Tryz.prog w r b0 25 v) (hd : DataW.Trod enc Tryz.prog w base sp held 25 v d ps) : ∃ l, FillsAt w v l := by
  obtain ⟨a0, len, cap, rfl⟩ := okWide_slice Tryz.underlying25 hval
  obtain ⟨fuel, h⟩ := hd
  exact slice_of Tryz.underlying25 cellsStrs (by decide) (fun n cs y hy => by
    have hl : ∃ v, cs = [v] := by
      rcases Deep.open_slice Tryz.underlying29 hy with ⟨h1, _⟩ | ⟨a, len, cap, m, n, D, Pl, hcs, _⟩
      · exact ⟨_, h1⟩
      · exact ⟨_, hcs⟩
    obtain ⟨v, rfl⟩ := hl
    obtain ⟨l, hl⟩ := strs_in hy
    exact ⟨l, fun b o hc => ⟨v, hc 0 (by decide), hl⟩⟩) h
end
section
variable {H : Type} {enc : TypeId × Value → H} {w : World} {base : Nat} {sp : Nat → Bool} {held : Bool}
theorem cellsPart : Tryz.prog.cellsOf 77 = 3 := by kernel_rfl
theorem cellsForm : Tryz.prog.cellsOf 62 = 2 := by kernel_rfl
theorem cellsShelf : Tryz.prog.cellsOf 24 = 2 := by kernel_rfl
theorem cellsSpan : Tryz.prog.cellsOf 75 = 2 := by kernel_rfl
theorem cellsParts : Tryz.prog.cellsOf 60 = 1 := by kernel_rfl
theorem cellsForms : Tryz.prog.cellsOf 22 = 1 := by kernel_rfl
theorem part_of {n : Nat} {cs : List Value} {y : DataW H × List MemPlace} (h : DataW.trod enc Tryz.prog w base sp held n 77 cs = some y) :
    ∃ (x : Part) (u : Value), cs = [u, .int .i64 x.lo, .int .i64 x.hi] ∧ StrsAt w u x.words ∧ I64 x.lo ∧ I64 x.hi := by
  obtain ⟨y0, y1, m, -, hl, h0, h1⟩ := trod_struct2 Tryz.underlying77 h
  rw [cellsPart] at hl
  obtain ⟨c0, c1, c2, rfl⟩ := three_of hl
  simp only [cellsStrs, cellsSpan, List.drop_zero, List.drop_succ_cons, List.take_succ_cons, List.take_zero] at h0 h1
  obtain ⟨l, hll⟩ := strs_in h0
  obtain ⟨z0, z1, m', -, -, k0, k1⟩ := trod_struct2 Tryz.underlying75 h1
  simp only [cellsInt, List.drop_zero, List.drop_succ_cons, List.take_succ_cons, List.take_zero] at k0 k1
  obtain ⟨a, ea, -, wa⟩ := DataW.trod_int Tryz.underlying3 k0
  obtain ⟨b, eb, -, wb⟩ := DataW.trod_int Tryz.underlying3 k1
  simp only [List.cons.injEq, and_true] at ea eb
  subst ea eb
  exact ⟨⟨l, a, b⟩, c0, rfl, hll, wf_i64 wa, wf_i64 wb⟩
theorem parts_of {fuel : Nat} {v : Value} {x : DataW H × List MemPlace} (h : DataW.trod enc Tryz.prog w base sp held fuel 60 [v] = some x) : ∃ l, PartsAt w v l :=
  slice_of Tryz.underlying60 cellsPart (by decide) (fun n cs y hy => by
    obtain ⟨x, u, rfl, hs, h1, h2⟩ := part_of hy
    refine ⟨x, fun b o hc => ⟨⟨u, ?_, hs⟩, ?_, ?_, h1, h2⟩⟩
    · exact hc 0 (by decide)
    · exact hc 1 (by decide)
    · exact hc 2 (by decide)) h
theorem form_of {n : Nat} {cs : List Value} {y : DataW H × List MemPlace} (h : DataW.trod enc Tryz.prog w base sp held n 62 cs = some y) :
    ∃ (x : Form) (u : Value), cs = [.string x.name, u] ∧ x.name.size ≤ 9223372036854775807 ∧ PartsAt w u x.parts := by
  obtain ⟨y0, y1, m, -, hl, h0, h1⟩ := trod_struct2 Tryz.underlying62 h
  rw [cellsForm] at hl
  obtain ⟨c0, c1, rfl⟩ := two_of hl
  simp only [cellsString, cellsParts, List.drop_zero, List.drop_succ_cons, List.take_succ_cons, List.take_zero] at h0 h1
  obtain ⟨s, es, -, hs⟩ := DataW.trod_string Tryz.underlying9 h0
  obtain ⟨l, hll⟩ := parts_of h1
  simp only [List.cons.injEq, and_true] at es
  subst es
  exact ⟨⟨s, l⟩, c1, rfl, by simpa [maxLen] using hs, hll⟩
theorem forms_of {fuel : Nat} {v : Value} {x : DataW H × List MemPlace} (h : DataW.trod enc Tryz.prog w base sp held fuel 22 [v] = some x) : ∃ l, FormsAt w v l :=
  slice_of Tryz.underlying22 cellsForm (by decide) (fun n cs y hy => by
    obtain ⟨x, u, rfl, hs, hl⟩ := form_of hy
    refine ⟨x, fun b o hc => ⟨?_, hs, u, ?_, hl⟩⟩
    · exact hc 0 (by decide)
    · exact hc 1 (by decide)) h
/-- A SHELF -/
theorem shelf_of {r : Reach} {b0 : Nat} {v : Value} {d : DataW H} {ps : List MemPlace} (hval : Value.okWide Tryz.prog w r b0 24 v) (hd : DataW.Trod enc Tryz.prog w base sp held 24 v d ps) : ∃ s, ShelfAt w v s := by
  simp only [Value.okWide, Tryz.underlying24] at hval
  obtain ⟨cs, rfl, -, -⟩ := hval
  obtain ⟨fuel, h⟩ := hd
  simp only [Value.cells] at h
  obtain ⟨y0, y1, m, -, hl, h0, h1⟩ := trod_struct2 Tryz.underlying24 h
  rw [cellsShelf] at hl
  obtain ⟨cs⟩ := cs
  obtain ⟨c0, c1, rfl⟩ := two_of hl
  simp only [cellsInt, cellsForms, List.drop_zero, List.drop_succ_cons, List.take_succ_cons, List.take_zero] at h0 h1
  obtain ⟨a, ea, -, wa⟩ := DataW.trod_int Tryz.underlying3 h0
  obtain ⟨l, hll⟩ := forms_of h1
  simp only [List.cons.injEq, and_true] at ea
  subst ea
  exact ⟨⟨a, l⟩, c1, rfl, wf_i64 wa, hll⟩
end
end Go.Proofs.YtgcibmdohifiaaaGreat

namespace Go.Proofs.YtgcibmdohifiaaaGreat
set_option linter.unusedSimpArgs false
set_option linter.unusedVariables false
open Go.ChangeShapes Go.WideShapes Go.RowKit
set_option maxRecDepth 100000
section
variable {H : Type} {enc : TypeId × Value → H} {w : World} {base : Nat} {sp : Nat → Bool} {held : Bool}
/-- one byte -/
theorem byteL_of {r : Reach} {b0 : Nat} {v : Value} {d : DataW H} {ps : List MemPlace} (hval : Value.okWide Tryz.prog w r b0 5 v) (hd : DataW.Trod enc Tryz.prog w base sp held 5 v d ps) : ∃ x : Nat, v = .int .u8 x ∧ x ≤ 255 := by
  obtain ⟨a, rfl, -, -, wa⟩ := Go.ChangeShapes.open_int Tryz.underlying5 hval hd
  have ha := wf_u8 wa
  unfold U8 at ha
  exact ⟨a.toNat, by rw [show ((a.toNat : Nat) : Int) = a from by omega], by omega⟩
/-- one number -/
theorem intL_of {r : Reach} {b0 : Nat} {v : Value} {d : DataW H} {ps : List MemPlace} (hval : Value.okWide Tryz.prog w r b0 3 v) (hd : DataW.Trod enc Tryz.prog w base sp held 3 v d ps) : ∃ x : Int, v = .int .i64 x ∧ I64 x := by
  obtain ⟨a, rfl, -, -, wa⟩ := Go.ChangeShapes.open_int Tryz.underlying3 hval hd
  exact ⟨a, rfl, wf_i64 wa⟩
end
end Go.Proofs.YtgcibmdohifiaaaGreat

namespace Go.Proofs.YtgcibmdohifiaaaGreat
set_option linter.unusedSimpArgs false
set_option linter.unusedVariables false
open Go.ChangeShapes Go.WideShapes Go.ChangeAt Go.RowKit
section
variable {H : Type} {enc : TypeId × Value → H} {P : Program}
/-- a call that lets all that was there be, and answers as it should, keeps a law's word -/
theorem post_ext {f : Func} {s : ChangeSpec} {apart fresh handsOn again : Bool} {W W' : World} {args : Array Value} {v : Value} {ds gs : List (DataW H)} {before pa pv : List MemPlace}
    (hW : DataW.Whole enc P f.params.toList s.vars apart W args.toList ds gs before)
    (hres : ∀ (b : Nat) (sp : Nat → Bool) (hd : Bool), DataW.TrodAll enc P W' b sp hd f.resultTypes.toList (v.resultList f.resultTypes.size) (s.fn H (ds ++ gs)).results [])
    (hargs : ∀ sp : Nat → Bool, (∀ p ∈ before, sp p.block = true) → DataW.TrodAll enc P W' 0 sp true f.params.toList args.toList (s.fn H (ds ++ gs)).args pa)
    (hvars : ∀ sp : Nat → Bool, (∀ p ∈ before, sp p.block = true) → DataW.TrodVars enc P W' sp s.vars (s.fn H (ds ++ gs)).vars pv)
    (hps : before = pa ++ pv) (hx : Ext W W')
    (hok : ∀ (j : Nat) (t : TypeId) (r : Value), f.resultTypes[j]? = some t → (v.resultList f.resultTypes.size)[j]? = some r → Value.okWide P W' .any 0 t r) :
    s.post enc P f apart fresh handsOn again W args v W' := by
  have hlt := hW.lt
  have hold : ∀ p ∈ before, (fun b => decide (b < W.heap.size)) p.block = true := fun p hp => decide_eq_true (hlt p hp)
  have hin : ∀ p ∈ before, p ∈ pa ∨ p ∈ pv := fun p hp => List.mem_append.1 (hps ▸ hp)
  refine ⟨ds, gs, before, [], pa, pv, hW, hres _ _ _, hargs _ hold, hvars _ hold, World.keptBut_mono (fun p (hp : p ∈ before) => ⟨hp, .inr (hin p hp)⟩) (Below.frame hx _), fun _ => ⟨hok, ?_⟩⟩
  obtain ⟨_, _, _, _, _, hz, hn⟩ := hW
  refine ⟨_, _, pa ++ pv, ⟨[] ++ pa, pv, trodAll_append (hargs _ (fun _ _ => rfl)) (hres _ _ _), hvars _ (fun _ _ => rfl), by simp, fun b off hp => ?_, fun ha => by rw [← hps]; exact hn ha⟩, fun p hp _ => by rw [hps]; exact hp⟩
  rw [← hps] at hp
  rw [hx.frozen (p := ⟨b, off, none⟩) (hlt _ hp)]
  exact hz b off hp
end
end Go.Proofs.YtgcibmdohifiaaaGreat

namespace Go.Proofs.YtgcibmdohifiaaaGreat
set_option linter.unusedSimpArgs false
set_option linter.unusedVariables false
open Go.RowKit
set_option linter.unusedVariables false

def spanR (w : World) (b o : Nat) (p : Part) : Prop := w.cell? ⟨b, o, none⟩ = some (.int .i64 p.lo) ∧ w.cell? ⟨b, o + 1, none⟩ = some (.int .i64 p.hi) ∧ I64 p.lo ∧ I64 p.hi
theorem spanR.keeps : Keeps spanR := fun _ _ _ _ _ hx h => ⟨hx.cell h.1, hx.cell h.2.1, h.2.2⟩
/-- the rooms of these parts -/
abbrev SpansAt : World → Value → List Part → Prop := SliceAt 2 spanR
theorem SpansAt.ext {w w' : World} {v : Value} {l : List Part} (h : SpansAt w v l) (hx : Ext w w') : SpansAt w' v l := SliceAt.ext spanR.keeps h hx
def cellsU (l : List Part) : List Value := l.flatMap fun s => [.int .i64 s.lo, .int .i64 s.hi]
theorem cellsU_len (l : List Part) : (cellsU l).length = l.length * 2 := by
  induction l with
  | nil => rfl
  | cons x l ih => simp only [cellsU, List.flatMap_cons, List.length_append, List.length_cons, List.length_nil] at *; omega
theorem cellsU_get (l : List Part) (i : Nat) (h : i < l.length) : (cellsU l)[i * 2]? = some (.int .i64 l[i].lo) ∧ (cellsU l)[i * 2 + 1]? = some (.int .i64 l[i].hi) := by
  induction l generalizing i with
  | nil => simp at h
  | cons x l ih =>
    cases i with
    | zero => simp [cellsU]
    | succ i =>
      have := ih i (by simpa using h)
      have e : (i + 1) * 2 = i * 2 + 2 := by omega
      rw [e]
      simpa [cellsU] using this
theorem cellsU_app (l r : List Part) : cellsU (l ++ r) = cellsU l ++ cellsU r := by simp [cellsU]
def RowU (base : Nat) (l : List Part) (u : Value) (w : World) : Prop := w.ownsRow base 75 2 u l.length (cellsU l)
theorem RowU.ext {base : Nat} {l : List Part} {u : Value} {w w' : World} (h : RowU base l u w) (hx : Ext w w') : RowU base l u w' := Ext.owns h hx
theorem RowU.nil {base : Nat} {w : World} : RowU base [] (.slice none 0 0) w := World.ownsRow_nil _ _ _ _
theorem RowU.at_ {base : Nat} {l : List Part} {u : Value} {w : World} (h : RowU base l u w) (hI : ∀ s ∈ l, I64 s.lo ∧ I64 s.hi) : SpansAt w u l := by
  have hcells := fun g hg => h.cells (g := g) hg
  rcases h.2 with ⟨rfl, hn⟩ | ⟨g, cap, cur, rfl, hb, hg, hnc, hcm, hcs, htake⟩
  · have : l = [] := List.eq_nil_of_length_eq_zero hn
    subst this; exact SliceAt.nil
  · refine ⟨_, _, rfl, hnc, by simpa [maxLen] using hcm, fun i hi => ⟨g, 0, rfl, ?_⟩⟩
    obtain ⟨c0, c1⟩ := cellsU_get l i hi
    have r0 := hcells g rfl _ _ c0
    have r1 := hcells g rfl _ _ c1
    have ea : ∀ j, (⟨g, 0, none⟩ : Addr).add j = ⟨g, 0 + j, none⟩ := fun j => by unfold Addr.add; split <;> simp_all
    rw [ea] at r0 r1
    exact ⟨r0, r1, hI _ (List.getElem_mem hi)⟩
theorem infoSpan : (Tryz.prog.info? 75).map (fun i => (i.zero, i.size, i.bytes)) = some (some (.agg #[.int .i64 0, .int .i64 0]), 2, 16) := by kernel_rfl
theorem cell_two_span (w : World) (a b : Value) (t : TypeId) : ∀ j u, [a, b][j]? = some u → (w.alloc (.cells #[a, b] t)).cell? ((⟨w.heap.size, 0, none⟩ : Addr).add j) = some u := by
  intro j u hj
  match j, hj with
  | 0, hj => simp at hj; subst hj; simp [go_sem, Addr.add]
  | 1, hj => simp at hj; subst hj; simp [go_sem, Addr.add]
theorem inside_any (n lo hi : Int) (w : World) : Calls Tryz.prog 127 #[.int .i64 n, .agg #[.int .i64 lo, .int .i64 hi]] w fun e w' => e = .returned (.bool (inM n lo hi)) ∧ Ext w w' := by
  go_enter Tryz.func127, Tryz.ntmps127
  go_wp2_with fail
  refine (In_any _ _ _ _).mono ?_
  rintro e w' ⟨rfl, rfl⟩
  go_wp2
  go_ret
  exact ⟨rfl, (by first | (with_reducible exact Ext.refl _) | (with_reducible assumption) | (show Below _ _ _; go_grown; done))⟩
set_option maxRecDepth 100000 in
set_option maxHeartbeats 2000000 in
theorem refRooms_any (v : Value) (f : Form) (h5 : f.parts.length ≤ 5) (w : World) (hv : FormV w v f) :
    Calls Tryz.prog 68 #[v] w fun e w' => ∃ u, e = .returned u ∧ SpansAt w' u (roomsM f.parts) ∧ Ext w w' := by
  obtain ⟨pv, rfl, hns, hp⟩ := hv
  obtain ⟨pa, pc, rfl, hpc, hpm⟩ := hp.shape
  obtain ⟨i0, hi, hz0, hz1, hz2⟩ := info_parts infoSpan
  have q1 : (w.alloc (.cells #[.string f.name, .slice pa f.parts.length pc] 62)).cell? ⟨w.heap.size, 1, none⟩ = some (.slice pa f.parts.length pc) := by simp [go_sem]
  obtain ⟨W, hW⟩ : ∃ W, W = w.alloc (.cells #[.string f.name, .slice pa f.parts.length pc] 62) := ⟨_, rfl⟩
  have xW : Ext w W := by rw [hW]; exact ext_alloc _ _
  have zW : W.heap.size = w.heap.size + 1 := by rw [hW]; simp
  rw [← hW] at q1
  have HW := Lib.hid hW
  have hpW := hp.ext xW
  clear hW
  go_enter Tryz.func68, Tryz.ntmps68
  go_wp2_with fail
  rw [← HW.out]
  clear HW
  go_loopw [3, 4] (fun u i wr => ∃ k : Nat, k ≤ f.parts.length ∧ i = .int .i64 k ∧ Ext W wr ∧ RowU W.heap.size (roomsM (f.parts.take k)) u wr) (fun _ i _ => f.parts.length - (intOf i).toNat)
  case atStart => exact ⟨0, Nat.zero_le _, rfl, Ext.refl _, RowU.nil⟩
  case round =>
    obtain ⟨k, hk, rfl, hxr, hown⟩ := hrel
    have r1 := hxr.cell q1
    have zr := cell_lt r1
    have hszr := hxr.size
    by_cases hlt : k < f.parts.length
    · have k1 : (k : Int) < (f.parts.length : Int) := by omega
      obtain ⟨b, o, rfl, ⟨u, p0, hs⟩, p1, p2, i1, i2⟩ := (hpW.ext hxr).get hlt
      obtain ⟨ua, uc, rfl, -⟩ := hs.shape
      have hno := rooms_no f.parts k hlt
      have hyes := rooms_yes f.parts k hlt
      have hlen : (roomsM (f.parts.take k)).length ≤ 5 := by
        have h1 : (roomsM (f.parts.take k)).length ≤ (f.parts.take k).length := List.length_filter_le _ _
        rw [List.length_take] at h1
        omega
      generalize f.parts[k] = p at *
      generalize roomsM (f.parts.take k) = R at *
      cases hr : roomyM p
      · have e0 : ((p.words.length : Int) == 0) = false := by
          unfold roomyM at hr
          simp at hr ⊢
          exact hr
        have Hst := Lib.hid (hno hr)
        clear hno hyes hr
        go_wp2_with fail
        refine (refRoomy_any ua p.words.length uc p.lo p.hi _).mono ?_
        rintro e w2 ⟨rfl, hx2⟩
        rw [e0]
        have own2 := RowU.ext hown hx2
        have x2 := hxr.trans hx2
        clear hown e0
        go_wp2
        go_roundw
        case rel => exact ⟨k + 1, by omega, by go_num, x2, by rw [Hst.out]; exact own2⟩
        case measure => simp [intOf]; omega
      · have e0 : ((p.words.length : Int) == 0) = true := by
          unfold roomyM at hr
          simp at hr ⊢
          exact hr
        have Hst := Lib.hid (hyes hr)
        clear hno hyes hr
        go_wp2_with fail
        refine (refRoomy_any ua p.words.length uc p.lo p.hi _).mono ?_
        rintro e w2 ⟨rfl, hx2⟩
        rw [e0]
        have own2 := RowU.ext hown hx2
        have x2 := hxr.trans hx2
        have r2 := hx2.cell r1
        have z2 := cell_lt r2
        replace p1 := hx2.cell p1
        replace p2 := hx2.cell p2
        replace p0 := hx2.cell p0
        have hsz2 := hx2.size
        have own3 : (w2.alloc (.cells #[.int .i64 p.lo, .int .i64 p.hi] 75)).ownsRow W.heap.size 75 2 u3 R.length (cellsU R) := RowU.ext own2 (ext_alloc _ _)
        have hownlt := fun k hk => (World.ownsRow.lt own3 k hk).1
        clear hown e0 own2
        go_wp2_with ((at_builtin; go_loud (refine wpList_append_own _ rfl _ _ 111 rfl W.heap.size 75 i0 (.agg #[.int .i64 0, .int .i64 0]) 2 16 Tryz.underlying111 hi hz0 hz1 hz2 rfl (by decide) _ _ _ rfl own3 ⟨w2.heap.size, 0, none⟩ 1 1 [.int .i64 p.lo, .int .i64 p.hi] rfl rfl (cell_two_span _ _ _ _) (by simp [Value.oneCell']) (by unfold maxLen; omega) (by omega) (by simp; omega) ?_; intro v' w4 hown' hgrow _)))
        have hx4 : Ext W w4 := Ext.grown (x2.alloc _) hgrow hownlt
        go_roundw
        case rel => exact ⟨k + 1, by omega, by go_num, hx4, by rw [Hst.out]; unfold RowU; rw [cellsU_app, List.length_append]; exact hown'⟩
        case measure => simp [intOf]; omega
    · obtain rfl : k = f.parts.length := by omega
      rw [List.take_length] at hown
      have hat := RowU.at_ hown (fun p hp => by
        obtain ⟨i, hi', rfl⟩ := List.getElem_of_mem (List.mem_filter.1 hp).1
        obtain ⟨_, _, -, -, -, -, i1, i2⟩ := hpW.get hi'
        exact ⟨i1, i2⟩)
      obtain ⟨oa, oc, rfl, -⟩ := hat.shape
      clear hown
      go_wp2
      go_ret
      exact ⟨_, rfl, hat, xW.trans hxr⟩
set_option maxRecDepth 100000 in
set_option maxHeartbeats 2000000 in
theorem refPut_any (rv v : Value) (rooms : List Part) (fs : List (List ByteArray)) (w : World) (hr : SpansAt w rv rooms) (hfs : FillsAt w v fs) :
    Calls Tryz.prog 67 #[rv, v] w fun e w' => e = .returned (.int .i64 (if fs.length ≠ rooms.length then 3 else (firstErr (fillErrM rooms) fs).2)) ∧ Ext w w' := by
  obtain ⟨ra, rc, rfl, hrc, hrm⟩ := hr.shape
  obtain ⟨fa, fc, rfl, hfc, hfm⟩ := hfs.shape
  by_cases he : fs.length = rooms.length
  · rw [if_neg (fun h => h he)]
    have hne : ((fs.length : Int) != (rooms.length : Int)) = false := by simp [he]
    have He := Lib.hid he
    clear he
    obtain ⟨FE, hFE⟩ : ∃ FE, (firstErr (fillErrM rooms) fs).2 = FE := ⟨_, rfl⟩
    rw [hFE]
    have HFE := Lib.hid hFE
    clear hFE
    go_enter Tryz.func67, Tryz.ntmps67
    go_wp2
    go_loopw [5] (fun i wr => ∃ k : Nat, k ≤ fs.length ∧ i = .int .i64 k ∧ Ext w wr ∧ (firstErrFrom (fillErrM rooms) (fs.take k) (fs.drop k)).2 = FE) (fun i _ => fs.length - (intOf i).toNat)
    case atStart => exact ⟨0, Nat.zero_le _, rfl, Ext.refl _, HFE.out⟩
    case round =>
      obtain ⟨k, hk, rfl, hx, hd⟩ := hrel
      by_cases hlt : k < fs.length
      · have k1 : (k : Int) < (fs.length : Int) := by omega
        have hlr : k < rooms.length := by have := He.out; omega
        have k2 : (k : Int) < (rooms.length : Int) := by omega
        obtain ⟨fb, fo, rfl, u, c0, hu⟩ := (hfs.ext hx).get hlt
        obtain ⟨rb, ro, rfl, d0, d1, i1, i2⟩ := (hr.ext hx).get hlr
        have hstep := firstErrFrom_step (fillErrM rooms) fs k hlt _ rfl
        have hhit := firstErrFrom_hit (fillErrM rooms) fs k hlt _ rfl
        have hfe : fillErrM rooms (fs.take k) fs[k] = if inM fs[k].length rooms[k].lo rooms[k].hi = false then 7 else if wordsM fs[k] = false then 6 else 0 := by
          unfold fillErrM
          have hl : (fs.take k).length = k := by rw [List.length_take]; omega
          rw [hl, show rooms.getD k ⟨[], 0, 0⟩ = rooms[k] from by simp [hlr]]
        generalize fs[k] = x at *
        generalize rooms[k] = p at *
        obtain ⟨ua, uc, rfl, huc, hum⟩ := hu.shape
        have Hstep := Lib.hid hstep
        have Hhit := Lib.hid hhit
        have Hfe := Lib.hid hfe
        have Hd := Lib.hid hd
        have Hu := Lib.hid hu
        simp only [Nat.mul_one] at c0
        clear hstep hhit hfe hd hu
        go_wp2_with fail
        apply Facts.wp_region [.val _, .val _, .val _, .val (.slice ua x.length uc), .val (.int .i64 x.length), .val _, .val _, .val _, .val (.agg #[.int .i64 p.lo, .int .i64 p.hi]), .val (.bool (inM x.length p.lo p.hi)), .val (.bool (!inM x.length p.lo p.hi))] (by kernel_rfl) (by kernel_rfl) trivial ?main
        case main =>
          iterate 9 (refine ⟨fun w1 hx hh => ?_, ?_⟩; focus (clear hh; have e0 := hx.cell c0; have e1 := hx.cell d0; have e2 := hx.cell d1; go_simp; first | exact ⟨Ext.refl _, rfl⟩ | exact Ext.refl _))
          refine ⟨fun w1 hx hh => ?_, ?_⟩
          · clear hh
            go_simp
            refine (inside_any _ _ _ w1).mono ?_
            rintro e w' ⟨rfl, hx2⟩
            exact ⟨_, rfl, hx2, rfl⟩
          iterate 1 (refine ⟨fun w1 hx hh => ?_, ?_⟩; focus (clear hh; skip; go_simp; first | exact ⟨Ext.refl _, rfl⟩ | exact Ext.refl _))
          intro w3 hx3 hh
          clear hh
          have x3 := hx.trans hx3
          have c3 := hx3.cell c0
          have hu3 := Hu.out.ext hx3
          clear c0 d0 d1
          cases h1 : inM x.length p.lo p.hi
          · have H1 := Lib.hid h1
            clear h1
            have hres : FE = 7 := by
              rw [← Hd.out, Hhit.out (by rw [Hfe.out, if_pos H1.out]; decide)]
              show fillErrM rooms (fs.take k) x = 7
              rw [Hfe.out, if_pos H1.out]
            subst hres
            go_simp
            go_wp2
            go_ret
            exact ⟨rfl, x3⟩
          · have H1 := Lib.hid h1
            clear h1
            go_simp
            go_wp2_with fail
            refine (refWords_any _ x _ hu3).mono ?_
            rintro e w4 ⟨rfl, hx4⟩
            have x4 := x3.trans hx4
            cases h2 : wordsM x
            · have H2 := Lib.hid h2
              have hres : FE = 6 := by
                rw [← Hd.out, Hhit.out (by rw [Hfe.out, if_neg (by rw [H1.out]; decide), if_pos H2.out]; decide)]
                show fillErrM rooms (fs.take k) x = 6
                rw [Hfe.out, if_neg (by rw [H1.out]; decide), if_pos H2.out]
              subst hres
              clear h2
              go_wp2
              go_ret
              exact ⟨rfl, x4⟩
            · have H2 := Lib.hid h2
              clear h2
              go_wp2
              go_roundw
              case rel => exact ⟨k + 1, by omega, by go_num, x4, by rw [Hstep.out (by rw [Hfe.out, if_neg (by rw [H1.out]; decide), if_neg (by rw [H2.out]; decide)])]; exact Hd.out⟩
              case measure => simp [intOf]; omega
      · have hres : FE = 0 := by
          rw [← hd, firstErrFrom_end _ _ _ (by omega)]
        subst hres
        go_wp2
        go_ret
        exact ⟨rfl, hx⟩
  · rw [if_pos he]
    have hne : ((fs.length : Int) != (rooms.length : Int)) = true := by
      simp only [bne_iff_ne, ne_eq]
      omega
    clear he
    go_enter Tryz.func67, Tryz.ntmps67
    go_wp2
    go_ret
    exact ⟨rfl, Ext.refl _⟩
/-- what is left of the fills behind the first k parts -/
theorem built_left (ps : List Part) (fs : List (List ByteArray)) : ∀ k, k ≤ ps.length → (builtTo ps fs k).2 = fs.drop (roomsM (ps.take k)).length
  | 0, _ => rfl
  | k + 1, hk => by
    have ih := built_left ps fs k (by omega)
    have hc := rooms_count ps k (by omega)
    have hg : ps.getD k ⟨[], 0, 0⟩ = ps[k] := by simp [show k < ps.length from by omega]
    rw [builtTo, stepB, hg, hc]
    cases roomyM ps[k]
    · simp [ih]
    · simp only [if_true]
      rw [ih, List.tail_drop]
set_option maxRecDepth 100000 in
set_option maxHeartbeats 2000000 in
theorem refBuilt_any (fv v : Value) (f : Form) (fs : List (List ByteArray)) (h5 : f.parts.length ≤ 5) (h3 : ∀ p ∈ f.parts, p.words.length ≤ 15) (hf3 : ∀ l ∈ fs, l.length ≤ 15) (hn : (roomsM f.parts).length = fs.length) (w : World) (hf : FormV w fv f) (hfs : FillsAt w v fs) :
    Calls Tryz.prog 46 #[fv, v] w fun e w' => ∃ u, e = .returned u ∧ StrsAt w' u (builtM f.parts fs) ∧ RowW w.heap.size (builtM f.parts fs) u w' ∧ Ext w w' := by
  obtain ⟨pv, rfl, hns, hp⟩ := hf
  obtain ⟨pa, pc, rfl, hpc, hpm⟩ := hp.shape
  obtain ⟨fa, fc, rfl, hfc, hfm⟩ := hfs.shape
  obtain ⟨i0, hi, hz0, hz1, hz2⟩ := info_parts infoString
  have q1 : (w.alloc (.cells #[.string f.name, .slice pa f.parts.length pc] 62)).cell? ⟨w.heap.size, 1, none⟩ = some (.slice pa f.parts.length pc) := by simp [go_sem]
  obtain ⟨W, hW⟩ : ∃ W, W = w.alloc (.cells #[.string f.name, .slice pa f.parts.length pc] 62) := ⟨_, rfl⟩
  have xW : Ext w W := by rw [hW]; exact ext_alloc _ _
  have zW : W.heap.size = w.heap.size + 1 := by rw [hW]; simp
  rw [← hW] at q1
  have HW := Lib.hid hW
  have hpW := hp.ext xW
  have hfW := hfs.ext xW
  clear hW
  have H3 := Lib.hid h3
  have Hf3 := Lib.hid hf3
  have Hn := Lib.hid hn
  clear h3 hf3 hn
  go_enter Tryz.func46, Tryz.ntmps46
  go_wp2_with fail
  rw [← HW.out]
  clear HW
  go_loopw [5, 6, 7] (fun u nv i wr => ∃ k : Nat, k ≤ f.parts.length ∧ i = .int .i64 k ∧ nv = .int .i64 (roomsM (f.parts.take k)).length ∧ Ext W wr ∧ RowW W.heap.size (builtTo f.parts fs k).1 u wr ∧ (builtTo f.parts fs k).1.length ≤ 15 * k ∧ ∀ s ∈ (builtTo f.parts fs k).1, s.size ≤ 9223372036854775807) (fun _ _ i _ => f.parts.length - (intOf i).toNat)
  case atStart => exact ⟨0, Nat.zero_le _, rfl, rfl, Ext.refl _, RowW.nil, by simp [builtTo], by simp [builtTo]⟩
  case round =>
    obtain ⟨k, hk, rfl, rfl, hxr, hown, hlen, hsz⟩ := hrel
    have r1 := hxr.cell q1
    have zr := cell_lt r1
    have hszr := hxr.size
    by_cases hlt : k < f.parts.length
    · have k1 : (k : Int) < (f.parts.length : Int) := by omega
      obtain ⟨b, o, rfl, ⟨u, p0, hs⟩, p1, p2, i1, i2⟩ := (hpW.ext hxr).get hlt
      obtain ⟨ua, uc, rfl, -⟩ := hs.shape
      have hst : builtTo f.parts fs (k + 1) = stepB f.parts k (builtTo f.parts fs k) := rfl
      have hgd : f.parts.getD k ⟨[], 0, 0⟩ = f.parts[k] := by simp [hlt]
      have hlf := built_left f.parts fs k hk
      have hrc := rooms_count f.parts k hlt
      have hle : (roomsM (f.parts.take (k + 1))).length ≤ fs.length := by
        rw [← Hn.out]
        unfold roomsM
        exact List.Sublist.length_le (List.Sublist.filter _ (List.take_sublist _ _))
      have h15 := H3.out f.parts[k] (List.getElem_mem hlt)
      unfold stepB at hst
      rw [hgd] at hst
      generalize f.parts[k] = p at *
      generalize builtTo f.parts fs k = bt at *
      obtain ⟨ws, rs⟩ := bt
      simp only at hown hlen hsz hst hlf
      generalize hnn : (roomsM (f.parts.take k)).length = n at *
      have Hst := Lib.hid hst
      have Hlf := Lib.hid hlf
      have Hrc := Lib.hid hrc
      have Hsz := Lib.hid hsz
      clear hst hlf hgd hsz
      cases hro : roomyM p
      · have e0 : ((p.words.length : Int) == 0) = false := by
          unfold roomyM at hro
          simp at hro ⊢
          exact hro
        have Hs2 : Hid (builtTo f.parts fs (k + 1) = (ws ++ p.words, rs)) := Lib.hid (by rw [Hst.out, hro]; rfl)
        have Hc2 : Hid ((roomsM (f.parts.take (k + 1))).length = n) := Lib.hid (by rw [Hrc.out, hro]; simp)
        have Hpz := Lib.hid hs.sizes
        clear hro hrc hnn hle Hst Hrc
        go_wp2_with fail
        refine (refRoomy_any ua p.words.length uc p.lo p.hi _).mono ?_
        rintro e w2 ⟨rfl, hx2⟩
        rw [e0]
        have own2 := RowW.ext hown hx2
        have x2 := hxr.trans hx2
        have r2 := hx2.cell r1
        have z2 := cell_lt r2
        replace p0 := hx2.cell p0
        have hs2 := hs.ext hx2
        have hsz2 := hx2.size
        have hownlt := fun k hk => (World.ownsRow.lt own2 k hk).1
        clear hown e0 hs
        go_wp2_with ((at_builtin; go_loud (refine wpList_append_strs rfl _ _ 29 rfl W.heap.size i0 Tryz.underlying29 hi hz0 hz1 hz2 u5 _ rfl own2 (.slice ua p.words.length uc) rfl p.words hs2 (by omega) (by omega) ?_; intro v' w4 hown' hgrow _)))
        have hx4 : Ext W w4 := Ext.grown x2 hgrow hownlt
        go_roundw
        case rel => exact ⟨k + 1, by omega, by go_num, by rw [Hc2.out], hx4, by rw [Hs2.out]; exact hown', by rw [Hs2.out]; simp only [List.length_append]; omega, by
          rw [Hs2.out]
          intro s hs
          rcases List.mem_append.1 hs with h | h
          · exact Hsz.out s h
          · exact Hpz.out s h⟩
        case measure => simp [intOf]; omega
      · have e0 : ((p.words.length : Int) == 0) = true := by
          unfold roomyM at hro
          simp at hro ⊢
          exact hro
        have hnl : n < fs.length := by rw [hrc, hro] at hle; simp at hle; omega
        have hhd : rs.headD [] = fs[n] := by rw [Hlf.out, List.drop_eq_getElem_cons hnl]; rfl
        have Hs2 : Hid (builtTo f.parts fs (k + 1) = (ws ++ fs[n], rs.tail)) := Lib.hid (by rw [Hst.out, hro, ← hhd]; rfl)
        have Hc2 : Hid ((roomsM (f.parts.take (k + 1))).length = n + 1) := Lib.hid (by rw [Hrc.out, hro]; simp)
        have k2 : (n : Int) < (fs.length : Int) := by omega
        obtain ⟨fb, fo, rfl, fu, g0, hfu⟩ := (hfW.ext hxr).get hnl
        have hf15 := Hf3.out fs[n] (List.getElem_mem hnl)
        generalize fs[n] = x at *
        obtain ⟨xa, xc, rfl, -⟩ := hfu.shape
        have Hxz := Lib.hid hfu.sizes
        simp only [Nat.mul_one] at g0
        clear hro hrc hnn hle Hst Hrc hhd
        go_wp2_with fail
        refine (refRoomy_any ua p.words.length uc p.lo p.hi _).mono ?_
        rintro e w2 ⟨rfl, hx2⟩
        rw [e0]
        have own2 := RowW.ext hown hx2
        have x2 := hxr.trans hx2
        have r2 := hx2.cell r1
        have z2 := cell_lt r2
        replace g0 := hx2.cell g0
        have hs2 := hfu.ext hx2
        have hsz2 := hx2.size
        have hownlt := fun k hk => (World.ownsRow.lt own2 k hk).1
        clear hown e0 hfu
        go_wp2_with ((at_builtin; go_loud (refine wpList_append_strs rfl _ _ 29 rfl W.heap.size i0 Tryz.underlying29 hi hz0 hz1 hz2 u5 _ rfl own2 (.slice xa x.length xc) rfl x hs2 (by omega) (by omega) ?_; intro v' w4 hown' hgrow _)))
        have hx4 : Ext W w4 := Ext.grown x2 hgrow hownlt
        go_roundw
        case rel => exact ⟨k + 1, by omega, by go_num, by rw [Hc2.out]; go_num, hx4, by rw [Hs2.out]; exact hown', by rw [Hs2.out]; simp only [List.length_append]; omega, by
          rw [Hs2.out]
          intro s hs
          rcases List.mem_append.1 hs with h | h
          · exact Hsz.out s h
          · exact Hxz.out s h⟩
        case measure => simp [intOf]; omega
    · obtain rfl : k = f.parts.length := by omega
      have hat := RowW.at_ hown hsz
      have hbm : (builtTo f.parts fs f.parts.length).1 = builtM f.parts fs := rfl
      rw [hbm] at hat hown
      have hown2 : RowW w.heap.size (builtM f.parts fs) u5 wr := ⟨hown.1, by
        rcases hown.2 with h | ⟨g, cap, cur, e, h1, h2⟩
        · exact .inl h
        · exact .inr ⟨g, cap, cur, e, by omega, h2⟩⟩
      clear hown hsz hlen
      obtain ⟨oa, oc, rfl, -⟩ := hat.shape
      go_wp2
      go_ret
      exact ⟨_, rfl, hat, hown2, xW.trans hxr⟩
end Go.Proofs.YtgcibmdohifiaaaGreat

namespace Go.Proofs.YtgcibmdohifiaaaGreat
set_option linter.unusedSimpArgs false
set_option linter.unusedVariables false
open Go.RowKit
set_option linter.unusedVariables false

theorem openErr_form {s : Shelf} {n : Int} (h : openErrM s n = 0) : errS s = 0 ∧ 0 ≤ n ∧ n < s.forms.length := by
  unfold openErrM at h
  split at h
  · rename_i h1; exact absurd h h1
  · rename_i h1
    split at h
    · cases h
    · rename_i h2
      have := inM_true h2
      exact ⟨by simpa using h1, by omega, by omega⟩
theorem fills_ok {ps : List Part} {fs : List (List ByteArray)} (h : fillsErrM ps fs = 0) (hp : ∀ p ∈ ps, ValidPart p) : fs.length = (roomsM ps).length ∧ ∀ l ∈ fs, l.length ≤ 3 ∧ ∀ s ∈ l, wordM s = true := by
  unfold fillsErrM at h
  split at h
  · cases h
  · rename_i h1
    have he : fs.length = (roomsM ps).length := by simpa using h1
    refine ⟨he, fun l hl => ?_⟩
    obtain ⟨k, hk, rfl⟩ := List.getElem_of_mem hl
    have hf := firstErr_ok _ _ h k hk
    have hlr : k < (roomsM ps).length := by omega
    unfold fillErrM at hf
    have hlk : (fs.take k).length = k := by rw [List.length_take]; omega
    rw [hlk, show (roomsM ps).getD k ⟨[], 0, 0⟩ = (roomsM ps)[k] from by simp [hlr]] at hf
    split at hf
    · cases hf
    · rename_i h2
      split at hf
      · cases hf
      · rename_i h3
        have hin := inM_true h2
        have hmem := List.mem_filter.1 (List.getElem_mem hlr)
        have hr := (hp _ hmem.1).room hmem.2
        refine ⟨by omega, ?_⟩
        have hw : wordsM fs[k] = true := by simpa using h3
        unfold wordsM at hw
        rw [List.all_eq_true] at hw
        exact hw
set_option maxRecDepth 100000 in
set_option maxHeartbeats 2000000 in
theorem refMake_any (sv v : Value) (s : Shelf) (n : Int) (hn : I64 n) (fs : List (List ByteArray)) (w : World) (hs : ShelfAt w sv s) (hfs : FillsAt w v fs) :
    Calls Tryz.prog 17 #[sv, .int .i64 n, v] w fun e w' => ∃ u, e = .returned u ∧ MadeL w' (builtM (formOf s n).parts fs) (makeErrM s n fs) u ∧ Ext w w' := by
  obtain ⟨fa, fc, rfl, -⟩ := hs.open
  obtain ⟨xa, xc, rfl, -⟩ := hfs.shape
  obtain ⟨W, hW, hb, q0, q1, x1⟩ := box_shelf hs
  replace hfs := hfs.ext x1
  have z1 := cell_lt q0
  have HW := Lib.hid hW
  clear hs hW
  obtain ⟨er, her⟩ : ∃ er, makeErrM s n fs = er := ⟨_, rfl⟩
  rw [her]
  have Her := Lib.hid her
  clear her
  unfold MadeL
  go_enter Tryz.func17, Tryz.ntmps17
  go_wp2_with fail
  rw [← HW.out]
  clear HW
  refine (refForm_any _ s n hn _ hb).mono ?_
  rintro e w2 ⟨rfl, hx⟩
  replace hb := hb.ext hx
  replace q0 := hx.cell q0
  replace q1 := hx.cell q1
  replace z1 := cell_lt q0
  replace x1 := x1.trans hx
  replace hfs := hfs.ext hx
  clear hx
  obtain ⟨e0, he0⟩ : ∃ e0, openErrM s n = e0 := ⟨_, rfl⟩
  rw [he0]
  have He0 := Lib.hid he0
  clear he0
  by_cases h0 : e0 = 0
  · subst h0
    obtain ⟨hv0, hn0, hnl⟩ := openErr_form He0.out
    obtain ⟨i, rfl⟩ : ∃ i : Nat, n = i := ⟨n.toNat, by omega⟩
    have hil : i < s.forms.length := by omega
    have k1 : (i : Int) < (s.forms.length : Int) := by omega
    have hfo : formOf s i = s.forms[i] := by
      unfold formOf
      rw [Int.toNat_natCast]; simp [hil]
    have hvf := (errS_ok hv0).forms s.forms[i] (List.getElem_mem hil)
    obtain ⟨_, _, _, _, _, hfm⟩ := hb.open
    have hff : FormsAt w2 (.slice fa s.forms.length fc) s.forms := by
      obtain ⟨u, e, -, h⟩ := hb
      obtain rfl : u = .slice fa s.forms.length fc := by simpa using e.symm
      exact h
    obtain ⟨b, o, rfl, f0, fsz, pu, f1, hps⟩ := hff.get hil
    obtain ⟨pa, pc, rfl, -⟩ := hps.shape
    have hform : FormV w2 (.agg #[.string s.forms[i].name, .slice pa s.forms[i].parts.length pc]) s.forms[i] := ⟨_, rfl, fsz, hps⟩
    have hmk : makeErrM s i fs = fillsErrM s.forms[i].parts fs := by unfold makeErrM; rw [if_neg (by rw [He0.out]; simp), hfo]
    generalize s.forms[i] = f at *
    have Hfo := Lib.hid hfo
    have Hmk := Lib.hid (hmk.symm.trans Her.out)
    clear hmk hfm hff hfo
    go_wp2_with fail
    refine (refRooms_any _ f hvf.n _ hform).mono ?_
    rintro e w3 ⟨ru, rfl, hru, hx⟩
    replace hform := hform.ext hx
    replace f0 := hx.cell f0
    replace f1 := hx.cell f1
    replace q0 := hx.cell q0
    replace q1 := hx.cell q1
    replace z1 := cell_lt q0
    replace x1 := x1.trans hx
    replace hfs := hfs.ext hx
    clear hx
    obtain ⟨ra, rc, rfl, -⟩ := hru.shape
    go_wp2_with fail
    refine (refPut_any _ _ (roomsM f.parts) fs _ hru hfs).mono ?_
    rintro e w4 ⟨rfl, hx⟩
    replace hform := hform.ext hx
    replace f0 := hx.cell f0
    replace f1 := hx.cell f1
    replace q0 := hx.cell q0
    replace q1 := hx.cell q1
    replace z1 := cell_lt q0
    replace x1 := x1.trans hx
    replace hfs := hfs.ext hx
    clear hx hru
    have hfe : (if fs.length ≠ (roomsM f.parts).length then 3 else (firstErr (fillErrM (roomsM f.parts)) fs).2) = er := Hmk.out
    rw [hfe]
    clear hfe
    by_cases h1 : er = 0
    · subst h1
      obtain ⟨hlen, hf3⟩ := fills_ok Hmk.out hvf.parts
      have hbt := fun w' (f1 f2 : Value) (x1 : FormV w' f1 f) (x2 : FillsAt w' f2 fs) => refBuilt_any f1 f2 f fs hvf.n (fun p hp => by have := (hvf.parts p hp).n; omega) (fun l hl => by have := (hf3 l hl).1; omega) hlen.symm w' x1 x2
      clear hf3 hlen hvf
      go_wp2_with fail
      refine (hbt _ _ _ hform hfs).mono ?_
      rintro e w5 ⟨u, rfl, hu, -, hx⟩
      obtain ⟨ua, uc, rfl, -⟩ := hu.shape
      go_wp2
      go_ret2
      exact ⟨_, rfl, ⟨_, rfl, by rw [Hfo.out]; exact hu⟩, x1.trans hx⟩
    · have h1' : (er != 0) = true := by simpa using h1
      have H1 := Lib.hid h1
      clear h1 hvf
      go_wp2
      go_ret2
      exact ⟨_, rfl, ⟨_, rfl, fun h => absurd h H1.out, fun _ => rfl⟩, x1⟩
  · have h0' : (e0 == 0) = false := by simpa using h0
    have h0'' : (e0 != 0) = true := by simpa using h0
    have hres : er = e0 := by rw [← Her.out, makeErrM, if_pos (by rw [He0.out]; exact h0), He0.out]
    subst hres
    have H0 := Lib.hid h0
    clear h0
    go_wp2
    go_ret2
    exact ⟨_, rfl, ⟨_, rfl, fun h => absurd h H0.out, fun _ => rfl⟩, x1⟩
set_option maxRecDepth 100000 in
set_option maxHeartbeats 2000000 in
theorem forms_any (sv fv : Value) (s : Shelf) (n : Int) (hn : I64 n) (fs : List (List ByteArray)) (w : World) (hs : ShelfAt w sv s) (hl : FillsAt w fv fs) :
    Calls Tryz.prog 3 #[sv, .int .i64 n, fv] w fun e w' => e = .returned (.bool true) ∧ Ext w w' := by
  obtain ⟨fa, fc, rfl, -⟩ := hs.open
  obtain ⟨la, lc, rfl, -⟩ := hl.shape
  obtain ⟨W, hW, hb, q0, q1, x1⟩ := box_shelf hs
  replace hl := hl.ext x1
  have z1 := cell_lt q0
  have HW := Lib.hid hW
  clear hs hW
  go_enter Tryz.func3, Tryz.ntmps3
  go_wp2_with fail
  rw [← HW.out]
  clear HW
  refine (checkS_any _ s _ hb).mono ?_
  rintro e w2 ⟨rfl, hx⟩
  replace hb := hb.ext hx
  replace q0 := hx.cell q0
  replace q1 := hx.cell q1
  replace z1 := cell_lt q0
  replace x1 := x1.trans hx
  replace hl := hl.ext hx
  clear hx
  go_wp2_with fail
  refine (refCheckS_any _ s _ hb).mono ?_
  rintro e w3 ⟨rfl, hx⟩
  replace hb := hb.ext hx
  replace q0 := hx.cell q0
  replace q1 := hx.cell q1
  replace z1 := cell_lt q0
  replace x1 := x1.trans hx
  replace hl := hl.ext hx
  clear hx
  generalize (checkS s).1 = g1
  generalize (checkS s).2.1 = g2
  generalize (checkS s).2.2 = g3
  go_wp2_with fail
  refine (make_any _ _ s n hn fs _ hb hl).mono ?_
  rintro e w4 ⟨u, rfl, ⟨v, rfl, hv, hv'⟩, hx⟩
  replace hb := hb.ext hx
  replace q0 := hx.cell q0
  replace q1 := hx.cell q1
  replace z1 := cell_lt q0
  replace x1 := x1.trans hx
  replace hl := hl.ext hx
  go_wp2_with fail
  refine (refMake_any _ _ s n hn fs _ hb hl).mono ?_
  rintro e w5 ⟨u2, rfl, ⟨v2, rfl, hv2, hv2'⟩, hx2⟩
  replace x1 := x1.trans hx2
  clear hb hl q0 q1 z1 hx
  have hsame : ∃ ws, StrsAt w5 v ws ∧ StrsAt w5 v2 ws := by
    by_cases h0 : makeErrM s n fs = 0
    · exact ⟨_, (hv h0).ext hx2, hv2 h0⟩
    · rw [hv' h0, hv2' h0]
      exact ⟨[], SliceAt.nil, SliceAt.nil⟩
  obtain ⟨ws, h1, h2⟩ := hsame
  generalize makeErrM s n fs = er at *
  clear hv hv' hv2 hv2' hx2
  obtain ⟨va, vc, rfl, -⟩ := h1.shape
  obtain ⟨va2, vc2, rfl, -⟩ := h2.shape
  go_wp2_with fail
  refine (same_any _ _ ws ws _ h1 h2).mono ?_
  rw [decide_eq_true rfl]
  rintro e w6 ⟨rfl, hx⟩
  replace x1 := x1.trans hx
  clear hx h1 h2
  go_wp2_with fail
  refine (awakeL_any _).mono ?_
  rintro e w7 ⟨rfl, hx⟩
  go_wp2
  go_ret
  exact ⟨rfl, x1.trans hx⟩
end Go.Proofs.YtgcibmdohifiaaaGreat

namespace Go.Proofs.YtgcibmdohifiaaaGreat
set_option linter.unusedSimpArgs false
set_option linter.unusedVariables false
set_option linter.unusedVariables false

/-- a way from one letter to another one, with so many corrections -/
inductive Ed : List ByteArray → List ByteArray → Nat → Prop where
  | nil : Ed [] [] 0
  | keep (x : ByteArray) {a b : List ByteArray} {n : Nat} : Ed a b n → Ed (x :: a) (x :: b) n
  | turn (x y : ByteArray) {a b : List ByteArray} {n : Nat} : Ed a b n → Ed (x :: a) (y :: b) (n + 1)
  | drop (x : ByteArray) {a b : List ByteArray} {n : Nat} : Ed a b n → Ed (x :: a) b (n + 1)
  | put (y : ByteArray) {a b : List ByteArray} {n : Nat} : Ed a b n → Ed a (y :: b) (n + 1)
theorem Ed.puts : ∀ b : List ByteArray, Ed [] b b.length
  | [] => .nil
  | y :: b => .put y (Ed.puts b)
theorem Ed.drops : ∀ a : List ByteArray, Ed a [] a.length
  | [] => .nil
  | x :: a => .drop x (Ed.drops a)
theorem sameW_eq {x s : ByteArray} (h : sameW x s = true) : x = s := toList_inj (eq_of_beq h)
theorem sameW_self (x : ByteArray) : sameW x x = true := by simp [sameW]
theorem ed_far : ∀ (n : Nat) (a b : List ByteArray), a.length + b.length < n → Ed a b (farM n a b)
  | 0, a, b, h => by omega
  | n + 1, [], b, h => by rw [farM]; exact Ed.puts b
  | n + 1, x :: a, [], h => Ed.drops (x :: a)
  | n + 1, x :: a, s :: b, h => by
    simp only [List.length_cons] at h
    have i1 := ed_far n a b (by omega)
    have i2 := ed_far n a (s :: b) (by simp only [List.length_cons]; omega)
    have i3 := ed_far n (x :: a) b (by simp only [List.length_cons]; omega)
    rw [farM]
    have j2 : Ed (x :: a) (s :: b) (1 + farM n a (s :: b)) := by rw [Nat.add_comm]; exact .drop x i2
    have j3 : Ed (x :: a) (s :: b) (1 + farM n (x :: a) b) := by rw [Nat.add_comm]; exact .put s i3
    have j1 : Ed (x :: a) (s :: b) (if sameW x s then farM n a b else 1 + farM n a b) := by
      cases hs : sameW x s
      · simp only [Bool.false_eq_true, if_false]; rw [Nat.add_comm]; exact .turn x s i1
      · obtain rfl := sameW_eq hs
        simp only [if_true]; exact .keep x i1
    generalize (if sameW x s then farM n a b else 1 + farM n a b) = p at *
    generalize 1 + farM n a (s :: b) = q at *
    generalize 1 + farM n (x :: a) b = r at *
    rcases Nat.le_total p (min q r) with h1 | h1
    · rw [Nat.min_eq_left h1]; exact j1
    · rw [Nat.min_eq_right h1]
      rcases Nat.le_total q r with h2 | h2
      · rw [Nat.min_eq_left h2]; exact j2
      · rw [Nat.min_eq_right h2]; exact j3
theorem far_nil (n : Nat) (a : List ByteArray) : farM (n + 1) a [] = a.length := by cases a <;> rfl
theorem far_le {a b : List ByteArray} {k : Nat} (h : Ed a b k) : ∀ n, a.length + b.length < n → farM n a b ≤ k := by
  induction h with
  | nil => intro n hn; obtain ⟨n, rfl⟩ : ∃ m, n = m + 1 := ⟨n - 1, by omega⟩; exact Nat.le_refl _
  | keep x h ih =>
    intro n hn
    obtain ⟨n, rfl⟩ : ∃ m, n = m + 1 := ⟨n - 1, by omega⟩
    simp only [List.length_cons] at hn
    have := ih n (by omega)
    rw [farM, sameW_self, if_pos rfl]
    omega
  | turn x y h ih =>
    intro n hn
    obtain ⟨n, rfl⟩ : ∃ m, n = m + 1 := ⟨n - 1, by omega⟩
    simp only [List.length_cons] at hn
    have := ih n (by omega)
    rw [farM]
    split <;> omega
  | @drop x a b k h ih =>
    intro n hn
    obtain ⟨n, rfl⟩ : ∃ m, n = m + 1 := ⟨n - 1, by omega⟩
    simp only [List.length_cons] at hn
    have h1 := ih n (by omega)
    cases b with
    | nil =>
      obtain ⟨m, rfl⟩ : ∃ m, n = m + 1 := ⟨n - 1, by omega⟩
      rw [far_nil] at h1 ⊢
      simp only [List.length_cons]; omega
    | cons s b => rw [farM]; omega
  | @put y a b k h ih =>
    intro n hn
    obtain ⟨n, rfl⟩ : ∃ m, n = m + 1 := ⟨n - 1, by omega⟩
    simp only [List.length_cons] at hn
    have h1 := ih n (by omega)
    cases a with
    | nil =>
      obtain ⟨m, rfl⟩ : ∃ m, n = m + 1 := ⟨n - 1, by omega⟩
      rw [farM] at h1 ⊢
      simp only [List.length_cons]; omega
    | cons s a => rw [farM]; omega
theorem Ed.comp : ∀ (N : Nat) {a c b : List ByteArray} {n m : Nat}, a.length + c.length + b.length ≤ N → Ed a c n → Ed c b m → ∃ k, k ≤ n + m ∧ Ed a b k := by
  intro N
  induction N with
  | zero =>
    intro a c b n m hN h1 h2
    have ha : a = [] := List.eq_nil_of_length_eq_zero (by omega)
    have hb : b = [] := List.eq_nil_of_length_eq_zero (by omega)
    subst ha; subst hb
    exact ⟨0, Nat.zero_le _, .nil⟩
  | succ N ih =>
    intro a c b n m hN h1 h2
    cases h1 with
    | nil => exact ⟨m, by omega, h2⟩
    | drop x h1 =>
      simp only [List.length_cons] at hN
      obtain ⟨k, hk, h⟩ := ih (by omega) h1 h2
      exact ⟨k + 1, by omega, .drop x h⟩
    | keep x h1 =>
      cases h2 with
      | keep _ h2 =>
        simp only [List.length_cons] at hN
        obtain ⟨k, hk, h⟩ := ih (by omega) h1 h2
        exact ⟨k, by omega, .keep x h⟩
      | turn _ y h2 =>
        simp only [List.length_cons] at hN
        obtain ⟨k, hk, h⟩ := ih (by omega) h1 h2
        exact ⟨k + 1, by omega, .turn x y h⟩
      | drop _ h2 =>
        simp only [List.length_cons] at hN
        obtain ⟨k, hk, h⟩ := ih (by omega) h1 h2
        exact ⟨k + 1, by omega, .drop x h⟩
      | put y h2 =>
        simp only [List.length_cons] at hN
        obtain ⟨k, hk, h⟩ := ih (by simp only [List.length_cons]; omega) (Ed.keep x h1) h2
        exact ⟨k + 1, by omega, .put y h⟩
    | turn x z h1 =>
      cases h2 with
      | keep _ h2 =>
        simp only [List.length_cons] at hN
        obtain ⟨k, hk, h⟩ := ih (by omega) h1 h2
        exact ⟨k + 1, by omega, .turn x z h⟩
      | turn _ y h2 =>
        simp only [List.length_cons] at hN
        obtain ⟨k, hk, h⟩ := ih (by omega) h1 h2
        exact ⟨k + 1, by omega, .turn x y h⟩
      | drop _ h2 =>
        simp only [List.length_cons] at hN
        obtain ⟨k, hk, h⟩ := ih (by omega) h1 h2
        exact ⟨k + 1, by omega, .drop x h⟩
      | put y h2 =>
        simp only [List.length_cons] at hN
        obtain ⟨k, hk, h⟩ := ih (by simp only [List.length_cons]; omega) (Ed.turn x z h1) h2
        exact ⟨k + 1, by omega, .put y h⟩
    | put z h1 =>
      cases h2 with
      | keep _ h2 =>
        simp only [List.length_cons] at hN
        obtain ⟨k, hk, h⟩ := ih (by omega) h1 h2
        exact ⟨k + 1, by omega, .put z h⟩
      | turn _ y h2 =>
        simp only [List.length_cons] at hN
        obtain ⟨k, hk, h⟩ := ih (by omega) h1 h2
        exact ⟨k + 1, by omega, .put y h⟩
      | drop _ h2 =>
        simp only [List.length_cons] at hN
        obtain ⟨k, hk, h⟩ := ih (by omega) h1 h2
        exact ⟨k, by omega, h⟩
      | put y h2 =>
        simp only [List.length_cons] at hN
        obtain ⟨k, hk, h⟩ := ih (by simp only [List.length_cons]; omega) (Ed.put z h1) h2
        exact ⟨k + 1, by omega, .put y h⟩
/-- by way of a third letter no fewer -/
theorem cost_way {a b c : List ByteArray} (hb : ∀ s ∈ b, wordM s = true) (hc : ∀ s ∈ c, wordM s = true) : (costM a (givenM b)).2 ≤ (costM a (givenM c)).2 + (costM c (givenM b)).2 := by
  obtain ⟨N, hN⟩ : ∃ N, N = a.length + b.length + c.length + 1 := ⟨_, rfl⟩
  rw [cost_far N a b (by omega) hb, cost_far N a c (by omega) hc, cost_far N c b (by omega) hb]
  obtain ⟨k, hk, h⟩ := Ed.comp _ (Nat.le_refl _) (ed_far N a c (by omega)) (ed_far N c b (by omega))
  exact Nat.le_trans (far_le h N (by omega)) hk
end Go.Proofs.YtgcibmdohifiaaaGreat

namespace Go.Proofs.YtgcibmdohifiaaaGreat
set_option linter.unusedSimpArgs false
set_option linter.unusedVariables false
set_option linter.unusedVariables false

/-- a way from a letter to slots, with so many corrections -/
inductive EdS : List ByteArray → List Slot → Nat → Prop where
  | nil : EdS [] [] 0
  | keep (x : ByteArray) (s : Slot) {a : List ByteArray} {b : List Slot} {n : Nat} : takesM s x = true → EdS a b n → EdS (x :: a) (s :: b) n
  | turn (x : ByteArray) (s : Slot) {a : List ByteArray} {b : List Slot} {n : Nat} : EdS a b n → EdS (x :: a) (s :: b) (n + 1)
  | drop (x : ByteArray) {a : List ByteArray} {b : List Slot} {n : Nat} : EdS a b n → EdS (x :: a) b (n + 1)
  | put (s : Slot) {a : List ByteArray} {b : List Slot} {n : Nat} : EdS a b n → EdS a (s :: b) (n + 1)
  | skip (s : Slot) {a : List ByteArray} {b : List Slot} {n : Nat} : s.free = true → EdS a b n → EdS a (s :: b) n
theorem edS_cost : ∀ (N : Nat) (ws : List ByteArray) (ss : List Slot), ws.length + ss.length ≤ N → EdS ws ss (costM ws ss).2
  | 0, ws, ss, h => by
    have h1 : ws = [] := List.eq_nil_of_length_eq_zero (by omega)
    have h2 : ss = [] := List.eq_nil_of_length_eq_zero (by omega)
    subst h1; subst h2
    exact .nil
  | N + 1, ws, ss, h => by
    by_cases h0 : ws.length + ss.length = 0
    · exact edS_cost 0 ws ss (by omega)
    obtain ⟨g1, g2, g3, g4, g5, g6⟩ := costM_which ws ss (by omega)
    have ih := edS_cost N (ws.drop (kW (costM ws ss).1)) (ss.drop (kS (costM ws ss).1)) (by rw [List.length_drop, List.length_drop]; omega)
    rw [g6]
    generalize (costM ws ss).1 = c at *
    generalize (costM (ws.drop (kW c)) (ss.drop (kS c))).2 = m at *
    clear g6
    have : c = 0 ∨ c = 1 ∨ c = 2 ∨ c = 3 ∨ c = 4 := by omega
    rcases this with rfl | rfl | rfl | rfl | rfl
    · obtain ⟨x, ws, rfl⟩ : ∃ x r, ws = x :: r := by cases ws with | nil => simp [kW] at g2 | cons x r => exact ⟨x, r, rfl⟩
      obtain ⟨s, ss, rfl⟩ : ∃ x r, ss = x :: r := by cases ss with | nil => simp [kS] at g3 | cons x r => exact ⟨x, r, rfl⟩
      show EdS _ _ (0 + m)
      rw [Nat.zero_add]
      exact .keep x s g5 ih
    · obtain ⟨x, ws, rfl⟩ : ∃ x r, ws = x :: r := by cases ws with | nil => simp [kW] at g2 | cons x r => exact ⟨x, r, rfl⟩
      obtain ⟨s, ss, rfl⟩ : ∃ x r, ss = x :: r := by cases ss with | nil => simp [kS] at g3 | cons x r => exact ⟨x, r, rfl⟩
      show EdS _ _ (1 + m)
      rw [Nat.add_comm]
      exact .turn x s ih
    · obtain ⟨x, ws, rfl⟩ : ∃ x r, ws = x :: r := by cases ws with | nil => simp [kW] at g2 | cons x r => exact ⟨x, r, rfl⟩
      show EdS _ _ (1 + m)
      rw [Nat.add_comm]
      exact .drop x ih
    · obtain ⟨s, ss, rfl⟩ : ∃ x r, ss = x :: r := by cases ss with | nil => simp [kS] at g3 | cons x r => exact ⟨x, r, rfl⟩
      show EdS _ _ (1 + m)
      rw [Nat.add_comm]
      exact .put s ih
    · obtain ⟨s, ss, rfl⟩ : ∃ x r, ss = x :: r := by cases ss with | nil => simp [kS] at g3 | cons x r => exact ⟨x, r, rfl⟩
      show EdS _ _ (0 + m)
      rw [Nat.zero_add]
      exact .skip s g5 ih
theorem cost_le {ws : List ByteArray} {ss : List Slot} {n : Nat} (h : EdS ws ss n) : (costM ws ss).2 ≤ n := by
  induction h with
  | nil => exact Nat.le_refl _
  | @keep x s a b n ht h ih =>
    rw [costM_all]
    exact Nat.le_trans (pickC_le _ (0, (costM a b).2) (by simp [ht])) ih
  | @turn x s a b n h ih =>
    rw [costM_all]
    cases ht : takesM s x
    · refine Nat.le_trans (pickC_le _ (1, 1 + (costM a b).2) (by simp)) ?_
      show 1 + _ ≤ _
      omega
    · refine Nat.le_trans (pickC_le _ (0, (costM a b).2) (by simp)) ?_
      show (costM a b).2 ≤ _
      omega
  | @drop x a b n h ih =>
    cases b with
    | nil =>
      rw [costM_drop]
      refine Nat.le_trans (pickC_le _ (2, 1 + (costM a []).2) (by simp)) ?_
      show 1 + _ ≤ _
      omega
    | cons s b =>
      rw [costM_all]
      refine Nat.le_trans (pickC_le _ (2, 1 + (costM a (s :: b)).2) (by simp)) ?_
      show 1 + _ ≤ _
      omega
  | @put s a b n h ih =>
    cases a with
    | nil =>
      rw [costM_put]
      refine Nat.le_trans (pickC_le _ (3, 1 + (costM [] b).2) (by simp)) ?_
      show 1 + _ ≤ _
      omega
    | cons x a =>
      rw [costM_all]
      refine Nat.le_trans (pickC_le _ (3, 1 + (costM (x :: a) b).2) (by simp)) ?_
      show 1 + _ ≤ _
      omega
  | @skip s a b n hf h ih =>
    cases a with
    | nil =>
      rw [costM_put]
      exact Nat.le_trans (pickC_le _ (4, (costM [] b).2) (by simp [hf])) ih
    | cons x a =>
      rw [costM_all]
      exact Nat.le_trans (pickC_le _ (4, (costM (x :: a) b).2) (by simp [hf])) ih
theorem cost_is (ws : List ByteArray) (ss : List Slot) : EdS ws ss (costM ws ss).2 := edS_cost _ ws ss (Nat.le_refl _)
theorem Ed.compS : ∀ (N : Nat) {a c : List ByteArray} {b : List Slot} {n m : Nat}, a.length + c.length + b.length ≤ N → Ed a c n → EdS c b m → ∃ k, k ≤ n + m ∧ EdS a b k := by
  intro N
  induction N with
  | zero =>
    intro a c b n m hN h1 h2
    have ha : a = [] := List.eq_nil_of_length_eq_zero (by omega)
    have hb : b = [] := List.eq_nil_of_length_eq_zero (by omega)
    subst ha; subst hb
    exact ⟨0, Nat.zero_le _, .nil⟩
  | succ N ih =>
    intro a c b n m hN h1 h2
    cases h2 with
    | nil =>
      cases h1 with
      | nil => exact ⟨0, Nat.zero_le _, .nil⟩
      | drop x h1 =>
        simp only [List.length_cons] at hN
        obtain ⟨k, hk, h⟩ := ih (by omega) h1 .nil
        exact ⟨k + 1, by omega, .drop x h⟩
    | put s h2 =>
      simp only [List.length_cons] at hN
      obtain ⟨k, hk, h⟩ := ih (by omega) h1 h2
      exact ⟨k + 1, by omega, .put s h⟩
    | skip s hf h2 =>
      simp only [List.length_cons] at hN
      obtain ⟨k, hk, h⟩ := ih (by omega) h1 h2
      exact ⟨k, by omega, .skip s hf h⟩
    | keep z s ht h2 =>
      simp only [List.length_cons] at hN
      cases h1 with
      | drop x h1 =>
        simp only [List.length_cons] at hN
        obtain ⟨k, hk, h⟩ := ih (by simp only [List.length_cons]; omega) h1 (EdS.keep z s ht h2)
        exact ⟨k + 1, by omega, .drop x h⟩
      | keep _ h1 =>
        simp only [List.length_cons] at hN
        obtain ⟨k, hk, h⟩ := ih (by omega) h1 h2
        exact ⟨k, by omega, .keep z s ht h⟩
      | turn x _ h1 =>
        simp only [List.length_cons] at hN
        obtain ⟨k, hk, h⟩ := ih (by omega) h1 h2
        exact ⟨k + 1, by omega, .turn x s h⟩
      | put _ h1 =>
        obtain ⟨k, hk, h⟩ := ih (by omega) h1 h2
        exact ⟨k + 1, by omega, .put s h⟩
    | turn z s h2 =>
      simp only [List.length_cons] at hN
      cases h1 with
      | drop x h1 =>
        simp only [List.length_cons] at hN
        obtain ⟨k, hk, h⟩ := ih (by simp only [List.length_cons]; omega) h1 (EdS.turn z s h2)
        exact ⟨k + 1, by omega, .drop x h⟩
      | keep _ h1 =>
        simp only [List.length_cons] at hN
        obtain ⟨k, hk, h⟩ := ih (by omega) h1 h2
        exact ⟨k + 1, by omega, .turn z s h⟩
      | turn x _ h1 =>
        simp only [List.length_cons] at hN
        obtain ⟨k, hk, h⟩ := ih (by omega) h1 h2
        exact ⟨k + 1, by omega, .turn x s h⟩
      | put _ h1 =>
        obtain ⟨k, hk, h⟩ := ih (by omega) h1 h2
        exact ⟨k + 1, by omega, .put s h⟩
    | drop z h2 =>
      simp only [List.length_cons] at hN
      cases h1 with
      | drop x h1 =>
        simp only [List.length_cons] at hN
        obtain ⟨k, hk, h⟩ := ih (by simp only [List.length_cons]; omega) h1 (EdS.drop z h2)
        exact ⟨k + 1, by omega, .drop x h⟩
      | keep _ h1 =>
        simp only [List.length_cons] at hN
        obtain ⟨k, hk, h⟩ := ih (by omega) h1 h2
        exact ⟨k + 1, by omega, .drop z h⟩
      | turn x _ h1 =>
        simp only [List.length_cons] at hN
        obtain ⟨k, hk, h⟩ := ih (by omega) h1 h2
        exact ⟨k + 1, by omega, .drop x h⟩
      | put _ h1 =>
        obtain ⟨k, hk, h⟩ := ih (by omega) h1 h2
        exact ⟨k, by omega, h⟩
theorem ed_cost {a b : List ByteArray} (hb : ∀ s ∈ b, wordM s = true) : Ed a b (costM a (givenM b)).2 := by
  rw [cost_far (a.length + b.length + 1) a b (by omega) hb]
  exact ed_far _ _ _ (by omega)
/-- by way of another letter no fewer, towards any slots -/
theorem cost_wayS {a c : List ByteArray} (ss : List Slot) (hc : ∀ s ∈ c, wordM s = true) : (costM a ss).2 ≤ (costM a (givenM c)).2 + (costM c ss).2 := by
  obtain ⟨k, hk, h⟩ := Ed.compS _ (Nat.le_refl _) (ed_cost (a := a) hc) (cost_is c ss)
  exact Nat.le_trans (cost_le h) hk

/-! ### no corrections at all: a way through the parts -/
/-- the slots of a part: those that can be empty come last, and take any word -/
structure Parted (sl : List Slot) : Prop where
  last : ∀ i j, i ≤ j → j < sl.length → (sl.getD i noSlot).free = true → (sl.getD j noSlot).free = true
  any : ∀ s ∈ sl, s.free = true → s.word.toList.isEmpty = true
theorem Parted.tail {s : Slot} {sl : List Slot} (h : Parted (s :: sl)) : Parted sl :=
  ⟨fun i j hij hj hf => h.last (i + 1) (j + 1) (by omega) (by simpa using hj) hf, fun x hx => h.any x (List.mem_cons_of_mem _ hx)⟩
theorem Parted.takes {sl : List Slot} (h : Parted sl) {i : Nat} (hi : i < sl.length) (hf : (sl.getD i noSlot).free = true) (x : ByteArray) : takesM (sl.getD i noSlot) x = true := by
  have e : sl.getD i noSlot = sl[i] := by simp [hi]
  rw [e] at hf ⊢
  simp [takesM, h.any _ (List.getElem_mem hi) hf]
theorem sizeOk_iff {sl : List Slot} {left : List ByteArray} {n : Nat} : sizeOk sl left n = true ↔ n ≤ left.length ∧ (sl.length ≤ n ∨ (sl.getD n noSlot).free = true) ∧ ∀ i, i < n → takesM (sl.getD i noSlot) (left.getD i ByteArray.empty) = true := by
  simp [sizeOk, and_assoc]
theorem edS_part : ∀ (sl : List Slot), Parted sl → ∀ (left : List ByteArray) (rest : List Slot), EdS left (sl ++ rest) 0 ↔ ∃ n, n ≤ sl.length ∧ sizeOk sl left n = true ∧ EdS (left.drop n) rest 0
  | [], hp, left, rest => by
    constructor
    · intro h
      exact ⟨0, Nat.le_refl _, by rw [sizeOk_iff]; simp, h⟩
    · rintro ⟨n, hn, -, h⟩
      obtain rfl : n = 0 := by simpa using hn
      exact h
  | s :: sl, hp, left, rest => by
    have ih := edS_part sl hp.tail
    constructor
    · intro h
      have key : ∀ {left : List ByteArray} {ss : List Slot} {n : Nat}, EdS left ss n → n = 0 → ss = s :: (sl ++ rest) → (∃ x a, left = x :: a ∧ takesM s x = true ∧ EdS a (sl ++ rest) 0) ∨ (s.free = true ∧ EdS left (sl ++ rest) 0) := by
        intro left ss n h
        cases h with
        | nil => intro _ e; cases e
        | keep x s' ht h => intro e0 e; cases e; subst e0; exact .inl ⟨_, _, rfl, ht, h⟩
        | turn => intro e0; cases e0
        | drop => intro e0; cases e0
        | put => intro e0; cases e0
        | skip s' hf h => intro e0 e; cases e; subst e0; exact .inr ⟨hf, h⟩
      rcases key h rfl rfl with ⟨x, a, rfl, ht, h⟩ | ⟨hf, h⟩
      · obtain ⟨n, hn, hs, h⟩ := (ih a rest).1 h
        rw [sizeOk_iff] at hs
        refine ⟨n + 1, by simpa using hn, ?_, by simpa using h⟩
        rw [sizeOk_iff]
        refine ⟨by simpa using hs.1, by simpa using hs.2.1, fun i hi => ?_⟩
        cases i with
        | zero => simpa using ht
        | succ i => simpa using hs.2.2 i (by omega)
      · obtain ⟨n, hn, hs, h⟩ := (ih left rest).1 h
        rw [sizeOk_iff] at hs
        have hall : ∀ j, j < (s :: sl).length → ((s :: sl).getD j noSlot).free = true := fun j hj => hp.last 0 j (Nat.zero_le _) hj (by simpa using hf)
        refine ⟨n, by simp; omega, ?_, h⟩
        rw [sizeOk_iff]
        refine ⟨hs.1, .inr (hall n (by simp; omega)), fun i hi => hp.takes (by simp; omega) (hall i (by simp; omega)) _⟩
    · rintro ⟨n, hn, hs, h⟩
      rw [sizeOk_iff] at hs
      cases n with
      | zero =>
        have hf : s.free = true := by
          rcases hs.2.1 with h1 | h1
          · simp at h1
          · simpa using h1
        refine .skip s hf ((ih left rest).2 ⟨0, Nat.zero_le _, ?_, h⟩)
        rw [sizeOk_iff]
        refine ⟨Nat.zero_le _, ?_, fun i hi => absurd hi (Nat.not_lt_zero _)⟩
        cases sl with
        | nil => exact .inl (Nat.le_refl _)
        | cons t sl => exact .inr (by simpa using hp.last 0 1 (by omega) (by simp) (by simpa using hf))
      | succ n =>
        obtain ⟨x, a, rfl⟩ : ∃ x a, left = x :: a := by cases left with | nil => simp at hs | cons x a => exact ⟨x, a, rfl⟩
        refine .keep x s (by simpa using hs.2.2 0 (by omega)) ((ih a rest).2 ⟨n, by simpa using hn, ?_, by simpa using h⟩)
        rw [sizeOk_iff]
        exact ⟨by simpa using hs.1, by simpa using hs.2.1, fun i hi => by simpa using hs.2.2 (i + 1) (by omega)⟩
theorem edS_nil {left : List ByteArray} : EdS left [] 0 ↔ left = [] := by
  constructor
  · intro h
    cases h
    rfl
  · rintro rfl; exact .nil
theorem waysTo_ne {step : Nat → List (Nat → Int)} {sl : List Slot} {left : List ByteArray} : ∀ k, waysTo step sl left k ≠ [] ↔ ∃ n, n < k ∧ sizeOk sl left n = true ∧ step n ≠ []
  | 0 => by simp [waysTo]
  | k + 1 => by
    have ih := waysTo_ne (step := step) (sl := sl) (left := left) k
    rw [waysTo]
    constructor
    · intro h
      by_cases h1 : waysTo step sl left k = []
      · rw [h1, List.nil_append] at h
        by_cases hs : sizeOk sl left k = true
        · rw [if_pos hs] at h; exact ⟨k, by omega, hs, h⟩
        · rw [if_neg hs] at h; exact absurd rfl h
      · obtain ⟨n, hn, hs⟩ := ih.1 h1
        exact ⟨n, by omega, hs⟩
    · rintro ⟨n, hn, hs, h⟩ e
      obtain ⟨e1, e2⟩ := List.append_eq_nil_iff.1 e
      by_cases hk : n < k
      · exact ih.2 ⟨n, hk, hs, h⟩ e1
      · obtain rfl : n = k := by omega
        rw [if_pos hs] at e2
        exact h e2
theorem edS_ways : ∀ (ss : List (List Slot)) (k : Nat) (left : List ByteArray) (c : Nat → Int), (∀ sl ∈ ss, Parted sl) → (EdS left ss.flatten 0 ↔ waysF ss k left c ≠ [])
  | [], k, left, c, _ => by
    unfold waysF
    rw [List.flatten_nil, edS_nil]
    constructor
    · rintro rfl; simp
    · intro h
      split at h
      · rename_i h1; exact List.eq_nil_of_length_eq_zero h1
      · exact absurd rfl h
  | sl :: r, k, left, c, hp => by
    rw [List.flatten_cons, edS_part sl (hp sl List.mem_cons_self), waysF, waysTo_ne]
    constructor
    · rintro ⟨n, hn, hs, h⟩
      exact ⟨n, by omega, hs, (edS_ways r (k + 1) _ _ fun x hx => hp x (List.mem_cons_of_mem _ hx)).1 h⟩
    · rintro ⟨n, hn, hs, h⟩
      exact ⟨n, by omega, hs, (edS_ways r (k + 1) _ _ fun x hx => hp x (List.mem_cons_of_mem _ hx)).2 h⟩
theorem room_parted (lo : Int) (n : Nat) : Parted (roomSlotsM lo n) := by
  have hlen : (roomSlotsM lo n).length = n := by simp [roomSlotsM]
  have hget : ∀ j, j < n → (roomSlotsM lo n).getD j noSlot = ⟨ByteArray.empty, decide (lo ≤ (j : Int))⟩ := fun j hj => by
    simp [roomSlotsM, hj]
  refine ⟨fun i j hij hj hf => ?_, fun s hs hf => ?_⟩
  · rw [hlen] at hj
    rw [hget i (by omega)] at hf
    rw [hget j hj]
    simp only [decide_eq_true_eq] at hf ⊢
    omega
  · simp only [roomSlotsM, List.mem_map] at hs
    obtain ⟨j, hj, rfl⟩ := hs
    simp
theorem given_parted (l : List ByteArray) : Parted (givenM l) := by
  have hno : ∀ s ∈ givenM l, s.free = false := fun s hs => by
    simp only [givenM, List.mem_map] at hs
    obtain ⟨j, hj, rfl⟩ := hs
    rfl
  refine ⟨fun i j hij hj hf => ?_, fun s hs hf => by rw [hno s hs] at hf; cases hf⟩
  have e : (givenM l).getD i noSlot = (givenM l)[i]'(by omega) := by
    rw [List.getD_eq_getElem?_getD, List.getElem?_eq_getElem (by omega)]; rfl
  rw [e, hno _ (List.getElem_mem _)] at hf
  cases hf
/-- a part that is right: words, or room -/
def PartOk (p : Part) : Prop := p.words = [] ∨ p.hi = 0
theorem part_parted {p : Part} (h : PartOk p) : Parted (partSlotsM p) := by
  unfold partSlotsM
  rcases h with h | h
  · rw [h]; exact room_parted _ _
  · rw [h]
    have : givenM p.words ++ roomSlotsM p.lo (0 : Int).toNat = givenM p.words := by simp [roomSlotsM]
    rw [this]
    exact given_parted _
theorem formSlots_flat (ps : List Part) : formSlotsM ps = (ps.map partSlotsM).flatten := by
  simp [formSlotsM, List.flatMap_def]
/-- no corrections are needed just if there is a way -/
theorem cost_none {ps : List Part} (h : ∀ p ∈ ps, PartOk p) (l : List ByteArray) : (costM l (formSlotsM ps)).2 = 0 ↔ (formWays ps l).length ≠ 0 := by
  have hw := edS_ways (ps.map partSlotsM) 0 l (fun _ => 0) (fun sl hsl => by
    obtain ⟨p, hp, rfl⟩ := List.mem_map.1 hsl
    exact part_parted (h p hp))
  rw [formSlots_flat]
  constructor
  · intro h0
    have := cost_is l (ps.map partSlotsM).flatten
    rw [h0] at this
    intro e
    exact hw.1 this (List.eq_nil_of_length_eq_zero e)
  · intro h0
    have := cost_le (hw.2 fun e => h0 (by unfold formWays; rw [e]; rfl))
    omega
end Go.Proofs.YtgcibmdohifiaaaGreat

namespace Go.Proofs.YtgcibmdohifiaaaGreat
set_option linter.unusedSimpArgs false
set_option linter.unusedVariables false
open Go.RowKit
set_option linter.unusedVariables false

theorem neT {x : Int} (h : x ≠ 0) : (x != 0) = true := by simpa using h
/-- the first that needs the fewest -/
theorem pick_first (fs : List Form) (l : List ByteArray) : ∀ n, 0 < n → (pickC (needsTo fs l n)).1 < n ∧ (pickC (needsTo fs l n)).2 = costOf fs l (pickC (needsTo fs l n)).1 ∧ (∀ i < n, (pickC (needsTo fs l n)).2 ≤ costOf fs l i) ∧ (∀ i < (pickC (needsTo fs l n)).1, (pickC (needsTo fs l n)).2 < costOf fs l i)
  | 0, h => absurd h (by omega)
  | n + 1, _ => by
    have hst : pickC (needsTo fs l (n + 1)) = if n = 0 ∨ fewCh (n, costOf fs l n) (pickC (needsTo fs l n)) = true then (n, costOf fs l n) else pickC (needsTo fs l n) := by
      rw [needsTo_step]
      unfold pickC
      rw [pickB_snoc, pickB_many, needsTo_len]
    by_cases h0 : n = 0
    · subst h0
      rw [if_pos (.inl rfl)] at hst
      rw [hst]
      refine ⟨by simp, rfl, fun i hi => ?_, fun i hi => absurd hi (by simp)⟩
      obtain rfl : i = 0 := by omega
      exact Nat.le_refl _
    · obtain ⟨g1, g2, g3, g4⟩ := pick_first fs l n (by omega)
      by_cases hf : fewCh (n, costOf fs l n) (pickC (needsTo fs l n)) = true
      · rw [if_pos (.inr hf)] at hst
        rw [hst]
        unfold fewCh at hf
        have hf' := of_decide_eq_true hf
        simp only at hf' ⊢
        refine ⟨by omega, trivial, fun i hi => ?_, fun i hi => ?_⟩
        · by_cases hin : i = n
          · subst hin; exact Nat.le_refl _
          · have := g3 i (by omega); omega
        · have := g3 i (by omega); omega
      · rw [if_neg (by simp [h0, hf])] at hst
        rw [hst]
        unfold fewCh at hf
        have hf' := of_decide_eq_false (Bool.eq_false_iff.2 hf)
        simp only at hf'
        refine ⟨by omega, g2, fun i hi => ?_, g4⟩
        by_cases hin : i = n
        · subst hin; omega
        · exact g3 i (by omega)
theorem ofTo_mem (fs : List Form) (l : List ByteArray) : ∀ (k i : Nat), ((i : Int) ∈ ofTo fs l k ↔ i < k ∧ 0 < (formWays (fs.getD i ⟨⟨#[]⟩, []⟩).parts l).length)
  | 0, i => by simp [ofTo]
  | k + 1, i => by
    rw [ofTo, List.mem_append, ofTo_mem fs l k i]
    by_cases h : 0 < (formWays (fs.getD k ⟨⟨#[]⟩, []⟩).parts l).length
    · rw [if_pos h]
      constructor
      · rintro (⟨h1, h2⟩ | h1)
        · exact ⟨by omega, h2⟩
        · have : (i : Int) = k := by simpa using h1
          obtain rfl : i = k := by omega
          exact ⟨by omega, h⟩
      · rintro ⟨h1, h2⟩
        by_cases hik : i = k
        · right; simp [hik]
        · left; exact ⟨by omega, h2⟩
    · rw [if_neg h]
      constructor
      · rintro (⟨h1, h2⟩ | h1)
        · exact ⟨by omega, h2⟩
        · simp at h1
      · rintro ⟨h1, h2⟩
        by_cases hik : i = k
        · subst hik; exact absurd h2 h
        · left; exact ⟨by omega, h2⟩
theorem rising_snoc (b x : Int) : ∀ (l : List Int) (a : Int), (∀ y ∈ l, y < x) → a < x → x < b → risingM b a l = true → risingM b a (l ++ [x]) = true
  | [], a, _, ha, hx, _ => by simp [risingM, ha, hx]
  | y :: l, a, hl, ha, hx, h => by
    rw [risingM, Bool.and_eq_true, Bool.and_eq_true] at h
    rw [List.cons_append, risingM, Bool.and_eq_true, Bool.and_eq_true]
    exact ⟨h.1, rising_snoc b x l y (fun z hz => hl z (List.mem_cons_of_mem _ hz)) (hl y List.mem_cons_self) hx h.2⟩
theorem ofTo_lt (fs : List Form) (l : List ByteArray) : ∀ (k : Nat), ∀ x ∈ ofTo fs l k, x < (k : Int)
  | 0, x, h => by simp [ofTo] at h
  | k + 1, x, h => by
    rw [ofTo, List.mem_append] at h
    rcases h with h | h
    · have := ofTo_lt fs l k x h; omega
    · split at h
      · have : x = k := by simpa using h
        omega
      · simp at h
theorem ofTo_rising (fs : List Form) (l : List ByteArray) (b : Nat) : ∀ k, k ≤ b → risingM b (-1) (ofTo fs l k) = true
  | 0, _ => rfl
  | k + 1, hk => by
    rw [ofTo]
    have ih := ofTo_rising fs l b k (by omega)
    split
    · exact rising_snoc _ _ _ _ (ofTo_lt fs l k) (by omega) (by omega) ih
    · rwa [List.append_nil]
theorem valid_partOk {p : Part} (h : ValidPart p) : PartOk p := by
  by_cases hw : p.words = []
  · exact .inl hw
  · exact .inr (h.z hw).2
/-- no corrections are needed just if the letter is of the form -/
theorem cost_of {s : Shelf} (hv : ValidShelf s) (l : List ByteArray) (i : Nat) (hi : i < s.forms.length) : decide ((i : Int) ∈ ofM s l) = ((costOf s.forms l i : Int) == 0) := by
  have h1 := ofTo_mem s.forms l s.forms.length i
  have h2 := cost_none (fun p hp => valid_partOk ((hv.forms _ (List.getElem_mem hi)).parts p hp)) l
  have e1 : s.forms.getD i ⟨⟨#[]⟩, []⟩ = s.forms[i] := by rw [List.getD_eq_getElem?_getD, List.getElem?_eq_getElem hi]; rfl
  rw [e1] at h1
  have e2 : costOf s.forms l i = (costM l (formSlotsM s.forms[i].parts)).2 := by simp [costOf, hi]
  rw [e2]
  unfold ofM
  by_cases h : (costM l (formSlotsM s.forms[i].parts)).2 = 0
  · rw [h]
    rw [decide_eq_true (h1.2 ⟨hi, Nat.pos_of_ne_zero (h2.1 h)⟩)]; rfl
  · rw [decide_eq_false (fun e => h (h2.2 (by have := (h1.1 e).2; omega)))]
    symm; simpa using h
theorem mend_cost {s : Shelf} {l : List ByteArray} (hv : errS s = 0) (hl : letterErrL l = 0) (i : Nat) (hi : i < s.forms.length) : openForErrM s i l = 0 ∧ mendM s i l = costOf s.forms l i := by
  have h1 : openErrM s i = 0 := by
    unfold openErrM
    rw [if_neg (by rw [hv]; simp), if_neg]
    unfold inM
    simp only [Bool.and_eq_false_iff, decide_eq_false_iff_not, not_or, Decidable.not_not]
    omega
  have h2 : openForErrM s i l = 0 := by unfold openForErrM; rw [if_neg (by rw [h1]; simp), hl]
  refine ⟨h2, ?_⟩
  unfold mendM
  rw [if_pos h2]
  simp [costOf, hi]
/-- Nearest, where it is right -/
structure NearOk (s : Shelf) (l : List ByteArray) : Prop where
  e : nearErrM s l = 0
  lt : (nearV s l).1 < s.forms.length
  is : costOf s.forms l (nearV s l).1 = (nearV s l).2
  le : ∀ i < s.forms.length, (nearV s l).2 ≤ costOf s.forms l i
  fst : ∀ i < (nearV s l).1, (nearV s l).2 < costOf s.forms l i
theorem near_ok {s : Shelf} {l : List ByteArray} (hv : errS s = 0) (h0 : s.forms.length ≠ 0) (hl : letterErrL l = 0) : NearOk s l := by
  have he : nearErrM s l = 0 := by
    unfold nearErrM
    have : shelfErrM s l = 0 := by unfold shelfErrM; rw [if_neg (by rw [hv]; simp), hl]
    rw [if_neg (by rw [this]; simp), if_neg h0]
  have hn : nearV s l = pickC (needsTo s.forms l s.forms.length) := by unfold nearV; rw [if_pos he]; rfl
  obtain ⟨g1, g2, g3, g4⟩ := pick_first s.forms l s.forms.length (by omega)
  rw [← hn] at g1 g2 g3 g4
  exact ⟨he, g1, g2.symm, g3, g4⟩
theorem near_bad {s : Shelf} {l : List ByteArray} (h : errS s ≠ 0 ∨ s.forms.length = 0 ∨ letterErrL l ≠ 0) : nearErrM s l ≠ 0 ∧ nearV s l = (0, 0) := by
  have he : nearErrM s l ≠ 0 := by
    unfold nearErrM
    by_cases h0 : shelfErrM s l = 0
    · rw [if_neg (by rw [h0]; simp), if_pos]
      · decide
      · unfold shelfErrM at h0
        by_cases h1 : errS s = 0
        · rw [if_neg (by rw [h1]; simp)] at h0
          rcases h with h | h | h
          · exact absurd h1 h
          · exact h
          · exact absurd h0 h
        · rw [if_pos h1] at h0; exact absurd h0 h1
    · rw [if_pos h0]; exact h0
  exact ⟨he, by unfold nearV; rw [if_neg he]⟩
set_option maxRecDepth 100000 in
set_option maxHeartbeats 4000000 in
theorem nearestL_any (sv lv : Value) (s : Shelf) (l : List ByteArray) (w : World) (hs : ShelfAt w sv s) (hl : StrsAt w lv l) :
    Calls Tryz.prog 11 #[sv, lv] w fun e w' => e = .returned (.bool true) ∧ Ext w w' := by
  obtain ⟨fa, fc, rfl, -⟩ := hs.open
  obtain ⟨la, lc, rfl, -⟩ := hl.shape
  obtain ⟨W, hW, hb, q0, q1, x1⟩ := box_shelf hs
  replace hl := hl.ext x1
  have z1 := cell_lt q0
  have HW := Lib.hid hW
  clear hs hW
  go_enter Tryz.func11, Tryz.ntmps11
  go_wp2_with fail
  rw [← HW.out]
  clear HW
  refine (Nearest_any _ _ s l _ hb hl).mono ?_
  rintro e w2 ⟨rfl, hx⟩
  (replace hb := hb.ext hx; replace q0 := hx.cell q0; replace q1 := hx.cell q1; replace z1 := cell_lt q0; replace x1 := x1.trans hx; replace hl := hl.ext hx; clear hx)
  by_cases hbad : errS s ≠ 0 ∨ s.forms.length = 0 ∨ letterErrL l ≠ 0
  · obtain ⟨g1, g2⟩ := near_bad hbad
    rw [g2]
    generalize nearErrM s l = e1 at *
    have g1' := neT g1
    clear g1 g2
    by_cases h1 : errS s = 0
    · by_cases h2 : s.forms.length = 0
      · have h2' : ((s.forms.length : Int) == 0) = true := by rw [h2]; rfl
        clear h2 hbad
        go_wp2_with fail
        refine (validL_any _ s _ hb).mono ?_
        rw [show (errS s == 0) = true from by rw [h1]; rfl]
        rintro e w3 ⟨rfl, hx⟩
        (replace hb := hb.ext hx; replace q0 := hx.cell q0; replace q1 := hx.cell q1; replace z1 := cell_lt q0; replace x1 := x1.trans hx; replace hl := hl.ext hx; clear hx)
        clear h1
        go_wp2_with fail
        refine (awakeL_any _).mono ?_
        rintro e w7 ⟨rfl, hx⟩
        go_wp2
        go_ret
        exact ⟨rfl, x1.trans hx⟩
      · have h3 : letterErrL l ≠ 0 := by
          rcases hbad with h | h | h
          · exact absurd h1 h
          · exact absurd h h2
          · exact h
        have h2' : ((s.forms.length : Int) == 0) = false := by simpa using h2
        have h3' := neT h3
        clear h2 hbad h3
        go_wp2_with fail
        refine (validL_any _ s _ hb).mono ?_
        rw [show (errS s == 0) = true from by rw [h1]; rfl]
        rintro e w3 ⟨rfl, hx⟩
        (replace hb := hb.ext hx; replace q0 := hx.cell q0; replace q1 := hx.cell q1; replace z1 := cell_lt q0; replace x1 := x1.trans hx; replace hl := hl.ext hx; clear hx)
        clear h1
        go_wp2_with fail
        refine (refLett_any _ l _ hl).mono ?_
        rintro e w4 ⟨rfl, hx⟩
        (replace hb := hb.ext hx; replace q0 := hx.cell q0; replace q1 := hx.cell q1; replace z1 := cell_lt q0; replace x1 := x1.trans hx; replace hl := hl.ext hx; clear hx)
        generalize letterErrL l = e2 at *
        go_wp2_with fail
        refine (awakeL_any _).mono ?_
        rintro e w7 ⟨rfl, hx⟩
        go_wp2
        go_ret
        exact ⟨rfl, x1.trans hx⟩
    · clear hbad
      go_wp2_with fail
      refine (validL_any _ s _ hb).mono ?_
      rw [show (errS s == 0) = false from by simpa using h1]
      rintro e w3 ⟨rfl, hx⟩
      (replace hb := hb.ext hx; replace q0 := hx.cell q0; replace q1 := hx.cell q1; replace z1 := cell_lt q0; replace x1 := x1.trans hx; replace hl := hl.ext hx; clear hx)
      clear h1
      go_wp2_with fail
      refine (awakeL_any _).mono ?_
      rintro e w7 ⟨rfl, hx⟩
      go_wp2
      go_ret
      exact ⟨rfl, x1.trans hx⟩
  · have h1 : errS s = 0 := Decidable.not_not.1 fun e => hbad (.inl e)
    have h2 : s.forms.length ≠ 0 := fun e => hbad (.inr (.inl e))
    have h3 : letterErrL l = 0 := Decidable.not_not.1 fun e => hbad (.inr (.inr e))
    have N := Lib.hid (near_ok h1 h2 h3)
    have hv4 := (errS_ok h1).n
    have V := Lib.hid (errS_ok h1)
    have H1 := Lib.hid h1
    have H3 := Lib.hid h3
    have hse : shelfErrM s l = 0 := by unfold shelfErrM; rw [if_neg (by rw [h1]; simp), h3]
    have Hse := Lib.hid hse
    have h2' : ((s.forms.length : Int) == 0) = false := by simpa using h2
    rw [N.out.e]
    obtain ⟨n, m, hnm⟩ : ∃ n m, nearV s l = (n, m) := ⟨_, _, rfl⟩
    have hnl : n < s.forms.length := by have := N.out.lt; rw [hnm] at this; exact this
    have Hnm := Lib.hid hnm
    rw [hnm]
    clear hbad h1 h3 hse h2 hnm
    go_wp2_with fail
    refine (validL_any _ s _ hb).mono ?_
    rw [show (errS s == 0) = true from by rw [H1.out]; rfl]
    rintro e w3 ⟨rfl, hx⟩
    (replace hb := hb.ext hx; replace q0 := hx.cell q0; replace q1 := hx.cell q1; replace z1 := cell_lt q0; replace x1 := x1.trans hx; replace hl := hl.ext hx; clear hx)
    go_wp2_with fail
    refine (refLett_any _ l _ hl).mono ?_
    rw [H3.out]
    rintro e w4 ⟨rfl, hx⟩
    (replace hb := hb.ext hx; replace q0 := hx.cell q0; replace q1 := hx.cell q1; replace z1 := cell_lt q0; replace x1 := x1.trans hx; replace hl := hl.ext hx; clear hx)
    go_wp2_with fail
    refine (of_any _ _ s l _ hb hl).mono ?_
    rw [Hse.out]
    rintro e w5 ⟨u, rfl, ⟨ov, rfl, ho, -⟩, hx⟩
    (replace hb := hb.ext hx; replace q0 := hx.cell q0; replace q1 := hx.cell q1; replace z1 := cell_lt q0; replace x1 := x1.trans hx; replace hl := hl.ext hx; clear hx)
    replace ho := ho rfl
    obtain ⟨oa, oc, rfl, -⟩ := ho.shape
    go_wp2_with fail
    refine (In_any _ _ _ _).mono ?_
    rintro e w6 ⟨rfl, rfl⟩
    rw [show inM (n : Nat) 0 ((s.forms.length : Int) - 1) = true from by unfold inM; rw [Bool.and_eq_true]; exact ⟨decide_eq_true (by omega), decide_eq_true (by omega)⟩]
    go_wp2_with fail
    refine (rising_any _ _ (ofM s l) _ ho).mono ?_
    rw [show risingM (s.forms.length : Nat) (-1) (ofM s l) = true from ofTo_rising _ _ _ _ (Nat.le_refl _)]
    rintro e w7 ⟨rfl, hx⟩
    replace ho := ho.ext hx
    (replace hb := hb.ext hx; replace q0 := hx.cell q0; replace q1 := hx.cell q1; replace z1 := cell_lt q0; replace x1 := x1.trans hx; replace hl := hl.ext hx; clear hx)
    go_wp2_with fail
    go_loopw [10] (fun i wr => ∃ k : Nat, k ≤ s.forms.length ∧ i = .int .i64 k ∧ Ext w7 wr) (fun i _ => s.forms.length - (intOf i).toNat)
    case atStart => exact ⟨0, Nat.zero_le _, rfl, Ext.refl _⟩
    case round =>
      obtain ⟨k, hk, rfl, hxr⟩ := hrel
      replace hb := hb.ext hxr
      replace q0 := hxr.cell q0
      replace q1 := hxr.cell q1
      replace z1 := cell_lt q0
      replace hl := hl.ext hxr
      replace ho := ho.ext hxr
      by_cases hlt : k < s.forms.length
      · have k1 : (k : Int) < (s.forms.length : Int) := by omega
        have hkI : I64 k := by constructor <;> omega
        obtain ⟨m1, m2⟩ := mend_cost H1.out H3.out k hlt
        have hof := cost_of V.out l k hlt
        have hle : ¬ ((costOf s.forms l k : Nat) : Int) < (m : Int) := by
          have := N.out.le k hlt
          rw [Hnm.out] at this
          simp only at this; omega
        have hcs : (k < n ∧ (((costOf s.forms l k : Nat) : Int) == (m : Int)) = false) ∨ (k = n ∧ costOf s.forms l k = m) ∨ n < k := by
          by_cases h1 : k < n
          · refine .inl ⟨h1, ?_⟩
            have := N.out.fst k (by rw [Hnm.out]; exact h1)
            rw [Hnm.out] at this
            simp only at this
            simp; omega
          · by_cases h2 : k = n
            · refine .inr (.inl ⟨h2, ?_⟩)
              have := N.out.is
              rw [Hnm.out] at this
              rw [h2]; exact this
            · exact .inr (.inr (by omega))
        have hme := fun w' v1 v2 (x1 : ShelfAt w' v1 s) (x2 : StrsAt w' v2 l) => Mend_any v1 v2 s k hkI l w' x1 x2
        rw [m1, m2] at hme
        generalize costOf s.forms l k = c at *
        clear m1 m2 N V H1 H3 Hse Hnm
        rcases hcs with ⟨c1, c2⟩ | ⟨rfl, rfl⟩ | c1
        · have c1' : (k : Int) < (n : Int) := by omega
          have c3 : ((k : Int) == (n : Int)) = false := by simp; omega
          go_wp2_with fail
          refine (hme _ _ _ hb hl).mono ?_
          rintro e wa ⟨rfl, hx⟩
          replace ho := ho.ext hx
          replace q0 := hx.cell q0
          replace q1 := hx.cell q1
          replace z1 := cell_lt q0
          replace hxr := hxr.trans hx
          clear hx hb hl hme
          go_wp2_with fail
          refine (has_any _ _ (ofM s l) _ ho).mono ?_
          rw [hof]
          rintro e wb ⟨rfl, hx⟩
          replace hxr := hxr.trans hx
          clear hx ho hof
          cases hc : (c : Int) == 0
          all_goals
            go_wp2
            go_roundw
            case rel => exact ⟨k + 1, by omega, by go_num, hxr⟩
            case measure => simp [intOf]; omega
        · have c1' : ¬ (k : Int) < (k : Int) := by omega
          have c3 : ((k : Int) == (k : Int)) = true := by simp
          have c4 : ((c : Int) != (c : Int)) = false := by simp
          go_wp2_with fail
          refine (hme _ _ _ hb hl).mono ?_
          rintro e wa ⟨rfl, hx⟩
          replace ho := ho.ext hx
          replace q0 := hx.cell q0
          replace q1 := hx.cell q1
          replace z1 := cell_lt q0
          replace hxr := hxr.trans hx
          clear hx hb hl hme
          go_wp2_with fail
          refine (has_any _ _ (ofM s l) _ ho).mono ?_
          rw [hof]
          rintro e wb ⟨rfl, hx⟩
          replace hxr := hxr.trans hx
          clear hx ho hof
          cases hc : (c : Int) == 0
          all_goals
            go_wp2
            go_roundw
            case rel => exact ⟨k + 1, by omega, by go_num, hxr⟩
            case measure => simp [intOf]; omega
        · have c1' : ¬ (k : Int) < (n : Int) := by omega
          have c3 : ((k : Int) == (n : Int)) = false := by simp; omega
          go_wp2_with fail
          refine (hme _ _ _ hb hl).mono ?_
          rintro e wa ⟨rfl, hx⟩
          replace ho := ho.ext hx
          replace q0 := hx.cell q0
          replace q1 := hx.cell q1
          replace z1 := cell_lt q0
          replace hxr := hxr.trans hx
          clear hx hb hl hme
          go_wp2_with fail
          refine (has_any _ _ (ofM s l) _ ho).mono ?_
          rw [hof]
          rintro e wb ⟨rfl, hx⟩
          replace hxr := hxr.trans hx
          clear hx ho hof
          cases hc : (c : Int) == 0
          all_goals
            go_wp2
            go_roundw
            case rel => exact ⟨k + 1, by omega, by go_num, hxr⟩
            case measure => simp [intOf]; omega
      · go_wp2_with fail
        refine (awakeL_any _).mono ?_
        rintro e w9 ⟨rfl, hx⟩
        go_wp2
        go_ret
        exact ⟨rfl, (x1.trans hxr).trans hx⟩
end Go.Proofs.YtgcibmdohifiaaaGreat
