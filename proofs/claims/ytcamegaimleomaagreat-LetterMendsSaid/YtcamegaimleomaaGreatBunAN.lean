/-
  ERRORS OF THE REFERENCE: Roomy, part, Check, form and letter return what the program's do.
  ERRORS BEHIND ONE ANOTHER: letter and form of the reference, valid of the statements.
  LetterMarks: Fewest and Apply return what the document says, for any letters and marks.
  A BOOK THAT IS HANDED IN, opened: lists of letters, alphabets and spellings as they lie in memory.
  LETTERS, MARKS, FILLS AND SHELVES that are handed in, opened.
  A CALL THAT LETS ALL BE AS IT WAS, AND ANSWERS AS IT SHOULD, KEEPS A LAW's WORD.
  CORRECTIONS TOWARDS SLOTS, as ways: what the choices find is the fewest; by way of another letter no fewer.
  WITH MORE ROOM no more corrections are needed, plain.
-/
import Derived.Test.YtcamegaimleomaaGreatBunAB
import Derived.Test.YtcamegaimleomaaGreatBunAD
import Derived.Test.YtcamegaimleomaaGreatBunAL
import Derived.Test.YtcamegaimleomaaGreatBunAM
import Derived.Test.YtcamegaimleomaaGreatBunAJ
import Derived.RegionTactic
import Derived.BigRegion
import Derived.Deep.CutBlock
import Derived.Deep.DeepCutAuto
import Derived.Test.YtcamegaimleomaaGreatBunAC
import Derived.Test.YtcamegaimleomaaGreatBunAK
import Derived.Test.YtcamegaimleomaaGreatBunAA
import Derived.Deep.Slices
import Derived.Deep.Strs
import Derived.WideKeyArgs
import Derived.OpenShut
import Derived.ProofKit
namespace Go.Proofs.YtcamegaimleomaaGreat
set_option linter.unusedSimpArgs false
set_option linter.unusedVariables false
open Go.RowKit
set_option linter.unusedVariables false

theorem refRoomy_any (a : Option Addr) (n cap : Nat) (lo hi : Int) (w : World) :
    Calls Tryz.prog 28 #[.agg #[.slice a n cap, .int .i64 lo, .int .i64 hi]] w fun e w' => e = .returned (.bool ((n : Int) == 0)) ∧ Ext w w' := by
  go_enter Tryz.func28, Tryz.ntmps28
  go_wp2
  go_ret
  exact ⟨by simp, (by first | (with_reducible exact Ext.refl _) | (with_reducible assumption) | (show Below _ _ _; go_grown; done))⟩
theorem span_fields : ∃ f g, (Tryz.prog.fieldsOf 57).toList = [f, g] ∧ f.type = 3 ∧ f.offset = 0 ∧ g.type = 3 ∧ g.offset = 1 ∧ f.name = "Lo" ∧ g.name = "Hi" := by
  have hf : ((Tryz.prog.fieldsOf 57).toList.map fun f => (f.name, f.type, f.offset)) = [("Lo", 3, 0), ("Hi", 3, 1)] := by kernel_rfl
  generalize (Tryz.prog.fieldsOf 57).toList = fs at *
  obtain ⟨f, g, rfl⟩ : ∃ f g, fs = [f, g] := by
    rcases fs with _ | ⟨f, _ | ⟨g, _ | ⟨h, r⟩⟩⟩
    · simp at hf
    · simp at hf
    · exact ⟨f, g, rfl⟩
    · simp at hf
  simp only [List.map_cons, List.map_nil, List.cons.injEq, Prod.mk.injEq, and_true] at hf
  obtain ⟨⟨h1, h2, h3⟩, h4, h5, h6⟩ := hf
  exact ⟨f, g, rfl, h2, h3, h5, h6, h1, h4⟩
theorem equal_span (a b c d : Int) (w : World) : (Op.equal 57 (.agg #[.int .i64 a, .int .i64 b]) (.agg #[.int .i64 c, .int .i64 d])).run Tryz.prog w = .ok (decide (a = c ∧ b = d)) w := by
  have hop : ∀ x y : Value, Op.equal 57 x y = Op.equalIn Op.maxDepth 57 x y := fun _ _ => rfl
  obtain ⟨m0, hd⟩ : ∃ m0, Op.maxDepth = m0 + 2 := ⟨9998, by decide⟩
  have ha : ∀ w, (isAgg 3).run Tryz.prog w = .ok false w := fun _ => by kernel_rfl
  rw [hop, hd]
  rw [run_equalIn_struct _ _ _ _ _ (by kernel_rfl) (by kernel_rfl)]
  obtain ⟨f, g, hfs, h2, h3, h5, h6, n1, n2⟩ := span_fields
  rw [hfs]
  simp [Op.eqFields, h2, h3, h5, h6, n1, n2, part, ha, go_sem]
  by_cases e1 : a = c <;> by_cases e2 : b = d <;> simp [e1, e2]
theorem neq_span (a b c d : Int) (w : World) : (binOp .neq 57 (.agg #[.int .i64 a, .int .i64 b]) (.agg #[.int .i64 c, .int .i64 d])).run Tryz.prog w = .ok (.bool (!decide (a = c ∧ b = d))) w := by
  have h := equal_span a b c d w
  have hop : Op.equal 57 (.agg #[.int .i64 a, .int .i64 b]) (.agg #[.int .i64 c, .int .i64 d]) = Op.equalIn 10000 57 (.agg #[.int .i64 a, .int .i64 b]) (.agg #[.int .i64 c, .int .i64 d]) := rfl
  rw [hop] at h
  rw [run_neq_struct, h]
  rfl
set_option maxRecDepth 100000 in
set_option maxHeartbeats 2000000 in
theorem refPart_any (v : Value) (p : Part) (w : World) (hp : PartV w v p) :
    Calls Tryz.prog 101 #[v] w fun e w' => e = .returned (.int .i64 (partErrM p)) ∧ Ext w w' := by
  obtain ⟨u, rfl, hs, hlo, hhi⟩ := hp
  obtain ⟨a, cap, rfl, hlc, hcm⟩ := hs.shape
  unfold partErrM
  by_cases h3 : 3 < p.words.length
  · rw [if_pos h3]
    have k1 : (3 : Int) < (p.words.length : Int) := by omega
    go_enter Tryz.func101, Tryz.ntmps101
    go_wp2
    go_ret
    exact ⟨rfl, (by first | (with_reducible exact Ext.refl _) | (with_reducible assumption) | (show Below _ _ _; go_grown; done))⟩
  rw [if_neg h3]
  have k1 : ¬ (3 : Int) < (p.words.length : Int) := by omega
  have xB : Ext w (w.alloc (.cells #[.slice a p.words.length cap, .int .i64 p.lo, .int .i64 p.hi] 59)) := ext_alloc _ _
  have hw := refWords_any _ p.words _ (hs.ext xB)
  have b0 : ((w.alloc (.cells #[.slice a p.words.length cap, .int .i64 p.lo, .int .i64 p.hi] 59))).cell? ⟨w.heap.size, 0, none⟩ = some (.slice a p.words.length cap) := by simp [go_sem]
  have b1 : ((w.alloc (.cells #[.slice a p.words.length cap, .int .i64 p.lo, .int .i64 p.hi] 59))).cell? ⟨w.heap.size, 1, none⟩ = some (.int .i64 p.lo) := by simp [go_sem]
  have b2 : ((w.alloc (.cells #[.slice a p.words.length cap, .int .i64 p.lo, .int .i64 p.hi] 59))).cell? ⟨w.heap.size, 2, none⟩ = some (.int .i64 p.hi) := by simp [go_sem]
  have B0 := Lib.hid b0
  have B1 := Lib.hid b1
  have B2 := Lib.hid b2
  clear b0 b1 b2
  cases hb : wordsM p.words
  · rw [if_pos rfl]
    rw [hb] at hw
    clear hb
    go_enter Tryz.func101, Tryz.ntmps101
    go_wp2_with fail
    refine hw.mono ?_
    rintro e w1 ⟨rfl, hx⟩
    go_wp2
    go_ret
    exact ⟨rfl, hx.of_alloc⟩
  rw [if_neg (by decide)]
  rw [hb] at hw
  clear hb
  have hnq := fun w => neq_span p.lo p.hi 0 0 w
  by_cases h0 : p.words.length = 0
  · rw [if_neg (by omega)]
    have e0 : ((p.words.length : Int) == 0) = true := by simp [h0]
    have hcase : (inM p.lo 0 3 = false ∨ inM p.hi 0 3 = false ∨ p.hi = 0) ↔ (inM p.lo 0 3 = false ∨ inM p.hi 1 3 = false) := by
      have : (inM p.hi 1 3 = false) ↔ (inM p.hi 0 3 = false ∨ p.hi = 0) := by simp [inM]; omega
      rw [this]
    have Hc := Lib.hid hcase
    clear hcase hnq h0
    obtain ⟨er, her⟩ : ∃ er : Int, (if inM p.lo 0 3 = false ∨ inM p.hi 0 3 = false ∨ p.hi = 0 then 7 else if p.hi < p.lo then 2 else 0) = er := ⟨_, rfl⟩
    rw [her]
    have Her := Lib.hid her
    clear her
    go_enter Tryz.func101, Tryz.ntmps101
    go_wp2_with fail
    refine hw.mono ?_
    rintro e w1 ⟨rfl, hx⟩
    have c0 := hx.cell B0.out
    have c1 := hx.cell B1.out
    have c2 := hx.cell B2.out
    have x1 : Ext w w1 := hx.of_alloc
    have z1 : w.heap.size < w1.heap.size := cell_lt c0
    clear hw hx B0 B1 B2 xB hs
    go_wp2_with fail
    refine (refRoomy_any a _ cap p.lo p.hi w1).mono ?_
    rintro e w2 ⟨rfl, hx⟩
    replace c0 := hx.cell c0
    replace c1 := hx.cell c1
    replace c2 := hx.cell c2
    replace x1 := x1.trans hx
    replace z1 : w.heap.size < w2.heap.size := cell_lt c0
    clear hx
    rw [e0]
    clear e0
    go_wp2_with fail
    (refine (In_any _ _ _ _).mono ?_; rintro e w' ⟨rfl, rfl⟩)
    cases h1 : inM p.lo 0 3
    · have H1 := Lib.hid h1
      clear h1
      go_wp2
      go_ret
      exact ⟨ret_int (by rw [← Her.out, if_pos (Hc.out.2 (.inl H1.out))]), x1⟩
    have H1 := Lib.hid h1
    clear h1
    go_wp2_with fail
    (refine (In_any _ _ _ _).mono ?_; rintro e w' ⟨rfl, rfl⟩)
    cases h2 : inM p.hi 1 3
    · have H2 := Lib.hid h2
      clear h2
      go_wp2
      go_ret
      exact ⟨ret_int (by rw [← Her.out, if_pos (Hc.out.2 (.inr H2.out))]), x1⟩
    have H2 := Lib.hid h2
    clear h2
    have hno : ¬ (inM p.lo 0 3 = false ∨ inM p.hi 0 3 = false ∨ p.hi = 0) := fun h => by
      rcases Hc.out.1 h with h | h
      · rw [H1.out] at h; cases h
      · rw [H2.out] at h; cases h
    have Hno := Lib.hid hno
    clear hno Hc
    by_cases h5 : p.hi < p.lo
    · have H5 := Lib.hid h5
      go_wp2
      go_ret
      exact ⟨ret_int (by rw [← Her.out, if_neg Hno.out, if_pos H5.out]), x1⟩
    · have H5 := Lib.hid h5
      go_wp2
      go_ret
      exact ⟨ret_int (by rw [← Her.out, if_neg Hno.out, if_neg (by have := H5.out; omega)]), x1⟩
  · rw [if_pos h0]
    have e0 : ((p.words.length : Int) == 0) = false := by simp [h0]
    clear h0
    by_cases h1 : p.lo = 0 ∧ p.hi = 0
    all_goals
      first | rw [if_pos h1] | rw [if_neg h1]
      first | rw [decide_eq_true h1] at hnq | rw [decide_eq_false h1] at hnq
      clear h1
      go_enter Tryz.func101, Tryz.ntmps101
      go_wp2_with fail
      refine hw.mono ?_
      rintro e w1 ⟨rfl, hx⟩
      have c0 := hx.cell B0.out
      have c1 := hx.cell B1.out
      have c2 := hx.cell B2.out
      have x1 : Ext w w1 := hx.of_alloc
      have z1 : w.heap.size < w1.heap.size := cell_lt c0
      clear hw hx B0 B1 B2 xB hs
      go_wp2_with fail
      refine (refRoomy_any a _ cap p.lo p.hi w1).mono ?_
      rintro e w2 ⟨rfl, hx⟩
      replace c0 := hx.cell c0
      replace c1 := hx.cell c1
      replace c2 := hx.cell c2
      replace x1 := x1.trans hx
      replace z1 : w.heap.size < w2.heap.size := cell_lt c0
      clear hx
      rw [e0]
      clear e0
      go_wp2
      go_ret
      exact ⟨rfl, x1⟩
theorem formErr_fresh (before : List Form) (f : Form) : formErrM before f = if freshM f.name (before.map (·.name)) ≠ 0 then freshM f.name (before.map (·.name)) else if 5 < f.parts.length then 3 else (firstErr (fun _ => partErrM) f.parts).2 := by
  rw [formErr_name]
  rfl
/-- the first error of some parts, if there is none before -/
theorem parts_step (ps : List Part) (k : Nat) (h : k < ps.length) (e : Int) (he : (firstErrFrom (fun _ => partErrM) (ps.take k) (ps.drop k)).2 = e) : partErrM ps[k] = 0 → (firstErrFrom (fun _ => partErrM) (ps.take (k + 1)) (ps.drop (k + 1))).2 = e := fun h0 => by
  rw [← he, ← firstErrFrom_step (fun _ => partErrM) ps k h _ rfl h0]
/-- the error of a form, behind what its name has -/
def behindE (e0 : Int) (f : Form) : Int := if e0 ≠ 0 then e0 else (firstErr (fun _ => partErrM) f.parts).2
def ChkB2 (e0 : Int) (f : Form) (R : World) (v : Value) (wc : World) : Prop := v = .int .i64 (behindE e0 f) ∧ Ext R wc
set_option maxRecDepth 100000 in
set_option maxHeartbeats 2000000 in
theorem refCheck_b2 {u0 u1 u2 u3 u4 u5 u6 u10 u11 u12 u13 u14 u15 u16 u17 u18 u19 u20 u21 u22 u23 u24 u25 u26 u27 u28 u29 u30 u31 u32 u33 u34 u35 u36 u37 u38 u39 u40 u41 u42 u43 u44 u45 u46 u47 u48 u49 u50 u51 u52 u53 u54 u55 u56 u57 u58 u59 u60 u61 u62 u63 u64 u65 u66 u67 : Value} {fb : Nat} {e0 : Int} {pa : Option Addr} {pc : Nat} {f : Form} {R : World} (c1 : R.cell? ⟨fb, 1, none⟩ = some (.slice pa f.parts.length pc)) (hp : PartsAt R (.slice pa f.parts.length pc) f.parts) (Q : Exit → Act → World → Prop)
    (hQ : ∀ (v8 v9 v47 v48 v49 v50 v51 v52 v53 v54 v55 v56 v57 v58 v59 v60 v61 v62 v63 : Value) (wc : World), ChkB2 e0 f R v8 wc → Q .normal ⟨#[u0, u1, u2, u3, u4, u5, u6, .pointer (some ⟨fb, 0, none⟩), v8, v9, u10, u11, u12, u13, u14, u15, u16, u17, u18, u19, u20, u21, u22, u23, u24, u25, u26, u27, u28, u29, u30, u31, u32, u33, u34, u35, u36, u37, u38, u39, u40, u41, u42, u43, u44, u45, u46, v47, v48, v49, v50, v51, v52, v53, v54, v55, v56, v57, v58, v59, v60, v61, v62, v63, u64, u65, u66, u67], []⟩ wc) :
    Code.wp Tryz.prog (blockOf Tryz.f44 2) Q ⟨#[u0, u1, u2, u3, u4, u5, u6, .pointer (some ⟨fb, 0, none⟩), .int .i64 e0, .int .i64 0, u10, u11, u12, u13, u14, u15, u16, u17, u18, u19, u20, u21, u22, u23, u24, u25, u26, u27, u28, u29, u30, u31, u32, u33, u34, u35, u36, u37, u38, u39, u40, u41, u42, u43, u44, u45, u46, u47, u48, u49, u50, u51, u52, u53, u54, u55, u56, u57, u58, u59, u60, u61, u62, u63, u64, u65, u66, u67], []⟩ R := by
  conv => arg 2; whnf
  obtain ⟨-, hl1, hl2⟩ := hp.len
  obtain ⟨FE, hFE⟩ : ∃ FE, behindE e0 f = FE := ⟨_, rfl⟩
  have HFE := Lib.hid hFE
  unfold ChkB2 at hQ
  rw [hFE] at hQ
  have HQ := Lib.hid hQ
  clear hFE hQ
  go_wp2_with fail
  go_loopw [8, 9] (fun ev q wr => ∃ (k : Nat) (e : Int), k ≤ f.parts.length ∧ q = .int .i64 k ∧ ev = .int .i64 e ∧ Ext R wr ∧ (e = 0 → e0 = 0 ∧ (firstErrFrom (fun _ => partErrM) (f.parts.take k) (f.parts.drop k)).2 = FE) ∧ (e ≠ 0 → e = FE)) (fun _ q _ => f.parts.length - (intOf q).toNat)
  case atStart =>
    refine ⟨0, e0, Nat.zero_le _, rfl, rfl, Ext.refl _, fun h => ⟨h, ?_⟩, fun h => ?_⟩
    · have := HFE.out
      unfold behindE at this
      rw [if_neg (by simpa using h)] at this
      exact this
    · have := HFE.out
      unfold behindE at this
      rw [if_pos h] at this
      exact this
  case round =>
    obtain ⟨k, e, hk, rfl, rfl, hx, hz, hn⟩ := hrel
    have r1 := hx.cell c1
    have zr := cell_lt r1
    by_cases hlt : k < f.parts.length
    · have k1 : (k : Int) < (f.parts.length : Int) := by omega
      by_cases h0 : e = 0
      · subst h0
        obtain ⟨h00, hf1⟩ := hz rfl
        obtain ⟨b, o, rfl, ⟨u, p0, hs⟩, p1, p2, i1, i2⟩ := (hp.ext hx).get hlt
        have hstep := firstErrFrom_step (fun _ => partErrM) f.parts k hlt _ rfl
        have hhit := firstErrFrom_hit (fun _ => partErrM) f.parts k hlt _ rfl
        generalize f.parts[k] = p at *
        obtain ⟨ua, uc, rfl, -⟩ := hs.shape
        have hpv : PartV wr (.agg #[.slice ua p.words.length uc, .int .i64 p.lo, .int .i64 p.hi]) p := ⟨_, rfl, hs, i1, i2⟩
        have Hstep := Lib.hid hstep
        have Hhit := Lib.hid hhit
        have Hf1 := Lib.hid hf1
        have H00 := Lib.hid h00
        clear hstep hhit hz hn hs hf1 h00
        go_wp2_with fail
        refine (refPart_any _ p _ hpv).mono ?_
        rintro e w2 ⟨rfl, hx2⟩
        obtain ⟨pe, hpe⟩ : ∃ pe, partErrM p = pe := ⟨_, rfl⟩
        rw [hpe]
        have Hpe := Lib.hid hpe
        clear hpe
        go_wp2
        go_roundw
        case rel =>
          refine ⟨k + 1, pe, by omega, by go_num, rfl, hx.trans hx2, fun h => ⟨H00.out, ?_⟩, fun h => ?_⟩
          · rw [Hstep.out (by rw [Hpe.out]; exact h)]; exact Hf1.out
          · rw [← Hf1.out, Hhit.out (by rw [Hpe.out]; exact h)]; exact Hpe.out.symm
        case measure => simp [intOf]; omega
      · have h0' : (e == 0) = false := by simpa using h0
        have he := hn h0
        subst he
        clear hz hn h0
        go_wp2
        exact HQ.out _ _ _ _ _ _ _ _ _ _ _ _ _ _ _ _ _ _ _ _ ⟨rfl, hx⟩
    · obtain rfl : k = f.parts.length := by omega
      have he : e = FE := by
        by_cases h0 : e = 0
        · obtain ⟨-, h1⟩ := hz h0
          rw [firstErrFrom_end _ _ _ (Nat.le_refl _)] at h1
          rw [h0]; exact h1
        · exact hn h0
      subst he
      clear hz hn
      go_wp2
      exact HQ.out _ _ _ _ _ _ _ _ _ _ _ _ _ _ _ _ _ _ _ _ ⟨rfl, hx⟩
set_option maxRecDepth 100000 in
set_option maxHeartbeats 4000000 in
theorem refCheckS_any (sv : Value) (s : Shelf) (w : World) (hs : ShelfAt w sv s) :
    Calls Tryz.prog 44 #[sv] w fun e w' => e = .returned (.tuple #[.int .i64 (checkS s).1, .int .i64 (checkS s).2.1, .int .i64 (checkS s).2.2]) ∧ Ext w w' := by
  obtain ⟨a, c, rfl, hw, hc1, hc2, hf⟩ := hs.open
  obtain ⟨i0, hi, hz0, hz1, hz2⟩ := info_parts infoString
  have q0 : (w.alloc (.cells #[.int .i64 s.width, .slice a s.forms.length c] 24)).cell? ⟨w.heap.size, 0, none⟩ = some (.int .i64 s.width) := by simp [go_sem]
  have q1 : (w.alloc (.cells #[.int .i64 s.width, .slice a s.forms.length c] 24)).cell? ⟨w.heap.size, 1, none⟩ = some (.slice a s.forms.length c) := by simp [go_sem]
  obtain ⟨W, hW⟩ : ∃ W, W = w.alloc (.cells #[.int .i64 s.width, .slice a s.forms.length c] 24) := ⟨_, rfl⟩
  have xW : Ext w W := by rw [hW]; exact ext_alloc _ _
  have zW : W.heap.size = w.heap.size + 1 := by rw [hW]; simp
  rw [← hW] at q0 q1
  have HW := Lib.hid hW
  clear hW
  have hfW := hf.ext xW
  go_enter Tryz.func44, Tryz.ntmps44
  go_wp2_with fail
  rw [← HW.out]
  refine (In_any _ _ _ _).mono ?_
  rintro e w' ⟨rfl, rfl⟩
  cases h1 : inM s.width 8 30
  · have H1 := Lib.hid h1; clear h1
    go_wp2_with fail
    go_ret3
    exact ⟨ret_three (by rw [checkS, if_pos H1.out]), xW⟩
  have H1 := Lib.hid h1; clear h1
  by_cases h4 : 4 < s.forms.length
  · have H4 := Lib.hid h4
    have k4 : (4 : Int) < (s.forms.length : Int) := by omega
    clear h4
    go_wp2_with fail
    go_ret3
    exact ⟨ret_three (by rw [checkS, if_neg (by rw [H1.out]; decide), if_pos H4.out]), xW⟩
  have H4 := Lib.hid h4
  have k4 : ¬ (4 : Int) < (s.forms.length : Int) := by omega
  clear h4
  go_wp2_with fail
  go_loopw [5, 6] (fun u i wr => ∃ k : Nat, k ≤ s.forms.length ∧ i = .int .i64 k ∧ Ext W wr ∧ RowW W.heap.size ((s.forms.take k).map (·.name)) u wr ∧ firstErrFrom formErrM (s.forms.take k) (s.forms.drop k) = firstErr formErrM s.forms) (fun _ i _ => s.forms.length - (intOf i).toNat)
  case atStart => exact ⟨0, Nat.zero_le _, rfl, Ext.refl _, RowW.nil, rfl⟩
  case round =>
    obtain ⟨k, hk, rfl, hxr, hown, hfe⟩ := hrel
    have r0 := hxr.cell q0
    have r1 := hxr.cell q1
    have zr := cell_lt r0
    have hszr := hxr.size
    have Hfe := Lib.hid hfe
    clear hfe
    by_cases hlt : k < s.forms.length
    · have k1 : (k : Int) < (s.forms.length : Int) := by omega
      obtain ⟨b, o, rfl, f0, fsz, pu, f1, hps⟩ := hfW.get hlt
      replace f0 := hxr.cell f0
      replace f1 := hxr.cell f1
      obtain ⟨pa, pc, rfl, hpc, hpm⟩ := hps.shape
      have hstep := firstErrFrom_step formErrM s.forms k hlt _ rfl
      have hhit := firstErrFrom_hit formErrM s.forms k hlt _ rfl
      have hnm : (s.forms.take (k + 1)).map (·.name) = (s.forms.take k).map (·.name) ++ [s.forms[k].name] := by
        rw [List.take_succ_eq_append_getElem hlt, List.map_append]; rfl
      have hfr := formErr_fresh (s.forms.take k) s.forms[k]
      have hsz : ∀ x ∈ (s.forms.take k).map (·.name), x.size ≤ 9223372036854775807 := fun x hx => by
        obtain ⟨f, hf1, rfl⟩ := List.mem_map.1 hx
        obtain ⟨i, hi', rfl⟩ := List.getElem_of_mem (List.mem_of_mem_take hf1)
        obtain ⟨_, _, -, -, g, -⟩ := hfW.get hi'
        exact g
      have hnl : ((s.forms.take k).map (·.name)).length = k := by simp; omega
      generalize s.forms[k] = f at *
      generalize (s.forms.take k).map (·.name) = nms at *
      have Hstep := Lib.hid hstep
      have Hhit := Lib.hid hhit
      have Hnm := Lib.hid hnm
      have Hfr := Lib.hid hfr
      have hat := hown.at_ hsz
      clear hstep hhit hnm hfr hsz
      go_wp2_with fail
      refine (fresh_any _ f.name nms _ fsz (hat.ext (ext_alloc _ _))).mono ?_
      rintro e w2 ⟨rfl, rfl⟩
      obtain ⟨fr, hfr⟩ : ∃ fr, freshM f.name nms = fr := ⟨_, rfl⟩
      rw [hfr]
      have Hf2 := Lib.hid hfr
      clear hfr hat
      have hone := StrsAt.oneAt (w := wr.alloc (.cells #[.string f.name, .slice pa f.parts.length pc] 55)) (s := f.name) (t := 9) (B := wr.heap.size + 1) (by simp) fsz
      have own1 := RowW.ext hown ((ext_alloc wr (.cells #[.string f.name, .slice pa f.parts.length pc] 55)).trans (ext_alloc _ (.cells #[.string f.name] 9)))
      have hownlt := fun k hk => World.ownsRow.lt hown k hk
      have Hps := Lib.hid hps
      clear hown hps
      have hcases : (fr ≠ 0 ∧ (fr == 0) = false ∧ formErrM (s.forms.take k) f = behindE fr f) ∨ (fr = 0 ∧ ((5 : Int) < (f.parts.length : Int)) ∧ formErrM (s.forms.take k) f = behindE 3 f) ∨ (fr = 0 ∧ ¬ ((5 : Int) < (f.parts.length : Int)) ∧ formErrM (s.forms.take k) f = behindE 0 f) := by
        have h1 := Hfr.out
        rw [Hf2.out] at h1
        by_cases h0 : fr = 0
        · rw [if_neg (by simpa using h0)] at h1
          by_cases h5 : 5 < f.parts.length
          · rw [if_pos h5] at h1
            exact .inr (.inl ⟨h0, by omega, by rw [h1]; rfl⟩)
          · rw [if_neg h5] at h1
            exact .inr (.inr ⟨h0, by omega, by rw [h1]; rfl⟩)
        · rw [if_pos h0] at h1
          exact .inl ⟨h0, by simpa using h0, by rw [h1, behindE, if_pos h0]⟩
      clear Hfr Hf2
      rcases hcases with ⟨g1, g2, g3⟩ | ⟨rfl, g2, g3⟩ | ⟨rfl, g2, g3⟩
      all_goals
        have G3 := Lib.hid g3
        clear g3
        try clear g1
        go_upto_block 2 with (at_builtin; go_loud (refine wpList_append_strs rfl _ _ 25 rfl W.heap.size i0 Tryz.underlying25 hi hz0 hz1 hz2 u5 _ rfl own1 (.slice (some ⟨wr.heap.size + 1, 0, none⟩) 1 1) rfl [f.name] hone (by simp only [List.length_cons, List.length_nil]; omega) (by simp; omega) ?_; intro v' w2 hown' hgrow _; have g1' : w2.cell? ⟨wr.heap.size, 1, none⟩ = some (.slice pa f.parts.length pc) := hgrow.cell (by simp [go_sem]) (fun e => absurd (hownlt wr.heap.size e.symm).2 (Nat.lt_irrefl _)); have z2 := cell_lt g1'))
        have xW2 : Ext W w2 := Ext.grown ((hxr.alloc _).alloc _) hgrow (fun k hk => (hownlt k hk).1)
        have xr2 : ∀ k, u5.ownBlock = some k → k < wr.heap.size := fun k hk => (hownlt k hk).2
        refine refCheck_b2 (f := f) (pa := pa) (pc := pc) g1' (Hps.out.ext xW2) _ ?_
        intro v8 v9 v47 v48 v49 v50 v51 v52 v53 v54 v55 v56 v57 v58 v59 v60 v61 v62 v63 wc ⟨e8, hxc⟩
        subst e8
        rw [← G3.out]
        obtain ⟨FE, hFE⟩ : ∃ FE, formErrM (s.forms.take k) f = FE := ⟨_, rfl⟩
        rw [hFE]
        have HFE := Lib.hid hFE
        clear hFE G3
        have xwc := xW2.trans hxc
        by_cases h0 : FE = 0
        · subst h0
          go_wp2
          go_roundw
          case rel => exact ⟨k + 1, by omega, by go_num, xwc, by rw [Hnm.out]; exact hown'.ext hxc, (Hstep.out HFE.out).trans Hfe.out⟩
          case measure => simp [intOf]; omega
        · have h0' : (FE != 0) = true := by simpa using h0
          have hfirst : firstErr formErrM s.forms = ((k : Int), FE) := by rw [← Hfe.out, Hhit.out (by rw [HFE.out]; exact h0), HFE.out]
          have Hfirst := Lib.hid hfirst
          have H0 := Lib.hid h0
          clear h0 hfirst
          go_wp2
          go_ret3
          exact ⟨ret_three (by rw [checkS, if_neg (by rw [H1.out]; decide), if_neg H4.out, Hfirst.out, if_pos H0.out]), xW.trans xwc⟩
    · obtain rfl : k = s.forms.length := by omega
      have hfirst : firstErr formErrM s.forms = (0, 0) := by rw [← Hfe.out, firstErrFrom_end _ _ _ (Nat.le_refl _)]
      have Hfirst := Lib.hid hfirst
      clear hfirst
      go_wp2
      go_ret3
      exact ⟨ret_three (by rw [checkS, if_neg (by rw [H1.out]; decide), if_neg H4.out, Hfirst.out, if_neg (fun h => h rfl)]), xW.trans hxr⟩
end Go.Proofs.YtcamegaimleomaaGreat

namespace Go.Proofs.YtcamegaimleomaaGreat
set_option linter.unusedSimpArgs false
set_option linter.unusedVariables false
open Go.RowKit
set_option linter.unusedVariables false

theorem refBehind_any (v : Value) (l : List ByteArray) (er : Int) (w : World) (hl : StrsAt w v l) :
    Calls Tryz.prog 45 #[v, .int .i64 er] w fun e w' => e = .returned (.int .i64 (if er ≠ 0 then er else letterErrL l)) ∧ Ext w w' := by
  by_cases h : er = 0
  · rw [if_neg (by simpa using h)]
    subst h
    go_enter Tryz.func45, Tryz.ntmps45
    go_wp2_with fail
    refine (refLett_any _ l _ hl).mono ?_
    rintro e w1 ⟨rfl, hx⟩
    go_wp2
    go_ret
    exact ⟨rfl, hx⟩
  · rw [if_pos h]
    have h' : (er == 0) = false := by simpa using h
    clear h
    go_enter Tryz.func45, Tryz.ntmps45
    go_wp2
    go_ret
    exact ⟨rfl, Ext.refl _⟩
set_option maxRecDepth 100000 in
theorem refForm_any (sv : Value) (s : Shelf) (n : Int) (hn : I64 n) (w : World) (hs : ShelfAt w sv s) :
    Calls Tryz.prog 50 #[sv, .int .i64 n] w fun e w' => e = .returned (.int .i64 (openErrM s n)) ∧ Ext w w' := by
  have hs0 := hs
  obtain ⟨a, c, rfl, hw, hc1, hc2, hf⟩ := hs.open
  clear hf
  obtain ⟨er, her⟩ : ∃ er, openErrM s n = er := ⟨_, rfl⟩
  rw [her]
  have Her := Lib.hid her
  clear her
  go_enter Tryz.func50, Tryz.ntmps50
  go_wp2_with fail
  refine (refCheckS_any _ s _ (hs0.ext (by first | (with_reducible exact Ext.refl _) | (with_reducible assumption) | (show Below _ _ _; go_grown; done)))).mono ?_
  rintro e w1 ⟨rfl, hx⟩
  have q1 : w1.cell? ⟨w.heap.size, 1, none⟩ = some (.slice a s.forms.length c) := hx.cell (by simp [go_sem])
  have z1 := cell_lt q1
  have x1 : Ext w w1 := hx.of_alloc
  have hE : (checkS s).2.2 = errS s := rfl
  rw [hE]
  generalize (checkS s).2.1 = at1
  generalize (checkS s).1 = part1
  obtain ⟨e0, he0⟩ : ∃ e0, errS s = e0 := ⟨_, rfl⟩
  rw [he0]
  have He0 := Lib.hid he0
  have wl : IntKind.i64.wrap ((s.forms.length : Int) - 1) = (s.forms.length : Int) - 1 := IntWalk.i64_in _ (by omega)
  clear he0 hE hx
  by_cases h : e0 = 0
  · subst h
    go_wp2_with fail
    refine (In_any _ _ _ _).mono ?_
    rintro e w' ⟨rfl, rfl⟩
    cases hi : inM n 0 ((s.forms.length : Int) - 1)
    · have Hi := Lib.hid hi
      clear hi
      go_wp2
      go_ret
      exact ⟨ret_int (by rw [← Her.out, openErrM, if_neg (by rw [He0.out]; simp), if_pos Hi.out]), x1⟩
    · have Hi := Lib.hid hi
      clear hi
      go_wp2
      go_ret
      exact ⟨ret_int (by rw [← Her.out, openErrM, if_neg (by rw [He0.out]; simp), if_neg (by rw [Hi.out]; simp)]), x1⟩
  · have h' : (e0 == 0) = false := by simpa using h
    have H := Lib.hid h
    clear h
    go_wp2
    go_ret
    exact ⟨ret_int (by rw [← Her.out, openErrM, if_pos (by rw [He0.out]; exact H.out), He0.out]), x1⟩
set_option maxRecDepth 100000 in
theorem validL_any (sv : Value) (s : Shelf) (w : World) (hs : ShelfAt w sv s) :
    Calls Tryz.prog 25 #[sv] w fun e w' => e = .returned (.bool (errS s == 0)) ∧ Ext w w' := by
  have hs0 := hs
  obtain ⟨a, c, rfl, hw, hc1, hc2, hf⟩ := hs.open
  clear hf
  go_enter Tryz.func25, Tryz.ntmps25
  go_wp2_with fail
  refine (refCheckS_any _ s _ (hs0.ext (by first | (with_reducible exact Ext.refl _) | (with_reducible assumption) | (show Below _ _ _; go_grown; done)))).mono ?_
  rintro e w1 ⟨rfl, hx⟩
  have x1 : Ext w w1 := Ext.trans (by first | (with_reducible exact Ext.refl _) | (with_reducible assumption) | (show Below _ _ _; go_grown; done)) hx
  clear hx
  have hE : (checkS s).2.2 = errS s := rfl
  rw [hE]
  generalize (checkS s).2.1 = at1
  generalize (checkS s).1 = part1
  clear hE
  go_wp2
  go_ret
  exact ⟨rfl, x1⟩
end Go.Proofs.YtcamegaimleomaaGreat

namespace Go.Proofs.YtcamegaimleomaaGreat
set_option linter.unusedSimpArgs false
set_option linter.unusedVariables false
open Go.RowKit
set_option linter.unusedVariables false

/-! ### what Apply makes are words that there were -/
theorem bec_size {k : Nat} {left : List ByteArray} {wd : ByteArray} (hl : ∀ s ∈ left, s.size ≤ 9223372036854775807) (hw : wd.size ≤ 9223372036854775807) : ∀ s ∈ becM k left wd, s.size ≤ 9223372036854775807 := by
  intro s hs
  unfold becM at hs
  split at hs
  · exact hl s (List.mem_of_mem_take hs)
  · rw [List.mem_singleton] at hs; rw [hs]; exact hw
  · rw [List.mem_singleton] at hs; rw [hs]; exact hw
  · cases hs
theorem marked_size : ∀ (ms : List Mark) (left out : List ByteArray), (∀ m ∈ ms, m.word.size ≤ 9223372036854775807) → (∀ s ∈ left, s.size ≤ 9223372036854775807) → (∀ s ∈ out, s.size ≤ 9223372036854775807) → ∀ s ∈ (markedF ms left out).2.1, s.size ≤ 9223372036854775807
  | [], left, out, _, _, ho => ho
  | m :: r, left, out, hm, hl, ho => by
    rw [markedF]
    split
    · exact ho
    · refine marked_size r _ _ (fun x hx => hm x (List.mem_cons_of_mem _ hx)) (fun s hs => hl s (List.mem_of_mem_drop hs)) fun s hs => ?_
      rcases List.mem_append.1 hs with hs | hs
      · exact ho s hs
      · exact bec_size hl (hm m List.mem_cons_self) s hs
theorem apply_size {ms : List Mark} {l : List ByteArray} (hm : ∀ m ∈ ms, m.word.size ≤ 9223372036854775807) (hl : ∀ s ∈ l, s.size ≤ 9223372036854775807) : ∀ s ∈ (applyM ms l).words, s.size ≤ 9223372036854775807 := by
  have h := marked_size ms l [] hm hl (by simp)
  unfold applyM
  split
  · simp
  · split
    · simp
    · unfold markedM
      split
      · simp
      · split
        · simp
        · split
          · simp
          · exact h
theorem strs_size {w : World} {v : Value} {l : List ByteArray} (h : StrsAt w v l) : ∀ s ∈ l, s.size ≤ 9223372036854775807 := fun s hs => by
  obtain ⟨i, hi, rfl⟩ := List.getElem_of_mem hs
  obtain ⟨a, c, rfl, -⟩ := h.shape
  obtain ⟨b, o, -, -, h2⟩ := h.get hi
  exact h2
theorem marks_size {w : World} {v : Value} {l : List Mark} (h : MarksAt w v l) : ∀ m ∈ l, m.word.size ≤ 9223372036854775807 := fun s hs => by
  obtain ⟨i, hi, rfl⟩ := List.getElem_of_mem hs
  obtain ⟨a, c, rfl, -⟩ := h.shape
  obtain ⟨b, o, -, -, -, -, h2⟩ := h.get hi
  exact h2
set_option maxRecDepth 100000 in
set_option maxHeartbeats 2000000 in
theorem refFewest_any (fv tv : Value) (f t : List ByteArray) (w : World) (hf : StrsAt w fv f) (ht : StrsAt w tv t) :
    Calls Tryz.prog 16 #[fv, tv] w fun e w' => ∃ u, e = .returned (.tuple #[u, .int .i64 (fewManyM f t), .int .i64 (fewErrM f t)]) ∧ MarksAt w' u (fewMarksM f t) ∧ Ext w w' := by
  obtain ⟨fa, fc, rfl, -⟩ := hf.shape
  obtain ⟨ta, tc, rfl, -⟩ := ht.shape
  have hfe : (if letterErrL f ≠ 0 then letterErrL f else letterErrL t) = fewErrM f t := rfl
  go_enter Tryz.func16, Tryz.ntmps16
  go_wp2_with fail
  refine (refLett_any _ f _ hf).mono ?_
  rintro e w1 ⟨rfl, x1⟩
  have hb := refBehind_any _ t (letterErrL f) w1 (ht.ext x1)
  rw [hfe] at hb
  go_wp2_with fail
  refine hb.mono ?_
  rintro e w2 ⟨rfl, hx⟩
  have x2 := x1.trans hx
  clear hx hb hfe
  by_cases he : fewErrM f t = 0
  · obtain ⟨e1, e2⟩ := few_ok he
    obtain ⟨f15, -⟩ := lettErr_ok e1
    obtain ⟨t15, tw⟩ := lettErr_ok e2
    have hc := few_corrN he
    have hsnd := marks_sound f t tw
    have hmk : fewMarksM f t = marksM f (givenM t) := by unfold fewMarksM; rw [if_pos he]
    have Hmk := Lib.hid hmk
    have Hc := Lib.hid hc
    have Tw := Lib.hid tw
    have Hs := Lib.hid hsnd
    have He := Lib.hid he
    rw [he]
    clear e1 e2 hc he tw hsnd hmk
    go_wp2_with fail
    refine (refMarks_any _ _ f t _ (hf.ext x2) (ht.ext x2) (by omega) (by omega) Tw.out).mono ?_
    rintro e w3 ⟨u, rfl, hrow, hx⟩
    have x3 := x2.trans hx
    have hat := hrow.at_ Hs.out
    rw [← Hmk.out] at hat
    clear hx hrow
    obtain ⟨ua, uc, rfl, -⟩ := hat.shape
    go_wp2_with fail
    refine (corrections_any _ _ _ hat).mono ?_
    rintro e w4 ⟨rfl, hx⟩
    rw [Hc.out]
    go_wp2_with fail
    go_ret3
    exact ⟨.slice ua (fewMarksM f t).length uc, by rw [He.out]; rfl, hat.ext hx, x3.trans hx⟩
  · have he' : (fewErrM f t != 0) = true := by simpa using he
    have hmn : fewMarksM f t = [] := by unfold fewMarksM; rw [if_neg he]
    have hmm : fewManyM f t = 0 := by unfold fewManyM; rw [if_neg he]
    have Hmn := Lib.hid hmn
    have Hmm := Lib.hid hmm
    clear he hmn hmm
    go_wp2_with fail
    go_ret3
    exact ⟨.slice none 0 0, by rw [Hmm.out]; rfl, by rw [Hmn.out]; exact SliceAt.nil, x2⟩
set_option maxRecDepth 100000 in
set_option maxHeartbeats 2000000 in
theorem marksL_any (fv tv mv : Value) (f t : List ByteArray) (ms : List Mark) (w : World) (hf : StrsAt w fv f) (ht : StrsAt w tv t) (hm : MarksAt w mv ms) :
    Calls Tryz.prog 4 #[fv, tv, mv] w fun e w' => e = .returned (.bool true) ∧ Ext w w' := by
  have Hsz := Lib.hid (apply_size (marks_size hm) (strs_size hf))
  obtain ⟨fa, fc, rfl, -⟩ := hf.shape
  obtain ⟨ta, tc, rfl, -⟩ := ht.shape
  obtain ⟨ma, mc, rfl, -⟩ := hm.shape
  go_enter Tryz.func4, Tryz.ntmps4
  go_wp2_with fail
  refine (Fewest_any _ _ f t _ hf ht).mono ?_
  rintro e w1 ⟨u1, rfl, hm1, x1⟩
  go_wp2_with fail
  refine (refFewest_any _ _ f t _ (hf.ext x1) (ht.ext x1)).mono ?_
  rintro e w2 ⟨u2, rfl, hm2, hx⟩
  replace hm1 := hm1.ext hx
  have x2 := x1.trans hx
  clear x1 hx
  generalize fewErrM f t = er at *
  generalize fewManyM f t = mn at *
  generalize fewMarksM f t = fm at *
  obtain ⟨a1, c1, rfl, -⟩ := hm1.shape
  obtain ⟨a2, c2, rfl, -⟩ := hm2.shape
  go_wp2_with fail
  refine (equal_any _ _ fm fm _ hm1 hm2).mono ?_
  rw [decide_eq_true rfl]
  rintro e w3 ⟨rfl, hx⟩
  have x3 := x2.trans hx
  clear x2 hx hm1 hm2
  go_wp2_with fail
  refine (Apply_any _ _ f ms _ (hf.ext x3) (hm.ext x3)).mono ?_
  rintro e w4 ⟨u3, rfl, hr1, hx⟩
  have x4 := x3.trans hx
  clear x3 hx
  have ha1 := hr1.at_ Hsz.out
  go_wp2_with fail
  refine (refApply_any _ _ f ms _ (hf.ext x4) (hm.ext x4)).mono ?_
  rintro e w5 ⟨u4, rfl, hr2, hx⟩
  replace ha1 := ha1.ext hx
  have ha2 := hr2.at_ Hsz.out
  have x5 := x4.trans hx
  clear x4 hx hr1 hr2
  generalize (applyM ms f).err = ae at *
  generalize (applyM ms f).words = aw at *
  obtain ⟨a3, c3, rfl, -⟩ := ha1.shape
  obtain ⟨a4, c4, rfl, -⟩ := ha2.shape
  go_wp2_with fail
  refine (same_any _ _ aw aw _ ha1 ha2).mono ?_
  rw [decide_eq_true rfl]
  rintro e w6 ⟨rfl, hx⟩
  have x6 := x5.trans hx
  go_wp2_with fail
  refine (awakeL_any _).mono ?_
  rintro e w7 ⟨rfl, hx⟩
  go_wp2
  go_ret
  exact ⟨rfl, x6.trans hx⟩
end Go.Proofs.YtcamegaimleomaaGreat

namespace Go.Proofs.YtcamegaimleomaaGreat
set_option linter.unusedSimpArgs false
set_option linter.unusedVariables false
open Go.ChangeShapes Go.WideShapes Go.RowKit

theorem add_none (b o n : Nat) : (⟨b, o, none⟩ : Addr).add n = ⟨b, o + n, none⟩ := by
  unfold Addr.add
  by_cases h : n = 0
  · subst h; simp
  · simp [h]
theorem three_of {cs : List Value} (h : cs.length = 3) : ∃ a b c, cs = [a, b, c] := by
  match cs, h with
  | [a, b, c], _ => exact ⟨a, b, c, rfl⟩
theorem two_of {cs : List Value} (h : cs.length = 2) : ∃ a b, cs = [a, b] := by
  match cs, h with
  | [a, b], _ => exact ⟨a, b, rfl⟩
theorem spot_none {w : World} {a : Addr} {v : Value} (h : w.cell? a = some v) : a.spot = none := by
  unfold World.cell? at h
  cases hs : a.spot with
  | none => rfl
  | some x => split at h <;> simp [hs] at h
section
variable {H : Type} {enc : TypeId × Value → H} {w : World} {base : Nat} {sp : Nat → Bool} {held : Bool}
theorem slice_of {α : Type} [Inhabited α] {sz : Nat} {R : World → Nat → Nat → α → Prop} {t e : TypeId} (ht : Tryz.prog.underlying t = some (.slice e)) (hc : Tryz.prog.cellsOf e = sz) (hsz : 0 < sz)
    (hel : ∀ n cs y, DataW.trod enc Tryz.prog w base sp held n e cs = some y → ∃ x : α, ∀ b o, (∀ j, j < sz → w.cell? ⟨b, o + j, none⟩ = cs[j]?) → R w b o x)
    {fuel : Nat} {v : Value} {x : DataW H × List MemPlace} (h : DataW.trod enc Tryz.prog w base sp held fuel t [v] = some x) : ∃ l : List α, SliceAt sz R w v l := by
  rcases Deep.open_slice ht h with ⟨h1, _⟩ | ⟨a, len, cap, m, n, D, Pl, hcs, _, hl, hm, hmm, _, hx⟩
  · obtain rfl : v = .slice none 0 0 := by simpa using h1
    exact ⟨[], SliceAt.nil⟩
  · obtain rfl : v = .slice (some a) len cap := by simpa using hcs
    have hlm : len ≤ m := by rw [hmm]; split <;> omega
    rw [hc] at hx
    obtain ⟨f, hf⟩ := Deep.choose_lt (α := α) (n := len) (p := fun i x => ∃ cs', w.cells? base (a.add (i * sz)) sz = some cs' ∧ ∀ b o, (∀ j, j < sz → w.cell? ⟨b, o + j, none⟩ = cs'[j]?) → R w b o x) (fun i hi => by
      obtain ⟨cs', h1, h2⟩ := hx i (by omega)
      obtain ⟨x, hR⟩ := hel _ _ _ h2
      exact ⟨x, cs', h1, hR⟩)
    refine ⟨(List.range len).map f, some a, cap, by simp, by simpa using hl, by simpa [maxLen] using hm, fun i hi => ?_⟩
    have hi' : i < len := by simpa using hi
    obtain ⟨b, o, s⟩ := a
    have hs : s = none := by
      obtain ⟨cs0, h1, _⟩ := hf 0 (by omega)
      obtain ⟨_, hl0, h2⟩ := World.cells?_some h1
      have h3 := h2 0 hsz
      rw [Nat.zero_mul] at h3
      have h4 : w.cell? ⟨b, o, s⟩ = cs0[0]? := by simpa [Addr.add] using h3
      rw [List.getElem?_eq_getElem (by omega)] at h4
      exact spot_none h4
    subst hs
    obtain ⟨cs', h1, hR⟩ := hf i hi'
    refine ⟨b, o, rfl, ?_⟩
    have e1 : ((List.range len).map f)[i] = f i := by simp
    rw [e1]
    refine hR b (o + i * sz) fun j hj => ?_
    have h2 := (World.cells?_some h1).2.2 j hj
    rw [add_none, add_none] at h2
    exact h2
instance : Inhabited Letter := ⟨⟨0, 0, true⟩⟩
instance : Inhabited Alphabet := ⟨⟨⟨#[]⟩, []⟩⟩
instance : Inhabited Spelling := ⟨⟨0, ⟨#[]⟩⟩⟩
theorem cellsInt : Tryz.prog.cellsOf 3 = 1 := by kernel_rfl
theorem cellsU8 : Tryz.prog.cellsOf 5 = 1 := by kernel_rfl
theorem cellsBool : Tryz.prog.cellsOf 4 = 1 := by kernel_rfl
theorem cellsString : Tryz.prog.cellsOf 9 = 1 := by kernel_rfl
theorem cellsLetter : Tryz.prog.cellsOf 200 = 3 := by kernel_rfl
theorem cellsAlphabet : Tryz.prog.cellsOf 135 = 2 := by kernel_rfl
theorem cellsSpelling : Tryz.prog.cellsOf 83 = 2 := by kernel_rfl
theorem cellsBook : Tryz.prog.cellsOf 67 = 3 := by kernel_rfl
theorem cellsLetters : Tryz.prog.cellsOf 133 = 1 := by kernel_rfl
theorem cellsAlphabets : Tryz.prog.cellsOf 64 = 1 := by kernel_rfl
theorem cellsSpellings : Tryz.prog.cellsOf 65 = 1 := by kernel_rfl
theorem wf_i64 {n : Int} (h : (Lit.int .i64 n).wf = true) : I64 n := by
  simpa [Lit.wf, IntKind.min, IntKind.max, IntKind.signed, IntKind.bits, I64] using h
theorem wf_u8 {n : Int} (h : (Lit.int .u8 n).wf = true) : U8 n := by
  simpa [Lit.wf, IntKind.min, IntKind.max, IntKind.signed, IntKind.bits, U8] using h
theorem letter_of {n : Nat} {cs : List Value} {y : DataW H × List MemPlace} (h : DataW.trod enc Tryz.prog w base sp held n 200 cs = some y) :
    ∃ x : Letter, cs = [.int .u8 x.c, .int .i64 x.sounds, .bool x.silent] ∧ U8 x.c ∧ I64 x.sounds := by
  obtain ⟨y0, y1, y2, m, -, hl, h0, h1, h2⟩ := Deep.trod_struct3 Tryz.underlying200 h
  rw [cellsLetter] at hl
  obtain ⟨c0, c1, c2, rfl⟩ := three_of hl
  simp only [cellsU8, cellsInt, cellsBool, List.drop_zero, List.drop_succ_cons, List.take_succ_cons, List.take_zero] at h0 h1 h2
  obtain ⟨a, ea, -, wa⟩ := DataW.trod_int Tryz.underlying5 h0
  obtain ⟨b, eb, -, wb⟩ := DataW.trod_int Tryz.underlying3 h1
  obtain ⟨c, ec, -⟩ := DataW.trod_bool Tryz.underlying4 h2
  simp only [List.cons.injEq, and_true] at ea eb ec
  subst ea eb ec
  exact ⟨⟨a, b, c⟩, rfl, wf_u8 wa, wf_i64 wb⟩
theorem letters_of {fuel : Nat} {v : Value} {x : DataW H × List MemPlace} (h : DataW.trod enc Tryz.prog w base sp held fuel 133 [v] = some x) : ∃ l, LettersAt w v l :=
  slice_of Tryz.underlying133 cellsLetter (by decide) (fun n cs y hy => by
    obtain ⟨x, rfl, hu, hi⟩ := letter_of hy
    refine ⟨x, fun b o hc => ⟨?_, ?_, ?_, hu, hi⟩⟩
    · exact hc 0 (by decide)
    · exact hc 1 (by decide)
    · exact hc 2 (by decide)) h
theorem alphabet_of {n : Nat} {cs : List Value} {y : DataW H × List MemPlace} (h : DataW.trod enc Tryz.prog w base sp held n 135 cs = some y) :
    ∃ (x : Alphabet) (u : Value), cs = [.string x.name, u] ∧ x.name.size ≤ 9223372036854775807 ∧ LettersAt w u x.letters := by
  obtain ⟨y0, y1, m, -, hl, h0, h1⟩ := trod_struct2 Tryz.underlying135 h
  rw [cellsAlphabet] at hl
  obtain ⟨c0, c1, rfl⟩ := two_of hl
  simp only [cellsString, cellsLetters, List.drop_zero, List.drop_succ_cons, List.take_succ_cons, List.take_zero] at h0 h1
  obtain ⟨s, es, -, hs⟩ := DataW.trod_string Tryz.underlying9 h0
  obtain ⟨l, hll⟩ := letters_of h1
  simp only [List.cons.injEq, and_true] at es
  subst es
  exact ⟨⟨s, l⟩, c1, rfl, by simpa [maxLen] using hs, hll⟩
theorem alphabets_of {fuel : Nat} {v : Value} {x : DataW H × List MemPlace} (h : DataW.trod enc Tryz.prog w base sp held fuel 64 [v] = some x) : ∃ l, AlphabetsAt w v l :=
  slice_of Tryz.underlying64 cellsAlphabet (by decide) (fun n cs y hy => by
    obtain ⟨x, u, rfl, hs, hl⟩ := alphabet_of hy
    refine ⟨x, fun b o hc => ⟨?_, hs, u, ?_, hl⟩⟩
    · exact hc 0 (by decide)
    · exact hc 1 (by decide)) h
theorem spelling_of {n : Nat} {cs : List Value} {y : DataW H × List MemPlace} (h : DataW.trod enc Tryz.prog w base sp held n 83 cs = some y) :
    ∃ x : Spelling, cs = [.int .i64 x.alphabet, .string x.text] ∧ I64 x.alphabet ∧ x.text.size ≤ 9223372036854775807 := by
  obtain ⟨y0, y1, m, -, hl, h0, h1⟩ := trod_struct2 Tryz.underlying83 h
  rw [cellsSpelling] at hl
  obtain ⟨c0, c1, rfl⟩ := two_of hl
  simp only [cellsString, cellsInt, List.drop_zero, List.drop_succ_cons, List.take_succ_cons, List.take_zero] at h0 h1
  obtain ⟨a, ea, -, wa⟩ := DataW.trod_int Tryz.underlying3 h0
  obtain ⟨s, es, -, hs⟩ := DataW.trod_string Tryz.underlying9 h1
  simp only [List.cons.injEq, and_true] at ea es
  subst ea es
  exact ⟨⟨a, s⟩, rfl, wf_i64 wa, by simpa [maxLen] using hs⟩
theorem spellings_of {fuel : Nat} {v : Value} {x : DataW H × List MemPlace} (h : DataW.trod enc Tryz.prog w base sp held fuel 65 [v] = some x) : ∃ l, SpellingsAt w v l :=
  slice_of Tryz.underlying65 cellsSpelling (by decide) (fun n cs y hy => by
    obtain ⟨x, rfl, hi, hs⟩ := spelling_of hy
    refine ⟨x, fun b o hc => ⟨?_, ?_, hi, hs⟩⟩
    · exact hc 0 (by decide)
    · exact hc 1 (by decide)) h
set_option maxRecDepth 100000 in
/-- A BOOK -/
theorem book_of {r : Reach} {b0 : Nat} {v : Value} {d : DataW H} {ps : List MemPlace} (hval : Value.okWide Tryz.prog w r b0 67 v) (hd : DataW.Trod enc Tryz.prog w base sp held 67 v d ps) : ∃ b, BookAt w v b := by
  simp only [Value.okWide, Tryz.underlying67] at hval
  obtain ⟨cs, rfl, -, -⟩ := hval
  obtain ⟨fuel, h⟩ := hd
  simp only [Value.cells] at h
  obtain ⟨y0, y1, y2, m, -, hl, h0, h1, h2⟩ := Deep.trod_struct3 Tryz.underlying67 h
  rw [cellsBook] at hl
  obtain ⟨cs⟩ := cs
  obtain ⟨c0, c1, c2, rfl⟩ := three_of hl
  simp only [cellsInt, cellsAlphabets, cellsSpellings, List.drop_zero, List.drop_succ_cons, List.take_succ_cons, List.take_zero] at h0 h1 h2
  obtain ⟨a, ea, -, wa⟩ := DataW.trod_int Tryz.underlying3 h0
  obtain ⟨al, hal⟩ := alphabets_of h1
  obtain ⟨sl, hsl⟩ := spellings_of h2
  simp only [List.cons.injEq, and_true] at ea
  subst ea
  exact ⟨⟨a, al, sl⟩, c1, c2, rfl, wf_i64 wa, hal, hsl⟩
/-- a place that was there is as it was -/
theorem same_of_ext {W W' : World} (h : Ext W W') {p : MemPlace} (hp : p.block < W.heap.size) : W.sameAt W' p := by
  cases p with
  | cell b off =>
    show W'.cell? ⟨b, off, none⟩ = W.cell? ⟨b, off, none⟩
    exact Below.cell (p := ⟨b, off, none⟩) h hp
  | map b =>
    show W'.heap[b]? = W.heap[b]?
    exact Below.block h b hp
end
end Go.Proofs.YtcamegaimleomaaGreat

namespace Go.Proofs.YtcamegaimleomaaGreat
set_option linter.unusedSimpArgs false
set_option linter.unusedVariables false
open Go.ChangeShapes Go.WideShapes Go.RowKit
set_option maxRecDepth 100000
section
variable {H : Type} {enc : TypeId × Value → H} {w : World} {base : Nat} {sp : Nat → Bool} {held : Bool}
instance : Inhabited Part := ⟨⟨[], 0, 0⟩⟩
instance : Inhabited Form := ⟨⟨⟨#[]⟩, []⟩⟩
instance : Inhabited Mark := ⟨⟨0, ⟨#[]⟩⟩⟩
instance : Inhabited ByteArray := ⟨⟨#[]⟩⟩
theorem cellsStrs : Tryz.prog.cellsOf 25 = 1 := by kernel_rfl
theorem strs_in {fuel : Nat} {v : Value} {x : DataW H × List MemPlace} (h : DataW.trod enc Tryz.prog w base sp held fuel 25 [v] = some x) : ∃ l, StrsAt w v l :=
  slice_of Tryz.underlying25 cellsString (by decide) (fun n cs y hy => by
    obtain ⟨s, rfl, -, hs⟩ := DataW.trod_string Tryz.underlying9 hy
    exact ⟨s, fun b o hc => ⟨hc 0 (by decide), by simpa [maxLen] using hs⟩⟩) h
/-- a letter -/
theorem strsArg_of {r : Reach} {b0 : Nat} {v : Value} {d : DataW H} {ps : List MemPlace} (hval : Value.okWide Tryz.prog w r b0 25 v) (hd : DataW.Trod enc Tryz.prog w base sp held 25 v d ps) : ∃ l, StrsAt w v l := by
  obtain ⟨a0, len, cap, rfl⟩ := okWide_slice Tryz.underlying25 hval
  obtain ⟨fuel, h⟩ := hd
  exact strs_in h
/-- a list of bytes -/
theorem bytesL_of {r : Reach} {b0 : Nat} {v : Value} {d : DataW H} {ps : List MemPlace} (hval : Value.okWide Tryz.prog w r b0 68 v) (hd : DataW.Trod enc Tryz.prog w base sp held 68 v d ps) : ∃ l, BytesAt w v l := by
  obtain ⟨a0, len, cap, rfl⟩ := okWide_slice Tryz.underlying68 hval
  obtain ⟨fuel, h⟩ := hd
  exact slice_of Tryz.underlying68 cellsU8 (by decide) (fun n cs y hy => by
    obtain ⟨x, rfl, -, wx⟩ := DataW.trod_int Tryz.underlying5 hy
    exact ⟨x, fun b o hc => ⟨hc 0 (by decide), wf_u8 wx⟩⟩) h
/-- a string -/
theorem str_of {r : Reach} {b0 : Nat} {v : Value} {d : DataW H} {ps : List MemPlace} (hval : Value.okWide Tryz.prog w r b0 9 v) (hd : DataW.Trod enc Tryz.prog w base sp held 9 v d ps) : ∃ s, v = .string s ∧ s.size ≤ 9223372036854775807 := by
  obtain ⟨s, rfl⟩ := okWide_string Tryz.underlying9 hval
  obtain ⟨fuel, h⟩ := hd
  simp only [Value.cells] at h
  obtain ⟨s', e, -, hs⟩ := DataW.trod_string Tryz.underlying9 h
  simp only [List.cons.injEq, and_true] at e
  cases e
  exact ⟨_, rfl, by simpa [maxLen] using hs⟩
end
section
variable {H : Type} {enc : TypeId × Value → H} {w : World} {base : Nat} {sp : Nat → Bool} {held : Bool}
theorem cellsMark : Tryz.prog.cellsOf 115 = 2 := by kernel_rfl
theorem marksArg_of {r : Reach} {b0 : Nat} {v : Value} {d : DataW H} {ps : List MemPlace} (hval : Value.okWide Tryz.prog w r b0 37 v) (hd : DataW.Trod enc Tryz.prog w base sp held 37 v d ps) : ∃ l, MarksAt w v l := by
  obtain ⟨a0, len, cap, rfl⟩ := okWide_slice Tryz.underlying37 hval
  obtain ⟨fuel, h⟩ := hd
  exact slice_of Tryz.underlying37 cellsMark (by decide) (fun n cs y hy => by
    obtain ⟨y0, y1, m, -, hl, h0, h1⟩ := trod_struct2 Tryz.underlying115 hy
    rw [cellsMark] at hl
    obtain ⟨c0, c1, rfl⟩ := two_of hl
    simp only [cellsInt, cellsString, List.drop_zero, List.drop_succ_cons, List.take_succ_cons, List.take_zero] at h0 h1
    obtain ⟨a, ea, -, wa⟩ := DataW.trod_int Tryz.underlying3 h0
    obtain ⟨s, es, -, hs⟩ := DataW.trod_string Tryz.underlying9 h1
    simp only [List.cons.injEq, and_true] at ea es
    subst ea es
    refine ⟨⟨a, s⟩, fun b o hc => ⟨?_, ?_, wf_i64 wa, by simpa [maxLen] using hs⟩⟩
    · exact hc 0 (by decide)
    · exact hc 1 (by decide)) h
theorem fillsArg_of {r : Reach} {b0 : Nat} {v : Value} {d : DataW H} {ps : List MemPlace} (hval : Value.okWide Tryz.prog w r b0 31 v) (hd : DataW.Trod enc Tryz.prog w base sp held 31 v d ps) : ∃ l, FillsAt w v l := by
  obtain ⟨a0, len, cap, rfl⟩ := okWide_slice Tryz.underlying31 hval
  obtain ⟨fuel, h⟩ := hd
  exact slice_of Tryz.underlying31 cellsStrs (by decide) (fun n cs y hy => by
    have hl : ∃ v, cs = [v] := by
      rcases Deep.open_slice Tryz.underlying25 hy with ⟨h1, _⟩ | ⟨a, len, cap, m, n, D, Pl, hcs, _⟩
      · exact ⟨_, h1⟩
      · exact ⟨_, hcs⟩
    obtain ⟨v, rfl⟩ := hl
    obtain ⟨l, hl⟩ := strs_in hy
    exact ⟨l, fun b o hc => ⟨v, hc 0 (by decide), hl⟩⟩) h
end
section
variable {H : Type} {enc : TypeId × Value → H} {w : World} {base : Nat} {sp : Nat → Bool} {held : Bool}
theorem cellsPart : Tryz.prog.cellsOf 59 = 3 := by kernel_rfl
theorem cellsForm : Tryz.prog.cellsOf 55 = 2 := by kernel_rfl
theorem cellsShelf : Tryz.prog.cellsOf 24 = 2 := by kernel_rfl
theorem cellsSpan : Tryz.prog.cellsOf 57 = 2 := by kernel_rfl
theorem cellsParts : Tryz.prog.cellsOf 53 = 1 := by kernel_rfl
theorem cellsForms : Tryz.prog.cellsOf 22 = 1 := by kernel_rfl
theorem part_of {n : Nat} {cs : List Value} {y : DataW H × List MemPlace} (h : DataW.trod enc Tryz.prog w base sp held n 59 cs = some y) :
    ∃ (x : Part) (u : Value), cs = [u, .int .i64 x.lo, .int .i64 x.hi] ∧ StrsAt w u x.words ∧ I64 x.lo ∧ I64 x.hi := by
  obtain ⟨y0, y1, m, -, hl, h0, h1⟩ := trod_struct2 Tryz.underlying59 h
  rw [cellsPart] at hl
  obtain ⟨c0, c1, c2, rfl⟩ := three_of hl
  simp only [cellsStrs, cellsSpan, List.drop_zero, List.drop_succ_cons, List.take_succ_cons, List.take_zero] at h0 h1
  obtain ⟨l, hll⟩ := strs_in h0
  obtain ⟨z0, z1, m', -, -, k0, k1⟩ := trod_struct2 Tryz.underlying57 h1
  simp only [cellsInt, List.drop_zero, List.drop_succ_cons, List.take_succ_cons, List.take_zero] at k0 k1
  obtain ⟨a, ea, -, wa⟩ := DataW.trod_int Tryz.underlying3 k0
  obtain ⟨b, eb, -, wb⟩ := DataW.trod_int Tryz.underlying3 k1
  simp only [List.cons.injEq, and_true] at ea eb
  subst ea eb
  exact ⟨⟨l, a, b⟩, c0, rfl, hll, wf_i64 wa, wf_i64 wb⟩
theorem parts_of {fuel : Nat} {v : Value} {x : DataW H × List MemPlace} (h : DataW.trod enc Tryz.prog w base sp held fuel 53 [v] = some x) : ∃ l, PartsAt w v l :=
  slice_of Tryz.underlying53 cellsPart (by decide) (fun n cs y hy => by
    obtain ⟨x, u, rfl, hs, h1, h2⟩ := part_of hy
    refine ⟨x, fun b o hc => ⟨⟨u, ?_, hs⟩, ?_, ?_, h1, h2⟩⟩
    · exact hc 0 (by decide)
    · exact hc 1 (by decide)
    · exact hc 2 (by decide)) h
theorem form_of {n : Nat} {cs : List Value} {y : DataW H × List MemPlace} (h : DataW.trod enc Tryz.prog w base sp held n 55 cs = some y) :
    ∃ (x : Form) (u : Value), cs = [.string x.name, u] ∧ x.name.size ≤ 9223372036854775807 ∧ PartsAt w u x.parts := by
  obtain ⟨y0, y1, m, -, hl, h0, h1⟩ := trod_struct2 Tryz.underlying55 h
  rw [cellsForm] at hl
  obtain ⟨c0, c1, rfl⟩ := two_of hl
  simp only [cellsString, cellsParts, List.drop_zero, List.drop_succ_cons, List.take_succ_cons, List.take_zero] at h0 h1
  obtain ⟨s, es, -, hs⟩ := DataW.trod_string Tryz.underlying9 h0
  obtain ⟨l, hll⟩ := parts_of h1
  simp only [List.cons.injEq, and_true] at es
  subst es
  exact ⟨⟨s, l⟩, c1, rfl, by simpa [maxLen] using hs, hll⟩
theorem forms_of {fuel : Nat} {v : Value} {x : DataW H × List MemPlace} (h : DataW.trod enc Tryz.prog w base sp held fuel 22 [v] = some x) : ∃ l, FormsAt w v l :=
  slice_of Tryz.underlying22 cellsForm (by decide) (fun n cs y hy => by
    obtain ⟨x, u, rfl, hs, hl⟩ := form_of hy
    refine ⟨x, fun b o hc => ⟨?_, hs, u, ?_, hl⟩⟩
    · exact hc 0 (by decide)
    · exact hc 1 (by decide)) h
/-- A SHELF -/
theorem shelf_of {r : Reach} {b0 : Nat} {v : Value} {d : DataW H} {ps : List MemPlace} (hval : Value.okWide Tryz.prog w r b0 24 v) (hd : DataW.Trod enc Tryz.prog w base sp held 24 v d ps) : ∃ s, ShelfAt w v s := by
  simp only [Value.okWide, Tryz.underlying24] at hval
  obtain ⟨cs, rfl, -, -⟩ := hval
  obtain ⟨fuel, h⟩ := hd
  simp only [Value.cells] at h
  obtain ⟨y0, y1, m, -, hl, h0, h1⟩ := trod_struct2 Tryz.underlying24 h
  rw [cellsShelf] at hl
  obtain ⟨cs⟩ := cs
  obtain ⟨c0, c1, rfl⟩ := two_of hl
  simp only [cellsInt, cellsForms, List.drop_zero, List.drop_succ_cons, List.take_succ_cons, List.take_zero] at h0 h1
  obtain ⟨a, ea, -, wa⟩ := DataW.trod_int Tryz.underlying3 h0
  obtain ⟨l, hll⟩ := forms_of h1
  simp only [List.cons.injEq, and_true] at ea
  subst ea
  exact ⟨⟨a, l⟩, c1, rfl, wf_i64 wa, hll⟩
end
end Go.Proofs.YtcamegaimleomaaGreat

namespace Go.Proofs.YtcamegaimleomaaGreat
set_option linter.unusedSimpArgs false
set_option linter.unusedVariables false
open Go.ChangeShapes Go.WideShapes Go.ChangeAt Go.RowKit
section
variable {H : Type} {enc : TypeId × Value → H} {P : Program}
/-- a call that lets all that was there be, and answers as it should, keeps a law's word -/
theorem post_ext {f : Func} {s : ChangeSpec} {apart fresh handsOn again : Bool} {W W' : World} {args : Array Value} {v : Value} {ds gs : List (DataW H)} {before pa pv : List MemPlace}
    (hW : DataW.Whole enc P f.params.toList s.vars apart W args.toList ds gs before)
    (hres : ∀ (b : Nat) (sp : Nat → Bool) (hd : Bool), DataW.TrodAll enc P W' b sp hd f.resultTypes.toList (v.resultList f.resultTypes.size) (s.fn H (ds ++ gs)).results [])
    (hargs : ∀ sp : Nat → Bool, (∀ p ∈ before, sp p.block = true) → DataW.TrodAll enc P W' 0 sp true f.params.toList args.toList (s.fn H (ds ++ gs)).args pa)
    (hvars : ∀ sp : Nat → Bool, (∀ p ∈ before, sp p.block = true) → DataW.TrodVars enc P W' sp s.vars (s.fn H (ds ++ gs)).vars pv)
    (hps : before = pa ++ pv) (hx : Ext W W')
    (hok : ∀ (j : Nat) (t : TypeId) (r : Value), f.resultTypes[j]? = some t → (v.resultList f.resultTypes.size)[j]? = some r → Value.okWide P W' .any 0 t r) :
    s.post enc P f apart fresh handsOn again W args v W' := by
  have hlt := hW.lt
  have hold : ∀ p ∈ before, (fun b => decide (b < W.heap.size)) p.block = true := fun p hp => decide_eq_true (hlt p hp)
  have hin : ∀ p ∈ before, p ∈ pa ∨ p ∈ pv := fun p hp => List.mem_append.1 (hps ▸ hp)
  refine ⟨ds, gs, before, [], pa, pv, hW, hres _ _ _, hargs _ hold, hvars _ hold, World.keptBut_mono (fun p (hp : p ∈ before) => ⟨hp, .inr (hin p hp)⟩) (Below.frame hx _), fun _ => ⟨hok, ?_⟩⟩
  obtain ⟨_, _, _, _, _, hz, hn⟩ := hW
  refine ⟨_, _, pa ++ pv, ⟨[] ++ pa, pv, trodAll_append (hargs _ (fun _ _ => rfl)) (hres _ _ _), hvars _ (fun _ _ => rfl), by simp, fun b off hp => ?_, fun ha => by rw [← hps]; exact hn ha⟩, fun p hp _ => by rw [hps]; exact hp⟩
  rw [← hps] at hp
  rw [hx.frozen (p := ⟨b, off, none⟩) (hlt _ hp)]
  exact hz b off hp
end
end Go.Proofs.YtcamegaimleomaaGreat

namespace Go.Proofs.YtcamegaimleomaaGreat
set_option linter.unusedSimpArgs false
set_option linter.unusedVariables false
set_option linter.unusedVariables false

/-- a way from a letter to slots, with so many corrections -/
inductive EdS : List ByteArray → List Slot → Nat → Prop where
  | nil : EdS [] [] 0
  | keep (x : ByteArray) (s : Slot) {a : List ByteArray} {b : List Slot} {n : Nat} : takesM s x = true → EdS a b n → EdS (x :: a) (s :: b) n
  | turn (x : ByteArray) (s : Slot) {a : List ByteArray} {b : List Slot} {n : Nat} : EdS a b n → EdS (x :: a) (s :: b) (n + 1)
  | drop (x : ByteArray) {a : List ByteArray} {b : List Slot} {n : Nat} : EdS a b n → EdS (x :: a) b (n + 1)
  | put (s : Slot) {a : List ByteArray} {b : List Slot} {n : Nat} : EdS a b n → EdS a (s :: b) (n + 1)
  | skip (s : Slot) {a : List ByteArray} {b : List Slot} {n : Nat} : s.free = true → EdS a b n → EdS a (s :: b) n
theorem edS_cost : ∀ (N : Nat) (ws : List ByteArray) (ss : List Slot), ws.length + ss.length ≤ N → EdS ws ss (costM ws ss).2
  | 0, ws, ss, h => by
    have h1 : ws = [] := List.eq_nil_of_length_eq_zero (by omega)
    have h2 : ss = [] := List.eq_nil_of_length_eq_zero (by omega)
    subst h1; subst h2
    exact .nil
  | N + 1, ws, ss, h => by
    by_cases h0 : ws.length + ss.length = 0
    · exact edS_cost 0 ws ss (by omega)
    obtain ⟨g1, g2, g3, g4, g5, g6⟩ := costM_which ws ss (by omega)
    have ih := edS_cost N (ws.drop (kW (costM ws ss).1)) (ss.drop (kS (costM ws ss).1)) (by rw [List.length_drop, List.length_drop]; omega)
    rw [g6]
    generalize (costM ws ss).1 = c at *
    generalize (costM (ws.drop (kW c)) (ss.drop (kS c))).2 = m at *
    clear g6
    have : c = 0 ∨ c = 1 ∨ c = 2 ∨ c = 3 ∨ c = 4 := by omega
    rcases this with rfl | rfl | rfl | rfl | rfl
    · obtain ⟨x, ws, rfl⟩ : ∃ x r, ws = x :: r := by cases ws with | nil => simp [kW] at g2 | cons x r => exact ⟨x, r, rfl⟩
      obtain ⟨s, ss, rfl⟩ : ∃ x r, ss = x :: r := by cases ss with | nil => simp [kS] at g3 | cons x r => exact ⟨x, r, rfl⟩
      show EdS _ _ (0 + m)
      rw [Nat.zero_add]
      exact .keep x s g5 ih
    · obtain ⟨x, ws, rfl⟩ : ∃ x r, ws = x :: r := by cases ws with | nil => simp [kW] at g2 | cons x r => exact ⟨x, r, rfl⟩
      obtain ⟨s, ss, rfl⟩ : ∃ x r, ss = x :: r := by cases ss with | nil => simp [kS] at g3 | cons x r => exact ⟨x, r, rfl⟩
      show EdS _ _ (1 + m)
      rw [Nat.add_comm]
      exact .turn x s ih
    · obtain ⟨x, ws, rfl⟩ : ∃ x r, ws = x :: r := by cases ws with | nil => simp [kW] at g2 | cons x r => exact ⟨x, r, rfl⟩
      show EdS _ _ (1 + m)
      rw [Nat.add_comm]
      exact .drop x ih
    · obtain ⟨s, ss, rfl⟩ : ∃ x r, ss = x :: r := by cases ss with | nil => simp [kS] at g3 | cons x r => exact ⟨x, r, rfl⟩
      show EdS _ _ (1 + m)
      rw [Nat.add_comm]
      exact .put s ih
    · obtain ⟨s, ss, rfl⟩ : ∃ x r, ss = x :: r := by cases ss with | nil => simp [kS] at g3 | cons x r => exact ⟨x, r, rfl⟩
      show EdS _ _ (0 + m)
      rw [Nat.zero_add]
      exact .skip s g5 ih
theorem cost_le {ws : List ByteArray} {ss : List Slot} {n : Nat} (h : EdS ws ss n) : (costM ws ss).2 ≤ n := by
  induction h with
  | nil => exact Nat.le_refl _
  | @keep x s a b n ht h ih =>
    rw [costM_all]
    exact Nat.le_trans (pickC_le _ (0, (costM a b).2) (by simp [ht])) ih
  | @turn x s a b n h ih =>
    rw [costM_all]
    cases ht : takesM s x
    · refine Nat.le_trans (pickC_le _ (1, 1 + (costM a b).2) (by simp)) ?_
      show 1 + _ ≤ _
      omega
    · refine Nat.le_trans (pickC_le _ (0, (costM a b).2) (by simp)) ?_
      show (costM a b).2 ≤ _
      omega
  | @drop x a b n h ih =>
    cases b with
    | nil =>
      rw [costM_drop]
      refine Nat.le_trans (pickC_le _ (2, 1 + (costM a []).2) (by simp)) ?_
      show 1 + _ ≤ _
      omega
    | cons s b =>
      rw [costM_all]
      refine Nat.le_trans (pickC_le _ (2, 1 + (costM a (s :: b)).2) (by simp)) ?_
      show 1 + _ ≤ _
      omega
  | @put s a b n h ih =>
    cases a with
    | nil =>
      rw [costM_put]
      refine Nat.le_trans (pickC_le _ (3, 1 + (costM [] b).2) (by simp)) ?_
      show 1 + _ ≤ _
      omega
    | cons x a =>
      rw [costM_all]
      refine Nat.le_trans (pickC_le _ (3, 1 + (costM (x :: a) b).2) (by simp)) ?_
      show 1 + _ ≤ _
      omega
  | @skip s a b n hf h ih =>
    cases a with
    | nil =>
      rw [costM_put]
      exact Nat.le_trans (pickC_le _ (4, (costM [] b).2) (by simp [hf])) ih
    | cons x a =>
      rw [costM_all]
      exact Nat.le_trans (pickC_le _ (4, (costM (x :: a) b).2) (by simp [hf])) ih
theorem cost_is (ws : List ByteArray) (ss : List Slot) : EdS ws ss (costM ws ss).2 := edS_cost _ ws ss (Nat.le_refl _)
theorem Ed.compS : ∀ (N : Nat) {a c : List ByteArray} {b : List Slot} {n m : Nat}, a.length + c.length + b.length ≤ N → Ed a c n → EdS c b m → ∃ k, k ≤ n + m ∧ EdS a b k := by
  intro N
  induction N with
  | zero =>
    intro a c b n m hN h1 h2
    have ha : a = [] := List.eq_nil_of_length_eq_zero (by omega)
    have hb : b = [] := List.eq_nil_of_length_eq_zero (by omega)
    subst ha; subst hb
    exact ⟨0, Nat.zero_le _, .nil⟩
  | succ N ih =>
    intro a c b n m hN h1 h2
    cases h2 with
    | nil =>
      cases h1 with
      | nil => exact ⟨0, Nat.zero_le _, .nil⟩
      | drop x h1 =>
        simp only [List.length_cons] at hN
        obtain ⟨k, hk, h⟩ := ih (by omega) h1 .nil
        exact ⟨k + 1, by omega, .drop x h⟩
    | put s h2 =>
      simp only [List.length_cons] at hN
      obtain ⟨k, hk, h⟩ := ih (by omega) h1 h2
      exact ⟨k + 1, by omega, .put s h⟩
    | skip s hf h2 =>
      simp only [List.length_cons] at hN
      obtain ⟨k, hk, h⟩ := ih (by omega) h1 h2
      exact ⟨k, by omega, .skip s hf h⟩
    | keep z s ht h2 =>
      simp only [List.length_cons] at hN
      cases h1 with
      | drop x h1 =>
        simp only [List.length_cons] at hN
        obtain ⟨k, hk, h⟩ := ih (by simp only [List.length_cons]; omega) h1 (EdS.keep z s ht h2)
        exact ⟨k + 1, by omega, .drop x h⟩
      | keep _ h1 =>
        simp only [List.length_cons] at hN
        obtain ⟨k, hk, h⟩ := ih (by omega) h1 h2
        exact ⟨k, by omega, .keep z s ht h⟩
      | turn x _ h1 =>
        simp only [List.length_cons] at hN
        obtain ⟨k, hk, h⟩ := ih (by omega) h1 h2
        exact ⟨k + 1, by omega, .turn x s h⟩
      | put _ h1 =>
        obtain ⟨k, hk, h⟩ := ih (by omega) h1 h2
        exact ⟨k + 1, by omega, .put s h⟩
    | turn z s h2 =>
      simp only [List.length_cons] at hN
      cases h1 with
      | drop x h1 =>
        simp only [List.length_cons] at hN
        obtain ⟨k, hk, h⟩ := ih (by simp only [List.length_cons]; omega) h1 (EdS.turn z s h2)
        exact ⟨k + 1, by omega, .drop x h⟩
      | keep _ h1 =>
        simp only [List.length_cons] at hN
        obtain ⟨k, hk, h⟩ := ih (by omega) h1 h2
        exact ⟨k + 1, by omega, .turn z s h⟩
      | turn x _ h1 =>
        simp only [List.length_cons] at hN
        obtain ⟨k, hk, h⟩ := ih (by omega) h1 h2
        exact ⟨k + 1, by omega, .turn x s h⟩
      | put _ h1 =>
        obtain ⟨k, hk, h⟩ := ih (by omega) h1 h2
        exact ⟨k + 1, by omega, .put s h⟩
    | drop z h2 =>
      simp only [List.length_cons] at hN
      cases h1 with
      | drop x h1 =>
        simp only [List.length_cons] at hN
        obtain ⟨k, hk, h⟩ := ih (by simp only [List.length_cons]; omega) h1 (EdS.drop z h2)
        exact ⟨k + 1, by omega, .drop x h⟩
      | keep _ h1 =>
        simp only [List.length_cons] at hN
        obtain ⟨k, hk, h⟩ := ih (by omega) h1 h2
        exact ⟨k + 1, by omega, .drop z h⟩
      | turn x _ h1 =>
        simp only [List.length_cons] at hN
        obtain ⟨k, hk, h⟩ := ih (by omega) h1 h2
        exact ⟨k + 1, by omega, .drop x h⟩
      | put _ h1 =>
        obtain ⟨k, hk, h⟩ := ih (by omega) h1 h2
        exact ⟨k, by omega, h⟩
theorem ed_cost {a b : List ByteArray} (hb : ∀ s ∈ b, wordM s = true) : Ed a b (costM a (givenM b)).2 := by
  rw [cost_far (a.length + b.length + 1) a b (by omega) hb]
  exact ed_far _ _ _ (by omega)
/-- by way of another letter no fewer, towards any slots -/
theorem cost_wayS {a c : List ByteArray} (ss : List Slot) (hc : ∀ s ∈ c, wordM s = true) : (costM a ss).2 ≤ (costM a (givenM c)).2 + (costM c ss).2 := by
  obtain ⟨k, hk, h⟩ := Ed.compS _ (Nat.le_refl _) (ed_cost (a := a) hc) (cost_is c ss)
  exact Nat.le_trans (cost_le h) hk

/-! ### no corrections at all: a way through the parts -/
/-- the slots of a part: those that can be empty come last, and take any word -/
structure Parted (sl : List Slot) : Prop where
  last : ∀ i j, i ≤ j → j < sl.length → (sl.getD i noSlot).free = true → (sl.getD j noSlot).free = true
  any : ∀ s ∈ sl, s.free = true → s.word.toList.isEmpty = true
theorem Parted.tail {s : Slot} {sl : List Slot} (h : Parted (s :: sl)) : Parted sl :=
  ⟨fun i j hij hj hf => h.last (i + 1) (j + 1) (by omega) (by simpa using hj) hf, fun x hx => h.any x (List.mem_cons_of_mem _ hx)⟩
theorem Parted.takes {sl : List Slot} (h : Parted sl) {i : Nat} (hi : i < sl.length) (hf : (sl.getD i noSlot).free = true) (x : ByteArray) : takesM (sl.getD i noSlot) x = true := by
  have e : sl.getD i noSlot = sl[i] := by simp [hi]
  rw [e] at hf ⊢
  simp [takesM, h.any _ (List.getElem_mem hi) hf]
theorem sizeOk_iff {sl : List Slot} {left : List ByteArray} {n : Nat} : sizeOk sl left n = true ↔ n ≤ left.length ∧ (sl.length ≤ n ∨ (sl.getD n noSlot).free = true) ∧ ∀ i, i < n → takesM (sl.getD i noSlot) (left.getD i ByteArray.empty) = true := by
  simp [sizeOk, and_assoc]
theorem edS_part : ∀ (sl : List Slot), Parted sl → ∀ (left : List ByteArray) (rest : List Slot), EdS left (sl ++ rest) 0 ↔ ∃ n, n ≤ sl.length ∧ sizeOk sl left n = true ∧ EdS (left.drop n) rest 0
  | [], hp, left, rest => by
    constructor
    · intro h
      exact ⟨0, Nat.le_refl _, by rw [sizeOk_iff]; simp, h⟩
    · rintro ⟨n, hn, -, h⟩
      obtain rfl : n = 0 := by simpa using hn
      exact h
  | s :: sl, hp, left, rest => by
    have ih := edS_part sl hp.tail
    constructor
    · intro h
      have key : ∀ {left : List ByteArray} {ss : List Slot} {n : Nat}, EdS left ss n → n = 0 → ss = s :: (sl ++ rest) → (∃ x a, left = x :: a ∧ takesM s x = true ∧ EdS a (sl ++ rest) 0) ∨ (s.free = true ∧ EdS left (sl ++ rest) 0) := by
        intro left ss n h
        cases h with
        | nil => intro _ e; cases e
        | keep x s' ht h => intro e0 e; cases e; subst e0; exact .inl ⟨_, _, rfl, ht, h⟩
        | turn => intro e0; cases e0
        | drop => intro e0; cases e0
        | put => intro e0; cases e0
        | skip s' hf h => intro e0 e; cases e; subst e0; exact .inr ⟨hf, h⟩
      rcases key h rfl rfl with ⟨x, a, rfl, ht, h⟩ | ⟨hf, h⟩
      · obtain ⟨n, hn, hs, h⟩ := (ih a rest).1 h
        rw [sizeOk_iff] at hs
        refine ⟨n + 1, by simpa using hn, ?_, by simpa using h⟩
        rw [sizeOk_iff]
        refine ⟨by simpa using hs.1, by simpa using hs.2.1, fun i hi => ?_⟩
        cases i with
        | zero => simpa using ht
        | succ i => simpa using hs.2.2 i (by omega)
      · obtain ⟨n, hn, hs, h⟩ := (ih left rest).1 h
        rw [sizeOk_iff] at hs
        have hall : ∀ j, j < (s :: sl).length → ((s :: sl).getD j noSlot).free = true := fun j hj => hp.last 0 j (Nat.zero_le _) hj (by simpa using hf)
        refine ⟨n, by simp; omega, ?_, h⟩
        rw [sizeOk_iff]
        refine ⟨hs.1, .inr (hall n (by simp; omega)), fun i hi => hp.takes (by simp; omega) (hall i (by simp; omega)) _⟩
    · rintro ⟨n, hn, hs, h⟩
      rw [sizeOk_iff] at hs
      cases n with
      | zero =>
        have hf : s.free = true := by
          rcases hs.2.1 with h1 | h1
          · simp at h1
          · simpa using h1
        refine .skip s hf ((ih left rest).2 ⟨0, Nat.zero_le _, ?_, h⟩)
        rw [sizeOk_iff]
        refine ⟨Nat.zero_le _, ?_, fun i hi => absurd hi (Nat.not_lt_zero _)⟩
        cases sl with
        | nil => exact .inl (Nat.le_refl _)
        | cons t sl => exact .inr (by simpa using hp.last 0 1 (by omega) (by simp) (by simpa using hf))
      | succ n =>
        obtain ⟨x, a, rfl⟩ : ∃ x a, left = x :: a := by cases left with | nil => simp at hs | cons x a => exact ⟨x, a, rfl⟩
        refine .keep x s (by simpa using hs.2.2 0 (by omega)) ((ih a rest).2 ⟨n, by simpa using hn, ?_, by simpa using h⟩)
        rw [sizeOk_iff]
        exact ⟨by simpa using hs.1, by simpa using hs.2.1, fun i hi => by simpa using hs.2.2 (i + 1) (by omega)⟩
theorem edS_nil {left : List ByteArray} : EdS left [] 0 ↔ left = [] := by
  constructor
  · intro h
    cases h
    rfl
  · rintro rfl; exact .nil
theorem waysTo_ne {step : Nat → List (Nat → Int)} {sl : List Slot} {left : List ByteArray} : ∀ k, waysTo step sl left k ≠ [] ↔ ∃ n, n < k ∧ sizeOk sl left n = true ∧ step n ≠ []
  | 0 => by simp [waysTo]
  | k + 1 => by
    have ih := waysTo_ne (step := step) (sl := sl) (left := left) k
    rw [waysTo]
    constructor
    · intro h
      by_cases h1 : waysTo step sl left k = []
      · rw [h1, List.nil_append] at h
        by_cases hs : sizeOk sl left k = true
        · rw [if_pos hs] at h; exact ⟨k, by omega, hs, h⟩
        · rw [if_neg hs] at h; exact absurd rfl h
      · obtain ⟨n, hn, hs⟩ := ih.1 h1
        exact ⟨n, by omega, hs⟩
    · rintro ⟨n, hn, hs, h⟩ e
      obtain ⟨e1, e2⟩ := List.append_eq_nil_iff.1 e
      by_cases hk : n < k
      · exact ih.2 ⟨n, hk, hs, h⟩ e1
      · obtain rfl : n = k := by omega
        rw [if_pos hs] at e2
        exact h e2
theorem edS_ways : ∀ (ss : List (List Slot)) (k : Nat) (left : List ByteArray) (c : Nat → Int), (∀ sl ∈ ss, Parted sl) → (EdS left ss.flatten 0 ↔ waysF ss k left c ≠ [])
  | [], k, left, c, _ => by
    unfold waysF
    rw [List.flatten_nil, edS_nil]
    constructor
    · rintro rfl; simp
    · intro h
      split at h
      · rename_i h1; exact List.eq_nil_of_length_eq_zero h1
      · exact absurd rfl h
  | sl :: r, k, left, c, hp => by
    rw [List.flatten_cons, edS_part sl (hp sl List.mem_cons_self), waysF, waysTo_ne]
    constructor
    · rintro ⟨n, hn, hs, h⟩
      exact ⟨n, by omega, hs, (edS_ways r (k + 1) _ _ fun x hx => hp x (List.mem_cons_of_mem _ hx)).1 h⟩
    · rintro ⟨n, hn, hs, h⟩
      exact ⟨n, by omega, hs, (edS_ways r (k + 1) _ _ fun x hx => hp x (List.mem_cons_of_mem _ hx)).2 h⟩
theorem room_parted (lo : Int) (n : Nat) : Parted (roomSlotsM lo n) := by
  have hlen : (roomSlotsM lo n).length = n := by simp [roomSlotsM]
  have hget : ∀ j, j < n → (roomSlotsM lo n).getD j noSlot = ⟨ByteArray.empty, decide (lo ≤ (j : Int))⟩ := fun j hj => by
    simp [roomSlotsM, hj]
  refine ⟨fun i j hij hj hf => ?_, fun s hs hf => ?_⟩
  · rw [hlen] at hj
    rw [hget i (by omega)] at hf
    rw [hget j hj]
    simp only [decide_eq_true_eq] at hf ⊢
    omega
  · simp only [roomSlotsM, List.mem_map] at hs
    obtain ⟨j, hj, rfl⟩ := hs
    simp
theorem given_parted (l : List ByteArray) : Parted (givenM l) := by
  have hno : ∀ s ∈ givenM l, s.free = false := fun s hs => by
    simp only [givenM, List.mem_map] at hs
    obtain ⟨j, hj, rfl⟩ := hs
    rfl
  refine ⟨fun i j hij hj hf => ?_, fun s hs hf => by rw [hno s hs] at hf; cases hf⟩
  have e : (givenM l).getD i noSlot = (givenM l)[i]'(by omega) := by
    rw [List.getD_eq_getElem?_getD, List.getElem?_eq_getElem (by omega)]; rfl
  rw [e, hno _ (List.getElem_mem _)] at hf
  cases hf
/-- a part that is right: words, or room -/
def PartOk (p : Part) : Prop := p.words = [] ∨ p.hi = 0
theorem part_parted {p : Part} (h : PartOk p) : Parted (partSlotsM p) := by
  unfold partSlotsM
  rcases h with h | h
  · rw [h]; exact room_parted _ _
  · rw [h]
    have : givenM p.words ++ roomSlotsM p.lo (0 : Int).toNat = givenM p.words := by simp [roomSlotsM]
    rw [this]
    exact given_parted _
theorem formSlots_flat (ps : List Part) : formSlotsM ps = (ps.map partSlotsM).flatten := by
  simp [formSlotsM, List.flatMap_def]
/-- no corrections are needed just if there is a way -/
theorem cost_none {ps : List Part} (h : ∀ p ∈ ps, PartOk p) (l : List ByteArray) : (costM l (formSlotsM ps)).2 = 0 ↔ (formWays ps l).length ≠ 0 := by
  have hw := edS_ways (ps.map partSlotsM) 0 l (fun _ => 0) (fun sl hsl => by
    obtain ⟨p, hp, rfl⟩ := List.mem_map.1 hsl
    exact part_parted (h p hp))
  rw [formSlots_flat]
  constructor
  · intro h0
    have := cost_is l (ps.map partSlotsM).flatten
    rw [h0] at this
    intro e
    exact hw.1 this (List.eq_nil_of_length_eq_zero e)
  · intro h0
    have := cost_le (hw.2 fun e => h0 (by unfold formWays; rw [e]; rfl))
    omega
end Go.Proofs.YtcamegaimleomaaGreat

namespace Go.Proofs.YtcamegaimleomaaGreat
set_option linter.unusedSimpArgs false
set_option linter.unusedVariables false
set_option linter.unusedVariables false

/-- the same slots, some of them free now, and free ones among them -/
inductive MoreS : List Slot → List Slot → Prop where
  | nil : MoreS [] []
  | same (s t : Slot) {a b : List Slot} : t.word = s.word → (s.free = true → t.free = true) → MoreS a b → MoreS (s :: a) (t :: b)
  | more (t : Slot) {a b : List Slot} : t.free = true → MoreS a b → MoreS a (t :: b)
theorem MoreS.refl : ∀ a : List Slot, MoreS a a
  | [] => .nil
  | s :: a => .same s s rfl id (MoreS.refl a)
theorem MoreS.append {a b c d : List Slot} (h : MoreS a b) (g : MoreS c d) : MoreS (a ++ c) (b ++ d) := by
  induction h with
  | nil => exact g
  | same s t hw hf _ ih => exact .same s t hw hf ih
  | more t hf _ ih => exact .more t hf ih
theorem MoreS.free : ∀ b : List Slot, (∀ t ∈ b, t.free = true) → MoreS [] b
  | [], _ => .nil
  | t :: b, h => .more t (h t List.mem_cons_self) (MoreS.free b fun x hx => h x (List.mem_cons_of_mem _ hx))
theorem more_cons {ss tt : List Slot} (h : MoreS ss tt) : ∀ s b, ss = s :: b → ∃ pre t r, tt = pre ++ t :: r ∧ (∀ x ∈ pre, x.free = true) ∧ t.word = s.word ∧ (s.free = true → t.free = true) ∧ MoreS b r := by
  induction h with
  | nil => intro s b e; cases e
  | @same s t a b hw hf h ih =>
    intro s' b' e
    cases e
    exact ⟨[], t, b, rfl, by simp, hw, hf, h⟩
  | @more t a b hf h ih =>
    intro s' b' e
    obtain ⟨pre, t', r, rfl, h1, h2⟩ := ih s' b' e
    exact ⟨t :: pre, t', r, rfl, fun x hx => by
      rcases List.mem_cons.1 hx with rfl | hx
      · exact hf
      · exact h1 x hx, h2⟩
theorem edS_skips {a : List ByteArray} {x : List Slot} {n : Nat} (h : EdS a x n) : ∀ pre : List Slot, (∀ s ∈ pre, s.free = true) → EdS a (pre ++ x) n
  | [], _ => h
  | s :: pre, hp => .skip s (hp s List.mem_cons_self) (edS_skips h pre fun x hx => hp x (List.mem_cons_of_mem _ hx))
theorem takes_word {s t : Slot} (h : t.word = s.word) (x : ByteArray) : takesM t x = takesM s x := by unfold takesM; rw [h]
theorem edS_more {l : List ByteArray} {ss : List Slot} {n : Nat} (h : EdS l ss n) : ∀ tt, MoreS ss tt → EdS l tt n := by
  induction h with
  | nil =>
    intro tt ht
    have : ∀ {ss tt : List Slot}, MoreS ss tt → ss = [] → ∀ t ∈ tt, t.free = true := by
      intro ss tt ht
      induction ht with
      | nil => intro _ t ht; cases ht
      | same s t _ _ _ _ => intro e; cases e
      | more t hf _ ih =>
        intro e x hx
        rcases List.mem_cons.1 hx with rfl | hx
        · exact hf
        · exact ih e x hx
    have := edS_skips EdS.nil tt (this ht rfl)
    rwa [List.append_nil] at this
  | keep x s ht h ih =>
    intro tt hm
    obtain ⟨pre, t, r, rfl, h1, h2, h3, h4⟩ := more_cons hm _ _ rfl
    exact edS_skips (.keep x t (by rw [takes_word h2]; exact ht) (ih r h4)) pre h1
  | turn x s h ih =>
    intro tt hm
    obtain ⟨pre, t, r, rfl, h1, h2, h3, h4⟩ := more_cons hm _ _ rfl
    exact edS_skips (.turn x t (ih r h4)) pre h1
  | drop x h ih => intro tt hm; exact .drop x (ih tt hm)
  | put s h ih =>
    intro tt hm
    obtain ⟨pre, t, r, rfl, h1, h2, h3, h4⟩ := more_cons hm _ _ rfl
    exact edS_skips (.put t (ih r h4)) pre h1
  | skip s hf h ih =>
    intro tt hm
    obtain ⟨pre, t, r, rfl, h1, h2, h3, h4⟩ := more_cons hm _ _ rfl
    exact edS_skips (.skip t (h3 hf) (ih r h4)) pre h1
theorem cost_more {ss tt : List Slot} (h : MoreS ss tt) (l : List ByteArray) : (costM l tt).2 ≤ (costM l ss).2 := cost_le (edS_more (cost_is l ss) tt h)
/-- more room: as few or fewer, as many or more -/
theorem room_more {lo lo' : Int} {n m : Nat} (h1 : lo' ≤ lo) (h2 : n ≤ m) (h3 : lo ≤ n) : MoreS (roomSlotsM lo n) (roomSlotsM lo' m) := by
  obtain ⟨d, rfl⟩ := Nat.exists_eq_add_of_le h2
  clear h2
  have e : roomSlotsM lo' (n + d) = roomSlotsM lo' n ++ (roomSlotsM lo' (n + d)).drop n := by
    have : (roomSlotsM lo' (n + d)).take n = roomSlotsM lo' n := by
      unfold roomSlotsM
      rw [← List.map_take, List.take_range, Nat.min_eq_left (by omega)]
    rw [← this, List.take_append_drop]
  rw [e]
  have hs : MoreS (roomSlotsM lo n) (roomSlotsM lo' n) := by
    unfold roomSlotsM
    generalize List.range n = r
    induction r with
    | nil => exact .nil
    | cons k r ih => exact .same _ _ rfl (fun h => decide_eq_true (by have := of_decide_eq_true h; omega)) ih
  have := hs.append (MoreS.free ((roomSlotsM lo' (n + d)).drop n) fun t ht => by
    unfold roomSlotsM at ht
    rw [← List.map_drop, List.mem_map] at ht
    obtain ⟨k, hk, rfl⟩ := ht
    obtain ⟨i, hi, rfl⟩ := List.getElem_of_mem hk
    simp only [List.getElem_drop, List.getElem_range]
    exact decide_eq_true (by omega))
  rwa [List.append_nil] at this
/-- a part with more room -/
def morePart (a b : Int) (p : Part) : Part := if roomyM p then ⟨p.words, max 0 (p.lo - a), min 3 (p.hi + b)⟩ else p
theorem morePart_ok {a b : Int} (ha : 0 ≤ a) (hb : 0 ≤ b) {p : Part} (hv : ValidPart p) : ValidPart (morePart a b p) ∧ MoreS (partSlotsM p) (partSlotsM (morePart a b p)) := by
  unfold morePart
  cases hr : roomyM p
  · exact ⟨hv, MoreS.refl _⟩
  · have he : p.words = [] := by unfold roomyM at hr; exact List.eq_nil_of_length_eq_zero (by simpa using hr)
    obtain ⟨r1, r2, r3, r4⟩ := hv.r he
    simp only [if_true]
    refine ⟨⟨hv.n, hv.w, fun h => absurd he h, fun _ => ?_⟩, ?_⟩
    · show 0 ≤ max 0 (p.lo - a) ∧ max 0 (p.lo - a) ≤ min 3 (p.hi + b) ∧ 1 ≤ min 3 (p.hi + b) ∧ min 3 (p.hi + b) ≤ 3
      omega
    · unfold partSlotsM
      exact (MoreS.refl _).append (room_more (by show max 0 (p.lo - a) ≤ p.lo; omega) (by show p.hi.toNat ≤ (min 3 (p.hi + b)).toNat; omega) (by omega))
theorem moreForm_slots {a b : Int} (ha : 0 ≤ a) (hb : 0 ≤ b) : ∀ {ps : List Part}, (∀ p ∈ ps, ValidPart p) → MoreS (formSlotsM ps) (formSlotsM (ps.map (morePart a b)))
  | [], _ => .nil
  | p :: ps, hv => by
    have e1 : formSlotsM (p :: ps) = partSlotsM p ++ formSlotsM ps := by simp [formSlotsM]
    have e2 : formSlotsM ((p :: ps).map (morePart a b)) = partSlotsM (morePart a b p) ++ formSlotsM (ps.map (morePart a b)) := by simp [formSlotsM]
    rw [e1, e2]
    exact (morePart_ok ha hb (hv p List.mem_cons_self)).2.append (moreForm_slots ha hb fun q hq => hv q (List.mem_cons_of_mem _ hq))
/-- with more room no more corrections -/
theorem moreForm_cost {a b : Int} (ha : 0 ≤ a) (hb : 0 ≤ b) {ps : List Part} (hv : ∀ p ∈ ps, ValidPart p) (l : List ByteArray) : (costM l (formSlotsM (ps.map (morePart a b)))).2 ≤ (costM l (formSlotsM ps)).2 := cost_more (moreForm_slots ha hb hv) l
/-! ### a shelf with more room is right -/
theorem partErr_none {p : Part} (h : ValidPart p) : partErrM p = 0 := by
  unfold partErrM
  rw [if_neg (by have := h.n; omega), if_neg (by rw [h.w]; simp)]
  by_cases he : p.words.length = 0
  · rw [if_neg (by simpa using he)]
    obtain ⟨r1, r2, r3, r4⟩ := h.r (List.eq_nil_of_length_eq_zero he)
    rw [if_neg, if_neg (by omega)]
    rintro (e | e | e)
    · unfold inM at e
      simp at e; omega
    · unfold inM at e
      simp at e; omega
    · omega
  · rw [if_pos he, if_pos (h.z fun e => he (by rw [e]; rfl))]
theorem firstErr_zeroFrom {α : Type} (f : List α → α → Int) : ∀ (r pre : List α), (∀ k (hk : k < r.length), f (pre ++ r.take k) r[k] = 0) → (firstErrFrom f pre r).2 = 0
  | [], _, _ => rfl
  | x :: r, pre, h => by
    have h0 := h 0 (by simp)
    simp only [List.take_zero, List.append_nil, List.getElem_cons_zero] at h0
    unfold firstErrFrom
    rw [if_pos h0]
    refine firstErr_zeroFrom f r (pre ++ [x]) fun k hk => ?_
    have := h (k + 1) (by simpa using hk)
    simpa using this
theorem firstErr_zero {α : Type} (f : List α → α → Int) (l : List α) (h : ∀ k (hk : k < l.length), f (l.take k) l[k] = 0) : (firstErr f l).2 = 0 :=
  firstErr_zeroFrom f l [] fun k hk => by rw [List.nil_append]; exact h k hk
theorem formErr_none {l : List Form} {f : Form} (h : ValidForm f) (hn : (l.any fun y => y.name.toList == f.name.toList) = false) : formErrM l f = 0 := by
  unfold formErrM
  rw [if_neg (by rw [h.name]; simp), if_neg (by rw [hn]; simp), if_neg (by have := h.n; omega)]
  exact firstErr_zero _ _ fun k hk => partErr_none (h.parts _ (List.getElem_mem hk))
def moreForm (a b : Int) (f : Form) : Form := ⟨f.name, f.parts.map (morePart a b)⟩
theorem moreForm_ok {a b : Int} (ha : 0 ≤ a) (hb : 0 ≤ b) {f : Form} (h : ValidForm f) : ValidForm (moreForm a b f) :=
  ⟨h.name, by show (f.parts.map _).length ≤ 5; rw [List.length_map]; exact h.n, fun p hp => by
    obtain ⟨q, hq, rfl⟩ := List.mem_map.1 hp
    exact (morePart_ok ha hb (h.parts q hq)).1⟩
/-- a shelf, one form of which has more room -/
def moreShelf (a b : Int) (s : Shelf) (n : Nat) : Shelf := ⟨s.width, s.forms.modify n (moreForm a b)⟩
theorem errS_parts {s : Shelf} (h : errS s = 0) : inM s.width 8 30 = true ∧ s.forms.length ≤ 4 ∧ (firstErr formErrM s.forms).2 = 0 := by
  unfold errS checkS at h
  split at h
  · cases h
  rename_i h1
  split at h
  · cases h
  rename_i h2
  split at h
  · rename_i h3; exact absurd h h3
  · rename_i h3; exact ⟨by simpa using h1, by omega, by simpa using h3⟩
theorem moreShelf_ok {a b : Int} (ha : 0 ≤ a) (hb : 0 ≤ b) {s : Shelf} (h : errS s = 0) (n : Nat) : errS (moreShelf a b s n) = 0 := by
  obtain ⟨h1, h2, h3⟩ := errS_parts h
  have hlen : (moreShelf a b s n).forms.length = s.forms.length := List.length_modify ..
  have hget : ∀ k (hk : k < (moreShelf a b s n).forms.length), (moreShelf a b s n).forms[k] = if n = k then moreForm a b (s.forms[k]'(by omega)) else s.forms[k]'(by omega) := fun k hk => List.getElem_modify ..
  have hname : ∀ k (hk : k < (moreShelf a b s n).forms.length), ((moreShelf a b s n).forms[k]).name = (s.forms[k]'(by omega)).name := fun k hk => by
    rw [hget k hk]; split <;> rfl
  have h4 : (firstErr formErrM (moreShelf a b s n).forms).2 = 0 := by
    refine firstErr_zero _ _ fun k hk => ?_
    have hk' : k < s.forms.length := by omega
    obtain ⟨v, hn⟩ := formErr_ok (firstErr_ok _ _ h3 k hk')
    refine formErr_none ?_ ?_
    · rw [hget k hk]
      split
      · exact moreForm_ok ha hb v
      · exact v
    · rw [hname k hk]
      rw [List.any_eq_false] at hn ⊢
      intro y hy
      obtain ⟨i, hi, rfl⟩ := List.getElem_of_mem hy
      rw [List.length_take] at hi
      rw [List.getElem_take, hname i (by omega)]
      exact hn _ (by
        have : i < (s.forms.take k).length := by rw [List.length_take]; omega
        have e : (s.forms.take k)[i] = s.forms[i]'(by omega) := List.getElem_take
        rw [← e]; exact List.getElem_mem this)
  unfold errS checkS
  rw [if_neg (by show ¬ inM s.width 8 30 = false; rw [h1]; simp), if_neg (by rw [hlen]; omega), if_neg (by rw [h4]; simp)]
end Go.Proofs.YtcamegaimleomaaGreat
