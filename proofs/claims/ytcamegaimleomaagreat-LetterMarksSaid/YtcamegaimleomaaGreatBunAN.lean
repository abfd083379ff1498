/-
  ERRORS OF THE REFERENCE: Roomy, part, Check, form and letter return what the program's do.
  ERRORS BEHIND ONE ANOTHER: letter and form of the reference, valid of the statements.
  LetterMarks: Fewest and Apply return what the document says, for any letters and marks.
  A BOOK THAT IS HANDED IN, opened: lists of letters, alphabets and spellings as they lie in memory.
  LETTERS, MARKS, FILLS AND SHELVES that are handed in, opened.
  A CALL THAT LETS ALL BE AS IT WAS, AND ANSWERS AS IT SHOULD, KEEPS A LAW's WORD.
-/
import Derived.Test.YtcamegaimleomaaGreatBunAB
import Derived.Test.YtcamegaimleomaaGreatBunAD
import Derived.Test.YtcamegaimleomaaGreatBunAL
import Derived.Test.YtcamegaimleomaaGreatBunAM
import Derived.Test.YtcamegaimleomaaGreatBunAJ
import Derived.RegionTactic
import Derived.BigRegion
import Derived.Deep.CutBlock
import Derived.Deep.DeepCutAuto
import Derived.Test.YtcamegaimleomaaGreatBunAC
import Derived.Test.YtcamegaimleomaaGreatBunAK
import Derived.Test.YtcamegaimleomaaGreatBunAA
import Derived.Deep.Slices
import Derived.Deep.Strs
import Derived.WideKeyArgs
import Derived.OpenShut
import Derived.ProofKit
namespace Go.Proofs.YtcamegaimleomaaGreat
set_option linter.unusedSimpArgs false
set_option linter.unusedVariables false
open Go.RowKit
set_option linter.unusedVariables false

theorem refRoomy_any (a : Option Addr) (n cap : Nat) (lo hi : Int) (w : World) :
    Calls Tryz.prog 28 #[.agg #[.slice a n cap, .int .i64 lo, .int .i64 hi]] w fun e w' => e = .returned (.bool ((n : Int) == 0)) ∧ Ext w w' := by
  go_enter Tryz.func28, Tryz.ntmps28
  go_wp2
  go_ret
  exact ⟨by simp, (by first | (with_reducible exact Ext.refl _) | (with_reducible assumption) | (show Below _ _ _; go_grown; done))⟩
theorem span_fields : ∃ f g, (Tryz.prog.fieldsOf 57).toList = [f, g] ∧ f.type = 3 ∧ f.offset = 0 ∧ g.type = 3 ∧ g.offset = 1 ∧ f.name = "Lo" ∧ g.name = "Hi" := by
  have hf : ((Tryz.prog.fieldsOf 57).toList.map fun f => (f.name, f.type, f.offset)) = [("Lo", 3, 0), ("Hi", 3, 1)] := by kernel_rfl
  generalize (Tryz.prog.fieldsOf 57).toList = fs at *
  obtain ⟨f, g, rfl⟩ : ∃ f g, fs = [f, g] := by
    rcases fs with _ | ⟨f, _ | ⟨g, _ | ⟨h, r⟩⟩⟩
    · simp at hf
    · simp at hf
    · exact ⟨f, g, rfl⟩
    · simp at hf
  simp only [List.map_cons, List.map_nil, List.cons.injEq, Prod.mk.injEq, and_true] at hf
  obtain ⟨⟨h1, h2, h3⟩, h4, h5, h6⟩ := hf
  exact ⟨f, g, rfl, h2, h3, h5, h6, h1, h4⟩
theorem equal_span (a b c d : Int) (w : World) : (Op.equal 57 (.agg #[.int .i64 a, .int .i64 b]) (.agg #[.int .i64 c, .int .i64 d])).run Tryz.prog w = .ok (decide (a = c ∧ b = d)) w := by
  have hop : ∀ x y : Value, Op.equal 57 x y = Op.equalIn Op.maxDepth 57 x y := fun _ _ => rfl
  obtain ⟨m0, hd⟩ : ∃ m0, Op.maxDepth = m0 + 2 := ⟨9998, by decide⟩
  have ha : ∀ w, (isAgg 3).run Tryz.prog w = .ok false w := fun _ => by kernel_rfl
  rw [hop, hd]
  rw [run_equalIn_struct _ _ _ _ _ (by kernel_rfl) (by kernel_rfl)]
  obtain ⟨f, g, hfs, h2, h3, h5, h6, n1, n2⟩ := span_fields
  rw [hfs]
  simp [Op.eqFields, h2, h3, h5, h6, n1, n2, part, ha, go_sem]
  by_cases e1 : a = c <;> by_cases e2 : b = d <;> simp [e1, e2]
theorem neq_span (a b c d : Int) (w : World) : (binOp .neq 57 (.agg #[.int .i64 a, .int .i64 b]) (.agg #[.int .i64 c, .int .i64 d])).run Tryz.prog w = .ok (.bool (!decide (a = c ∧ b = d))) w := by
  have h := equal_span a b c d w
  have hop : Op.equal 57 (.agg #[.int .i64 a, .int .i64 b]) (.agg #[.int .i64 c, .int .i64 d]) = Op.equalIn 10000 57 (.agg #[.int .i64 a, .int .i64 b]) (.agg #[.int .i64 c, .int .i64 d]) := rfl
  rw [hop] at h
  rw [run_neq_struct, h]
  rfl
set_option maxRecDepth 100000 in
set_option maxHeartbeats 2000000 in
theorem refPart_any (v : Value) (p : Part) (w : World) (hp : PartV w v p) :
    Calls Tryz.prog 101 #[v] w fun e w' => e = .returned (.int .i64 (partErrM p)) ∧ Ext w w' := by
  obtain ⟨u, rfl, hs, hlo, hhi⟩ := hp
  obtain ⟨a, cap, rfl, hlc, hcm⟩ := hs.shape
  unfold partErrM
  by_cases h3 : 3 < p.words.length
  · rw [if_pos h3]
    have k1 : (3 : Int) < (p.words.length : Int) := by omega
    go_enter Tryz.func101, Tryz.ntmps101
    go_wp2
    go_ret
    exact ⟨rfl, (by first | (with_reducible exact Ext.refl _) | (with_reducible assumption) | (show Below _ _ _; go_grown; done))⟩
  rw [if_neg h3]
  have k1 : ¬ (3 : Int) < (p.words.length : Int) := by omega
  have xB : Ext w (w.alloc (.cells #[.slice a p.words.length cap, .int .i64 p.lo, .int .i64 p.hi] 59)) := ext_alloc _ _
  have hw := refWords_any _ p.words _ (hs.ext xB)
  have b0 : ((w.alloc (.cells #[.slice a p.words.length cap, .int .i64 p.lo, .int .i64 p.hi] 59))).cell? ⟨w.heap.size, 0, none⟩ = some (.slice a p.words.length cap) := by simp [go_sem]
  have b1 : ((w.alloc (.cells #[.slice a p.words.length cap, .int .i64 p.lo, .int .i64 p.hi] 59))).cell? ⟨w.heap.size, 1, none⟩ = some (.int .i64 p.lo) := by simp [go_sem]
  have b2 : ((w.alloc (.cells #[.slice a p.words.length cap, .int .i64 p.lo, .int .i64 p.hi] 59))).cell? ⟨w.heap.size, 2, none⟩ = some (.int .i64 p.hi) := by simp [go_sem]
  have B0 := Lib.hid b0
  have B1 := Lib.hid b1
  have B2 := Lib.hid b2
  clear b0 b1 b2
  cases hb : wordsM p.words
  · rw [if_pos rfl]
    rw [hb] at hw
    clear hb
    go_enter Tryz.func101, Tryz.ntmps101
    go_wp2_with fail
    refine hw.mono ?_
    rintro e w1 ⟨rfl, hx⟩
    go_wp2
    go_ret
    exact ⟨rfl, hx.of_alloc⟩
  rw [if_neg (by decide)]
  rw [hb] at hw
  clear hb
  have hnq := fun w => neq_span p.lo p.hi 0 0 w
  by_cases h0 : p.words.length = 0
  · rw [if_neg (by omega)]
    have e0 : ((p.words.length : Int) == 0) = true := by simp [h0]
    have hcase : (inM p.lo 0 3 = false ∨ inM p.hi 0 3 = false ∨ p.hi = 0) ↔ (inM p.lo 0 3 = false ∨ inM p.hi 1 3 = false) := by
      have : (inM p.hi 1 3 = false) ↔ (inM p.hi 0 3 = false ∨ p.hi = 0) := by simp [inM]; omega
      rw [this]
    have Hc := Lib.hid hcase
    clear hcase hnq h0
    obtain ⟨er, her⟩ : ∃ er : Int, (if inM p.lo 0 3 = false ∨ inM p.hi 0 3 = false ∨ p.hi = 0 then 7 else if p.hi < p.lo then 2 else 0) = er := ⟨_, rfl⟩
    rw [her]
    have Her := Lib.hid her
    clear her
    go_enter Tryz.func101, Tryz.ntmps101
    go_wp2_with fail
    refine hw.mono ?_
    rintro e w1 ⟨rfl, hx⟩
    have c0 := hx.cell B0.out
    have c1 := hx.cell B1.out
    have c2 := hx.cell B2.out
    have x1 : Ext w w1 := hx.of_alloc
    have z1 : w.heap.size < w1.heap.size := cell_lt c0
    clear hw hx B0 B1 B2 xB hs
    go_wp2_with fail
    refine (refRoomy_any a _ cap p.lo p.hi w1).mono ?_
    rintro e w2 ⟨rfl, hx⟩
    replace c0 := hx.cell c0
    replace c1 := hx.cell c1
    replace c2 := hx.cell c2
    replace x1 := x1.trans hx
    replace z1 : w.heap.size < w2.heap.size := cell_lt c0
    clear hx
    rw [e0]
    clear e0
    go_wp2_with fail
    (refine (In_any _ _ _ _).mono ?_; rintro e w' ⟨rfl, rfl⟩)
    cases h1 : inM p.lo 0 3
    · have H1 := Lib.hid h1
      clear h1
      go_wp2
      go_ret
      exact ⟨ret_int (by rw [← Her.out, if_pos (Hc.out.2 (.inl H1.out))]), x1⟩
    have H1 := Lib.hid h1
    clear h1
    go_wp2_with fail
    (refine (In_any _ _ _ _).mono ?_; rintro e w' ⟨rfl, rfl⟩)
    cases h2 : inM p.hi 1 3
    · have H2 := Lib.hid h2
      clear h2
      go_wp2
      go_ret
      exact ⟨ret_int (by rw [← Her.out, if_pos (Hc.out.2 (.inr H2.out))]), x1⟩
    have H2 := Lib.hid h2
    clear h2
    have hno : ¬ (inM p.lo 0 3 = false ∨ inM p.hi 0 3 = false ∨ p.hi = 0) := fun h => by
      rcases Hc.out.1 h with h | h
      · rw [H1.out] at h; cases h
      · rw [H2.out] at h; cases h
    have Hno := Lib.hid hno
    clear hno Hc
    by_cases h5 : p.hi < p.lo
    · have H5 := Lib.hid h5
      go_wp2
      go_ret
      exact ⟨ret_int (by rw [← Her.out, if_neg Hno.out, if_pos H5.out]), x1⟩
    · have H5 := Lib.hid h5
      go_wp2
      go_ret
      exact ⟨ret_int (by rw [← Her.out, if_neg Hno.out, if_neg (by have := H5.out; omega)]), x1⟩
  · rw [if_pos h0]
    have e0 : ((p.words.length : Int) == 0) = false := by simp [h0]
    clear h0
    by_cases h1 : p.lo = 0 ∧ p.hi = 0
    all_goals
      first | rw [if_pos h1] | rw [if_neg h1]
      first | rw [decide_eq_true h1] at hnq | rw [decide_eq_false h1] at hnq
      clear h1
      go_enter Tryz.func101, Tryz.ntmps101
      go_wp2_with fail
      refine hw.mono ?_
      rintro e w1 ⟨rfl, hx⟩
      have c0 := hx.cell B0.out
      have c1 := hx.cell B1.out
      have c2 := hx.cell B2.out
      have x1 : Ext w w1 := hx.of_alloc
      have z1 : w.heap.size < w1.heap.size := cell_lt c0
      clear hw hx B0 B1 B2 xB hs
      go_wp2_with fail
      refine (refRoomy_any a _ cap p.lo p.hi w1).mono ?_
      rintro e w2 ⟨rfl, hx⟩
      replace c0 := hx.cell c0
      replace c1 := hx.cell c1
      replace c2 := hx.cell c2
      replace x1 := x1.trans hx
      replace z1 : w.heap.size < w2.heap.size := cell_lt c0
      clear hx
      rw [e0]
      clear e0
      go_wp2
      go_ret
      exact ⟨rfl, x1⟩
theorem formErr_fresh (before : List Form) (f : Form) : formErrM before f = if freshM f.name (before.map (·.name)) ≠ 0 then freshM f.name (before.map (·.name)) else if 5 < f.parts.length then 3 else (firstErr (fun _ => partErrM) f.parts).2 := by
  rw [formErr_name]
  rfl
/-- the first error of some parts, if there is none before -/
theorem parts_step (ps : List Part) (k : Nat) (h : k < ps.length) (e : Int) (he : (firstErrFrom (fun _ => partErrM) (ps.take k) (ps.drop k)).2 = e) : partErrM ps[k] = 0 → (firstErrFrom (fun _ => partErrM) (ps.take (k + 1)) (ps.drop (k + 1))).2 = e := fun h0 => by
  rw [← he, ← firstErrFrom_step (fun _ => partErrM) ps k h _ rfl h0]
/-- the error of a form, behind what its name has -/
def behindE (e0 : Int) (f : Form) : Int := if e0 ≠ 0 then e0 else (firstErr (fun _ => partErrM) f.parts).2
def ChkB2 (e0 : Int) (f : Form) (R : World) (v : Value) (wc : World) : Prop := v = .int .i64 (behindE e0 f) ∧ Ext R wc
set_option maxRecDepth 100000 in
set_option maxHeartbeats 2000000 in
theorem refCheck_b2 {u0 u1 u2 u3 u4 u5 u6 u10 u11 u12 u13 u14 u15 u16 u17 u18 u19 u20 u21 u22 u23 u24 u25 u26 u27 u28 u29 u30 u31 u32 u33 u34 u35 u36 u37 u38 u39 u40 u41 u42 u43 u44 u45 u46 u47 u48 u49 u50 u51 u52 u53 u54 u55 u56 u57 u58 u59 u60 u61 u62 u63 u64 u65 u66 u67 : Value} {fb : Nat} {e0 : Int} {pa : Option Addr} {pc : Nat} {f : Form} {R : World} (c1 : R.cell? ⟨fb, 1, none⟩ = some (.slice pa f.parts.length pc)) (hp : PartsAt R (.slice pa f.parts.length pc) f.parts) (Q : Exit → Act → World → Prop)
    (hQ : ∀ (v8 v9 v47 v48 v49 v50 v51 v52 v53 v54 v55 v56 v57 v58 v59 v60 v61 v62 v63 : Value) (wc : World), ChkB2 e0 f R v8 wc → Q .normal ⟨#[u0, u1, u2, u3, u4, u5, u6, .pointer (some ⟨fb, 0, none⟩), v8, v9, u10, u11, u12, u13, u14, u15, u16, u17, u18, u19, u20, u21, u22, u23, u24, u25, u26, u27, u28, u29, u30, u31, u32, u33, u34, u35, u36, u37, u38, u39, u40, u41, u42, u43, u44, u45, u46, v47, v48, v49, v50, v51, v52, v53, v54, v55, v56, v57, v58, v59, v60, v61, v62, v63, u64, u65, u66, u67], []⟩ wc) :
    Code.wp Tryz.prog (blockOf Tryz.f44 2) Q ⟨#[u0, u1, u2, u3, u4, u5, u6, .pointer (some ⟨fb, 0, none⟩), .int .i64 e0, .int .i64 0, u10, u11, u12, u13, u14, u15, u16, u17, u18, u19, u20, u21, u22, u23, u24, u25, u26, u27, u28, u29, u30, u31, u32, u33, u34, u35, u36, u37, u38, u39, u40, u41, u42, u43, u44, u45, u46, u47, u48, u49, u50, u51, u52, u53, u54, u55, u56, u57, u58, u59, u60, u61, u62, u63, u64, u65, u66, u67], []⟩ R := by
  conv => arg 2; whnf
  obtain ⟨-, hl1, hl2⟩ := hp.len
  obtain ⟨FE, hFE⟩ : ∃ FE, behindE e0 f = FE := ⟨_, rfl⟩
  have HFE := Lib.hid hFE
  unfold ChkB2 at hQ
  rw [hFE] at hQ
  have HQ := Lib.hid hQ
  clear hFE hQ
  go_wp2_with fail
  go_loopw [8, 9] (fun ev q wr => ∃ (k : Nat) (e : Int), k ≤ f.parts.length ∧ q = .int .i64 k ∧ ev = .int .i64 e ∧ Ext R wr ∧ (e = 0 → e0 = 0 ∧ (firstErrFrom (fun _ => partErrM) (f.parts.take k) (f.parts.drop k)).2 = FE) ∧ (e ≠ 0 → e = FE)) (fun _ q _ => f.parts.length - (intOf q).toNat)
  case atStart =>
    refine ⟨0, e0, Nat.zero_le _, rfl, rfl, Ext.refl _, fun h => ⟨h, ?_⟩, fun h => ?_⟩
    · have := HFE.out
      unfold behindE at this
      rw [if_neg (by simpa using h)] at this
      exact this
    · have := HFE.out
      unfold behindE at this
      rw [if_pos h] at this
      exact this
  case round =>
    obtain ⟨k, e, hk, rfl, rfl, hx, hz, hn⟩ := hrel
    have r1 := hx.cell c1
    have zr := cell_lt r1
    by_cases hlt : k < f.parts.length
    · have k1 : (k : Int) < (f.parts.length : Int) := by omega
      by_cases h0 : e = 0
      · subst h0
        obtain ⟨h00, hf1⟩ := hz rfl
        obtain ⟨b, o, rfl, ⟨u, p0, hs⟩, p1, p2, i1, i2⟩ := (hp.ext hx).get hlt
        have hstep := firstErrFrom_step (fun _ => partErrM) f.parts k hlt _ rfl
        have hhit := firstErrFrom_hit (fun _ => partErrM) f.parts k hlt _ rfl
        generalize f.parts[k] = p at *
        obtain ⟨ua, uc, rfl, -⟩ := hs.shape
        have hpv : PartV wr (.agg #[.slice ua p.words.length uc, .int .i64 p.lo, .int .i64 p.hi]) p := ⟨_, rfl, hs, i1, i2⟩
        have Hstep := Lib.hid hstep
        have Hhit := Lib.hid hhit
        have Hf1 := Lib.hid hf1
        have H00 := Lib.hid h00
        clear hstep hhit hz hn hs hf1 h00
        go_wp2_with fail
        refine (refPart_any _ p _ hpv).mono ?_
        rintro e w2 ⟨rfl, hx2⟩
        obtain ⟨pe, hpe⟩ : ∃ pe, partErrM p = pe := ⟨_, rfl⟩
        rw [hpe]
        have Hpe := Lib.hid hpe
        clear hpe
        go_wp2
        go_roundw
        case rel =>
          refine ⟨k + 1, pe, by omega, by go_num, rfl, hx.trans hx2, fun h => ⟨H00.out, ?_⟩, fun h => ?_⟩
          · rw [Hstep.out (by rw [Hpe.out]; exact h)]; exact Hf1.out
          · rw [← Hf1.out, Hhit.out (by rw [Hpe.out]; exact h)]; exact Hpe.out.symm
        case measure => simp [intOf]; omega
      · have h0' : (e == 0) = false := by simpa using h0
        have he := hn h0
        subst he
        clear hz hn h0
        go_wp2
        exact HQ.out _ _ _ _ _ _ _ _ _ _ _ _ _ _ _ _ _ _ _ _ ⟨rfl, hx⟩
    · obtain rfl : k = f.parts.length := by omega
      have he : e = FE := by
        by_cases h0 : e = 0
        · obtain ⟨-, h1⟩ := hz h0
          rw [firstErrFrom_end _ _ _ (Nat.le_refl _)] at h1
          rw [h0]; exact h1
        · exact hn h0
      subst he
      clear hz hn
      go_wp2
      exact HQ.out _ _ _ _ _ _ _ _ _ _ _ _ _ _ _ _ _ _ _ _ ⟨rfl, hx⟩
set_option maxRecDepth 100000 in
set_option maxHeartbeats 4000000 in
theorem refCheckS_any (sv : Value) (s : Shelf) (w : World) (hs : ShelfAt w sv s) :
    Calls Tryz.prog 44 #[sv] w fun e w' => e = .returned (.tuple #[.int .i64 (checkS s).1, .int .i64 (checkS s).2.1, .int .i64 (checkS s).2.2]) ∧ Ext w w' := by
  obtain ⟨a, c, rfl, hw, hc1, hc2, hf⟩ := hs.open
  obtain ⟨i0, hi, hz0, hz1, hz2⟩ := info_parts infoString
  have q0 : (w.alloc (.cells #[.int .i64 s.width, .slice a s.forms.length c] 24)).cell? ⟨w.heap.size, 0, none⟩ = some (.int .i64 s.width) := by simp [go_sem]
  have q1 : (w.alloc (.cells #[.int .i64 s.width, .slice a s.forms.length c] 24)).cell? ⟨w.heap.size, 1, none⟩ = some (.slice a s.forms.length c) := by simp [go_sem]
  obtain ⟨W, hW⟩ : ∃ W, W = w.alloc (.cells #[.int .i64 s.width, .slice a s.forms.length c] 24) := ⟨_, rfl⟩
  have xW : Ext w W := by rw [hW]; exact ext_alloc _ _
  have zW : W.heap.size = w.heap.size + 1 := by rw [hW]; simp
  rw [← hW] at q0 q1
  have HW := Lib.hid hW
  clear hW
  have hfW := hf.ext xW
  go_enter Tryz.func44, Tryz.ntmps44
  go_wp2_with fail
  rw [← HW.out]
  refine (In_any _ _ _ _).mono ?_
  rintro e w' ⟨rfl, rfl⟩
  cases h1 : inM s.width 8 30
  · have H1 := Lib.hid h1; clear h1
    go_wp2_with fail
    go_ret3
    exact ⟨ret_three (by rw [checkS, if_pos H1.out]), xW⟩
  have H1 := Lib.hid h1; clear h1
  by_cases h4 : 4 < s.forms.length
  · have H4 := Lib.hid h4
    have k4 : (4 : Int) < (s.forms.length : Int) := by omega
    clear h4
    go_wp2_with fail
    go_ret3
    exact ⟨ret_three (by rw [checkS, if_neg (by rw [H1.out]; decide), if_pos H4.out]), xW⟩
  have H4 := Lib.hid h4
  have k4 : ¬ (4 : Int) < (s.forms.length : Int) := by omega
  clear h4
  go_wp2_with fail
  go_loopw [5, 6] (fun u i wr => ∃ k : Nat, k ≤ s.forms.length ∧ i = .int .i64 k ∧ Ext W wr ∧ RowW W.heap.size ((s.forms.take k).map (·.name)) u wr ∧ firstErrFrom formErrM (s.forms.take k) (s.forms.drop k) = firstErr formErrM s.forms) (fun _ i _ => s.forms.length - (intOf i).toNat)
  case atStart => exact ⟨0, Nat.zero_le _, rfl, Ext.refl _, RowW.nil, rfl⟩
  case round =>
    obtain ⟨k, hk, rfl, hxr, hown, hfe⟩ := hrel
    have r0 := hxr.cell q0
    have r1 := hxr.cell q1
    have zr := cell_lt r0
    have hszr := hxr.size
    have Hfe := Lib.hid hfe
    clear hfe
    by_cases hlt : k < s.forms.length
    · have k1 : (k : Int) < (s.forms.length : Int) := by omega
      obtain ⟨b, o, rfl, f0, fsz, pu, f1, hps⟩ := hfW.get hlt
      replace f0 := hxr.cell f0
      replace f1 := hxr.cell f1
      obtain ⟨pa, pc, rfl, hpc, hpm⟩ := hps.shape
      have hstep := firstErrFrom_step formErrM s.forms k hlt _ rfl
      have hhit := firstErrFrom_hit formErrM s.forms k hlt _ rfl
      have hnm : (s.forms.take (k + 1)).map (·.name) = (s.forms.take k).map (·.name) ++ [s.forms[k].name] := by
        rw [List.take_succ_eq_append_getElem hlt, List.map_append]; rfl
      have hfr := formErr_fresh (s.forms.take k) s.forms[k]
      have hsz : ∀ x ∈ (s.forms.take k).map (·.name), x.size ≤ 9223372036854775807 := fun x hx => by
        obtain ⟨f, hf1, rfl⟩ := List.mem_map.1 hx
        obtain ⟨i, hi', rfl⟩ := List.getElem_of_mem (List.mem_of_mem_take hf1)
        obtain ⟨_, _, -, -, g, -⟩ := hfW.get hi'
        exact g
      have hnl : ((s.forms.take k).map (·.name)).length = k := by simp; omega
      generalize s.forms[k] = f at *
      generalize (s.forms.take k).map (·.name) = nms at *
      have Hstep := Lib.hid hstep
      have Hhit := Lib.hid hhit
      have Hnm := Lib.hid hnm
      have Hfr := Lib.hid hfr
      have hat := hown.at_ hsz
      clear hstep hhit hnm hfr hsz
      go_wp2_with fail
      refine (fresh_any _ f.name nms _ fsz (hat.ext (ext_alloc _ _))).mono ?_
      rintro e w2 ⟨rfl, rfl⟩
      obtain ⟨fr, hfr⟩ : ∃ fr, freshM f.name nms = fr := ⟨_, rfl⟩
      rw [hfr]
      have Hf2 := Lib.hid hfr
      clear hfr hat
      have hone := StrsAt.oneAt (w := wr.alloc (.cells #[.string f.name, .slice pa f.parts.length pc] 55)) (s := f.name) (t := 9) (B := wr.heap.size + 1) (by simp) fsz
      have own1 := RowW.ext hown ((ext_alloc wr (.cells #[.string f.name, .slice pa f.parts.length pc] 55)).trans (ext_alloc _ (.cells #[.string f.name] 9)))
      have hownlt := fun k hk => World.ownsRow.lt hown k hk
      have Hps := Lib.hid hps
      clear hown hps
      have hcases : (fr ≠ 0 ∧ (fr == 0) = false ∧ formErrM (s.forms.take k) f = behindE fr f) ∨ (fr = 0 ∧ ((5 : Int) < (f.parts.length : Int)) ∧ formErrM (s.forms.take k) f = behindE 3 f) ∨ (fr = 0 ∧ ¬ ((5 : Int) < (f.parts.length : Int)) ∧ formErrM (s.forms.take k) f = behindE 0 f) := by
        have h1 := Hfr.out
        rw [Hf2.out] at h1
        by_cases h0 : fr = 0
        · rw [if_neg (by simpa using h0)] at h1
          by_cases h5 : 5 < f.parts.length
          · rw [if_pos h5] at h1
            exact .inr (.inl ⟨h0, by omega, by rw [h1]; rfl⟩)
          · rw [if_neg h5] at h1
            exact .inr (.inr ⟨h0, by omega, by rw [h1]; rfl⟩)
        · rw [if_pos h0] at h1
          exact .inl ⟨h0, by simpa using h0, by rw [h1, behindE, if_pos h0]⟩
      clear Hfr Hf2
      rcases hcases with ⟨g1, g2, g3⟩ | ⟨rfl, g2, g3⟩ | ⟨rfl, g2, g3⟩
      all_goals
        have G3 := Lib.hid g3
        clear g3
        try clear g1
        go_upto_block 2 with (at_builtin; go_loud (refine wpList_append_strs rfl _ _ 25 rfl W.heap.size i0 Tryz.underlying25 hi hz0 hz1 hz2 u5 _ rfl own1 (.slice (some ⟨wr.heap.size + 1, 0, none⟩) 1 1) rfl [f.name] hone (by simp only [List.length_cons, List.length_nil]; omega) (by simp; omega) ?_; intro v' w2 hown' hgrow _; have g1' : w2.cell? ⟨wr.heap.size, 1, none⟩ = some (.slice pa f.parts.length pc) := hgrow.cell (by simp [go_sem]) (fun e => absurd (hownlt wr.heap.size e.symm).2 (Nat.lt_irrefl _)); have z2 := cell_lt g1'))
        have xW2 : Ext W w2 := Ext.grown ((hxr.alloc _).alloc _) hgrow (fun k hk => (hownlt k hk).1)
        have xr2 : ∀ k, u5.ownBlock = some k → k < wr.heap.size := fun k hk => (hownlt k hk).2
        refine refCheck_b2 (f := f) (pa := pa) (pc := pc) g1' (Hps.out.ext xW2) _ ?_
        intro v8 v9 v47 v48 v49 v50 v51 v52 v53 v54 v55 v56 v57 v58 v59 v60 v61 v62 v63 wc ⟨e8, hxc⟩
        subst e8
        rw [← G3.out]
        obtain ⟨FE, hFE⟩ : ∃ FE, formErrM (s.forms.take k) f = FE := ⟨_, rfl⟩
        rw [hFE]
        have HFE := Lib.hid hFE
        clear hFE G3
        have xwc := xW2.trans hxc
        by_cases h0 : FE = 0
        · subst h0
          go_wp2
          go_roundw
          case rel => exact ⟨k + 1, by omega, by go_num, xwc, by rw [Hnm.out]; exact hown'.ext hxc, (Hstep.out HFE.out).trans Hfe.out⟩
          case measure => simp [intOf]; omega
        · have h0' : (FE != 0) = true := by simpa using h0
          have hfirst : firstErr formErrM s.forms = ((k : Int), FE) := by rw [← Hfe.out, Hhit.out (by rw [HFE.out]; exact h0), HFE.out]
          have Hfirst := Lib.hid hfirst
          have H0 := Lib.hid h0
          clear h0 hfirst
          go_wp2
          go_ret3
          exact ⟨ret_three (by rw [checkS, if_neg (by rw [H1.out]; decide), if_neg H4.out, Hfirst.out, if_pos H0.out]), xW.trans xwc⟩
    · obtain rfl : k = s.forms.length := by omega
      have hfirst : firstErr formErrM s.forms = (0, 0) := by rw [← Hfe.out, firstErrFrom_end _ _ _ (Nat.le_refl _)]
      have Hfirst := Lib.hid hfirst
      clear hfirst
      go_wp2
      go_ret3
      exact ⟨ret_three (by rw [checkS, if_neg (by rw [H1.out]; decide), if_neg H4.out, Hfirst.out, if_neg (fun h => h rfl)]), xW.trans hxr⟩
end Go.Proofs.YtcamegaimleomaaGreat

namespace Go.Proofs.YtcamegaimleomaaGreat
set_option linter.unusedSimpArgs false
set_option linter.unusedVariables false
open Go.RowKit
set_option linter.unusedVariables false

theorem refBehind_any (v : Value) (l : List ByteArray) (er : Int) (w : World) (hl : StrsAt w v l) :
    Calls Tryz.prog 45 #[v, .int .i64 er] w fun e w' => e = .returned (.int .i64 (if er ≠ 0 then er else letterErrL l)) ∧ Ext w w' := by
  by_cases h : er = 0
  · rw [if_neg (by simpa using h)]
    subst h
    go_enter Tryz.func45, Tryz.ntmps45
    go_wp2_with fail
    refine (refLett_any _ l _ hl).mono ?_
    rintro e w1 ⟨rfl, hx⟩
    go_wp2
    go_ret
    exact ⟨rfl, hx⟩
  · rw [if_pos h]
    have h' : (er == 0) = false := by simpa using h
    clear h
    go_enter Tryz.func45, Tryz.ntmps45
    go_wp2
    go_ret
    exact ⟨rfl, Ext.refl _⟩
set_option maxRecDepth 100000 in
theorem refForm_any (sv : Value) (s : Shelf) (n : Int) (hn : I64 n) (w : World) (hs : ShelfAt w sv s) :
    Calls Tryz.prog 50 #[sv, .int .i64 n] w fun e w' => e = .returned (.int .i64 (openErrM s n)) ∧ Ext w w' := by
  have hs0 := hs
  obtain ⟨a, c, rfl, hw, hc1, hc2, hf⟩ := hs.open
  clear hf
  obtain ⟨er, her⟩ : ∃ er, openErrM s n = er := ⟨_, rfl⟩
  rw [her]
  have Her := Lib.hid her
  clear her
  go_enter Tryz.func50, Tryz.ntmps50
  go_wp2_with fail
  refine (refCheckS_any _ s _ (hs0.ext (by first | (with_reducible exact Ext.refl _) | (with_reducible assumption) | (show Below _ _ _; go_grown; done)))).mono ?_
  rintro e w1 ⟨rfl, hx⟩
  have q1 : w1.cell? ⟨w.heap.size, 1, none⟩ = some (.slice a s.forms.length c) := hx.cell (by simp [go_sem])
  have z1 := cell_lt q1
  have x1 : Ext w w1 := hx.of_alloc
  have hE : (checkS s).2.2 = errS s := rfl
  rw [hE]
  generalize (checkS s).2.1 = at1
  generalize (checkS s).1 = part1
  obtain ⟨e0, he0⟩ : ∃ e0, errS s = e0 := ⟨_, rfl⟩
  rw [he0]
  have He0 := Lib.hid he0
  have wl : IntKind.i64.wrap ((s.forms.length : Int) - 1) = (s.forms.length : Int) - 1 := IntWalk.i64_in _ (by omega)
  clear he0 hE hx
  by_cases h : e0 = 0
  · subst h
    go_wp2_with fail
    refine (In_any _ _ _ _).mono ?_
    rintro e w' ⟨rfl, rfl⟩
    cases hi : inM n 0 ((s.forms.length : Int) - 1)
    · have Hi := Lib.hid hi
      clear hi
      go_wp2
      go_ret
      exact ⟨ret_int (by rw [← Her.out, openErrM, if_neg (by rw [He0.out]; simp), if_pos Hi.out]), x1⟩
    · have Hi := Lib.hid hi
      clear hi
      go_wp2
      go_ret
      exact ⟨ret_int (by rw [← Her.out, openErrM, if_neg (by rw [He0.out]; simp), if_neg (by rw [Hi.out]; simp)]), x1⟩
  · have h' : (e0 == 0) = false := by simpa using h
    have H := Lib.hid h
    clear h
    go_wp2
    go_ret
    exact ⟨ret_int (by rw [← Her.out, openErrM, if_pos (by rw [He0.out]; exact H.out), He0.out]), x1⟩
set_option maxRecDepth 100000 in
theorem validL_any (sv : Value) (s : Shelf) (w : World) (hs : ShelfAt w sv s) :
    Calls Tryz.prog 25 #[sv] w fun e w' => e = .returned (.bool (errS s == 0)) ∧ Ext w w' := by
  have hs0 := hs
  obtain ⟨a, c, rfl, hw, hc1, hc2, hf⟩ := hs.open
  clear hf
  go_enter Tryz.func25, Tryz.ntmps25
  go_wp2_with fail
  refine (refCheckS_any _ s _ (hs0.ext (by first | (with_reducible exact Ext.refl _) | (with_reducible assumption) | (show Below _ _ _; go_grown; done)))).mono ?_
  rintro e w1 ⟨rfl, hx⟩
  have x1 : Ext w w1 := Ext.trans (by first | (with_reducible exact Ext.refl _) | (with_reducible assumption) | (show Below _ _ _; go_grown; done)) hx
  clear hx
  have hE : (checkS s).2.2 = errS s := rfl
  rw [hE]
  generalize (checkS s).2.1 = at1
  generalize (checkS s).1 = part1
  clear hE
  go_wp2
  go_ret
  exact ⟨rfl, x1⟩
end Go.Proofs.YtcamegaimleomaaGreat

namespace Go.Proofs.YtcamegaimleomaaGreat
set_option linter.unusedSimpArgs false
set_option linter.unusedVariables false
open Go.RowKit
set_option linter.unusedVariables false

/-! ### what Apply makes are words that there were -/
theorem bec_size {k : Nat} {left : List ByteArray} {wd : ByteArray} (hl : ∀ s ∈ left, s.size ≤ 9223372036854775807) (hw : wd.size ≤ 9223372036854775807) : ∀ s ∈ becM k left wd, s.size ≤ 9223372036854775807 := by
  intro s hs
  unfold becM at hs
  split at hs
  · exact hl s (List.mem_of_mem_take hs)
  · rw [List.mem_singleton] at hs; rw [hs]; exact hw
  · rw [List.mem_singleton] at hs; rw [hs]; exact hw
  · cases hs
theorem marked_size : ∀ (ms : List Mark) (left out : List ByteArray), (∀ m ∈ ms, m.word.size ≤ 9223372036854775807) → (∀ s ∈ left, s.size ≤ 9223372036854775807) → (∀ s ∈ out, s.size ≤ 9223372036854775807) → ∀ s ∈ (markedF ms left out).2.1, s.size ≤ 9223372036854775807
  | [], left, out, _, _, ho => ho
  | m :: r, left, out, hm, hl, ho => by
    rw [markedF]
    split
    · exact ho
    · refine marked_size r _ _ (fun x hx => hm x (List.mem_cons_of_mem _ hx)) (fun s hs => hl s (List.mem_of_mem_drop hs)) fun s hs => ?_
      rcases List.mem_append.1 hs with hs | hs
      · exact ho s hs
      · exact bec_size hl (hm m List.mem_cons_self) s hs
theorem apply_size {ms : List Mark} {l : List ByteArray} (hm : ∀ m ∈ ms, m.word.size ≤ 9223372036854775807) (hl : ∀ s ∈ l, s.size ≤ 9223372036854775807) : ∀ s ∈ (applyM ms l).words, s.size ≤ 9223372036854775807 := by
  have h := marked_size ms l [] hm hl (by simp)
  unfold applyM
  split
  · simp
  · split
    · simp
    · unfold markedM
      split
      · simp
      · split
        · simp
        · split
          · simp
          · exact h
theorem strs_size {w : World} {v : Value} {l : List ByteArray} (h : StrsAt w v l) : ∀ s ∈ l, s.size ≤ 9223372036854775807 := fun s hs => by
  obtain ⟨i, hi, rfl⟩ := List.getElem_of_mem hs
  obtain ⟨a, c, rfl, -⟩ := h.shape
  obtain ⟨b, o, -, -, h2⟩ := h.get hi
  exact h2
theorem marks_size {w : World} {v : Value} {l : List Mark} (h : MarksAt w v l) : ∀ m ∈ l, m.word.size ≤ 9223372036854775807 := fun s hs => by
  obtain ⟨i, hi, rfl⟩ := List.getElem_of_mem hs
  obtain ⟨a, c, rfl, -⟩ := h.shape
  obtain ⟨b, o, -, -, -, -, h2⟩ := h.get hi
  exact h2
set_option maxRecDepth 100000 in
set_option maxHeartbeats 2000000 in
theorem refFewest_any (fv tv : Value) (f t : List ByteArray) (w : World) (hf : StrsAt w fv f) (ht : StrsAt w tv t) :
    Calls Tryz.prog 16 #[fv, tv] w fun e w' => ∃ u, e = .returned (.tuple #[u, .int .i64 (fewManyM f t), .int .i64 (fewErrM f t)]) ∧ MarksAt w' u (fewMarksM f t) ∧ Ext w w' := by
  obtain ⟨fa, fc, rfl, -⟩ := hf.shape
  obtain ⟨ta, tc, rfl, -⟩ := ht.shape
  have hfe : (if letterErrL f ≠ 0 then letterErrL f else letterErrL t) = fewErrM f t := rfl
  go_enter Tryz.func16, Tryz.ntmps16
  go_wp2_with fail
  refine (refLett_any _ f _ hf).mono ?_
  rintro e w1 ⟨rfl, x1⟩
  have hb := refBehind_any _ t (letterErrL f) w1 (ht.ext x1)
  rw [hfe] at hb
  go_wp2_with fail
  refine hb.mono ?_
  rintro e w2 ⟨rfl, hx⟩
  have x2 := x1.trans hx
  clear hx hb hfe
  by_cases he : fewErrM f t = 0
  · obtain ⟨e1, e2⟩ := few_ok he
    obtain ⟨f15, -⟩ := lettErr_ok e1
    obtain ⟨t15, tw⟩ := lettErr_ok e2
    have hc := few_corrN he
    have hsnd := marks_sound f t tw
    have hmk : fewMarksM f t = marksM f (givenM t) := by unfold fewMarksM; rw [if_pos he]
    have Hmk := Lib.hid hmk
    have Hc := Lib.hid hc
    have Tw := Lib.hid tw
    have Hs := Lib.hid hsnd
    have He := Lib.hid he
    rw [he]
    clear e1 e2 hc he tw hsnd hmk
    go_wp2_with fail
    refine (refMarks_any _ _ f t _ (hf.ext x2) (ht.ext x2) (by omega) (by omega) Tw.out).mono ?_
    rintro e w3 ⟨u, rfl, hrow, hx⟩
    have x3 := x2.trans hx
    have hat := hrow.at_ Hs.out
    rw [← Hmk.out] at hat
    clear hx hrow
    obtain ⟨ua, uc, rfl, -⟩ := hat.shape
    go_wp2_with fail
    refine (corrections_any _ _ _ hat).mono ?_
    rintro e w4 ⟨rfl, hx⟩
    rw [Hc.out]
    go_wp2_with fail
    go_ret3
    exact ⟨.slice ua (fewMarksM f t).length uc, by rw [He.out]; rfl, hat.ext hx, x3.trans hx⟩
  · have he' : (fewErrM f t != 0) = true := by simpa using he
    have hmn : fewMarksM f t = [] := by unfold fewMarksM; rw [if_neg he]
    have hmm : fewManyM f t = 0 := by unfold fewManyM; rw [if_neg he]
    have Hmn := Lib.hid hmn
    have Hmm := Lib.hid hmm
    clear he hmn hmm
    go_wp2_with fail
    go_ret3
    exact ⟨.slice none 0 0, by rw [Hmm.out]; rfl, by rw [Hmn.out]; exact SliceAt.nil, x2⟩
set_option maxRecDepth 100000 in
set_option maxHeartbeats 2000000 in
theorem marksL_any (fv tv mv : Value) (f t : List ByteArray) (ms : List Mark) (w : World) (hf : StrsAt w fv f) (ht : StrsAt w tv t) (hm : MarksAt w mv ms) :
    Calls Tryz.prog 4 #[fv, tv, mv] w fun e w' => e = .returned (.bool true) ∧ Ext w w' := by
  have Hsz := Lib.hid (apply_size (marks_size hm) (strs_size hf))
  obtain ⟨fa, fc, rfl, -⟩ := hf.shape
  obtain ⟨ta, tc, rfl, -⟩ := ht.shape
  obtain ⟨ma, mc, rfl, -⟩ := hm.shape
  go_enter Tryz.func4, Tryz.ntmps4
  go_wp2_with fail
  refine (Fewest_any _ _ f t _ hf ht).mono ?_
  rintro e w1 ⟨u1, rfl, hm1, x1⟩
  go_wp2_with fail
  refine (refFewest_any _ _ f t _ (hf.ext x1) (ht.ext x1)).mono ?_
  rintro e w2 ⟨u2, rfl, hm2, hx⟩
  replace hm1 := hm1.ext hx
  have x2 := x1.trans hx
  clear x1 hx
  generalize fewErrM f t = er at *
  generalize fewManyM f t = mn at *
  generalize fewMarksM f t = fm at *
  obtain ⟨a1, c1, rfl, -⟩ := hm1.shape
  obtain ⟨a2, c2, rfl, -⟩ := hm2.shape
  go_wp2_with fail
  refine (equal_any _ _ fm fm _ hm1 hm2).mono ?_
  rw [decide_eq_true rfl]
  rintro e w3 ⟨rfl, hx⟩
  have x3 := x2.trans hx
  clear x2 hx hm1 hm2
  go_wp2_with fail
  refine (Apply_any _ _ f ms _ (hf.ext x3) (hm.ext x3)).mono ?_
  rintro e w4 ⟨u3, rfl, hr1, hx⟩
  have x4 := x3.trans hx
  clear x3 hx
  have ha1 := hr1.at_ Hsz.out
  go_wp2_with fail
  refine (refApply_any _ _ f ms _ (hf.ext x4) (hm.ext x4)).mono ?_
  rintro e w5 ⟨u4, rfl, hr2, hx⟩
  replace ha1 := ha1.ext hx
  have ha2 := hr2.at_ Hsz.out
  have x5 := x4.trans hx
  clear x4 hx hr1 hr2
  generalize (applyM ms f).err = ae at *
  generalize (applyM ms f).words = aw at *
  obtain ⟨a3, c3, rfl, -⟩ := ha1.shape
  obtain ⟨a4, c4, rfl, -⟩ := ha2.shape
  go_wp2_with fail
  refine (same_any _ _ aw aw _ ha1 ha2).mono ?_
  rw [decide_eq_true rfl]
  rintro e w6 ⟨rfl, hx⟩
  have x6 := x5.trans hx
  go_wp2_with fail
  refine (awakeL_any _).mono ?_
  rintro e w7 ⟨rfl, hx⟩
  go_wp2
  go_ret
  exact ⟨rfl, x6.trans hx⟩
end Go.Proofs.YtcamegaimleomaaGreat

namespace Go.Proofs.YtcamegaimleomaaGreat
set_option linter.unusedSimpArgs false
set_option linter.unusedVariables false
open Go.ChangeShapes Go.WideShapes Go.RowKit

theorem add_none (b o n : Nat) : (⟨b, o, none⟩ : Addr).add n = ⟨b, o + n, none⟩ := by
  unfold Addr.add
  by_cases h : n = 0
  · subst h; simp
  · simp [h]
theorem three_of {cs : List Value} (h : cs.length = 3) : ∃ a b c, cs = [a, b, c] := by
  match cs, h with
  | [a, b, c], _ => exact ⟨a, b, c, rfl⟩
theorem two_of {cs : List Value} (h : cs.length = 2) : ∃ a b, cs = [a, b] := by
  match cs, h with
  | [a, b], _ => exact ⟨a, b, rfl⟩
theorem spot_none {w : World} {a : Addr} {v : Value} (h : w.cell? a = some v) : a.spot = none := by
  unfold World.cell? at h
  cases hs : a.spot with
  | none => rfl
  | some x => split at h <;> simp [hs] at h
section
variable {H : Type} {enc : TypeId × Value → H} {w : World} {base : Nat} {sp : Nat → Bool} {held : Bool}
theorem slice_of {α : Type} [Inhabited α] {sz : Nat} {R : World → Nat → Nat → α → Prop} {t e : TypeId} (ht : Tryz.prog.underlying t = some (.slice e)) (hc : Tryz.prog.cellsOf e = sz) (hsz : 0 < sz)
    (hel : ∀ n cs y, DataW.trod enc Tryz.prog w base sp held n e cs = some y → ∃ x : α, ∀ b o, (∀ j, j < sz → w.cell? ⟨b, o + j, none⟩ = cs[j]?) → R w b o x)
    {fuel : Nat} {v : Value} {x : DataW H × List MemPlace} (h : DataW.trod enc Tryz.prog w base sp held fuel t [v] = some x) : ∃ l : List α, SliceAt sz R w v l := by
  rcases Deep.open_slice ht h with ⟨h1, _⟩ | ⟨a, len, cap, m, n, D, Pl, hcs, _, hl, hm, hmm, _, hx⟩
  · obtain rfl : v = .slice none 0 0 := by simpa using h1
    exact ⟨[], SliceAt.nil⟩
  · obtain rfl : v = .slice (some a) len cap := by simpa using hcs
    have hlm : len ≤ m := by rw [hmm]; split <;> omega
    rw [hc] at hx
    obtain ⟨f, hf⟩ := Deep.choose_lt (α := α) (n := len) (p := fun i x => ∃ cs', w.cells? base (a.add (i * sz)) sz = some cs' ∧ ∀ b o, (∀ j, j < sz → w.cell? ⟨b, o + j, none⟩ = cs'[j]?) → R w b o x) (fun i hi => by
      obtain ⟨cs', h1, h2⟩ := hx i (by omega)
      obtain ⟨x, hR⟩ := hel _ _ _ h2
      exact ⟨x, cs', h1, hR⟩)
    refine ⟨(List.range len).map f, some a, cap, by simp, by simpa using hl, by simpa [maxLen] using hm, fun i hi => ?_⟩
    have hi' : i < len := by simpa using hi
    obtain ⟨b, o, s⟩ := a
    have hs : s = none := by
      obtain ⟨cs0, h1, _⟩ := hf 0 (by omega)
      obtain ⟨_, hl0, h2⟩ := World.cells?_some h1
      have h3 := h2 0 hsz
      rw [Nat.zero_mul] at h3
      have h4 : w.cell? ⟨b, o, s⟩ = cs0[0]? := by simpa [Addr.add] using h3
      rw [List.getElem?_eq_getElem (by omega)] at h4
      exact spot_none h4
    subst hs
    obtain ⟨cs', h1, hR⟩ := hf i hi'
    refine ⟨b, o, rfl, ?_⟩
    have e1 : ((List.range len).map f)[i] = f i := by simp
    rw [e1]
    refine hR b (o + i * sz) fun j hj => ?_
    have h2 := (World.cells?_some h1).2.2 j hj
    rw [add_none, add_none] at h2
    exact h2
instance : Inhabited Letter := ⟨⟨0, 0, true⟩⟩
instance : Inhabited Alphabet := ⟨⟨⟨#[]⟩, []⟩⟩
instance : Inhabited Spelling := ⟨⟨0, ⟨#[]⟩⟩⟩
theorem cellsInt : Tryz.prog.cellsOf 3 = 1 := by kernel_rfl
theorem cellsU8 : Tryz.prog.cellsOf 5 = 1 := by kernel_rfl
theorem cellsBool : Tryz.prog.cellsOf 4 = 1 := by kernel_rfl
theorem cellsString : Tryz.prog.cellsOf 9 = 1 := by kernel_rfl
theorem cellsLetter : Tryz.prog.cellsOf 200 = 3 := by kernel_rfl
theorem cellsAlphabet : Tryz.prog.cellsOf 135 = 2 := by kernel_rfl
theorem cellsSpelling : Tryz.prog.cellsOf 83 = 2 := by kernel_rfl
theorem cellsBook : Tryz.prog.cellsOf 67 = 3 := by kernel_rfl
theorem cellsLetters : Tryz.prog.cellsOf 133 = 1 := by kernel_rfl
theorem cellsAlphabets : Tryz.prog.cellsOf 64 = 1 := by kernel_rfl
theorem cellsSpellings : Tryz.prog.cellsOf 65 = 1 := by kernel_rfl
theorem wf_i64 {n : Int} (h : (Lit.int .i64 n).wf = true) : I64 n := by
  simpa [Lit.wf, IntKind.min, IntKind.max, IntKind.signed, IntKind.bits, I64] using h
theorem wf_u8 {n : Int} (h : (Lit.int .u8 n).wf = true) : U8 n := by
  simpa [Lit.wf, IntKind.min, IntKind.max, IntKind.signed, IntKind.bits, U8] using h
theorem letter_of {n : Nat} {cs : List Value} {y : DataW H × List MemPlace} (h : DataW.trod enc Tryz.prog w base sp held n 200 cs = some y) :
    ∃ x : Letter, cs = [.int .u8 x.c, .int .i64 x.sounds, .bool x.silent] ∧ U8 x.c ∧ I64 x.sounds := by
  obtain ⟨y0, y1, y2, m, -, hl, h0, h1, h2⟩ := Deep.trod_struct3 Tryz.underlying200 h
  rw [cellsLetter] at hl
  obtain ⟨c0, c1, c2, rfl⟩ := three_of hl
  simp only [cellsU8, cellsInt, cellsBool, List.drop_zero, List.drop_succ_cons, List.take_succ_cons, List.take_zero] at h0 h1 h2
  obtain ⟨a, ea, -, wa⟩ := DataW.trod_int Tryz.underlying5 h0
  obtain ⟨b, eb, -, wb⟩ := DataW.trod_int Tryz.underlying3 h1
  obtain ⟨c, ec, -⟩ := DataW.trod_bool Tryz.underlying4 h2
  simp only [List.cons.injEq, and_true] at ea eb ec
  subst ea eb ec
  exact ⟨⟨a, b, c⟩, rfl, wf_u8 wa, wf_i64 wb⟩
theorem letters_of {fuel : Nat} {v : Value} {x : DataW H × List MemPlace} (h : DataW.trod enc Tryz.prog w base sp held fuel 133 [v] = some x) : ∃ l, LettersAt w v l :=
  slice_of Tryz.underlying133 cellsLetter (by decide) (fun n cs y hy => by
    obtain ⟨x, rfl, hu, hi⟩ := letter_of hy
    refine ⟨x, fun b o hc => ⟨?_, ?_, ?_, hu, hi⟩⟩
    · exact hc 0 (by decide)
    · exact hc 1 (by decide)
    · exact hc 2 (by decide)) h
theorem alphabet_of {n : Nat} {cs : List Value} {y : DataW H × List MemPlace} (h : DataW.trod enc Tryz.prog w base sp held n 135 cs = some y) :
    ∃ (x : Alphabet) (u : Value), cs = [.string x.name, u] ∧ x.name.size ≤ 9223372036854775807 ∧ LettersAt w u x.letters := by
  obtain ⟨y0, y1, m, -, hl, h0, h1⟩ := trod_struct2 Tryz.underlying135 h
  rw [cellsAlphabet] at hl
  obtain ⟨c0, c1, rfl⟩ := two_of hl
  simp only [cellsString, cellsLetters, List.drop_zero, List.drop_succ_cons, List.take_succ_cons, List.take_zero] at h0 h1
  obtain ⟨s, es, -, hs⟩ := DataW.trod_string Tryz.underlying9 h0
  obtain ⟨l, hll⟩ := letters_of h1
  simp only [List.cons.injEq, and_true] at es
  subst es
  exact ⟨⟨s, l⟩, c1, rfl, by simpa [maxLen] using hs, hll⟩
theorem alphabets_of {fuel : Nat} {v : Value} {x : DataW H × List MemPlace} (h : DataW.trod enc Tryz.prog w base sp held fuel 64 [v] = some x) : ∃ l, AlphabetsAt w v l :=
  slice_of Tryz.underlying64 cellsAlphabet (by decide) (fun n cs y hy => by
    obtain ⟨x, u, rfl, hs, hl⟩ := alphabet_of hy
    refine ⟨x, fun b o hc => ⟨?_, hs, u, ?_, hl⟩⟩
    · exact hc 0 (by decide)
    · exact hc 1 (by decide)) h
theorem spelling_of {n : Nat} {cs : List Value} {y : DataW H × List MemPlace} (h : DataW.trod enc Tryz.prog w base sp held n 83 cs = some y) :
    ∃ x : Spelling, cs = [.int .i64 x.alphabet, .string x.text] ∧ I64 x.alphabet ∧ x.text.size ≤ 9223372036854775807 := by
  obtain ⟨y0, y1, m, -, hl, h0, h1⟩ := trod_struct2 Tryz.underlying83 h
  rw [cellsSpelling] at hl
  obtain ⟨c0, c1, rfl⟩ := two_of hl
  simp only [cellsString, cellsInt, List.drop_zero, List.drop_succ_cons, List.take_succ_cons, List.take_zero] at h0 h1
  obtain ⟨a, ea, -, wa⟩ := DataW.trod_int Tryz.underlying3 h0
  obtain ⟨s, es, -, hs⟩ := DataW.trod_string Tryz.underlying9 h1
  simp only [List.cons.injEq, and_true] at ea es
  subst ea es
  exact ⟨⟨a, s⟩, rfl, wf_i64 wa, by simpa [maxLen] using hs⟩
theorem spellings_of {fuel : Nat} {v : Value} {x : DataW H × List MemPlace} (h : DataW.trod enc Tryz.prog w base sp held fuel 65 [v] = some x) : ∃ l, SpellingsAt w v l :=
  slice_of Tryz.underlying65 cellsSpelling (by decide) (fun n cs y hy => by
    obtain ⟨x, rfl, hi, hs⟩ := spelling_of hy
    refine ⟨x, fun b o hc => ⟨?_, ?_, hi, hs⟩⟩
    · exact hc 0 (by decide)
    · exact hc 1 (by decide)) h
set_option maxRecDepth 100000 in
/-- A BOOK -/
theorem book_of {r : Reach} {b0 : Nat} {v : Value} {d : DataW H} {ps : List MemPlace} (hval : Value.okWide Tryz.prog w r b0 67 v) (hd : DataW.Trod enc Tryz.prog w base sp held 67 v d ps) : ∃ b, BookAt w v b := by
  simp only [Value.okWide, Tryz.underlying67] at hval
  obtain ⟨cs, rfl, -, -⟩ := hval
  obtain ⟨fuel, h⟩ := hd
  simp only [Value.cells] at h
  obtain ⟨y0, y1, y2, m, -, hl, h0, h1, h2⟩ := Deep.trod_struct3 Tryz.underlying67 h
  rw [cellsBook] at hl
  obtain ⟨cs⟩ := cs
  obtain ⟨c0, c1, c2, rfl⟩ := three_of hl
  simp only [cellsInt, cellsAlphabets, cellsSpellings, List.drop_zero, List.drop_succ_cons, List.take_succ_cons, List.take_zero] at h0 h1 h2
  obtain ⟨a, ea, -, wa⟩ := DataW.trod_int Tryz.underlying3 h0
  obtain ⟨al, hal⟩ := alphabets_of h1
  obtain ⟨sl, hsl⟩ := spellings_of h2
  simp only [List.cons.injEq, and_true] at ea
  subst ea
  exact ⟨⟨a, al, sl⟩, c1, c2, rfl, wf_i64 wa, hal, hsl⟩
/-- a place that was there is as it was -/
theorem same_of_ext {W W' : World} (h : Ext W W') {p : MemPlace} (hp : p.block < W.heap.size) : W.sameAt W' p := by
  cases p with
  | cell b off =>
    show W'.cell? ⟨b, off, none⟩ = W.cell? ⟨b, off, none⟩
    exact Below.cell (p := ⟨b, off, none⟩) h hp
  | map b =>
    show W'.heap[b]? = W.heap[b]?
    exact Below.block h b hp
end
end Go.Proofs.YtcamegaimleomaaGreat

namespace Go.Proofs.YtcamegaimleomaaGreat
set_option linter.unusedSimpArgs false
set_option linter.unusedVariables false
open Go.ChangeShapes Go.WideShapes Go.RowKit
set_option maxRecDepth 100000
section
variable {H : Type} {enc : TypeId × Value → H} {w : World} {base : Nat} {sp : Nat → Bool} {held : Bool}
instance : Inhabited Part := ⟨⟨[], 0, 0⟩⟩
instance : Inhabited Form := ⟨⟨⟨#[]⟩, []⟩⟩
instance : Inhabited Mark := ⟨⟨0, ⟨#[]⟩⟩⟩
instance : Inhabited ByteArray := ⟨⟨#[]⟩⟩
theorem cellsStrs : Tryz.prog.cellsOf 25 = 1 := by kernel_rfl
theorem strs_in {fuel : Nat} {v : Value} {x : DataW H × List MemPlace} (h : DataW.trod enc Tryz.prog w base sp held fuel 25 [v] = some x) : ∃ l, StrsAt w v l :=
  slice_of Tryz.underlying25 cellsString (by decide) (fun n cs y hy => by
    obtain ⟨s, rfl, -, hs⟩ := DataW.trod_string Tryz.underlying9 hy
    exact ⟨s, fun b o hc => ⟨hc 0 (by decide), by simpa [maxLen] using hs⟩⟩) h
/-- a letter -/
theorem strsArg_of {r : Reach} {b0 : Nat} {v : Value} {d : DataW H} {ps : List MemPlace} (hval : Value.okWide Tryz.prog w r b0 25 v) (hd : DataW.Trod enc Tryz.prog w base sp held 25 v d ps) : ∃ l, StrsAt w v l := by
  obtain ⟨a0, len, cap, rfl⟩ := okWide_slice Tryz.underlying25 hval
  obtain ⟨fuel, h⟩ := hd
  exact strs_in h
/-- a list of bytes -/
theorem bytesL_of {r : Reach} {b0 : Nat} {v : Value} {d : DataW H} {ps : List MemPlace} (hval : Value.okWide Tryz.prog w r b0 68 v) (hd : DataW.Trod enc Tryz.prog w base sp held 68 v d ps) : ∃ l, BytesAt w v l := by
  obtain ⟨a0, len, cap, rfl⟩ := okWide_slice Tryz.underlying68 hval
  obtain ⟨fuel, h⟩ := hd
  exact slice_of Tryz.underlying68 cellsU8 (by decide) (fun n cs y hy => by
    obtain ⟨x, rfl, -, wx⟩ := DataW.trod_int Tryz.underlying5 hy
    exact ⟨x, fun b o hc => ⟨hc 0 (by decide), wf_u8 wx⟩⟩) h
/-- a string -/
theorem str_of {r : Reach} {b0 : Nat} {v : Value} {d : DataW H} {ps : List MemPlace} (hval : Value.okWide Tryz.prog w r b0 9 v) (hd : DataW.Trod enc Tryz.prog w base sp held 9 v d ps) : ∃ s, v = .string s ∧ s.size ≤ 9223372036854775807 := by
  obtain ⟨s, rfl⟩ := okWide_string Tryz.underlying9 hval
  obtain ⟨fuel, h⟩ := hd
  simp only [Value.cells] at h
  obtain ⟨s', e, -, hs⟩ := DataW.trod_string Tryz.underlying9 h
  simp only [List.cons.injEq, and_true] at e
  cases e
  exact ⟨_, rfl, by simpa [maxLen] using hs⟩
end
section
variable {H : Type} {enc : TypeId × Value → H} {w : World} {base : Nat} {sp : Nat → Bool} {held : Bool}
theorem cellsMark : Tryz.prog.cellsOf 115 = 2 := by kernel_rfl
theorem marksArg_of {r : Reach} {b0 : Nat} {v : Value} {d : DataW H} {ps : List MemPlace} (hval : Value.okWide Tryz.prog w r b0 37 v) (hd : DataW.Trod enc Tryz.prog w base sp held 37 v d ps) : ∃ l, MarksAt w v l := by
  obtain ⟨a0, len, cap, rfl⟩ := okWide_slice Tryz.underlying37 hval
  obtain ⟨fuel, h⟩ := hd
  exact slice_of Tryz.underlying37 cellsMark (by decide) (fun n cs y hy => by
    obtain ⟨y0, y1, m, -, hl, h0, h1⟩ := trod_struct2 Tryz.underlying115 hy
    rw [cellsMark] at hl
    obtain ⟨c0, c1, rfl⟩ := two_of hl
    simp only [cellsInt, cellsString, List.drop_zero, List.drop_succ_cons, List.take_succ_cons, List.take_zero] at h0 h1
    obtain ⟨a, ea, -, wa⟩ := DataW.trod_int Tryz.underlying3 h0
    obtain ⟨s, es, -, hs⟩ := DataW.trod_string Tryz.underlying9 h1
    simp only [List.cons.injEq, and_true] at ea es
    subst ea es
    refine ⟨⟨a, s⟩, fun b o hc => ⟨?_, ?_, wf_i64 wa, by simpa [maxLen] using hs⟩⟩
    · exact hc 0 (by decide)
    · exact hc 1 (by decide)) h
theorem fillsArg_of {r : Reach} {b0 : Nat} {v : Value} {d : DataW H} {ps : List MemPlace} (hval : Value.okWide Tryz.prog w r b0 31 v) (hd : DataW.Trod enc Tryz.prog w base sp held 31 v d ps) : ∃ l, FillsAt w v l := by
  obtain ⟨a0, len, cap, rfl⟩ := okWide_slice Tryz.underlying31 hval
  obtain ⟨fuel, h⟩ := hd
  exact slice_of Tryz.underlying31 cellsStrs (by decide) (fun n cs y hy => by
    have hl : ∃ v, cs = [v] := by
      rcases Deep.open_slice Tryz.underlying25 hy with ⟨h1, _⟩ | ⟨a, len, cap, m, n, D, Pl, hcs, _⟩
      · exact ⟨_, h1⟩
      · exact ⟨_, hcs⟩
    obtain ⟨v, rfl⟩ := hl
    obtain ⟨l, hl⟩ := strs_in hy
    exact ⟨l, fun b o hc => ⟨v, hc 0 (by decide), hl⟩⟩) h
end
section
variable {H : Type} {enc : TypeId × Value → H} {w : World} {base : Nat} {sp : Nat → Bool} {held : Bool}
theorem cellsPart : Tryz.prog.cellsOf 59 = 3 := by kernel_rfl
theorem cellsForm : Tryz.prog.cellsOf 55 = 2 := by kernel_rfl
theorem cellsShelf : Tryz.prog.cellsOf 24 = 2 := by kernel_rfl
theorem cellsSpan : Tryz.prog.cellsOf 57 = 2 := by kernel_rfl
theorem cellsParts : Tryz.prog.cellsOf 53 = 1 := by kernel_rfl
theorem cellsForms : Tryz.prog.cellsOf 22 = 1 := by kernel_rfl
theorem part_of {n : Nat} {cs : List Value} {y : DataW H × List MemPlace} (h : DataW.trod enc Tryz.prog w base sp held n 59 cs = some y) :
    ∃ (x : Part) (u : Value), cs = [u, .int .i64 x.lo, .int .i64 x.hi] ∧ StrsAt w u x.words ∧ I64 x.lo ∧ I64 x.hi := by
  obtain ⟨y0, y1, m, -, hl, h0, h1⟩ := trod_struct2 Tryz.underlying59 h
  rw [cellsPart] at hl
  obtain ⟨c0, c1, c2, rfl⟩ := three_of hl
  simp only [cellsStrs, cellsSpan, List.drop_zero, List.drop_succ_cons, List.take_succ_cons, List.take_zero] at h0 h1
  obtain ⟨l, hll⟩ := strs_in h0
  obtain ⟨z0, z1, m', -, -, k0, k1⟩ := trod_struct2 Tryz.underlying57 h1
  simp only [cellsInt, List.drop_zero, List.drop_succ_cons, List.take_succ_cons, List.take_zero] at k0 k1
  obtain ⟨a, ea, -, wa⟩ := DataW.trod_int Tryz.underlying3 k0
  obtain ⟨b, eb, -, wb⟩ := DataW.trod_int Tryz.underlying3 k1
  simp only [List.cons.injEq, and_true] at ea eb
  subst ea eb
  exact ⟨⟨l, a, b⟩, c0, rfl, hll, wf_i64 wa, wf_i64 wb⟩
theorem parts_of {fuel : Nat} {v : Value} {x : DataW H × List MemPlace} (h : DataW.trod enc Tryz.prog w base sp held fuel 53 [v] = some x) : ∃ l, PartsAt w v l :=
  slice_of Tryz.underlying53 cellsPart (by decide) (fun n cs y hy => by
    obtain ⟨x, u, rfl, hs, h1, h2⟩ := part_of hy
    refine ⟨x, fun b o hc => ⟨⟨u, ?_, hs⟩, ?_, ?_, h1, h2⟩⟩
    · exact hc 0 (by decide)
    · exact hc 1 (by decide)
    · exact hc 2 (by decide)) h
theorem form_of {n : Nat} {cs : List Value} {y : DataW H × List MemPlace} (h : DataW.trod enc Tryz.prog w base sp held n 55 cs = some y) :
    ∃ (x : Form) (u : Value), cs = [.string x.name, u] ∧ x.name.size ≤ 9223372036854775807 ∧ PartsAt w u x.parts := by
  obtain ⟨y0, y1, m, -, hl, h0, h1⟩ := trod_struct2 Tryz.underlying55 h
  rw [cellsForm] at hl
  obtain ⟨c0, c1, rfl⟩ := two_of hl
  simp only [cellsString, cellsParts, List.drop_zero, List.drop_succ_cons, List.take_succ_cons, List.take_zero] at h0 h1
  obtain ⟨s, es, -, hs⟩ := DataW.trod_string Tryz.underlying9 h0
  obtain ⟨l, hll⟩ := parts_of h1
  simp only [List.cons.injEq, and_true] at es
  subst es
  exact ⟨⟨s, l⟩, c1, rfl, by simpa [maxLen] using hs, hll⟩
theorem forms_of {fuel : Nat} {v : Value} {x : DataW H × List MemPlace} (h : DataW.trod enc Tryz.prog w base sp held fuel 22 [v] = some x) : ∃ l, FormsAt w v l :=
  slice_of Tryz.underlying22 cellsForm (by decide) (fun n cs y hy => by
    obtain ⟨x, u, rfl, hs, hl⟩ := form_of hy
    refine ⟨x, fun b o hc => ⟨?_, hs, u, ?_, hl⟩⟩
    · exact hc 0 (by decide)
    · exact hc 1 (by decide)) h
/-- A SHELF -/
theorem shelf_of {r : Reach} {b0 : Nat} {v : Value} {d : DataW H} {ps : List MemPlace} (hval : Value.okWide Tryz.prog w r b0 24 v) (hd : DataW.Trod enc Tryz.prog w base sp held 24 v d ps) : ∃ s, ShelfAt w v s := by
  simp only [Value.okWide, Tryz.underlying24] at hval
  obtain ⟨cs, rfl, -, -⟩ := hval
  obtain ⟨fuel, h⟩ := hd
  simp only [Value.cells] at h
  obtain ⟨y0, y1, m, -, hl, h0, h1⟩ := trod_struct2 Tryz.underlying24 h
  rw [cellsShelf] at hl
  obtain ⟨cs⟩ := cs
  obtain ⟨c0, c1, rfl⟩ := two_of hl
  simp only [cellsInt, cellsForms, List.drop_zero, List.drop_succ_cons, List.take_succ_cons, List.take_zero] at h0 h1
  obtain ⟨a, ea, -, wa⟩ := DataW.trod_int Tryz.underlying3 h0
  obtain ⟨l, hll⟩ := forms_of h1
  simp only [List.cons.injEq, and_true] at ea
  subst ea
  exact ⟨⟨a, l⟩, c1, rfl, wf_i64 wa, hll⟩
end
end Go.Proofs.YtcamegaimleomaaGreat

namespace Go.Proofs.YtcamegaimleomaaGreat
set_option linter.unusedSimpArgs false
set_option linter.unusedVariables false
open Go.ChangeShapes Go.WideShapes Go.ChangeAt Go.RowKit
section
variable {H : Type} {enc : TypeId × Value → H} {P : Program}
/-- a call that lets all that was there be, and answers as it should, keeps a law's word -/
theorem post_ext {f : Func} {s : ChangeSpec} {apart fresh handsOn again : Bool} {W W' : World} {args : Array Value} {v : Value} {ds gs : List (DataW H)} {before pa pv : List MemPlace}
    (hW : DataW.Whole enc P f.params.toList s.vars apart W args.toList ds gs before)
    (hres : ∀ (b : Nat) (sp : Nat → Bool) (hd : Bool), DataW.TrodAll enc P W' b sp hd f.resultTypes.toList (v.resultList f.resultTypes.size) (s.fn H (ds ++ gs)).results [])
    (hargs : ∀ sp : Nat → Bool, (∀ p ∈ before, sp p.block = true) → DataW.TrodAll enc P W' 0 sp true f.params.toList args.toList (s.fn H (ds ++ gs)).args pa)
    (hvars : ∀ sp : Nat → Bool, (∀ p ∈ before, sp p.block = true) → DataW.TrodVars enc P W' sp s.vars (s.fn H (ds ++ gs)).vars pv)
    (hps : before = pa ++ pv) (hx : Ext W W')
    (hok : ∀ (j : Nat) (t : TypeId) (r : Value), f.resultTypes[j]? = some t → (v.resultList f.resultTypes.size)[j]? = some r → Value.okWide P W' .any 0 t r) :
    s.post enc P f apart fresh handsOn again W args v W' := by
  have hlt := hW.lt
  have hold : ∀ p ∈ before, (fun b => decide (b < W.heap.size)) p.block = true := fun p hp => decide_eq_true (hlt p hp)
  have hin : ∀ p ∈ before, p ∈ pa ∨ p ∈ pv := fun p hp => List.mem_append.1 (hps ▸ hp)
  refine ⟨ds, gs, before, [], pa, pv, hW, hres _ _ _, hargs _ hold, hvars _ hold, World.keptBut_mono (fun p (hp : p ∈ before) => ⟨hp, .inr (hin p hp)⟩) (Below.frame hx _), fun _ => ⟨hok, ?_⟩⟩
  obtain ⟨_, _, _, _, _, hz, hn⟩ := hW
  refine ⟨_, _, pa ++ pv, ⟨[] ++ pa, pv, trodAll_append (hargs _ (fun _ _ => rfl)) (hres _ _ _), hvars _ (fun _ _ => rfl), by simp, fun b off hp => ?_, fun ha => by rw [← hps]; exact hn ha⟩, fun p hp _ => by rw [hps]; exact hp⟩
  rw [← hps] at hp
  rw [hx.frozen (p := ⟨b, off, none⟩) (hlt _ hp)]
  exact hz b off hp
end
end Go.Proofs.YtcamegaimleomaaGreat
