/-
  WHAT Name AND Fresh OF THE REFERENCE RETURN, for any string: the same as that of ear.
  A BLOCK, OR A BRANCHING, TAKEN OUT OF A FUNCTION'S TEXT, so that it can be walked in a declaration of its own. Over any program.
  ERRORS OF THE REFERENCE: Roomy, part, Check, form and letter return what the program's do.
  ERRORS BEHIND ONE ANOTHER: letter and form of the reference, valid of the statements.
  A LETTER's TEXT: Text and Write of the reference.
  WHAT A LETTER's TEXT IS PARTED INTO, plain: by its spaces and line feeds, and by fields: the letter again.
  A TEXT READ: Read of the reference.
  LetterTexts: Write and Read of the program return what those of the reference do.
  A BOOK THAT IS HANDED IN, opened: lists of letters, alphabets and spellings as they lie in memory.
-/
import Derived.Test.YtgcibmdohifiaaaGreatBunAK
import Derived.Test.YtgcibmdohifiaaaGreatBunAA
import Derived.Test.YtgcibmdohifiaaaGreatBunAB
import Derived.Test.YtgcibmdohifiaaaGreatBunAD
import Derived.RegionTactic
import Derived.BigRegion
import Derived.Deep.CutBlock
import Derived.Deep.DeepCutAuto
import Derived.Test.YtgcibmdohifiaaaGreatBunAC
import Derived.Test.YtgcibmdohifiaaaGreatBunAG
import Derived.Laws.RangeString
import Derived.Deep.Slices
import Derived.Deep.Strs
import Derived.WideKeyArgs
import Derived.OpenShut
namespace Go.Proofs.YtgcibmdohifiaaaGreat
set_option linter.unusedSimpArgs false
set_option linter.unusedVariables false
open Go.RowKit

def nameTo (s : ByteArray) (k : Nat) : Bool := inM s.size 1 16 && (List.range k).all fun k => okByte k (byteAt s k)
theorem nameTo_step (s : ByteArray) (k : Nat) : nameTo s (k + 1) = (nameTo s k && okByte k (byteAt s k)) := by
  simp [nameTo, List.range_succ, Bool.and_assoc]

set_option maxHeartbeats 1000000 in
set_option maxRecDepth 100000 in
theorem refName_any (s : ByteArray) (w : World) (hs : s.size ≤ 9223372036854775807) :
    Calls Tryz.prog 121 #[.string s] w fun e w' => e = .returned (.bool (nameM s)) ∧ w = w' := by
  go_enter Tryz.func121, Tryz.ntmps121
  go_wp2_with (go_at_call 47; refine (In_any _ _ _ _).mono ?_; rintro e w' ⟨rfl, rfl⟩)
  go_loop [3, 4, 5] (fun f i _ => ∃ k : Nat, ∃ fine : Bool, k ≤ s.size ∧ f = .bool fine ∧ i = .int .i64 k ∧ nameTo s k = fine) (fun _ i _ => s.size - (intOf i).toNat)
  case atStart => exact ⟨0, _, Nat.zero_le _, rfl, rfl, by simp [nameTo]⟩
  case round =>
    obtain ⟨k, fine, hk, rfl, rfl, hd⟩ := hrel
    have Hd := Lib.hid hd; clear hd
    by_cases h1 : k < s.size
    · have k1 : (k : Int) < (s.size : Int) := by omega
      have Hst : Hid (nameTo s (k + 1) = (nameTo s k && okByte k ((s[k]'h1).toNat : Int))) := Lib.hid (by rw [nameTo_step, byteAt_eq s k h1])
      by_cases i2 : ((s[k]'h1).toNat : Int) = 46
      · have I2 := Lib.hid i2
        have i1 : inM 46 97 122 = false := by decide
        cases fine
        all_goals
          by_cases hk0 : k = 0
          · subst hk0
            go_wp2_with (go_at_call 47; refine (In_any _ _ _ _).mono ?_; rintro e w' ⟨rfl, rfl⟩)
            go_round
            case rel => exact ⟨1, _, by omega, rfl, by go_num, by rw [Hst.out, Hd.out, I2.out]; rfl⟩
            case measure => simp [intOf]; omega
          · have k0 : (0 : Int) < (k : Int) := by omega
            have K0 := Lib.hid hk0
            go_wp2_with (go_at_call 47; refine (In_any _ _ _ _).mono ?_; rintro e w' ⟨rfl, rfl⟩)
            go_round
            case rel => exact ⟨k + 1, _, by omega, rfl, by go_num, by
              rw [Hst.out, Hd.out, I2.out]
              first
                | rfl
                | (simp [okByte, K0.out]; done)⟩
            case measure => simp [intOf]; omega
      · have I2 := Lib.hid i2
        have wc : IntKind.i64.wrap ((s[k]'h1).toNat : Int) = ((s[k]'h1).toNat : Int) := IntWalk.i64_in _ (by have := (s[k]'h1).toNat_lt; omega)
        cases i1 : inM ((s[k]'h1).toNat : Int) 97 122
        all_goals
          have I1 := Lib.hid i1
          cases fine
          all_goals
            by_cases hk0 : k = 0
            · subst hk0
              go_wp2_with (go_at_call 47; refine (In_any _ _ _ _).mono ?_; rintro e w' ⟨rfl, rfl⟩)
              go_round
              case rel => exact ⟨1, _, by omega, rfl, by go_num, by rw [Hst.out, Hd.out]; first | rfl | (rw [okByte, I1.out]; rfl)⟩
              case measure => simp [intOf]; omega
            · have k0 : (0 : Int) < (k : Int) := by omega
              have K0 := Lib.hid hk0
              go_wp2_with (go_at_call 47; refine (In_any _ _ _ _).mono ?_; rintro e w' ⟨rfl, rfl⟩)
              go_round
              case rel => exact ⟨k + 1, _, by omega, rfl, by go_num, by
                rw [Hst.out, Hd.out]
                first
                  | rfl
                  | (rw [okByte, I1.out]; rfl)
                  | (rw [okByte, I1.out]; simp [K0.out]; exact Bool.or_comm _ _)⟩
              case measure => simp [intOf]; omega
    · obtain rfl : k = s.size := by omega
      go_wp2
      go_ret
      exact ⟨ret_bool Hd.out.symm, rfl⟩

def freshM (s : ByteArray) (l : List ByteArray) : Int := if nameM s = false then 6 else if (l.any fun y => y.toList == s.toList) = true then 5 else 0
theorem fresh_any (v : Value) (s : ByteArray) (l : List ByteArray) (w : World) (hs : s.size ≤ 9223372036854775807) (hl : StrsAt w v l) :
    Calls Tryz.prog 61 #[.string s, v] w fun r w' => r = .returned (.int .i64 (freshM s l)) ∧ w = w' := by
  obtain ⟨a, cap, rfl, hlc, hcm⟩ := hl.shape
  have hw := whereM_ge s l 0
  generalize hm : whereM s l 0 = m at *
  have HM := Lib.hid hm; clear hm
  have HW := Lib.hid hw; clear hw
  by_cases h0 : 0 ≤ m
  all_goals
    have H0 := Lib.hid h0
    cases hn : nameM s
    all_goals
      have HN := Lib.hid hn
      go_enter Tryz.func61, Tryz.ntmps61
      go_wp2_with (first | (go_at_call 120; refine (where_any _ s l _ hl).mono ?_; rintro e w' ⟨rfl, rfl⟩; rw [HM.out]) | (go_at_call 121; refine (refName_any s _ hs).mono ?_; rintro e w' ⟨rfl, rfl⟩))
      go_ret
      first
        | exact ⟨ret_int (by rw [freshM, if_pos HN.out]), rfl⟩
        | exact ⟨ret_int (by rw [freshM, if_neg (by rw [HN.out]; decide), if_pos (by rw [← HW.out]; exact decide_eq_true H0.out)]), rfl⟩
        | exact ⟨ret_int (by rw [freshM, if_neg (by rw [HN.out]; decide), if_neg (by rw [← HW.out, decide_eq_true_eq]; have := H0.out; omega)]), rfl⟩
end Go.Proofs.YtgcibmdohifiaaaGreat

namespace Go.Proofs.YtgcibmdohifiaaaGreat
set_option linter.unusedSimpArgs false
set_option linter.unusedVariables false
open Go.RowKit
def findBlock (n : Nat) : Code → Option Code
  | .block i c => if i = n then some (.block i c) else findBlock n c
  | .seq a b => match findBlock n a with
    | some c => some c
    | none => findBlock n b
  | .loop c => findBlock n c
  | .scope c => findBlock n c
  | .cond _ a b => match findBlock n a with
    | some c => some c
    | none => findBlock n b
  | _ => none
def findCond (t : Nat) : Code → Option Code
  | .cond (.tmp i) a b => if i = t then some (.cond (.tmp i) a b) else match findCond t a with
    | some c => some c
    | none => findCond t b
  | .seq a b => match findCond t a with
    | some c => some c
    | none => findCond t b
  | .loop c => findCond t c
  | .scope c => findCond t c
  | .block _ c => findCond t c
  | _ => none
noncomputable def blockOf (f : Func) (n : Nat) : Code := ((f.body.bind (findBlock n)).getD .skip)
noncomputable def condOf (f : Func) (n : Nat) : Code := ((f.body.bind (findCond n)).getD .skip)
end Go.Proofs.YtgcibmdohifiaaaGreat

namespace Go.Proofs.YtgcibmdohifiaaaGreat
set_option linter.unusedSimpArgs false
set_option linter.unusedVariables false
open Go.RowKit
set_option linter.unusedVariables false

theorem refRoomy_any (a : Option Addr) (n cap : Nat) (lo hi : Int) (w : World) :
    Calls Tryz.prog 49 #[.agg #[.slice a n cap, .int .i64 lo, .int .i64 hi]] w fun e w' => e = .returned (.bool ((n : Int) == 0)) ∧ Ext w w' := by
  go_enter Tryz.func49, Tryz.ntmps49
  go_wp2
  go_ret
  exact ⟨by simp, (by first | (with_reducible exact Ext.refl _) | (with_reducible assumption) | (show Below _ _ _; go_grown; done))⟩
theorem span_fields : ∃ f g, (Tryz.prog.fieldsOf 75).toList = [f, g] ∧ f.type = 3 ∧ f.offset = 0 ∧ g.type = 3 ∧ g.offset = 1 ∧ f.name = "Lo" ∧ g.name = "Hi" := by
  have hf : ((Tryz.prog.fieldsOf 75).toList.map fun f => (f.name, f.type, f.offset)) = [("Lo", 3, 0), ("Hi", 3, 1)] := by kernel_rfl
  generalize (Tryz.prog.fieldsOf 75).toList = fs at *
  obtain ⟨f, g, rfl⟩ : ∃ f g, fs = [f, g] := by
    rcases fs with _ | ⟨f, _ | ⟨g, _ | ⟨h, r⟩⟩⟩
    · simp at hf
    · simp at hf
    · exact ⟨f, g, rfl⟩
    · simp at hf
  simp only [List.map_cons, List.map_nil, List.cons.injEq, Prod.mk.injEq, and_true] at hf
  obtain ⟨⟨h1, h2, h3⟩, h4, h5, h6⟩ := hf
  exact ⟨f, g, rfl, h2, h3, h5, h6, h1, h4⟩
theorem equal_span (a b c d : Int) (w : World) : (Op.equal 75 (.agg #[.int .i64 a, .int .i64 b]) (.agg #[.int .i64 c, .int .i64 d])).run Tryz.prog w = .ok (decide (a = c ∧ b = d)) w := by
  have hop : ∀ x y : Value, Op.equal 75 x y = Op.equalIn Op.maxDepth 75 x y := fun _ _ => rfl
  obtain ⟨m0, hd⟩ : ∃ m0, Op.maxDepth = m0 + 2 := ⟨9998, by decide⟩
  have ha : ∀ w, (isAgg 3).run Tryz.prog w = .ok false w := fun _ => by kernel_rfl
  rw [hop, hd]
  rw [run_equalIn_struct _ _ _ _ _ (by kernel_rfl) (by kernel_rfl)]
  obtain ⟨f, g, hfs, h2, h3, h5, h6, n1, n2⟩ := span_fields
  rw [hfs]
  simp [Op.eqFields, h2, h3, h5, h6, n1, n2, part, ha, go_sem]
  by_cases e1 : a = c <;> by_cases e2 : b = d <;> simp [e1, e2]
theorem neq_span (a b c d : Int) (w : World) : (binOp .neq 75 (.agg #[.int .i64 a, .int .i64 b]) (.agg #[.int .i64 c, .int .i64 d])).run Tryz.prog w = .ok (.bool (!decide (a = c ∧ b = d))) w := by
  have h := equal_span a b c d w
  have hop : Op.equal 75 (.agg #[.int .i64 a, .int .i64 b]) (.agg #[.int .i64 c, .int .i64 d]) = Op.equalIn 10000 75 (.agg #[.int .i64 a, .int .i64 b]) (.agg #[.int .i64 c, .int .i64 d]) := rfl
  rw [hop] at h
  rw [run_neq_struct, h]
  rfl
set_option maxRecDepth 100000 in
set_option maxHeartbeats 2000000 in
theorem refPart_any (v : Value) (p : Part) (w : World) (hp : PartV w v p) :
    Calls Tryz.prog 62 #[v] w fun e w' => e = .returned (.int .i64 (partErrM p)) ∧ Ext w w' := by
  obtain ⟨u, rfl, hs, hlo, hhi⟩ := hp
  obtain ⟨a, cap, rfl, hlc, hcm⟩ := hs.shape
  unfold partErrM
  by_cases h3 : 3 < p.words.length
  · rw [if_pos h3]
    have k1 : (3 : Int) < (p.words.length : Int) := by omega
    go_enter Tryz.func62, Tryz.ntmps62
    go_wp2
    go_ret
    exact ⟨rfl, (by first | (with_reducible exact Ext.refl _) | (with_reducible assumption) | (show Below _ _ _; go_grown; done))⟩
  rw [if_neg h3]
  have k1 : ¬ (3 : Int) < (p.words.length : Int) := by omega
  have xB : Ext w (w.alloc (.cells #[.slice a p.words.length cap, .int .i64 p.lo, .int .i64 p.hi] 77)) := ext_alloc _ _
  have hw := refWords_any _ p.words _ (hs.ext xB)
  have b0 : ((w.alloc (.cells #[.slice a p.words.length cap, .int .i64 p.lo, .int .i64 p.hi] 77))).cell? ⟨w.heap.size, 0, none⟩ = some (.slice a p.words.length cap) := by simp [go_sem]
  have b1 : ((w.alloc (.cells #[.slice a p.words.length cap, .int .i64 p.lo, .int .i64 p.hi] 77))).cell? ⟨w.heap.size, 1, none⟩ = some (.int .i64 p.lo) := by simp [go_sem]
  have b2 : ((w.alloc (.cells #[.slice a p.words.length cap, .int .i64 p.lo, .int .i64 p.hi] 77))).cell? ⟨w.heap.size, 2, none⟩ = some (.int .i64 p.hi) := by simp [go_sem]
  have B0 := Lib.hid b0
  have B1 := Lib.hid b1
  have B2 := Lib.hid b2
  clear b0 b1 b2
  cases hb : wordsM p.words
  · rw [if_pos rfl]
    rw [hb] at hw
    clear hb
    go_enter Tryz.func62, Tryz.ntmps62
    go_wp2_with fail
    refine hw.mono ?_
    rintro e w1 ⟨rfl, hx⟩
    go_wp2
    go_ret
    exact ⟨rfl, hx.of_alloc⟩
  rw [if_neg (by decide)]
  rw [hb] at hw
  clear hb
  have hnq := fun w => neq_span p.lo p.hi 0 0 w
  by_cases h0 : p.words.length = 0
  · rw [if_neg (by omega)]
    have e0 : ((p.words.length : Int) == 0) = true := by simp [h0]
    have hcase : (inM p.lo 0 3 = false ∨ inM p.hi 0 3 = false ∨ p.hi = 0) ↔ (inM p.lo 0 3 = false ∨ inM p.hi 1 3 = false) := by
      have : (inM p.hi 1 3 = false) ↔ (inM p.hi 0 3 = false ∨ p.hi = 0) := by simp [inM]; omega
      rw [this]
    have Hc := Lib.hid hcase
    clear hcase hnq h0
    obtain ⟨er, her⟩ : ∃ er : Int, (if inM p.lo 0 3 = false ∨ inM p.hi 0 3 = false ∨ p.hi = 0 then 7 else if p.hi < p.lo then 2 else 0) = er := ⟨_, rfl⟩
    rw [her]
    have Her := Lib.hid her
    clear her
    go_enter Tryz.func62, Tryz.ntmps62
    go_wp2_with fail
    refine hw.mono ?_
    rintro e w1 ⟨rfl, hx⟩
    have c0 := hx.cell B0.out
    have c1 := hx.cell B1.out
    have c2 := hx.cell B2.out
    have x1 : Ext w w1 := hx.of_alloc
    have z1 : w.heap.size < w1.heap.size := cell_lt c0
    clear hw hx B0 B1 B2 xB hs
    go_wp2_with fail
    refine (refRoomy_any a _ cap p.lo p.hi w1).mono ?_
    rintro e w2 ⟨rfl, hx⟩
    replace c0 := hx.cell c0
    replace c1 := hx.cell c1
    replace c2 := hx.cell c2
    replace x1 := x1.trans hx
    replace z1 : w.heap.size < w2.heap.size := cell_lt c0
    clear hx
    rw [e0]
    clear e0
    go_wp2_with fail
    (refine (In_any _ _ _ _).mono ?_; rintro e w' ⟨rfl, rfl⟩)
    cases h1 : inM p.lo 0 3
    · have H1 := Lib.hid h1
      clear h1
      go_wp2
      go_ret
      exact ⟨ret_int (by rw [← Her.out, if_pos (Hc.out.2 (.inl H1.out))]), x1⟩
    have H1 := Lib.hid h1
    clear h1
    go_wp2_with fail
    (refine (In_any _ _ _ _).mono ?_; rintro e w' ⟨rfl, rfl⟩)
    cases h2 : inM p.hi 1 3
    · have H2 := Lib.hid h2
      clear h2
      go_wp2
      go_ret
      exact ⟨ret_int (by rw [← Her.out, if_pos (Hc.out.2 (.inr H2.out))]), x1⟩
    have H2 := Lib.hid h2
    clear h2
    have hno : ¬ (inM p.lo 0 3 = false ∨ inM p.hi 0 3 = false ∨ p.hi = 0) := fun h => by
      rcases Hc.out.1 h with h | h
      · rw [H1.out] at h; cases h
      · rw [H2.out] at h; cases h
    have Hno := Lib.hid hno
    clear hno Hc
    by_cases h5 : p.hi < p.lo
    · have H5 := Lib.hid h5
      go_wp2
      go_ret
      exact ⟨ret_int (by rw [← Her.out, if_neg Hno.out, if_pos H5.out]), x1⟩
    · have H5 := Lib.hid h5
      go_wp2
      go_ret
      exact ⟨ret_int (by rw [← Her.out, if_neg Hno.out, if_neg (by have := H5.out; omega)]), x1⟩
  · rw [if_pos h0]
    have e0 : ((p.words.length : Int) == 0) = false := by simp [h0]
    clear h0
    by_cases h1 : p.lo = 0 ∧ p.hi = 0
    all_goals
      first | rw [if_pos h1] | rw [if_neg h1]
      first | rw [decide_eq_true h1] at hnq | rw [decide_eq_false h1] at hnq
      clear h1
      go_enter Tryz.func62, Tryz.ntmps62
      go_wp2_with fail
      refine hw.mono ?_
      rintro e w1 ⟨rfl, hx⟩
      have c0 := hx.cell B0.out
      have c1 := hx.cell B1.out
      have c2 := hx.cell B2.out
      have x1 : Ext w w1 := hx.of_alloc
      have z1 : w.heap.size < w1.heap.size := cell_lt c0
      clear hw hx B0 B1 B2 xB hs
      go_wp2_with fail
      refine (refRoomy_any a _ cap p.lo p.hi w1).mono ?_
      rintro e w2 ⟨rfl, hx⟩
      replace c0 := hx.cell c0
      replace c1 := hx.cell c1
      replace c2 := hx.cell c2
      replace x1 := x1.trans hx
      replace z1 : w.heap.size < w2.heap.size := cell_lt c0
      clear hx
      rw [e0]
      clear e0
      go_wp2
      go_ret
      exact ⟨rfl, x1⟩
theorem formErr_fresh (before : List Form) (f : Form) : formErrM before f = if freshM f.name (before.map (·.name)) ≠ 0 then freshM f.name (before.map (·.name)) else if 5 < f.parts.length then 3 else (firstErr (fun _ => partErrM) f.parts).2 := by
  rw [formErr_name]
  rfl
/-- the first error of some parts, if there is none before -/
theorem parts_step (ps : List Part) (k : Nat) (h : k < ps.length) (e : Int) (he : (firstErrFrom (fun _ => partErrM) (ps.take k) (ps.drop k)).2 = e) : partErrM ps[k] = 0 → (firstErrFrom (fun _ => partErrM) (ps.take (k + 1)) (ps.drop (k + 1))).2 = e := fun h0 => by
  rw [← he, ← firstErrFrom_step (fun _ => partErrM) ps k h _ rfl h0]
/-- the error of a form, behind what its name has -/
def behindE (e0 : Int) (f : Form) : Int := if e0 ≠ 0 then e0 else (firstErr (fun _ => partErrM) f.parts).2
def ChkB2 (e0 : Int) (f : Form) (R : World) (v : Value) (wc : World) : Prop := v = .int .i64 (behindE e0 f) ∧ Ext R wc
set_option maxRecDepth 100000 in
set_option maxHeartbeats 2000000 in
theorem refCheck_b2 {u0 u1 u2 u3 u4 u5 u6 u10 u11 u12 u13 u14 u15 u16 u17 u18 u19 u20 u21 u22 u23 u24 u25 u26 u27 u28 u29 u30 u31 u32 u33 u34 u35 u36 u37 u38 u39 u40 u41 u42 u43 u44 u45 u46 u47 u48 u49 u50 u51 u52 u53 u54 u55 u56 u57 u58 u59 u60 u61 u62 u63 u64 u65 u66 u67 : Value} {fb : Nat} {e0 : Int} {pa : Option Addr} {pc : Nat} {f : Form} {R : World} (c1 : R.cell? ⟨fb, 1, none⟩ = some (.slice pa f.parts.length pc)) (hp : PartsAt R (.slice pa f.parts.length pc) f.parts) (Q : Exit → Act → World → Prop)
    (hQ : ∀ (v8 v9 v47 v48 v49 v50 v51 v52 v53 v54 v55 v56 v57 v58 v59 v60 v61 v62 v63 : Value) (wc : World), ChkB2 e0 f R v8 wc → Q .normal ⟨#[u0, u1, u2, u3, u4, u5, u6, .pointer (some ⟨fb, 0, none⟩), v8, v9, u10, u11, u12, u13, u14, u15, u16, u17, u18, u19, u20, u21, u22, u23, u24, u25, u26, u27, u28, u29, u30, u31, u32, u33, u34, u35, u36, u37, u38, u39, u40, u41, u42, u43, u44, u45, u46, v47, v48, v49, v50, v51, v52, v53, v54, v55, v56, v57, v58, v59, v60, v61, v62, v63, u64, u65, u66, u67], []⟩ wc) :
    Code.wp Tryz.prog (blockOf Tryz.f15 2) Q ⟨#[u0, u1, u2, u3, u4, u5, u6, .pointer (some ⟨fb, 0, none⟩), .int .i64 e0, .int .i64 0, u10, u11, u12, u13, u14, u15, u16, u17, u18, u19, u20, u21, u22, u23, u24, u25, u26, u27, u28, u29, u30, u31, u32, u33, u34, u35, u36, u37, u38, u39, u40, u41, u42, u43, u44, u45, u46, u47, u48, u49, u50, u51, u52, u53, u54, u55, u56, u57, u58, u59, u60, u61, u62, u63, u64, u65, u66, u67], []⟩ R := by
  conv => arg 2; whnf
  obtain ⟨-, hl1, hl2⟩ := hp.len
  obtain ⟨FE, hFE⟩ : ∃ FE, behindE e0 f = FE := ⟨_, rfl⟩
  have HFE := Lib.hid hFE
  unfold ChkB2 at hQ
  rw [hFE] at hQ
  have HQ := Lib.hid hQ
  clear hFE hQ
  go_wp2_with fail
  go_loopw [8, 9] (fun ev q wr => ∃ (k : Nat) (e : Int), k ≤ f.parts.length ∧ q = .int .i64 k ∧ ev = .int .i64 e ∧ Ext R wr ∧ (e = 0 → e0 = 0 ∧ (firstErrFrom (fun _ => partErrM) (f.parts.take k) (f.parts.drop k)).2 = FE) ∧ (e ≠ 0 → e = FE)) (fun _ q _ => f.parts.length - (intOf q).toNat)
  case atStart =>
    refine ⟨0, e0, Nat.zero_le _, rfl, rfl, Ext.refl _, fun h => ⟨h, ?_⟩, fun h => ?_⟩
    · have := HFE.out
      unfold behindE at this
      rw [if_neg (by simpa using h)] at this
      exact this
    · have := HFE.out
      unfold behindE at this
      rw [if_pos h] at this
      exact this
  case round =>
    obtain ⟨k, e, hk, rfl, rfl, hx, hz, hn⟩ := hrel
    have r1 := hx.cell c1
    have zr := cell_lt r1
    by_cases hlt : k < f.parts.length
    · have k1 : (k : Int) < (f.parts.length : Int) := by omega
      by_cases h0 : e = 0
      · subst h0
        obtain ⟨h00, hf1⟩ := hz rfl
        obtain ⟨b, o, rfl, ⟨u, p0, hs⟩, p1, p2, i1, i2⟩ := (hp.ext hx).get hlt
        have hstep := firstErrFrom_step (fun _ => partErrM) f.parts k hlt _ rfl
        have hhit := firstErrFrom_hit (fun _ => partErrM) f.parts k hlt _ rfl
        generalize f.parts[k] = p at *
        obtain ⟨ua, uc, rfl, -⟩ := hs.shape
        have hpv : PartV wr (.agg #[.slice ua p.words.length uc, .int .i64 p.lo, .int .i64 p.hi]) p := ⟨_, rfl, hs, i1, i2⟩
        have Hstep := Lib.hid hstep
        have Hhit := Lib.hid hhit
        have Hf1 := Lib.hid hf1
        have H00 := Lib.hid h00
        clear hstep hhit hz hn hs hf1 h00
        go_wp2_with fail
        refine (refPart_any _ p _ hpv).mono ?_
        rintro e w2 ⟨rfl, hx2⟩
        obtain ⟨pe, hpe⟩ : ∃ pe, partErrM p = pe := ⟨_, rfl⟩
        rw [hpe]
        have Hpe := Lib.hid hpe
        clear hpe
        go_wp2
        go_roundw
        case rel =>
          refine ⟨k + 1, pe, by omega, by go_num, rfl, hx.trans hx2, fun h => ⟨H00.out, ?_⟩, fun h => ?_⟩
          · rw [Hstep.out (by rw [Hpe.out]; exact h)]; exact Hf1.out
          · rw [← Hf1.out, Hhit.out (by rw [Hpe.out]; exact h)]; exact Hpe.out.symm
        case measure => simp [intOf]; omega
      · have h0' : (e == 0) = false := by simpa using h0
        have he := hn h0
        subst he
        clear hz hn h0
        go_wp2
        exact HQ.out _ _ _ _ _ _ _ _ _ _ _ _ _ _ _ _ _ _ _ _ ⟨rfl, hx⟩
    · obtain rfl : k = f.parts.length := by omega
      have he : e = FE := by
        by_cases h0 : e = 0
        · obtain ⟨-, h1⟩ := hz h0
          rw [firstErrFrom_end _ _ _ (Nat.le_refl _)] at h1
          rw [h0]; exact h1
        · exact hn h0
      subst he
      clear hz hn
      go_wp2
      exact HQ.out _ _ _ _ _ _ _ _ _ _ _ _ _ _ _ _ _ _ _ _ ⟨rfl, hx⟩
set_option maxRecDepth 100000 in
set_option maxHeartbeats 4000000 in
theorem refCheckS_any (sv : Value) (s : Shelf) (w : World) (hs : ShelfAt w sv s) :
    Calls Tryz.prog 15 #[sv] w fun e w' => e = .returned (.tuple #[.int .i64 (checkS s).1, .int .i64 (checkS s).2.1, .int .i64 (checkS s).2.2]) ∧ Ext w w' := by
  obtain ⟨a, c, rfl, hw, hc1, hc2, hf⟩ := hs.open
  obtain ⟨i0, hi, hz0, hz1, hz2⟩ := info_parts infoString
  have q0 : (w.alloc (.cells #[.int .i64 s.width, .slice a s.forms.length c] 24)).cell? ⟨w.heap.size, 0, none⟩ = some (.int .i64 s.width) := by simp [go_sem]
  have q1 : (w.alloc (.cells #[.int .i64 s.width, .slice a s.forms.length c] 24)).cell? ⟨w.heap.size, 1, none⟩ = some (.slice a s.forms.length c) := by simp [go_sem]
  obtain ⟨W, hW⟩ : ∃ W, W = w.alloc (.cells #[.int .i64 s.width, .slice a s.forms.length c] 24) := ⟨_, rfl⟩
  have xW : Ext w W := by rw [hW]; exact ext_alloc _ _
  have zW : W.heap.size = w.heap.size + 1 := by rw [hW]; simp
  rw [← hW] at q0 q1
  have HW := Lib.hid hW
  clear hW
  have hfW := hf.ext xW
  go_enter Tryz.func15, Tryz.ntmps15
  go_wp2_with fail
  rw [← HW.out]
  refine (In_any _ _ _ _).mono ?_
  rintro e w' ⟨rfl, rfl⟩
  cases h1 : inM s.width 8 30
  · have H1 := Lib.hid h1; clear h1
    go_wp2_with fail
    go_ret3
    exact ⟨ret_three (by rw [checkS, if_pos H1.out]), xW⟩
  have H1 := Lib.hid h1; clear h1
  by_cases h4 : 4 < s.forms.length
  · have H4 := Lib.hid h4
    have k4 : (4 : Int) < (s.forms.length : Int) := by omega
    clear h4
    go_wp2_with fail
    go_ret3
    exact ⟨ret_three (by rw [checkS, if_neg (by rw [H1.out]; decide), if_pos H4.out]), xW⟩
  have H4 := Lib.hid h4
  have k4 : ¬ (4 : Int) < (s.forms.length : Int) := by omega
  clear h4
  go_wp2_with fail
  go_loopw [5, 6] (fun u i wr => ∃ k : Nat, k ≤ s.forms.length ∧ i = .int .i64 k ∧ Ext W wr ∧ RowW W.heap.size ((s.forms.take k).map (·.name)) u wr ∧ firstErrFrom formErrM (s.forms.take k) (s.forms.drop k) = firstErr formErrM s.forms) (fun _ i _ => s.forms.length - (intOf i).toNat)
  case atStart => exact ⟨0, Nat.zero_le _, rfl, Ext.refl _, RowW.nil, rfl⟩
  case round =>
    obtain ⟨k, hk, rfl, hxr, hown, hfe⟩ := hrel
    have r0 := hxr.cell q0
    have r1 := hxr.cell q1
    have zr := cell_lt r0
    have hszr := hxr.size
    have Hfe := Lib.hid hfe
    clear hfe
    by_cases hlt : k < s.forms.length
    · have k1 : (k : Int) < (s.forms.length : Int) := by omega
      obtain ⟨b, o, rfl, f0, fsz, pu, f1, hps⟩ := hfW.get hlt
      replace f0 := hxr.cell f0
      replace f1 := hxr.cell f1
      obtain ⟨pa, pc, rfl, hpc, hpm⟩ := hps.shape
      have hstep := firstErrFrom_step formErrM s.forms k hlt _ rfl
      have hhit := firstErrFrom_hit formErrM s.forms k hlt _ rfl
      have hnm : (s.forms.take (k + 1)).map (·.name) = (s.forms.take k).map (·.name) ++ [s.forms[k].name] := by
        rw [List.take_succ_eq_append_getElem hlt, List.map_append]; rfl
      have hfr := formErr_fresh (s.forms.take k) s.forms[k]
      have hsz : ∀ x ∈ (s.forms.take k).map (·.name), x.size ≤ 9223372036854775807 := fun x hx => by
        obtain ⟨f, hf1, rfl⟩ := List.mem_map.1 hx
        obtain ⟨i, hi', rfl⟩ := List.getElem_of_mem (List.mem_of_mem_take hf1)
        obtain ⟨_, _, -, -, g, -⟩ := hfW.get hi'
        exact g
      have hnl : ((s.forms.take k).map (·.name)).length = k := by simp; omega
      generalize s.forms[k] = f at *
      generalize (s.forms.take k).map (·.name) = nms at *
      have Hstep := Lib.hid hstep
      have Hhit := Lib.hid hhit
      have Hnm := Lib.hid hnm
      have Hfr := Lib.hid hfr
      have hat := hown.at_ hsz
      clear hstep hhit hnm hfr hsz
      go_wp2_with fail
      refine (fresh_any _ f.name nms _ fsz (hat.ext (ext_alloc _ _))).mono ?_
      rintro e w2 ⟨rfl, rfl⟩
      obtain ⟨fr, hfr⟩ : ∃ fr, freshM f.name nms = fr := ⟨_, rfl⟩
      rw [hfr]
      have Hf2 := Lib.hid hfr
      clear hfr hat
      have hone := StrsAt.oneAt (w := wr.alloc (.cells #[.string f.name, .slice pa f.parts.length pc] 62)) (s := f.name) (t := 9) (B := wr.heap.size + 1) (by simp) fsz
      have own1 := RowW.ext hown ((ext_alloc wr (.cells #[.string f.name, .slice pa f.parts.length pc] 62)).trans (ext_alloc _ (.cells #[.string f.name] 9)))
      have hownlt := fun k hk => World.ownsRow.lt hown k hk
      have Hps := Lib.hid hps
      clear hown hps
      have hcases : (fr ≠ 0 ∧ (fr == 0) = false ∧ formErrM (s.forms.take k) f = behindE fr f) ∨ (fr = 0 ∧ ((5 : Int) < (f.parts.length : Int)) ∧ formErrM (s.forms.take k) f = behindE 3 f) ∨ (fr = 0 ∧ ¬ ((5 : Int) < (f.parts.length : Int)) ∧ formErrM (s.forms.take k) f = behindE 0 f) := by
        have h1 := Hfr.out
        rw [Hf2.out] at h1
        by_cases h0 : fr = 0
        · rw [if_neg (by simpa using h0)] at h1
          by_cases h5 : 5 < f.parts.length
          · rw [if_pos h5] at h1
            exact .inr (.inl ⟨h0, by omega, by rw [h1]; rfl⟩)
          · rw [if_neg h5] at h1
            exact .inr (.inr ⟨h0, by omega, by rw [h1]; rfl⟩)
        · rw [if_pos h0] at h1
          exact .inl ⟨h0, by simpa using h0, by rw [h1, behindE, if_pos h0]⟩
      clear Hfr Hf2
      rcases hcases with ⟨g1, g2, g3⟩ | ⟨rfl, g2, g3⟩ | ⟨rfl, g2, g3⟩
      all_goals
        have G3 := Lib.hid g3
        clear g3
        try clear g1
        go_upto_block 2 with (at_builtin; go_loud (refine wpList_append_strs rfl _ _ 29 rfl W.heap.size i0 Tryz.underlying29 hi hz0 hz1 hz2 u5 _ rfl own1 (.slice (some ⟨wr.heap.size + 1, 0, none⟩) 1 1) rfl [f.name] hone (by simp only [List.length_cons, List.length_nil]; omega) (by simp; omega) ?_; intro v' w2 hown' hgrow _; have g1' : w2.cell? ⟨wr.heap.size, 1, none⟩ = some (.slice pa f.parts.length pc) := hgrow.cell (by simp [go_sem]) (fun e => absurd (hownlt wr.heap.size e.symm).2 (Nat.lt_irrefl _)); have z2 := cell_lt g1'))
        have xW2 : Ext W w2 := Ext.grown ((hxr.alloc _).alloc _) hgrow (fun k hk => (hownlt k hk).1)
        have xr2 : ∀ k, u5.ownBlock = some k → k < wr.heap.size := fun k hk => (hownlt k hk).2
        refine refCheck_b2 (f := f) (pa := pa) (pc := pc) g1' (Hps.out.ext xW2) _ ?_
        intro v8 v9 v47 v48 v49 v50 v51 v52 v53 v54 v55 v56 v57 v58 v59 v60 v61 v62 v63 wc ⟨e8, hxc⟩
        subst e8
        rw [← G3.out]
        obtain ⟨FE, hFE⟩ : ∃ FE, formErrM (s.forms.take k) f = FE := ⟨_, rfl⟩
        rw [hFE]
        have HFE := Lib.hid hFE
        clear hFE G3
        have xwc := xW2.trans hxc
        by_cases h0 : FE = 0
        · subst h0
          go_wp2
          go_roundw
          case rel => exact ⟨k + 1, by omega, by go_num, xwc, by rw [Hnm.out]; exact hown'.ext hxc, (Hstep.out HFE.out).trans Hfe.out⟩
          case measure => simp [intOf]; omega
        · have h0' : (FE != 0) = true := by simpa using h0
          have hfirst : firstErr formErrM s.forms = ((k : Int), FE) := by rw [← Hfe.out, Hhit.out (by rw [HFE.out]; exact h0), HFE.out]
          have Hfirst := Lib.hid hfirst
          have H0 := Lib.hid h0
          clear h0 hfirst
          go_wp2
          go_ret3
          exact ⟨ret_three (by rw [checkS, if_neg (by rw [H1.out]; decide), if_neg H4.out, Hfirst.out, if_pos H0.out]), xW.trans xwc⟩
    · obtain rfl : k = s.forms.length := by omega
      have hfirst : firstErr formErrM s.forms = (0, 0) := by rw [← Hfe.out, firstErrFrom_end _ _ _ (Nat.le_refl _)]
      have Hfirst := Lib.hid hfirst
      clear hfirst
      go_wp2
      go_ret3
      exact ⟨ret_three (by rw [checkS, if_neg (by rw [H1.out]; decide), if_neg H4.out, Hfirst.out, if_neg (fun h => h rfl)]), xW.trans hxr⟩
end Go.Proofs.YtgcibmdohifiaaaGreat

namespace Go.Proofs.YtgcibmdohifiaaaGreat
set_option linter.unusedSimpArgs false
set_option linter.unusedVariables false
open Go.RowKit
set_option linter.unusedVariables false

theorem refBehind_any (v : Value) (l : List ByteArray) (er : Int) (w : World) (hl : StrsAt w v l) :
    Calls Tryz.prog 73 #[v, .int .i64 er] w fun e w' => e = .returned (.int .i64 (if er ≠ 0 then er else letterErrL l)) ∧ Ext w w' := by
  by_cases h : er = 0
  · rw [if_neg (by simpa using h)]
    subst h
    go_enter Tryz.func73, Tryz.ntmps73
    go_wp2_with fail
    refine (refLett_any _ l _ hl).mono ?_
    rintro e w1 ⟨rfl, hx⟩
    go_wp2
    go_ret
    exact ⟨rfl, hx⟩
  · rw [if_pos h]
    have h' : (er == 0) = false := by simpa using h
    clear h
    go_enter Tryz.func73, Tryz.ntmps73
    go_wp2
    go_ret
    exact ⟨rfl, Ext.refl _⟩
set_option maxRecDepth 100000 in
theorem refForm_any (sv : Value) (s : Shelf) (n : Int) (hn : I64 n) (w : World) (hs : ShelfAt w sv s) :
    Calls Tryz.prog 66 #[sv, .int .i64 n] w fun e w' => e = .returned (.int .i64 (openErrM s n)) ∧ Ext w w' := by
  have hs0 := hs
  obtain ⟨a, c, rfl, hw, hc1, hc2, hf⟩ := hs.open
  clear hf
  obtain ⟨er, her⟩ : ∃ er, openErrM s n = er := ⟨_, rfl⟩
  rw [her]
  have Her := Lib.hid her
  clear her
  go_enter Tryz.func66, Tryz.ntmps66
  go_wp2_with fail
  refine (refCheckS_any _ s _ (hs0.ext (by first | (with_reducible exact Ext.refl _) | (with_reducible assumption) | (show Below _ _ _; go_grown; done)))).mono ?_
  rintro e w1 ⟨rfl, hx⟩
  have q1 : w1.cell? ⟨w.heap.size, 1, none⟩ = some (.slice a s.forms.length c) := hx.cell (by simp [go_sem])
  have z1 := cell_lt q1
  have x1 : Ext w w1 := hx.of_alloc
  have hE : (checkS s).2.2 = errS s := rfl
  rw [hE]
  generalize (checkS s).2.1 = at1
  generalize (checkS s).1 = part1
  obtain ⟨e0, he0⟩ : ∃ e0, errS s = e0 := ⟨_, rfl⟩
  rw [he0]
  have He0 := Lib.hid he0
  have wl : IntKind.i64.wrap ((s.forms.length : Int) - 1) = (s.forms.length : Int) - 1 := IntWalk.i64_in _ (by omega)
  clear he0 hE hx
  by_cases h : e0 = 0
  · subst h
    go_wp2_with fail
    refine (In_any _ _ _ _).mono ?_
    rintro e w' ⟨rfl, rfl⟩
    cases hi : inM n 0 ((s.forms.length : Int) - 1)
    · have Hi := Lib.hid hi
      clear hi
      go_wp2
      go_ret
      exact ⟨ret_int (by rw [← Her.out, openErrM, if_neg (by rw [He0.out]; simp), if_pos Hi.out]), x1⟩
    · have Hi := Lib.hid hi
      clear hi
      go_wp2
      go_ret
      exact ⟨ret_int (by rw [← Her.out, openErrM, if_neg (by rw [He0.out]; simp), if_neg (by rw [Hi.out]; simp)]), x1⟩
  · have h' : (e0 == 0) = false := by simpa using h
    have H := Lib.hid h
    clear h
    go_wp2
    go_ret
    exact ⟨ret_int (by rw [← Her.out, openErrM, if_pos (by rw [He0.out]; exact H.out), He0.out]), x1⟩
set_option maxRecDepth 100000 in
theorem validL_any (sv : Value) (s : Shelf) (w : World) (hs : ShelfAt w sv s) :
    Calls Tryz.prog 39 #[sv] w fun e w' => e = .returned (.bool (errS s == 0)) ∧ Ext w w' := by
  have hs0 := hs
  obtain ⟨a, c, rfl, hw, hc1, hc2, hf⟩ := hs.open
  clear hf
  go_enter Tryz.func39, Tryz.ntmps39
  go_wp2_with fail
  refine (refCheckS_any _ s _ (hs0.ext (by first | (with_reducible exact Ext.refl _) | (with_reducible assumption) | (show Below _ _ _; go_grown; done)))).mono ?_
  rintro e w1 ⟨rfl, hx⟩
  have x1 : Ext w w1 := Ext.trans (by first | (with_reducible exact Ext.refl _) | (with_reducible assumption) | (show Below _ _ _; go_grown; done)) hx
  clear hx
  have hE : (checkS s).2.2 = errS s := rfl
  rw [hE]
  generalize (checkS s).2.1 = at1
  generalize (checkS s).1 = part1
  clear hE
  go_wp2
  go_ret
  exact ⟨rfl, x1⟩
end Go.Proofs.YtgcibmdohifiaaaGreat

namespace Go.Proofs.YtgcibmdohifiaaaGreat
set_option linter.unusedSimpArgs false
set_option linter.unusedVariables false
open Go.RowKit
set_option linter.unusedVariables false

def mkS (l : List UInt8) : ByteArray := ⟨l.toArray⟩
theorem mkS_append (a b : List UInt8) : mkS a ++ mkS b = mkS (a ++ b) := by
  apply ByteArray.ext
  rw [ByteArray.data_append]
  simp [mkS]
theorem mkS_size (l : List UInt8) : (mkS l).size = l.length := by
  show l.toArray.size = _
  simp
theorem mkS_bytes (x : ByteArray) : mkS (bytesL x) = x := by
  obtain ⟨x⟩ := x
  simp [mkS, bytesL]
theorem bytes_mkS (l : List UInt8) : bytesL (mkS l) = l := by simp [mkS, bytesL]
theorem ret_str {a b : ByteArray} (h : a = b) : Ending.returned (.string a) = .returned (.string b) := by rw [h]
theorem textSt_has (width : Int) (l : List ByteArray) (k : Nat) (h0 : 0 < k) (hk : k ≤ l.length) : (textSt width (l.take k)).2.2 = true := by
  rw [textSt_some]
  simp
  refine ⟨by omega, fun h => ?_⟩
  subst h; simp at hk; omega
set_option maxRecDepth 100000 in
set_option maxHeartbeats 2000000 in
theorem refText_any (v : Value) (width : Int) (l : List ByteArray) (w : World) (hl : StrsAt w v l) (hwd : I64 width) (h15 : l.length ≤ 15) (h8 : ∀ s ∈ l, s.size ≤ 8) :
    Calls Tryz.prog 78 #[.int .i64 width, v] w fun e w' => e = .returned (.string (mkS (textM width l))) ∧ Ext w w' := by
  obtain ⟨a, cap, rfl, hlc, hcm⟩ := hl.shape
  have H8 := Lib.hid h8
  clear h8
  go_enter Tryz.func78, Tryz.ntmps78
  go_wp2_with fail
  go_loopw [5, 6, 7] (fun ov lv iv wr => ∃ (k : Nat) (o ln : List UInt8), k ≤ l.length ∧ iv = .int .i64 k ∧ ov = .string (mkS o) ∧ lv = .string (mkS ln) ∧ Ext w wr ∧ o ++ ln = (textSt width (l.take k)).1 ∧ ln.length = (textSt width (l.take k)).2.1 ∧ o.length + ln.length ≤ k * 9) (fun _ _ i _ => l.length - (intOf i).toNat)
  case atStart => exact ⟨0, [], [], Nat.zero_le _, rfl, rfl, rfl, Ext.refl _, rfl, rfl, by simp⟩
  case round =>
    obtain ⟨k, o, ln, hk, rfl, rfl, rfl, hx, ht, hn, hsz⟩ := hrel
    have so := mkS_size o
    have sl := mkS_size ln
    by_cases hlt : k < l.length
    · have k1 : (k : Int) < (l.length : Int) := by omega
      obtain ⟨b, off, rfl, c0, -⟩ := (hl.ext hx).get hlt
      have hst := textSt_step width l k hlt
      have hhas := textSt_has width l k
      have x8 := H8.out l[k] (List.getElem_mem hlt)
      generalize l[k] = x at *
      simp only [Nat.mul_one] at c0
      obtain ⟨st, hste⟩ : ∃ st, st = textSt width (l.take k) := ⟨_, rfl⟩
      rw [← hste] at hst hhas ht hn
      have hst00 : k = 0 → st = ([], 0, false) := fun h => by rw [hste, h]; rfl
      clear hste
      obtain ⟨st1, st2, st3⟩ := st
      simp only at ht hn hhas
      have hst0 : k = 0 → st1 = [] ∧ st2 = 0 ∧ st3 = false := fun h => by
        have := hst00 h
        exact ⟨congrArg (·.1) this, congrArg (·.2.1) this, congrArg (·.2.2) this⟩
      have Hst := Lib.hid hst
      have Ht := Lib.hid ht
      clear hst ht
      by_cases h0 : k = 0
      · subst h0
        have hnil : st1 = [] ∧ st2 = 0 := by
          have := hst0 rfl
          exact ⟨this.1, this.2.1⟩
        obtain ⟨rfl, rfl⟩ := hnil
        have ho : o = [] ∧ ln = [] := List.append_eq_nil_iff.1 Ht.out
        obtain ⟨rfl, rfl⟩ := ho
        have hs0 : textSt width (l.take (0 + 1)) = (bytesL x, x.size, true) := by
          rw [Hst.out, lineStep, if_pos (hst0 rfl).2.2]
        have Hs0 := Lib.hid hs0
        have hbx : (bytesL x).length = x.size := rfl
        have Hbx := Lib.hid hbx
        simp only [Nat.add_zero] at c0
        clear hs0 Hst hst0 hbx
        go_wp2
        go_roundw
        case rel => exact ⟨1, [], bytesL x, by omega, by go_num, rfl, by rw [mkS_bytes], hx, by rw [Hs0.out]; rfl, by rw [Hs0.out]; exact Hbx.out, by rw [Hbx.out]; simp; omega⟩
        case measure => simp [intOf]; omega
      · have h0' : ((k : Int) == 0) = false := by simp; omega
        have h3 : st3 = true := hhas (by omega) (by omega)
        subst h3
        have w1 : IntKind.i64.wrap (((mkS ln).size : Int) + 1) = ((mkS ln).size : Int) + 1 := IntWalk.i64_in _ (by omega)
        have w2 : IntKind.i64.wrap (((mkS ln).size : Int) + 1 + x.size) = ((mkS ln).size : Int) + 1 + x.size := IntWalk.i64_in _ (by omega)
        by_cases hfit : ((mkS ln).size : Int) + 1 + x.size ≤ width
        · have hs1 : textSt width (l.take (k + 1)) = (st1 ++ [32] ++ bytesL x, st2 + 1 + x.size, true) := by
            rw [Hst.out, lineStep, if_neg (by simp), if_pos (by rw [sl, hn] at hfit; exact hfit)]
          have Hs1 := Lib.hid hs1
          clear hs1 Hst
          have g1 : ¬ 9223372036854775807 < (mkS ln).size + (⟨#[32]⟩ : ByteArray).size := by rw [sl]; show ¬ 9223372036854775807 < ln.length + 1; omega
          have g2 : ¬ 9223372036854775807 < (mkS ln ++ (⟨#[32]⟩ : ByteArray)).size + x.size := by
            have : (⟨#[32]⟩ : ByteArray) = mkS [32] := rfl
            rw [this, mkS_append, mkS_size]; simp; omega
          have hjoin : mkS ln ++ (⟨#[32]⟩ : ByteArray) ++ x = mkS (ln ++ [32] ++ bytesL x) := by
            rw [← mkS_append, ← mkS_append, mkS_bytes]; rfl
          have hbx : (bytesL x).length = x.size := rfl
          have Hbx := Lib.hid hbx
          have Hj := Lib.hid hjoin
          have Hn := Lib.hid hn
          clear hjoin hbx hst0 hst00 hhas hn
          go_wp2_with fail
          refine ⟨⟨k + 1, o, ln ++ [32] ++ bytesL x, by omega, by go_num, rfl, by rw [Hj.out], hx, ?_, ?_, ?_⟩, ?_⟩
          · rw [Hs1.out, ← Ht.out]; simp
          · rw [Hs1.out]; simp only [List.length_append, List.length_cons, List.length_nil, Hbx.out, Hn.out]
          · simp only [List.length_append, List.length_cons, List.length_nil, Hbx.out]; omega
          · simp [intOf]; omega
        · have hs1 : textSt width (l.take (k + 1)) = (st1 ++ [10] ++ bytesL x, x.size, true) := by
            rw [Hst.out, lineStep, if_neg (by simp), if_neg (by rw [sl, hn] at hfit; exact hfit)]
          have Hs1 := Lib.hid hs1
          clear hs1 Hst
          have g1 : ¬ 9223372036854775807 < (mkS o).size + (mkS ln).size := by rw [sl, so]; omega
          have g3 : ¬ 9223372036854775807 < o.length + ln.length := by omega
          have g4 : ¬ 9223372036854775807 < o.length + ln.length + 1 := by omega
          have g2 : ¬ 9223372036854775807 < (mkS o ++ mkS ln).size + (⟨#[10]⟩ : ByteArray).size := by
            rw [mkS_append, mkS_size]
            show ¬ 9223372036854775807 < (o ++ ln).length + 1
            simp; omega
          have hjoin : mkS o ++ mkS ln ++ (⟨#[10]⟩ : ByteArray) = mkS (o ++ ln ++ [10]) := by
            rw [← mkS_append, ← mkS_append]; rfl
          have hbx : (bytesL x).length = x.size := rfl
          have Hbx := Lib.hid hbx
          have Hj := Lib.hid hjoin
          have Hn := Lib.hid hn
          clear hjoin hbx hst0 hst00 hhas hn
          go_wp2_with fail
          apply Facts.wp_region [.val _, .val _, .val (.string (mkS o ++ mkS ln)), .val (.string (mkS o ++ mkS ln ++ ⟨#[10]⟩)), .val _, .val _, .val _, .val (.string x), .val _, .val _] (by kernel_rfl) (by kernel_rfl) trivial ?main
          case main =>
            iterate 10 (refine ⟨fun w1 hx hh => ?_, ?_⟩; focus (clear hh; have e0 := hx.cell c0; go_simp; first | exact ⟨Ext.refl _, rfl⟩ | exact Ext.refl _))
            intro w5 hx5 hh
            clear hh c0
            have x5 := hx.trans hx5
            go_simp
            go_wp2
            go_roundw
            case rel =>
              refine ⟨k + 1, o ++ ln ++ [10], bytesL x, by omega, by go_num, by rw [Hj.out], by rw [mkS_bytes], x5, ?_, ?_, ?_⟩
              · rw [Hs1.out, ← Ht.out]
              · rw [Hs1.out]; exact Hbx.out
              · simp only [List.length_append, List.length_cons, List.length_nil, Hbx.out]; omega
            case measure => simp [intOf]; omega
    · obtain rfl : k = l.length := by omega
      rw [List.take_length] at ht hn
      by_cases hl0 : l.length = 0
      · have hres : mkS (textM width l) = mkS o := by
          unfold textM
          rw [if_pos hl0]
          have : l = [] := List.eq_nil_of_length_eq_zero hl0
          subst this
          have ho : o = [] ∧ ln = [] := List.append_eq_nil_iff.1 ht
          rw [ho.1]
        have Hres := Lib.hid hres
        have k0 : ¬ (0 : Int) < (l.length : Int) := by omega
        clear hres ht hn hl0
        go_wp2
        go_ret
        exact ⟨ret_str Hres.out.symm, hx⟩
      · have hres : mkS (textM width l) = mkS o ++ mkS ln ++ (⟨#[10]⟩ : ByteArray) := by
          unfold textM
          rw [if_neg hl0, ← ht, ← mkS_append, ← mkS_append]; rfl
        have Hres := Lib.hid hres
        have k0 : (0 : Int) < (l.length : Int) := by omega
        have g3 : ¬ 9223372036854775807 < o.length + ln.length := by omega
        have g4 : ¬ 9223372036854775807 < o.length + ln.length + 1 := by omega
        clear hres ht hn hl0
        go_wp2
        go_ret
        exact ⟨ret_str Hres.out.symm, hx⟩
theorem lett_small {l : List ByteArray} (h : letterErrL l = 0) : l.length ≤ 15 ∧ ∀ s ∈ l, s.size ≤ 8 := by
  obtain ⟨h15, hw⟩ := lettErr_ok h
  exact ⟨h15, fun s hs => (word_size (hw s hs)).2⟩
set_option maxRecDepth 100000 in
set_option maxHeartbeats 1000000 in
theorem refWrite_any (sv lv : Value) (s : Shelf) (l : List ByteArray) (w : World) (hs : ShelfAt w sv s) (hl : StrsAt w lv l) :
    Calls Tryz.prog 27 #[sv, lv] w fun e w' => e = .returned (.tuple #[.string (writeM s l), .int .i64 (shelfErrM s l)]) ∧ Ext w w' := by
  have hs0 := hs
  obtain ⟨a, c, rfl, hw, hc1, hc2, hf⟩ := hs.open
  obtain ⟨la, lc, rfl, -⟩ := hl.shape
  clear hf
  obtain ⟨er, her⟩ : ∃ er, shelfErrM s l = er := ⟨_, rfl⟩
  obtain ⟨tx, htx⟩ : ∃ tx, writeM s l = tx := ⟨_, rfl⟩
  rw [her, htx]
  have Her := Lib.hid her
  have Htx := Lib.hid htx
  clear her htx
  go_enter Tryz.func27, Tryz.ntmps27
  go_wp2_with fail
  refine (refCheckS_any _ s _ (hs0.ext (by first | (with_reducible exact Ext.refl _) | (with_reducible assumption) | (show Below _ _ _; go_grown; done)))).mono ?_
  rintro e w1 ⟨rfl, hx⟩
  have q0 : w1.cell? ⟨w.heap.size, 0, none⟩ = some (.int .i64 s.width) := hx.cell (by simp [go_sem])
  have z1 := cell_lt q0
  have x1 : Ext w w1 := hx.of_alloc
  have hE : (checkS s).2.2 = errS s := rfl
  rw [hE]
  generalize (checkS s).2.1 = at1
  generalize (checkS s).1 = part1
  clear hE hx
  have hse : (if errS s ≠ 0 then errS s else letterErrL l) = er := Her.out
  go_wp2_with fail
  refine (refBehind_any _ l (errS s) _ (hl.ext x1)).mono ?_
  rintro e w2 ⟨rfl, hx⟩
  rw [hse]
  clear hse
  replace q0 := hx.cell q0
  replace z1 := cell_lt q0
  replace x1 := x1.trans hx
  clear hx
  by_cases h : er = 0
  · subst h
    have hle := (shelfErr_ok Her.out).2
    have hsm := lett_small hle
    have hres : mkS (textM s.width l) = tx := by rw [← Htx.out, writeM, if_pos Her.out]; rfl
    have Hres := Lib.hid hres
    have htext := fun w' (x : Ext w w') => refText_any _ s.width l w' (hl.ext x) hw hsm.1 hsm.2
    clear hres hle hsm
    go_wp2_with fail
    refine (htext _ x1).mono ?_
    rintro e w3 ⟨rfl, hx⟩
    rw [Hres.out]
    go_wp2
    go_ret2
    exact ⟨rfl, x1.trans hx⟩
  · have h' : (er != 0) = true := by simpa using h
    have hres : tx = ⟨#[]⟩ := by rw [← Htx.out, writeM, if_neg (by rw [Her.out]; exact h)]
    subst hres
    clear h
    go_wp2
    go_ret2
    exact ⟨rfl, x1⟩
end Go.Proofs.YtgcibmdohifiaaaGreat

namespace Go.Proofs.YtgcibmdohifiaaaGreat
set_option linter.unusedSimpArgs false
set_option linter.unusedVariables false
set_option linter.unusedVariables false

/-- whether a byte stands between words -/
def sepB (b : UInt8) : Bool := b == 32 || b == 10
/-- parted by what stands between words -/
def splitP : List UInt8 → List UInt8 → List (List UInt8)
  | [], cur => [cur]
  | x :: r, cur => if sepB x then cur :: splitP r [] else splitP r (cur ++ [x])
/-- the words between -/
def fieldsB : List UInt8 → Option (List UInt8) → List (List UInt8)
  | [], none => []
  | [], some c => [c]
  | x :: r, none => if sepB x then fieldsB r none else fieldsB r (some [x])
  | x :: r, some c => if sepB x then c :: fieldsB r none else fieldsB r (some (c ++ [x]))
theorem splitB_snoc (c : UInt8) : ∀ (T cur : List UInt8), splitB c (T ++ [c]) cur = splitB c T cur ++ [[]]
  | [], cur => by simp [splitB]
  | x :: T, cur => by
    rw [List.cons_append, splitB, splitB]
    split
    · rw [splitB_snoc c T []]; rfl
    · exact splitB_snoc c T _
theorem splitB_end (c : UInt8) : ∀ (T cur : List UInt8) (pre : List (List UInt8)) (cw : List UInt8) (x : UInt8), splitB c T cur = pre ++ [cw] → splitB c (T ++ [x]) cur = if x = c then pre ++ [cw] ++ [[]] else pre ++ [cw ++ [x]]
  | [], cur, pre, cw, x, h => by
    rw [splitB] at h
    have : pre = [] ∧ cur = cw := by
      cases pre with
      | nil => simpa using h
      | cons a pre => simp at h
    obtain ⟨rfl, rfl⟩ := this
    simp only [List.nil_append, splitB]
    split <;> simp
  | y :: T, cur, pre, cw, x, h => by
    rw [splitB] at h
    rw [List.cons_append, splitB]
    split
    · rename_i hy
      rw [if_pos hy] at h
      obtain ⟨p2, rfl⟩ : ∃ p2, pre = cur :: p2 := by
        cases pre with
        | nil =>
          exfalso
          have h2 := (List.cons.inj h).2
          cases T with
          | nil => simp [splitB] at h2
          | cons z T => rw [splitB] at h2; split at h2 <;> simp at h2; exact splitB_ne c T [z] h2
        | cons a pre => exact ⟨pre, by rw [(List.cons.inj h).1]⟩
      have h2 : splitB c T [] = p2 ++ [cw] := (List.cons.inj h).2
      rw [splitB_end c T [] p2 cw x h2]
      split <;> rfl
    · rename_i hy
      rw [if_neg hy] at h
      exact splitB_end c T _ pre cw x h
where splitB_ne (c : UInt8) : ∀ (T cur : List UInt8), splitB c T cur ≠ []
  | [], cur => by simp [splitB]
  | x :: T, cur => by
    rw [splitB]
    split
    · simp
    · exact splitB_ne c T _
/-- first into lines, then each line -/
theorem split_lines : ∀ (T cur : List UInt8) (pre : List (List UInt8)) (cw : List UInt8), splitB 32 cur [] = pre ++ [cw] → (splitB 10 T cur).flatMap (fun l => splitB 32 l []) = pre ++ splitP T cw
  | [], cur, pre, cw, h => by simp [splitB, splitP, h]
  | x :: T, cur, pre, cw, h => by
    rw [splitB, splitP]
    by_cases h10 : x = 10
    · subst h10
      have := split_lines T [] [] [] (by rfl)
      rw [if_pos rfl, if_pos (by decide), List.flatMap_cons, this, h, List.nil_append, List.append_assoc]
      rfl
    · rw [if_neg h10]
      have he := splitB_end 32 cur [] pre cw x h
      by_cases h32 : x = 32
      · subst h32
        rw [if_pos rfl] at he
        rw [if_pos (by decide), split_lines T (cur ++ [32]) (pre ++ [cw]) [] he, List.append_assoc]
        rfl
      · rw [if_neg h32] at he
        rw [if_neg (by simp [sepB, h32, h10]), split_lines T (cur ++ [x]) pre (cw ++ [x]) he]
/-- a word has nothing that stands between words -/
theorem word_bytes {x : ByteArray} (h : wordM x = true) : ∀ b ∈ bytesL x, 97 ≤ b.toNat ∧ b.toNat ≤ 122 := by
  intro b hb
  unfold wordM at h
  rw [Bool.and_eq_true, List.all_eq_true] at h
  obtain ⟨i, hi, rfl⟩ := List.getElem_of_mem hb
  have hi' : i < x.size := hi
  have h2 := h.2 i (List.mem_range.2 hi')
  rw [byteAt_eq x i hi'] at h2
  have h3 : inM (((x[i]'hi').toNat : Nat) : Int) 97 122 = true := h2
  unfold inM at h3
  simp at h3
  have e : ((bytesL x)[i]).toNat = (x[i]'hi').toNat := rfl
  omega
theorem word_nosep {x : ByteArray} (h : wordM x = true) : ∀ b ∈ bytesL x, sepB b = false := fun b hb => by
  have := word_bytes h b hb
  unfold sepB
  have h1 : b ≠ 32 := fun e => by subst e; simp at this
  have h2 : b ≠ 10 := fun e => by subst e; simp at this
  simp [h1, h2]
theorem splitP_word : ∀ (x r cur : List UInt8), (∀ b ∈ x, sepB b = false) → splitP (x ++ r) cur = splitP r (cur ++ x)
  | [], r, cur, _ => by simp
  | b :: x, r, cur, h => by
    rw [List.cons_append, splitP, if_neg (by rw [h b List.mem_cons_self]; decide), splitP_word x r _ fun c hc => h c (List.mem_cons_of_mem _ hc), List.append_assoc]
    rfl
theorem fieldsB_word : ∀ (x r c : List UInt8), (∀ b ∈ x, sepB b = false) → fieldsB (x ++ r) (some c) = fieldsB r (some (c ++ x))
  | [], r, c, _ => by simp
  | b :: x, r, c, h => by
    rw [List.cons_append, fieldsB, if_neg (by rw [h b List.mem_cons_self]; decide), fieldsB_word x r _ fun c hc => h c (List.mem_cons_of_mem _ hc), List.append_assoc]
    rfl
theorem fieldsB_first (x r : List UInt8) (hx : x ≠ []) (h : ∀ b ∈ x, sepB b = false) : fieldsB (x ++ r) none = fieldsB r (some x) := by
  cases x with
  | nil => exact absurd rfl hx
  | cons b x =>
    rw [List.cons_append, fieldsB, if_neg (by rw [h b List.mem_cons_self]; decide), fieldsB_word x r _ fun c hc => h c (List.mem_cons_of_mem _ hc)]
    rfl
/-- what the lines of a letter are parted into -/
theorem text_parts (width : Int) (l : List ByteArray) : (∀ s ∈ l, wordM s = true) → ∀ (y : ByteArray) (hy : wordM y = true) (r : List UInt8),
    splitP ((textSt width (l ++ [y])).1 ++ r) [] = l.map bytesL ++ splitP r (bytesL y) ∧ fieldsB ((textSt width (l ++ [y])).1 ++ r) none = l.map bytesL ++ fieldsB r (some (bytesL y)) := by
  refine snoc_ind (p := fun l => (∀ s ∈ l, wordM s = true) → ∀ (y : ByteArray) (hy : wordM y = true) (r : List UInt8), splitP ((textSt width (l ++ [y])).1 ++ r) [] = l.map bytesL ++ splitP r (bytesL y) ∧ fieldsB ((textSt width (l ++ [y])).1 ++ r) none = l.map bytesL ++ fieldsB r (some (bytesL y))) ?_ ?_ l
  · intro _ y hy r
    have hne : bytesL y ≠ [] := fun e => by
      have := (word_size hy).1
      have h2 := bytesL_len y
      rw [e] at h2; simp at h2; omega
    show splitP (bytesL y ++ r) [] = _ ∧ fieldsB (bytesL y ++ r) none = _
    exact ⟨by rw [splitP_word _ _ _ (word_nosep hy)]; simp, by rw [fieldsB_first _ _ hne (word_nosep hy)]; simp⟩
  · intro l x ih h y hy r
    have hl : ∀ s ∈ l, wordM s = true := fun s hs => h s (List.mem_append_left _ hs)
    have hx : wordM x = true := h x (by simp)
    have hne : bytesL y ≠ [] := fun e => by
      have := (word_size hy).1
      have h2 := bytesL_len y
      rw [e] at h2; simp at h2; omega
    have key : ∀ sp : UInt8, sepB sp = true → splitP ((textSt width (l ++ [x])).1 ++ [sp] ++ bytesL y ++ r) [] = (l ++ [x]).map bytesL ++ splitP r (bytesL y) ∧ fieldsB ((textSt width (l ++ [x])).1 ++ [sp] ++ bytesL y ++ r) none = (l ++ [x]).map bytesL ++ fieldsB r (some (bytesL y)) := fun sp hsp => by
      obtain ⟨i1, i2⟩ := ih hl x hx ([sp] ++ bytesL y ++ r)
      simp only [List.append_assoc] at i1 i2 ⊢
      rw [i1, i2]
      simp only [List.singleton_append, splitP, fieldsB, hsp, if_true]
      rw [splitP_word _ _ _ (word_nosep hy), fieldsB_first _ _ hne (word_nosep hy)]
      simp
    rw [textSt_snoc width (l ++ [x]) y]
    unfold lineStep
    rw [if_neg (by rw [textSt_some]; simp)]
    split
    · exact key 32 (by decide)
    · exact key 10 (by decide)
/-- the words of a text, as the reference takes them -/
def refWordsM (t : ByteArray) : List ByteArray := (splitM 10 t).dropLast.flatMap (splitM 32)
theorem splitM_mk (c : UInt8) (l : List UInt8) : splitM c (mkS l) = (splitB c l []).map mkS := rfl
theorem refWords_snoc (T : List UInt8) : refWordsM (mkS (T ++ [10])) = (splitP T []).map mkS := by
  unfold refWordsM
  rw [splitM_mk, splitB_snoc, List.map_append]
  simp only [List.map_cons, List.map_nil, List.dropLast_concat]
  have := split_lines T [] [] [] (by rfl)
  rw [List.nil_append] at this
  rw [← this, List.flatMap_map, List.map_flatMap]
  rfl
theorem map_mkS (l : List ByteArray) : (l.map bytesL).map mkS = l := by
  rw [List.map_map]
  have : (mkS ∘ bytesL) = id := by funext x; exact mkS_bytes x
  rw [this, List.map_id]
/-- written and parted: the letter -/
theorem refWords_text (width : Int) (l : List ByteArray) (h : ∀ s ∈ l, wordM s = true) : refWordsM (mkS (textM width l)) = l := by
  rcases List.eq_nil_or_concat l with rfl | ⟨l, y, rfl⟩
  · rfl
  · rw [List.concat_eq_append] at *
    have h1 : ∀ s ∈ l, wordM s = true := fun s hs => h s (List.mem_append_left _ hs)
    have hy : wordM y = true := h y (by simp)
    obtain ⟨i1, -⟩ := text_parts width l h1 y hy []
    unfold textM
    rw [if_neg (by simp), refWords_snoc]
    rw [List.append_nil] at i1
    rw [i1, splitP, List.map_append, map_mkS]
    simp [mkS_bytes]
/-! ### the fields of a text -/
theorem spans_fields (T : List UInt8) (ha : ∀ b ∈ T, b.toNat < 128) : ∀ (f pos : Nat) (st : Option Nat) (acc : List (Nat × Nat)), T.length - pos ≤ f → pos ≤ T.length → (∀ a, st = some a → a ≤ pos) →
    (Lib.closeSpans (mkS T) (Lib.spansFromP betweenP (mkS T) f pos st acc)).map (fun x => (mkS T).extract x.1 x.2) = acc.map (fun x => (mkS T).extract x.1 x.2) ++ (fieldsB (T.drop pos) (st.map fun a => (T.drop a).take (pos - a))).map mkS := by
  have hext : ∀ a b, (mkS T).extract a b = mkS ((T.drop a).take (b - a)) := fun a b => extract_part (mkS T) a b
  have hend : ∀ (st : Option Nat) (acc : List (Nat × Nat)), (∀ a, st = some a → a ≤ T.length) → (Lib.closeSpans (mkS T) (acc, st)).map (fun x => (mkS T).extract x.1 x.2) = acc.map (fun x => (mkS T).extract x.1 x.2) ++ (fieldsB [] (st.map fun a => (T.drop a).take (T.length - a))).map mkS := fun st acc hst => by
    cases st with
    | none => simp [Lib.closeSpans, fieldsB]
    | some a => simp [Lib.closeSpans, fieldsB, hext, mkS_size]
  intro f
  induction f with
  | zero =>
    intro pos st acc hf hpos hst
    obtain rfl : pos = T.length := by omega
    rw [Lib.spansFromP, List.drop_length]
    exact hend st acc hst
  | succ f ih =>
    intro pos st acc hf hpos hst
    by_cases hlt : pos < T.length
    · have hlt' : pos < (mkS T).size := by rw [mkS_size]; exact hlt
      have hb : ((mkS T)[pos]'hlt').toNat < 128 := ha _ (by show T[pos] ∈ T; exact List.getElem_mem hlt)
      have hd := decode_ascii (mkS T) pos hlt' hb
      have hg : (mkS T)[pos]'hlt' = T[pos] := rfl
      rw [hg] at hd
      unfold Lib.spansFromP
      rw [if_pos hlt', hd]
      have hbt : betweenP T[pos].toNat = sepB T[pos] := by
        unfold betweenP sepB
        have h1 : (T[pos].toNat == 32) = (T[pos] == 32) := by
          rw [Bool.eq_iff_iff]; simp [← UInt8.toNat_inj]
        have h2 : (T[pos].toNat == 10) = (T[pos] == 10) := by
          rw [Bool.eq_iff_iff]; simp [← UInt8.toNat_inj]
        rw [h1, h2]
      have hdrop : T.drop pos = T[pos] :: T.drop (pos + 1) := List.drop_eq_getElem_cons hlt
      have h1 : (T.drop pos).take (pos + 1 - pos) = [T[pos]] := by
        rw [show pos + 1 - pos = 1 from by omega, hdrop]; rfl
      have h2 : ∀ a, a ≤ pos → (T.drop a).take (pos + 1 - a) = (T.drop a).take (pos - a) ++ [T[pos]] := fun a hap => by
        rw [show pos + 1 - a = (pos - a) + 1 from by omega, List.take_succ_eq_append_getElem (by rw [List.length_drop]; omega), List.getElem_drop]
        simp only [show a + (pos - a) = pos from by omega]
        rfl
      simp only [hbt]
      rw [hdrop]
      clear hbt hd hg hb hdrop
      generalize T[pos] = c at *
      cases hs : sepB c
      · cases st with
        | none =>
          simp only [Bool.false_eq_true, if_false]
          rw [ih (pos + 1) (some pos) acc (by omega) (by omega) (fun a e => by cases e; omega)]
          simp only [Option.map_none, Option.map_some, fieldsB, hs, Bool.false_eq_true, if_false, h1]
        | some a =>
          have hap := hst a rfl
          simp only [Bool.false_eq_true, if_false]
          rw [ih (pos + 1) (some a) acc (by omega) (by omega) (fun b e => by cases e; omega)]
          simp only [Option.map_some, fieldsB, hs, Bool.false_eq_true, if_false, h2 a hap]
      · cases st with
        | none =>
          simp only [if_true]
          rw [ih (pos + 1) none acc (by omega) (by omega) (fun a e => by cases e)]
          simp only [Option.map_none, fieldsB, hs, if_true]
        | some a =>
          simp only [if_true]
          rw [ih (pos + 1) none (acc ++ [(a, pos)]) (by omega) (by omega) (fun a e => by cases e)]
          simp only [Option.map_none, Option.map_some, fieldsB, hs, if_true, List.map_append, List.map_cons, List.map_nil, hext, List.append_assoc]
          rfl
    · obtain rfl : pos = T.length := by omega
      rw [Lib.spansFromP_end _ _ _ _ _ _ (by rw [mkS_size]; omega), List.drop_length]
      exact hend st acc hst
theorem fields_mk (T : List UInt8) (ha : ∀ b ∈ T, b.toNat < 128) : fieldsM (mkS T) = (fieldsB T none).map mkS := by
  have := spans_fields T ha (mkS T).size 0 none [] (by rw [mkS_size]; omega) (Nat.zero_le _) (fun a e => by cases e)
  unfold fieldsM Lib.goFieldsP Lib.spansOfP
  rw [this]
  simp
theorem text_ascii (width : Int) (l : List ByteArray) : (∀ s ∈ l, wordM s = true) → ∀ b ∈ (textSt width l).1, b.toNat < 128 := by
  refine snoc_ind (p := fun l => (∀ s ∈ l, wordM s = true) → ∀ b ∈ (textSt width l).1, b.toNat < 128) (by simp [textSt_nil]) (fun l x ih h => ?_) l
  have i := ih fun s hs => h s (List.mem_append_left _ hs)
  have hx := word_bytes (h x (by simp))
  rw [textSt_snoc]
  unfold lineStep
  intro b hb
  split at hb
  · have := hx b hb; omega
  · split at hb
    all_goals
      simp only [List.mem_append, List.mem_singleton] at hb
      rcases hb with (hb | hb) | hb
      · exact i b hb
      · subst hb; decide
      · have := hx b hb; omega
theorem fields_text (width : Int) (l : List ByteArray) (h : ∀ s ∈ l, wordM s = true) : fieldsM (mkS (textM width l)) = l := by
  rcases List.eq_nil_or_concat l with rfl | ⟨l, y, rfl⟩
  · rfl
  · rw [List.concat_eq_append] at *
    have h1 : ∀ s ∈ l, wordM s = true := fun s hs => h s (List.mem_append_left _ hs)
    have hy : wordM y = true := h y (by simp)
    obtain ⟨-, i2⟩ := text_parts width l h1 y hy [10]
    have hasc : ∀ b ∈ textM width (l ++ [y]), b.toNat < 128 := by
      unfold textM
      rw [if_neg (by simp)]
      intro b hb
      rcases List.mem_append.1 hb with hb | hb
      · exact text_ascii width (l ++ [y]) h b hb
      · rw [List.mem_singleton] at hb; subst hb; decide
    rw [fields_mk _ hasc]
    unfold textM
    rw [if_neg (by simp), i2]
    simp only [fieldsB, sepB, List.map_append]
    rw [map_mkS]
    simp [mkS_bytes]
/-- the letter that a text is of, as the reference takes it -/
def refReadM (s : Shelf) (t : ByteArray) : List ByteArray × Int :=
  if errS s ≠ 0 then ([], errS s) else if 160 < t.size then ([], 3) else if letterErrL (refWordsM t) ≠ 0 ∨ mkS (textM s.width (refWordsM t)) ≠ t then ([], 6) else (refWordsM t, 0)
theorem read_same (s : Shelf) (t : ByteArray) : refReadM s t = readM s t := by
  unfold refReadM readM
  have he : shelfErrM s [] = errS s := by
    unfold shelfErrM
    by_cases h : errS s = 0
    · rw [if_neg (by simpa using h), h]; rfl
    · rw [if_pos h]
  rw [he]
  by_cases h0 : errS s = 0
  · have hne : ¬ (errS s ≠ 0) := by simpa using h0
    rw [if_neg hne, if_neg hne]
    by_cases h1 : 160 < t.size
    · rw [if_pos h1, if_pos h1]
    · rw [if_neg h1, if_neg h1]
      have hmk : ∀ l : List ByteArray, (textM s.width l = bytesL t) ↔ mkS (textM s.width l) = t := fun l => ⟨fun h => by rw [h, mkS_bytes], fun h => by rw [← h, bytes_mkS]⟩
      by_cases hp : letterErrL (fieldsM t) = 0 ∧ textM s.width (fieldsM t) = bytesL t
      · have hw := (lettErr_ok hp.1).2
        have ht := (hmk _).1 hp.2
        have hr : refWordsM t = fieldsM t := by
          have := refWords_text s.width (fieldsM t) hw
          rw [ht] at this
          exact this
        have hne2 : ¬ (letterErrL (fieldsM t) ≠ 0) := by simpa using hp.1
        have hne3 : ¬ (letterErrL (fieldsM t) ≠ 0 ∨ mkS (textM s.width (fieldsM t)) ≠ t) := by
          rintro (h | h)
          · exact h hp.1
          · exact h ht
        rw [hr, if_neg hne3, if_neg hne2, if_pos hp.2]
      · have hq : ¬ (letterErrL (refWordsM t) = 0 ∧ mkS (textM s.width (refWordsM t)) = t) := fun hq => by
          have hw := (lettErr_ok hq.1).2
          have hf : fieldsM t = refWordsM t := by
            have := fields_text s.width (refWordsM t) hw
            rw [hq.2] at this
            exact this
          exact hp ⟨by rw [hf]; exact hq.1, (hmk _).2 (by rw [hf]; exact hq.2)⟩
        rw [if_pos]
        · by_cases h2 : letterErrL (fieldsM t) = 0
          · rw [if_neg (by simpa using h2), if_neg (fun h => hp ⟨h2, h⟩)]
          · rw [if_pos h2]
        · by_cases h2 : letterErrL (refWordsM t) = 0
          · exact .inr fun h => hq ⟨h2, h⟩
          · exact .inl h2
  · rw [if_pos h0, if_pos h0]
end Go.Proofs.YtgcibmdohifiaaaGreat

namespace Go.Proofs.YtgcibmdohifiaaaGreat
set_option linter.unusedSimpArgs false
set_option linter.unusedVariables false
open Go.RowKit
set_option linter.unusedVariables false

theorem splitB_len (c : UInt8) : ∀ (l cur : List UInt8), (splitB c l cur).length ≤ l.length + 1
  | [], cur => by simp [splitB]
  | x :: r, cur => by
    rw [splitB]
    split
    · have := splitB_len c r []
      simp; omega
    · have := splitB_len c r (cur ++ [x])
      simp; omega
theorem splitM_len (c : UInt8) (s : ByteArray) : (splitM c s).length ≤ s.size + 1 := by
  unfold splitM
  rw [List.length_map]
  exact splitB_len c _ _
theorem splitM_ne (c : UInt8) (s : ByteArray) : 0 < (splitM c s).length := by
  unfold splitM
  rw [List.length_map]
  exact List.length_pos_iff.2 (splitB_end.splitB_ne c _ _)
set_option maxRecDepth 100000 in
set_option maxHeartbeats 2000000 in
theorem refRead_any (sv : Value) (s : Shelf) (t : ByteArray) (ht : t.size ≤ 9223372036854775807) (w : World) (hs : ShelfAt w sv s) :
    Calls Tryz.prog 29 #[sv, .string t] w fun e w' => ∃ u, e = .returned u ∧ WordsE w' (readM s t) u ∧ Ext w w' := by
  rw [← read_same]
  have hs0 := hs
  obtain ⟨a, c, rfl, hw, hc1, hc2, hf⟩ := hs.open
  clear hf hs
  obtain ⟨i0, hi, hz0, hz1, hz2⟩ := info_parts infoString
  obtain ⟨R, hR⟩ : ∃ R, refReadM s t = R := ⟨_, rfl⟩
  obtain ⟨ws, er⟩ := R
  rw [hR]
  have HR := Lib.hid hR
  clear hR
  unfold WordsE
  simp only
  go_enter Tryz.func29, Tryz.ntmps29
  go_wp2_with fail
  refine (refCheckS_any _ s _ (hs0.ext (by first | (with_reducible exact Ext.refl _) | (with_reducible assumption) | (show Below _ _ _; go_grown; done)))).mono ?_
  rintro e w1 ⟨rfl, hx⟩
  have q0 : w1.cell? ⟨w.heap.size, 0, none⟩ = some (.int .i64 s.width) := hx.cell (by simp [go_sem])
  have z1 := cell_lt q0
  have x1 : Ext w w1 := hx.of_alloc
  have hE : (checkS s).2.2 = errS s := rfl
  rw [hE]
  generalize (checkS s).2.1 = at1
  generalize (checkS s).1 = part1
  obtain ⟨e0, he0⟩ : ∃ e0, errS s = e0 := ⟨_, rfl⟩
  rw [he0]
  have He0 := Lib.hid he0
  clear hE hx he0
  by_cases h0 : e0 = 0
  · subst h0
    by_cases h160 : 160 < t.size
    · have k1 : (160 : Int) < (t.size : Int) := by omega
      have hM : refReadM s t = ([], 3) := by unfold refReadM; rw [if_neg (by rw [He0.out]; simp), if_pos h160]
      obtain ⟨rfl, rfl⟩ := Prod.mk.inj (HR.out.symm.trans hM)
      clear hM HR
      go_wp2
      go_ret2
      exact ⟨_, rfl, ⟨_, rfl, SliceAt.nil, fun _ => rfl⟩, x1⟩
    · have k1 : ¬ (160 : Int) < (t.size : Int) := by omega
      have hM : refReadM s t = if letterErrL (refWordsM t) ≠ 0 ∨ mkS (textM s.width (refWordsM t)) ≠ t then ([], 6) else (refWordsM t, 0) := by unfold refReadM; rw [if_neg (by rw [He0.out]; simp), if_neg h160]
      have HM := Lib.hid (HR.out.symm.trans hM)
      have hsp := split_any 10 t (by omega)
      rw [show ((10 : UInt8).toNat : Int) = 10 from rfl] at hsp
      have hlz := splitM_size 10 t
      have hll := splitM_len 10 t
      have hl1 := splitM_ne 10 t
      have hrw : refWordsM t = (splitM 10 t).dropLast.flatMap (splitM 32) := rfl
      generalize splitM 10 t = L at *
      have Hrw := Lib.hid hrw
      clear hM HR hrw
      go_wp2_with fail
      refine (hsp _).mono ?_
      rintro e w2 ⟨u, rfl, hrow, hx⟩
      have hat : StrsAt w2 u L := hrow.at_ fun x hx => Nat.le_trans (hlz x hx) (by omega)
      replace q0 := hx.cell q0
      replace z1 := cell_lt q0
      replace x1 := x1.trans hx
      obtain ⟨ua, uc, rfl, huc, hum⟩ := hat.shape
      have Hlz := Lib.hid hlz
      clear hrow hx hsp hlz
      go_wp2_with fail
      go_loopw [9, 11] (fun v i wr => ∃ k : Nat, k + 1 ≤ L.length ∧ i = .int .i64 k ∧ Ext w2 wr ∧ RowW w2.heap.size ((L.take k).flatMap (splitM 32)) v wr ∧ ((L.take k).flatMap (splitM 32)).length ≤ k * 200) (fun _ i _ => L.length - (intOf i).toNat)
      case atStart => exact ⟨0, hl1, rfl, Ext.refl _, RowW.nil, by simp⟩
      case round =>
        obtain ⟨k, hk, rfl, hxr, hown, hlen⟩ := hrel
        have hszr := hxr.size
        have wk : IntKind.i64.wrap ((k : Int) + 1) = (k : Int) + 1 := IntWalk.i64_in _ (by omega)
        by_cases hlt : k + 1 < L.length
        · have k2 : (k : Int) + 1 < (L.length : Int) := by omega
          have k3 : (k : Int) < (L.length : Int) := by omega
          have hkl : k < L.length := by omega
          obtain ⟨b, off, rfl, c0, -⟩ := (hat.ext hxr).get hkl
          have hst : (L.take (k + 1)).flatMap (splitM 32) = (L.take k).flatMap (splitM 32) ++ splitM 32 L[k] := by
            rw [List.take_succ_eq_append_getElem hkl, List.flatMap_append]; simp
          have hlk := Hlz.out L[k] (List.getElem_mem hkl)
          generalize L[k] = x at *
          have hsx := split_any 32 x (by omega)
          rw [show ((32 : UInt8).toNat : Int) = 32 from rfl] at hsx
          have hxz := splitM_size 32 x
          have hxl := splitM_len 32 x
          generalize splitM 32 x = sx at *
          generalize (L.take k).flatMap (splitM 32) = out at *
          have Hst := Lib.hid hst
          simp only [Nat.mul_one] at c0
          clear hst
          go_wp2_with fail
          refine (hsx _).mono ?_
          rintro e w4 ⟨u2, rfl, hrow, hx4⟩
          have hsa : StrsAt w4 u2 sx := hrow.at_ fun y hy => Nat.le_trans (hxz y hy) (by omega)
          obtain ⟨sa, sc, rfl, -⟩ := hsa.shape
          have own4 := RowW.ext hown hx4
          have hsz4 := hx4.size
          have hownlt := fun k hk => (World.ownsRow.lt own4 k hk).1
          clear hrow hown hsx hxz c0
          go_wp2_with ((at_builtin; go_loud (refine wpList_append_strs rfl _ _ 29 rfl w2.heap.size i0 Tryz.underlying29 hi hz0 hz1 hz2 u9 _ rfl own4 (.slice sa sx.length sc) rfl sx hsa (by omega) (by omega) ?_; intro v' w5 hown' hgrow _)))
          have hx5 : Ext w2 w5 := Ext.grown (hxr.trans hx4) hgrow hownlt
          go_roundw
          case rel => exact ⟨k + 1, by omega, by go_num, hx5, by rw [Hst.out]; exact hown', by rw [Hst.out, List.length_append]; omega⟩
          case measure => simp [intOf]; omega
        · have hdl : (L.take k).flatMap (splitM 32) = refWordsM t := by
            rw [Hrw.out, List.dropLast_eq_take, show L.length - 1 = k from by omega]
          rw [hdl] at hown hlen
          have k2 : ¬ (k : Int) + 1 < (L.length : Int) := by omega
          have hsz : ∀ x ∈ refWordsM t, x.size ≤ 9223372036854775807 := fun x hx => by
            rw [Hrw.out, List.mem_flatMap] at hx
            obtain ⟨y, hy, hx⟩ := hx
            have h1 := splitM_size 32 y x hx
            have h2 := Hlz.out y (List.dropLast_subset _ hy)
            omega
          generalize refWordsM t = out at *
          have hato := RowW.at_ hown hsz
          have xw := x1.trans hxr
          have r0 := hxr.cell q0
          have zr := cell_lt r0
          obtain ⟨oa, oc, rfl, -⟩ := hato.shape
          have hla := fun w' (x : Ext wr w') => refLett_any _ out w' (hato.ext x)
          have Hown := Lib.hid hown
          clear hown hlen hsz hdl
          obtain ⟨le, hle⟩ : ∃ le, letterErrL out = le := ⟨_, rfl⟩
          rw [hle] at hla
          have Hle := Lib.hid hle
          clear hle
          go_wp2_with fail
          refine (hla _ (by first | (with_reducible exact Ext.refl _) | (with_reducible assumption) | (show Below _ _ _; go_grown; done))).mono ?_
          rintro e w4 ⟨rfl, hx4⟩
          have a4 := hato.ext hx4
          have r4 := hx4.cell r0
          have z4 := cell_lt r4
          have xw4 := xw.trans hx4
          clear hla
          by_cases hl0 : le = 0
          · subst hl0
            have hsm := lett_small Hle.out
            have htx := refText_any _ s.width out w4 a4 hw hsm.1 hsm.2
            obtain ⟨tx, htxe⟩ : ∃ tx, mkS (textM s.width out) = tx := ⟨_, rfl⟩
            rw [htxe] at htx
            have Htx := Lib.hid htxe
            clear htxe hsm
            go_wp2_with fail
            refine htx.mono ?_
            rintro e w5 ⟨rfl, hx5⟩
            by_cases hq : tx = t
            · have hM := HM.out
              rw [if_neg (by rw [Hle.out, Htx.out]; simp [hq])] at hM
              obtain ⟨rfl, rfl⟩ := Prod.mk.inj hM
              subst hq
              have a5 := a4.ext hx5
              clear hM HM
              go_wp2
              go_ret2
              exact ⟨_, rfl, ⟨_, rfl, a5, fun h => absurd rfl h⟩, xw4.trans hx5⟩
            · have hM := HM.out
              rw [if_pos (.inr (by rw [Htx.out]; exact hq))] at hM
              obtain ⟨rfl, rfl⟩ := Prod.mk.inj hM
              have hq' : (tx.toList == t.toList) = false := by rw [beq_str]; exact decide_eq_false hq
              clear hM HM hq
              go_wp2
              go_ret2
              exact ⟨_, rfl, ⟨_, rfl, SliceAt.nil, fun _ => rfl⟩, xw4.trans hx5⟩
          · have hl0' : (le != 0) = true := by simpa using hl0
            have hM := HM.out
            rw [if_pos (.inl (by rw [Hle.out]; exact hl0))] at hM
            obtain ⟨rfl, rfl⟩ := Prod.mk.inj hM
            clear hM HM hl0
            go_wp2
            go_ret2
            exact ⟨_, rfl, ⟨_, rfl, SliceAt.nil, fun _ => rfl⟩, xw4⟩
  · have h0' : (e0 == 0) = false := by simpa using h0
    have h0'' : (e0 != 0) = true := by simpa using h0
    have hM : refReadM s t = ([], e0) := by unfold refReadM; rw [if_pos (by rw [He0.out]; exact h0), He0.out]
    obtain ⟨rfl, rfl⟩ := Prod.mk.inj (HR.out.symm.trans hM)
    clear hM HR h0
    go_wp2
    go_ret2
    exact ⟨_, rfl, ⟨_, rfl, SliceAt.nil, fun _ => rfl⟩, x1⟩
end Go.Proofs.YtgcibmdohifiaaaGreat

namespace Go.Proofs.YtgcibmdohifiaaaGreat
set_option linter.unusedSimpArgs false
set_option linter.unusedVariables false
open Go.RowKit
set_option linter.unusedVariables false

/-- a shelf in a box -/
theorem box_shelf {w : World} {fa : Option Addr} {fc : Nat} {s : Shelf} (hb : ShelfAt w (.agg #[.int .i64 s.width, .slice fa s.forms.length fc]) s) :
    ∃ W, W = w.alloc (.cells #[.int .i64 s.width, .slice fa s.forms.length fc] 24) ∧ ShelfAt W (.agg #[.int .i64 s.width, .slice fa s.forms.length fc]) s ∧ W.cell? ⟨w.heap.size, 0, none⟩ = some (.int .i64 s.width) ∧ W.cell? ⟨w.heap.size, 1, none⟩ = some (.slice fa s.forms.length fc) ∧ Ext w W :=
  ⟨_, rfl, hb.ext (ext_alloc _ _), by simp [go_sem], by simp [go_sem], ext_alloc _ _⟩
set_option maxRecDepth 100000 in
set_option maxHeartbeats 2000000 in
theorem texts_any (sv lv : Value) (s : Shelf) (l : List ByteArray) (t : ByteArray) (ht : t.size ≤ 9223372036854775807) (w : World) (hs : ShelfAt w sv s) (hl : StrsAt w lv l) :
    Calls Tryz.prog 5 #[sv, lv, .string t] w fun e w' => e = .returned (.bool true) ∧ Ext w w' := by
  obtain ⟨fa, fc, rfl, -⟩ := hs.open
  obtain ⟨la, lc, rfl, -⟩ := hl.shape
  obtain ⟨W, hW, hb, q0, q1, x1⟩ := box_shelf hs
  replace hl := hl.ext x1
  have z1 := cell_lt q0
  have HW := Lib.hid hW
  clear hs hW
  go_enter Tryz.func5, Tryz.ntmps5
  go_wp2_with fail
  rw [← HW.out]
  clear HW
  refine (write_any _ _ s l _ hb hl).mono ?_
  rintro e w2 ⟨rfl, hx⟩
  (replace hb := hb.ext hx; replace q0 := hx.cell q0; replace q1 := hx.cell q1; replace z1 := cell_lt q0; replace x1 := x1.trans hx; replace hl := hl.ext hx; clear hx)
  go_wp2_with fail
  refine (refWrite_any _ _ s l _ hb hl).mono ?_
  rintro e w3 ⟨rfl, hx⟩
  (replace hb := hb.ext hx; replace q0 := hx.cell q0; replace q1 := hx.cell q1; replace z1 := cell_lt q0; replace x1 := x1.trans hx; replace hl := hl.ext hx; clear hx)
  generalize writeM s l = tx at *
  generalize shelfErrM s l = er at *
  go_wp2_with fail
  refine (read_any _ s t ht _ hb).mono ?_
  rintro e w4 ⟨u, rfl, ⟨v, rfl, hv, -⟩, hx⟩
  (replace hb := hb.ext hx; replace q0 := hx.cell q0; replace q1 := hx.cell q1; replace z1 := cell_lt q0; replace x1 := x1.trans hx; replace hl := hl.ext hx; clear hx)
  go_wp2_with fail
  refine (refRead_any _ s t ht _ hb).mono ?_
  rintro e w5 ⟨u2, rfl, ⟨v2, rfl, hv2, -⟩, hx⟩
  replace hv := hv.ext hx
  (replace hb := hb.ext hx; replace q0 := hx.cell q0; replace q1 := hx.cell q1; replace z1 := cell_lt q0; replace x1 := x1.trans hx; replace hl := hl.ext hx; clear hx)
  generalize (readM s t).1 = ws at *
  generalize (readM s t).2 = er2 at *
  go_wp2_with fail
  refine (same_any _ _ ws ws _ hv hv2).mono ?_
  rw [decide_eq_true rfl]
  rintro e w6 ⟨rfl, hx⟩
  (replace hb := hb.ext hx; replace q0 := hx.cell q0; replace q1 := hx.cell q1; replace z1 := cell_lt q0; replace x1 := x1.trans hx; replace hl := hl.ext hx; clear hx)
  go_wp2_with fail
  refine (awakeL_any _).mono ?_
  rintro e w7 ⟨rfl, hx⟩
  go_wp2
  go_ret
  exact ⟨rfl, x1.trans hx⟩
end Go.Proofs.YtgcibmdohifiaaaGreat

namespace Go.Proofs.YtgcibmdohifiaaaGreat
set_option linter.unusedSimpArgs false
set_option linter.unusedVariables false
open Go.ChangeShapes Go.WideShapes Go.RowKit

theorem add_none (b o n : Nat) : (⟨b, o, none⟩ : Addr).add n = ⟨b, o + n, none⟩ := by
  unfold Addr.add
  by_cases h : n = 0
  · subst h; simp
  · simp [h]
theorem three_of {cs : List Value} (h : cs.length = 3) : ∃ a b c, cs = [a, b, c] := by
  match cs, h with
  | [a, b, c], _ => exact ⟨a, b, c, rfl⟩
theorem two_of {cs : List Value} (h : cs.length = 2) : ∃ a b, cs = [a, b] := by
  match cs, h with
  | [a, b], _ => exact ⟨a, b, rfl⟩
theorem spot_none {w : World} {a : Addr} {v : Value} (h : w.cell? a = some v) : a.spot = none := by
  unfold World.cell? at h
  cases hs : a.spot with
  | none => rfl
  | some x => split at h <;> simp [hs] at h
section
variable {H : Type} {enc : TypeId × Value → H} {w : World} {base : Nat} {sp : Nat → Bool} {held : Bool}
theorem slice_of {α : Type} [Inhabited α] {sz : Nat} {R : World → Nat → Nat → α → Prop} {t e : TypeId} (ht : Tryz.prog.underlying t = some (.slice e)) (hc : Tryz.prog.cellsOf e = sz) (hsz : 0 < sz)
    (hel : ∀ n cs y, DataW.trod enc Tryz.prog w base sp held n e cs = some y → ∃ x : α, ∀ b o, (∀ j, j < sz → w.cell? ⟨b, o + j, none⟩ = cs[j]?) → R w b o x)
    {fuel : Nat} {v : Value} {x : DataW H × List MemPlace} (h : DataW.trod enc Tryz.prog w base sp held fuel t [v] = some x) : ∃ l : List α, SliceAt sz R w v l := by
  rcases Deep.open_slice ht h with ⟨h1, _⟩ | ⟨a, len, cap, m, n, D, Pl, hcs, _, hl, hm, hmm, _, hx⟩
  · obtain rfl : v = .slice none 0 0 := by simpa using h1
    exact ⟨[], SliceAt.nil⟩
  · obtain rfl : v = .slice (some a) len cap := by simpa using hcs
    have hlm : len ≤ m := by rw [hmm]; split <;> omega
    rw [hc] at hx
    obtain ⟨f, hf⟩ := Deep.choose_lt (α := α) (n := len) (p := fun i x => ∃ cs', w.cells? base (a.add (i * sz)) sz = some cs' ∧ ∀ b o, (∀ j, j < sz → w.cell? ⟨b, o + j, none⟩ = cs'[j]?) → R w b o x) (fun i hi => by
      obtain ⟨cs', h1, h2⟩ := hx i (by omega)
      obtain ⟨x, hR⟩ := hel _ _ _ h2
      exact ⟨x, cs', h1, hR⟩)
    refine ⟨(List.range len).map f, some a, cap, by simp, by simpa using hl, by simpa [maxLen] using hm, fun i hi => ?_⟩
    have hi' : i < len := by simpa using hi
    obtain ⟨b, o, s⟩ := a
    have hs : s = none := by
      obtain ⟨cs0, h1, _⟩ := hf 0 (by omega)
      obtain ⟨_, hl0, h2⟩ := World.cells?_some h1
      have h3 := h2 0 hsz
      rw [Nat.zero_mul] at h3
      have h4 : w.cell? ⟨b, o, s⟩ = cs0[0]? := by simpa [Addr.add] using h3
      rw [List.getElem?_eq_getElem (by omega)] at h4
      exact spot_none h4
    subst hs
    obtain ⟨cs', h1, hR⟩ := hf i hi'
    refine ⟨b, o, rfl, ?_⟩
    have e1 : ((List.range len).map f)[i] = f i := by simp
    rw [e1]
    refine hR b (o + i * sz) fun j hj => ?_
    have h2 := (World.cells?_some h1).2.2 j hj
    rw [add_none, add_none] at h2
    exact h2
instance : Inhabited Letter := ⟨⟨0, 0, true⟩⟩
instance : Inhabited Alphabet := ⟨⟨⟨#[]⟩, []⟩⟩
instance : Inhabited Spelling := ⟨⟨0, ⟨#[]⟩⟩⟩
theorem cellsInt : Tryz.prog.cellsOf 3 = 1 := by kernel_rfl
theorem cellsU8 : Tryz.prog.cellsOf 5 = 1 := by kernel_rfl
theorem cellsBool : Tryz.prog.cellsOf 4 = 1 := by kernel_rfl
theorem cellsString : Tryz.prog.cellsOf 9 = 1 := by kernel_rfl
theorem cellsLetter : Tryz.prog.cellsOf 234 = 3 := by kernel_rfl
theorem cellsAlphabet : Tryz.prog.cellsOf 160 = 2 := by kernel_rfl
theorem cellsSpelling : Tryz.prog.cellsOf 94 = 2 := by kernel_rfl
theorem cellsBook : Tryz.prog.cellsOf 84 = 3 := by kernel_rfl
theorem cellsLetters : Tryz.prog.cellsOf 158 = 1 := by kernel_rfl
theorem cellsAlphabets : Tryz.prog.cellsOf 81 = 1 := by kernel_rfl
theorem cellsSpellings : Tryz.prog.cellsOf 82 = 1 := by kernel_rfl
theorem wf_i64 {n : Int} (h : (Lit.int .i64 n).wf = true) : I64 n := by
  simpa [Lit.wf, IntKind.min, IntKind.max, IntKind.signed, IntKind.bits, I64] using h
theorem wf_u8 {n : Int} (h : (Lit.int .u8 n).wf = true) : U8 n := by
  simpa [Lit.wf, IntKind.min, IntKind.max, IntKind.signed, IntKind.bits, U8] using h
theorem letter_of {n : Nat} {cs : List Value} {y : DataW H × List MemPlace} (h : DataW.trod enc Tryz.prog w base sp held n 234 cs = some y) :
    ∃ x : Letter, cs = [.int .u8 x.c, .int .i64 x.sounds, .bool x.silent] ∧ U8 x.c ∧ I64 x.sounds := by
  obtain ⟨y0, y1, y2, m, -, hl, h0, h1, h2⟩ := Deep.trod_struct3 Tryz.underlying234 h
  rw [cellsLetter] at hl
  obtain ⟨c0, c1, c2, rfl⟩ := three_of hl
  simp only [cellsU8, cellsInt, cellsBool, List.drop_zero, List.drop_succ_cons, List.take_succ_cons, List.take_zero] at h0 h1 h2
  obtain ⟨a, ea, -, wa⟩ := DataW.trod_int Tryz.underlying5 h0
  obtain ⟨b, eb, -, wb⟩ := DataW.trod_int Tryz.underlying3 h1
  obtain ⟨c, ec, -⟩ := DataW.trod_bool Tryz.underlying4 h2
  simp only [List.cons.injEq, and_true] at ea eb ec
  subst ea eb ec
  exact ⟨⟨a, b, c⟩, rfl, wf_u8 wa, wf_i64 wb⟩
theorem letters_of {fuel : Nat} {v : Value} {x : DataW H × List MemPlace} (h : DataW.trod enc Tryz.prog w base sp held fuel 158 [v] = some x) : ∃ l, LettersAt w v l :=
  slice_of Tryz.underlying158 cellsLetter (by decide) (fun n cs y hy => by
    obtain ⟨x, rfl, hu, hi⟩ := letter_of hy
    refine ⟨x, fun b o hc => ⟨?_, ?_, ?_, hu, hi⟩⟩
    · exact hc 0 (by decide)
    · exact hc 1 (by decide)
    · exact hc 2 (by decide)) h
theorem alphabet_of {n : Nat} {cs : List Value} {y : DataW H × List MemPlace} (h : DataW.trod enc Tryz.prog w base sp held n 160 cs = some y) :
    ∃ (x : Alphabet) (u : Value), cs = [.string x.name, u] ∧ x.name.size ≤ 9223372036854775807 ∧ LettersAt w u x.letters := by
  obtain ⟨y0, y1, m, -, hl, h0, h1⟩ := trod_struct2 Tryz.underlying160 h
  rw [cellsAlphabet] at hl
  obtain ⟨c0, c1, rfl⟩ := two_of hl
  simp only [cellsString, cellsLetters, List.drop_zero, List.drop_succ_cons, List.take_succ_cons, List.take_zero] at h0 h1
  obtain ⟨s, es, -, hs⟩ := DataW.trod_string Tryz.underlying9 h0
  obtain ⟨l, hll⟩ := letters_of h1
  simp only [List.cons.injEq, and_true] at es
  subst es
  exact ⟨⟨s, l⟩, c1, rfl, by simpa [maxLen] using hs, hll⟩
theorem alphabets_of {fuel : Nat} {v : Value} {x : DataW H × List MemPlace} (h : DataW.trod enc Tryz.prog w base sp held fuel 81 [v] = some x) : ∃ l, AlphabetsAt w v l :=
  slice_of Tryz.underlying81 cellsAlphabet (by decide) (fun n cs y hy => by
    obtain ⟨x, u, rfl, hs, hl⟩ := alphabet_of hy
    refine ⟨x, fun b o hc => ⟨?_, hs, u, ?_, hl⟩⟩
    · exact hc 0 (by decide)
    · exact hc 1 (by decide)) h
theorem spelling_of {n : Nat} {cs : List Value} {y : DataW H × List MemPlace} (h : DataW.trod enc Tryz.prog w base sp held n 94 cs = some y) :
    ∃ x : Spelling, cs = [.int .i64 x.alphabet, .string x.text] ∧ I64 x.alphabet ∧ x.text.size ≤ 9223372036854775807 := by
  obtain ⟨y0, y1, m, -, hl, h0, h1⟩ := trod_struct2 Tryz.underlying94 h
  rw [cellsSpelling] at hl
  obtain ⟨c0, c1, rfl⟩ := two_of hl
  simp only [cellsString, cellsInt, List.drop_zero, List.drop_succ_cons, List.take_succ_cons, List.take_zero] at h0 h1
  obtain ⟨a, ea, -, wa⟩ := DataW.trod_int Tryz.underlying3 h0
  obtain ⟨s, es, -, hs⟩ := DataW.trod_string Tryz.underlying9 h1
  simp only [List.cons.injEq, and_true] at ea es
  subst ea es
  exact ⟨⟨a, s⟩, rfl, wf_i64 wa, by simpa [maxLen] using hs⟩
theorem spellings_of {fuel : Nat} {v : Value} {x : DataW H × List MemPlace} (h : DataW.trod enc Tryz.prog w base sp held fuel 82 [v] = some x) : ∃ l, SpellingsAt w v l :=
  slice_of Tryz.underlying82 cellsSpelling (by decide) (fun n cs y hy => by
    obtain ⟨x, rfl, hi, hs⟩ := spelling_of hy
    refine ⟨x, fun b o hc => ⟨?_, ?_, hi, hs⟩⟩
    · exact hc 0 (by decide)
    · exact hc 1 (by decide)) h
set_option maxRecDepth 100000 in
/-- A BOOK -/
theorem book_of {r : Reach} {b0 : Nat} {v : Value} {d : DataW H} {ps : List MemPlace} (hval : Value.okWide Tryz.prog w r b0 84 v) (hd : DataW.Trod enc Tryz.prog w base sp held 84 v d ps) : ∃ b, BookAt w v b := by
  simp only [Value.okWide, Tryz.underlying84] at hval
  obtain ⟨cs, rfl, -, -⟩ := hval
  obtain ⟨fuel, h⟩ := hd
  simp only [Value.cells] at h
  obtain ⟨y0, y1, y2, m, -, hl, h0, h1, h2⟩ := Deep.trod_struct3 Tryz.underlying84 h
  rw [cellsBook] at hl
  obtain ⟨cs⟩ := cs
  obtain ⟨c0, c1, c2, rfl⟩ := three_of hl
  simp only [cellsInt, cellsAlphabets, cellsSpellings, List.drop_zero, List.drop_succ_cons, List.take_succ_cons, List.take_zero] at h0 h1 h2
  obtain ⟨a, ea, -, wa⟩ := DataW.trod_int Tryz.underlying3 h0
  obtain ⟨al, hal⟩ := alphabets_of h1
  obtain ⟨sl, hsl⟩ := spellings_of h2
  simp only [List.cons.injEq, and_true] at ea
  subst ea
  exact ⟨⟨a, al, sl⟩, c1, c2, rfl, wf_i64 wa, hal, hsl⟩
/-- a place that was there is as it was -/
theorem same_of_ext {W W' : World} (h : Ext W W') {p : MemPlace} (hp : p.block < W.heap.size) : W.sameAt W' p := by
  cases p with
  | cell b off =>
    show W'.cell? ⟨b, off, none⟩ = W.cell? ⟨b, off, none⟩
    exact Below.cell (p := ⟨b, off, none⟩) h hp
  | map b =>
    show W'.heap[b]? = W.heap[b]?
    exact Below.block h b hp
end
end Go.Proofs.YtgcibmdohifiaaaGreat
