/-
  WHAT Awake RETURNS: true.
  WHAT LetterKnown RETURNS: true.
  A CALL THAT LETS ALL BE AS IT WAS, AND ANSWERS AS IT SHOULD, KEEPS A LAW's WORD.
  BY WAY OF A THIRD LETTER there are no fewer corrections.
  LetterBack: as many corrections back, by way of a third letter no fewer, none just if the letters are the same.
  A BOOK THAT IS HANDED IN, opened: lists of letters, alphabets and spellings as they lie in memory.
  LETTERS, MARKS, FILLS AND SHELVES that are handed in, opened.
  ANY MARKS, BY TURNS, plain: what has come of a letter, mark by mark.
  AN append AT THE END OF A REGION THAT DRAWS ITS ORDER, onto a row of the call's own: the step, and the two relations. Over any program.
  AN append ONTO A ROW OF THE CALL's OWN, and what it leaves of that row: its first cells. For a region that draws its order and makes and grows several rows. Over any program.
  A REGION WALKED OVER A FRAME THAT IS A VARIABLE: what its slots hold is said by facts alone. Over any program.
  A BLOCK, OR A BRANCHING, TAKEN OUT OF A FUNCTION'S TEXT, so that it can be walked in a declaration of its own. Over any program.
  A STATEMENT THAT IS A REGION, TAKEN OUT OF A FUNCTION'S TEXT, so that it can be walked in a declaration of its own. Over any program.
-/
import Derived.Test.YtgcibmdohifiaaaBunAI
import Derived.Test.YtgcibmdohifiaaaBunAH
import Derived.Test.YtgcibmdohifiaaaBunAC
import Derived.Test.YtgcibmdohifiaaaBunAA
import Derived.ProofKit
import Derived.OpenShut
import Derived.Deep.Slices
import Derived.Deep.Strs
import Derived.WideKeyArgs
import Derived.Test.YtgcibmdohifiaaaBunAF
import Derived.Test.YtgcibmdohifiaaaBunAB
import Derived.Maps.AppendAt
import Derived.Laws.OwnMore
namespace Go.Proofs.Ytgcibmdohifiaaa
set_option linter.unusedSimpArgs false
set_option linter.unusedVariables false
open Go.RowKit
set_option linter.unusedVariables false

theorem lawMarks_any (w : World) : Calls Try.prog 34 #[] w fun e w' => (∃ a c, e = .returned (.slice a marksE.length c) ∧ MarksAt w' (.slice a marksE.length c) marksE) ∧ Ext w w' := by
  go_enter Try.func34, Try.ntmps34
  go_wp2
  go_ret
  refine ⟨⟨_, _, rfl, _, _, rfl, Nat.le_refl _, by decide, fun i hi => ⟨_, _, rfl, ?_⟩⟩, ext_alloc _ _⟩
  have : i = 0 ∨ i = 1 ∨ i = 2 ∨ i = 3 ∨ i = 4 ∨ i = 5 ∨ i = 6 := by simp [marksE] at hi; omega
  have hk : ∀ k : Int, 0 ≤ k ∧ k ≤ 4 → I64 k := fun k h => ⟨by omega, by omega⟩
  rcases this with rfl | rfl | rfl | rfl | rfl | rfl | rfl
  all_goals exact ⟨by simp [go_sem, marksE], by simp [go_sem, marksE, noW, wFor]; first | done | rfl, hk _ (by simp [marksE]), by simp [marksE]; decide⟩
def slA : Value → Option Addr
  | .slice a _ _ => a
  | _ => none
def slC : Value → Nat
  | .slice _ _ c => c
  | _ => 0
theorem SliceAt.form {α : Type} {sz : Nat} {R : World → Nat → Nat → α → Prop} {w : World} {v : Value} {l : List α} (h : SliceAt sz R w v l) : v = .slice (slA v) l.length (slC v) := by
  obtain ⟨a, c, rfl, -⟩ := h.shape
  rfl
theorem FillsAt.twoAt {w : World} {u v : Value} {l m : List ByteArray} {t : TypeId} {B : Nat} (hB : w.heap.size = B) (h : StrsAt w u l) (h' : StrsAt w v m) : FillsAt (w.alloc (.cells #[u, v] t)) (.slice (some ⟨B, 0, none⟩) 2 2) [l, m] := by
  subst hB
  refine ⟨_, _, rfl, Nat.le_refl _, by omega, fun i hi => ?_⟩
  have : i = 0 ∨ i = 1 := by simp at hi; omega
  rcases this with rfl | rfl
  · exact ⟨_, _, rfl, _, by simp [go_sem], h.ext (ext_alloc _ _)⟩
  · exact ⟨_, _, rfl, _, by simp [go_sem], h'.ext (ext_alloc _ _)⟩
def fstV : Value → Value
  | .tuple a => a.getD 0 undef
  | _ => undef
/-- a letter and no error -/
def TupL (l : List ByteArray) (u : Value) (w : World) : Prop := u = .tuple #[fstV u, .int .i64 0] ∧ StrsAt w (fstV u) l
theorem TupL.ext {l : List ByteArray} {u : Value} {w w' : World} (h : TupL l u w) (hx : Ext w w') : TupL l u w' := ⟨h.1, h.2.ext hx⟩
def TupI (l : List Int) (u : Value) (w : World) : Prop := u = .tuple #[fstV u, .int .i64 0] ∧ IntsAt w (fstV u) l
theorem TupI.ext {l : List Int} {u : Value} {w w' : World} (h : TupI l u w) (hx : Ext w w') : TupI l u w' := ⟨h.1, h.2.ext hx⟩
def TupF (l : List (List ByteArray)) (n : Nat) (u : Value) (w : World) : Prop := u = .tuple #[fstV u, .int .i64 n, .int .i64 0] ∧ FillsAt w (fstV u) l
theorem TupF.ext {l : List (List ByteArray)} {n : Nat} {u : Value} {w w' : World} (h : TupF l n u w) (hx : Ext w w') : TupF l n u w' := ⟨h.1, h.2.ext hx⟩

set_option maxRecDepth 100000 in
set_option maxHeartbeats 20000000 in
theorem awakeL_any (w : World) : Calls Try.prog 13 #[] w fun e w' => e = .returned (.bool true) ∧ Ext w w' := by
  have hshelf := fun w => Shelf_any w
  have hS : shelfE.forms.length = 3 := rfl
  obtain ⟨S, hSS⟩ : ∃ S, S = shelfE := ⟨_, rfl⟩
  have HMK := Lib.hid e_make
  have HBU := Lib.hid e_built
  have HOC := Lib.hid e_ofC
  have HEC := Lib.hid e_errC
  have HFC := Lib.hid e_fillC
  have HEA := Lib.hid e_errA
  have HTA := Lib.hid e_textA
  have HRA := Lib.hid e_readA
  have HM2 := Lib.hid e_mend2
  have HME2 := Lib.hid e_mendE2
  have HN := Lib.hid e_near
  have HNE := Lib.hid e_nearE
  have HRB := Lib.hid e_readB
  have HRW := Lib.hid e_readW
  have HME3 := Lib.hid e_mendE3
  rw [← hSS] at hS HMK HBU HOC HEC HFC HEA HTA HRA HM2 HME2 HN HNE HRB HRW HME3
  simp only [← hSS] at hshelf
  clear hSS
  have HS := Lib.hid hS
  clear hS
  go_enter Try.func13, Try.ntmps13
  go_wp2_with fail
  refine (hshelf _).mono ?_
  rintro e w1 ⟨v, rfl, hb, x1⟩
  clear hshelf
  obtain ⟨fa, fc, rfl, -⟩ := hb.open
  rw [HS.out] at hb ⊢
  obtain ⟨q0, q1⟩ : (w1.alloc (.cells #[.int .i64 S.width, .slice fa 3 fc] 24)).cell? ⟨w1.heap.size, 0, none⟩ = some (.int .i64 S.width) ∧ (w1.alloc (.cells #[.int .i64 S.width, .slice fa 3 fc] 24)).cell? ⟨w1.heap.size, 1, none⟩ = some (.slice fa 3 fc) := ⟨by simp [go_sem], by simp [go_sem]⟩
  go_wp2_with fail
  obtain ⟨W, hW⟩ : ∃ W, W = w1.alloc (.cells #[.int .i64 S.width, .slice fa 3 fc] 24) := ⟨_, rfl⟩
  replace hb := hb.ext (ext_alloc w1 (.cells #[.int .i64 S.width, .slice fa 3 fc] 24))
  replace x1 : Ext w W := by rw [hW]; exact x1.alloc _
  rw [← hW] at hb q0 q1 ⊢
  clear hW
  refine (words_any _ letA (by kernel_rfl) (by decide) _).mono ?_
  rintro e w2 ⟨⟨Aa, Ac, rfl, hA, -⟩, hx⟩
  replace hb := hb.ext hx
  replace q0 := hx.cell q0
  replace q1 := hx.cell q1
  replace x1 := x1.trans hx
  clear hx
  go_wp2_with fail
  refine (words_any _ letB (by kernel_rfl) (by decide) _).mono ?_
  rintro e w3 ⟨⟨Ba, Bc, rfl, hB, -⟩, hx⟩
  replace hA := hA.ext hx
  replace hb := hb.ext hx
  replace q0 := hx.cell q0
  replace q1 := hx.cell q1
  replace x1 := x1.trans hx
  clear hx
  -- Make
  go_wp2_with fail
  apply Facts.wp_region [.val (.agg #[.int .i64 S.width, .slice fa 3 fc]), .fact (fun u w => StrsAt w u [wJudge]), .fact (fun u w => StrsAt w u [wMercy]), .fact (fun u w => FillsAt w u [[wJudge], [wMercy]]), .fact (TupL letA), .fact (TupL letA), .fact (fun u w => StrsAt w u letA), .val (.int .i64 0), .fact (fun u w => StrsAt w u letA), .val (.int .i64 0)] (by kernel_rfl) (by kernel_rfl) ⟨fun u a c hx h => StrsAt.ext h hx, fun u a c hx h => StrsAt.ext h hx, fun u a c hx h => FillsAt.ext h hx, fun u a c hx h => TupL.ext h hx, fun u a c hx h => TupL.ext h hx, fun u a c hx h => StrsAt.ext h hx, fun u a c hx h => StrsAt.ext h hx, trivial⟩ ?main
  case main =>
    iterate 1 (refine ⟨fun w1 hx hh => ?_, ?_⟩; focus (clear hh; have f0 := hx.cell q0; have f1 := hx.cell q1; go_simp; first | exact ⟨Ext.refl _, rfl⟩ | exact Ext.refl _))
    refine ⟨fun w1 hx hh => ?_, ?_⟩
    · clear hh
      go_simp
      refine (words_any _ [wJudge] (by kernel_rfl) (by decide) _).mono ?_
      rintro e w' ⟨⟨a, c, rfl, h, -⟩, hx⟩
      exact ⟨_, rfl, hx, h⟩
    intro u1
    refine ⟨fun w1 hx hh => ?_, ?_⟩
    · clear hh
      go_simp
      refine (words_any _ [wMercy] (by kernel_rfl) (by decide) _).mono ?_
      rintro e w' ⟨⟨a, c, rfl, h, -⟩, hx⟩
      exact ⟨_, rfl, hx, h⟩
    intro u2
    refine ⟨fun w1 hx hh => ?_, ?_⟩
    · have h1 : StrsAt w1 u1 [wJudge] := hh 1 _ (List.mem_cons_of_mem _ List.mem_cons_self) (by kernel_rfl)
      have h2 : StrsAt w1 u2 [wMercy] := hh 2 _ List.mem_cons_self (by kernel_rfl)
      clear hh
      have hF := FillsAt.twoAt (t := 26) rfl h1 h2
      have e1 := h1.form
      have e2 := h2.form
      rw [e1, e2] at hF ⊢
      clear e1 e2 h1 h2
      generalize slA u1 = a1 at *
      generalize slC u1 = c1 at *
      generalize slA u2 = a2 at *
      generalize slC u2 = c2 at *
      have HF := Lib.hid hF
      clear hF
      go_simp
      exact ⟨ext_alloc _ _, HF.out⟩
    intro u3
    refine ⟨fun w1 hx hh => ?_, ?_⟩
    · have h1 : FillsAt w1 u3 [[wJudge], [wMercy]] := hh 3 _ List.mem_cons_self (by kernel_rfl)
      have hx2 := hx
      clear hh
      go_simp
      refine (make_any _ _ S 0 (by constructor <;> decide) _ _ (hb.ext hx2) h1).mono ?_
      rw [HMK.out, HBU.out]
      rintro e w' ⟨u, rfl, ⟨v, rfl, hv, -⟩, hx⟩
      exact ⟨_, rfl, hx, ⟨rfl, hv rfl⟩⟩
    intro u4
    (refine ⟨fun w1 hx hh => ?_, ?_⟩; focus (have h4 : TupL letA u4 w1 := hh 4 _ List.mem_cons_self (by kernel_rfl); clear hh; go_simp; first | exact ⟨Ext.refl _, h4⟩ | exact Ext.refl _))
    intro u5
    (refine ⟨fun w1 hx hh => ?_, ?_⟩; focus (have h5 : TupL letA u5 w1 := hh 5 _ List.mem_cons_self (by kernel_rfl); have e := h5.1; have hs := h5.2; clear hh h5; generalize fstV u5 = f5 at *; subst e; go_simp; first | exact ⟨Ext.refl _, hs⟩ | exact ⟨Ext.refl _, rfl⟩ | exact Ext.refl _))
    intro u6
    (refine ⟨fun w1 hx hh => ?_, ?_⟩; focus (have h5 : TupL letA u5 w1 := hh 5 _ (List.mem_cons_of_mem _ List.mem_cons_self) (by kernel_rfl); have e := h5.1; have hs := h5.2; clear hh h5; generalize fstV u5 = f5 at *; subst e; go_simp; first | exact ⟨Ext.refl _, hs⟩ | exact ⟨Ext.refl _, rfl⟩ | exact Ext.refl _))
    (refine ⟨fun w1 hx hh => ?_, ?_⟩; focus (have h6 : (fun w => StrsAt w u6 letA) w1 := hh 6 _ List.mem_cons_self (by kernel_rfl); clear hh; go_simp; first | exact ⟨Ext.refl _, h6⟩ | exact Ext.refl _))
    intro u8
    iterate 1 (refine ⟨fun w1 hx hh => ?_, ?_⟩; focus (clear hh; skip; go_simp; first | exact ⟨Ext.refl _, rfl⟩ | exact Ext.refl _))
    intro w4 hx hh
    have hMade : StrsAt w4 u8 letA := hh 8 _ List.mem_cons_self
    clear hh
    replace hA := hA.ext hx
    replace hB := hB.ext hx
    replace hb := hb.ext hx
    replace q0 := hx.cell q0
    replace q1 := hx.cell q1
    replace x1 := x1.trans hx
    clear hx
    have eM := hMade.form
    generalize slA u8 = ma at *
    generalize slC u8 = mc at *
    subst eM
    go_simp
    go_wp2_with fail
    -- Of
    apply Facts.wp_region [.val (.agg #[.int .i64 S.width, .slice fa 3 fc]), .fact (fun u w => StrsAt w u letC), .fact (TupI [2]), .fact (TupI [2]), .fact (fun u w => IntsAt w u [2]), .val (.int .i64 0), .fact (fun u w => IntsAt w u [2]), .val (.int .i64 0)] (by kernel_rfl) (by kernel_rfl) ⟨fun u a c hx h => StrsAt.ext h hx, fun u a c hx h => TupI.ext h hx, fun u a c hx h => TupI.ext h hx, fun u a c hx h => IntsAt.ext h hx, fun u a c hx h => IntsAt.ext h hx, trivial⟩ ?main
    case main =>
    iterate 1 (refine ⟨fun w1 hx hh => ?_, ?_⟩; focus (clear hh; have f0 := hx.cell q0; have f1 := hx.cell q1; go_simp; first | exact ⟨Ext.refl _, rfl⟩ | exact Ext.refl _))
    refine ⟨fun w1 hx hh => ?_, ?_⟩
    · clear hh
      go_simp
      refine (words_any _ letC (by kernel_rfl) (by decide) _).mono ?_
      rintro e w' ⟨⟨a, c, rfl, h, -⟩, hx⟩
      exact ⟨_, rfl, hx, h⟩
    intro uc1
    refine ⟨fun w1 hx hh => ?_, ?_⟩
    · have h1 : StrsAt w1 uc1 letC := hh 1 _ List.mem_cons_self (by kernel_rfl)
      have hx2 := hx
      clear hh
      go_simp
      refine (of_any _ _ S letC _ (hb.ext hx2) h1).mono ?_
      rw [HOC.out, HEC.out]
      rintro e w' ⟨u, rfl, ⟨v, rfl, hv, -⟩, hx⟩
      exact ⟨_, rfl, hx, ⟨rfl, hv rfl⟩⟩
    intro uc2
    (refine ⟨fun w1 hx hh => ?_, ?_⟩; focus (have h4 : TupI [2] uc2 w1 := hh 2 _ List.mem_cons_self (by kernel_rfl); clear hh; go_simp; first | exact ⟨Ext.refl _, h4⟩ | exact Ext.refl _))
    intro uc3
    (refine ⟨fun w1 hx hh => ?_, ?_⟩; focus (have h5 : TupI [2] uc3 w1 := hh 3 _ List.mem_cons_self (by kernel_rfl); have e := h5.1; have hs := h5.2; clear hh h5; generalize fstV uc3 = f5 at *; subst e; go_simp; first | exact ⟨Ext.refl _, hs⟩ | exact ⟨Ext.refl _, rfl⟩ | exact Ext.refl _))
    intro uc4
    (refine ⟨fun w1 hx hh => ?_, ?_⟩; focus (have h5 : TupI [2] uc3 w1 := hh 3 _ (List.mem_cons_of_mem _ List.mem_cons_self) (by kernel_rfl); have e := h5.1; have hs := h5.2; clear hh h5; generalize fstV uc3 = f5 at *; subst e; go_simp; first | exact ⟨Ext.refl _, hs⟩ | exact ⟨Ext.refl _, rfl⟩ | exact Ext.refl _))
    (refine ⟨fun w1 hx hh => ?_, ?_⟩; focus (have h6 : (fun w => IntsAt w uc4 [2]) w1 := hh 4 _ List.mem_cons_self (by kernel_rfl); clear hh; go_simp; first | exact ⟨Ext.refl _, h6⟩ | exact Ext.refl _))
    intro uc6
    iterate 1 (refine ⟨fun w1 hx hh => ?_, ?_⟩; focus (clear hh; skip; go_simp; first | exact ⟨Ext.refl _, rfl⟩ | exact Ext.refl _))
    intro w5 hx hh
    have hOf : IntsAt w5 uc6 [2] := hh 6 _ List.mem_cons_self
    clear hh
    replace hMade := hMade.ext hx
    replace hA := hA.ext hx
    replace hB := hB.ext hx
    replace hb := hb.ext hx
    replace q0 := hx.cell q0
    replace q1 := hx.cell q1
    replace x1 := x1.trans hx
    clear hx
    have eM := hOf.form
    generalize slA uc6 = oa at *
    generalize slC uc6 = oc at *
    subst eM
    go_simp
    go_wp2_with fail
    -- Fills
    apply Facts.wp_region [.val (.agg #[.int .i64 S.width, .slice fa 3 fc]), .fact (fun u w => StrsAt w u letC), .fact (TupF [[wA], [wB, wC]] 2), .fact (TupF [[wA], [wB, wC]] 2), .fact (fun u w => FillsAt w u [[wA], [wB, wC]]), .val (.int .i64 2), .val (.int .i64 0), .fact (fun u w => FillsAt w u [[wA], [wB, wC]]), .val (.int .i64 2), .val (.int .i64 0)] (by kernel_rfl) (by kernel_rfl) ⟨fun u a c hx h => StrsAt.ext h hx, fun u a c hx h => TupF.ext h hx, fun u a c hx h => TupF.ext h hx, fun u a c hx h => FillsAt.ext h hx, fun u a c hx h => FillsAt.ext h hx, trivial⟩ ?main
    case main =>
    iterate 1 (refine ⟨fun w1 hx hh => ?_, ?_⟩; focus (clear hh; have f0 := hx.cell q0; have f1 := hx.cell q1; go_simp; first | exact ⟨Ext.refl _, rfl⟩ | exact Ext.refl _))
    refine ⟨fun w1 hx hh => ?_, ?_⟩
    · clear hh
      go_simp
      refine (words_any _ letC (by kernel_rfl) (by decide) _).mono ?_
      rintro e w' ⟨⟨a, c, rfl, h, -⟩, hx⟩
      exact ⟨_, rfl, hx, h⟩
    intro ud1
    refine ⟨fun w1 hx hh => ?_, ?_⟩
    · have h1 : StrsAt w1 ud1 letC := hh 1 _ List.mem_cons_self (by kernel_rfl)
      have hx2 := hx
      clear hh
      go_simp
      refine (Fills_any _ _ S 2 (by constructor <;> decide) letC _ (hb.ext hx2) h1).mono ?_
      rw [HFC.out]
      rintro e w' ⟨u, rfl, hv, hx⟩
      exact ⟨_, rfl, hx, ⟨rfl, hv⟩⟩
    intro ud2
    (refine ⟨fun w1 hx hh => ?_, ?_⟩; focus (have h4 : TupF [[wA], [wB, wC]] 2 ud2 w1 := hh 2 _ List.mem_cons_self (by kernel_rfl); clear hh; go_simp; first | exact ⟨Ext.refl _, h4⟩ | exact Ext.refl _))
    intro ud3
    (refine ⟨fun w1 hx hh => ?_, ?_⟩; focus (have h5 : TupF [[wA], [wB, wC]] 2 ud3 w1 := hh 3 _ List.mem_cons_self (by kernel_rfl); have e := h5.1; have hs := h5.2; clear hh h5; generalize fstV ud3 = f5 at *; subst e; go_simp; first | exact ⟨Ext.refl _, hs⟩ | exact ⟨Ext.refl _, rfl⟩ | exact Ext.refl _))
    intro ud4
    (refine ⟨fun w1 hx hh => ?_, ?_⟩; focus (have h5 : TupF [[wA], [wB, wC]] 2 ud3 w1 := hh 3 _ (List.mem_cons_of_mem _ List.mem_cons_self) (by kernel_rfl); have e := h5.1; have hs := h5.2; clear hh h5; generalize fstV ud3 = f5 at *; subst e; go_simp; first | exact ⟨Ext.refl _, hs⟩ | exact ⟨Ext.refl _, rfl⟩ | exact Ext.refl _))
    (refine ⟨fun w1 hx hh => ?_, ?_⟩; focus (have h5 : TupF [[wA], [wB, wC]] 2 ud3 w1 := hh 3 _ (List.mem_cons_of_mem _ List.mem_cons_self) (by kernel_rfl); have e := h5.1; have hs := h5.2; clear hh h5; generalize fstV ud3 = f5 at *; subst e; go_simp; first | exact ⟨Ext.refl _, hs⟩ | exact ⟨Ext.refl _, rfl⟩ | exact Ext.refl _))
    (refine ⟨fun w1 hx hh => ?_, ?_⟩; focus (have h6 : (fun w => FillsAt w ud4 [[wA], [wB, wC]]) w1 := hh 4 _ List.mem_cons_self (by kernel_rfl); clear hh; go_simp; first | exact ⟨Ext.refl _, h6⟩ | exact Ext.refl _))
    intro ud7
    iterate 2 (refine ⟨fun w1 hx hh => ?_, ?_⟩; focus (clear hh; skip; go_simp; first | exact ⟨Ext.refl _, rfl⟩ | exact Ext.refl _))
    intro w6 hx hh
    have hFi : FillsAt w6 ud7 [[wA], [wB, wC]] := hh 7 _ List.mem_cons_self
    clear hh
    replace hMade := hMade.ext hx
    replace hOf := hOf.ext hx
    replace hA := hA.ext hx
    replace hB := hB.ext hx
    replace hb := hb.ext hx
    replace q0 := hx.cell q0
    replace q1 := hx.cell q1
    replace x1 := x1.trans hx
    clear hx
    have eM := hFi.form
    generalize slA ud7 = ia at *
    generalize slC ud7 = ic at *
    subst eM
    go_simp
    go_wp2_with fail
    -- Write
    refine (write_any _ _ S letA _ hb hA).mono ?_
    rw [HTA.out, HEA.out]
    unfold textA
    rintro e w7 ⟨rfl, hx⟩
    replace hA := hA.ext hx
    replace hB := hB.ext hx
    replace hb := hb.ext hx
    replace q0 := hx.cell q0
    replace q1 := hx.cell q1
    replace x1 := x1.trans hx
    replace hMade := hMade.ext hx
    replace hOf := hOf.ext hx
    replace hFi := hFi.ext hx
    clear hx
    go_wp2_with fail
    -- Read
    refine (read_any _ S textA (by decide) _ hb).mono ?_
    rw [HRA.out]
    rintro e w8 ⟨u, rfl, ⟨v, rfl, hRead, -⟩, hx⟩
    replace hA := hA.ext hx
    replace hB := hB.ext hx
    replace hb := hb.ext hx
    replace q0 := hx.cell q0
    replace q1 := hx.cell q1
    replace x1 := x1.trans hx
    replace hMade := hMade.ext hx
    replace hOf := hOf.ext hx
    replace hFi := hFi.ext hx
    clear hx
    obtain ⟨ra, rc, rfl, -⟩ := hRead.shape
    simp only at hRead
    go_wp2_with fail
    -- Fewest
    refine (Fewest_any _ _ letA letB _ hA hB).mono ?_
    rw [e_fewE, e_fewM, e_fewN]
    rintro e w9 ⟨v, rfl, hFew, hx⟩
    replace hA := hA.ext hx
    replace hB := hB.ext hx
    replace hb := hb.ext hx
    replace q0 := hx.cell q0
    replace q1 := hx.cell q1
    replace x1 := x1.trans hx
    replace hMade := hMade.ext hx
    replace hOf := hOf.ext hx
    replace hFi := hFi.ext hx
    replace hRead := hRead.ext hx
    clear hx
    obtain ⟨ka, kc, rfl, -⟩ := hFew.shape
    go_wp2_with fail
    -- marks, Apply
    refine (lawMarks_any _).mono ?_
    rintro e w10 ⟨⟨na, nc, rfl, hMk⟩, hx⟩
    replace hA := hA.ext hx
    replace hB := hB.ext hx
    replace hb := hb.ext hx
    replace q0 := hx.cell q0
    replace q1 := hx.cell q1
    replace x1 := x1.trans hx
    replace hMade := hMade.ext hx
    replace hOf := hOf.ext hx
    replace hFi := hFi.ext hx
    replace hRead := hRead.ext hx
    replace hFew := hFew.ext hx
    clear hx
    go_wp2_with fail
    refine (Apply_any _ _ letA marksE _ hA hMk).mono ?_
    rw [e_apply]
    rintro e w11 ⟨v, rfl, hNow', hx⟩
    have hNow : StrsAt w11 v letB := hNow'.at_ (by decide +kernel)
    replace hA := hA.ext hx
    replace hB := hB.ext hx
    replace hb := hb.ext hx
    replace q0 := hx.cell q0
    replace q1 := hx.cell q1
    replace x1 := x1.trans hx
    replace hMade := hMade.ext hx
    replace hOf := hOf.ext hx
    replace hFi := hFi.ext hx
    replace hRead := hRead.ext hx
    replace hFew := hFew.ext hx
    clear hx hNow' hMk
    obtain ⟨pa, pc, rfl, -⟩ := hNow.shape
    go_wp2_with fail
    -- Mend
    refine (Mend_any _ _ S 2 (by constructor <;> decide) letA _ hb hA).mono ?_
    rw [HM2.out, HME2.out]
    rintro e w12 ⟨rfl, hx⟩
    replace hA := hA.ext hx
    replace hB := hB.ext hx
    replace hb := hb.ext hx
    replace q0 := hx.cell q0
    replace q1 := hx.cell q1
    replace x1 := x1.trans hx
    replace hMade := hMade.ext hx
    replace hOf := hOf.ext hx
    replace hFi := hFi.ext hx
    replace hRead := hRead.ext hx
    replace hFew := hFew.ext hx
    replace hNow := hNow.ext hx
    clear hx
    go_wp2_with fail
    -- Nearest
    refine (Nearest_any _ _ S letA _ hb hA).mono ?_
    rw [HN.out, HNE.out]
    rintro e w13 ⟨rfl, hx⟩
    replace hA := hA.ext hx
    replace hB := hB.ext hx
    replace hb := hb.ext hx
    replace q0 := hx.cell q0
    replace q1 := hx.cell q1
    replace x1 := x1.trans hx
    replace hMade := hMade.ext hx
    replace hOf := hOf.ext hx
    replace hFi := hFi.ext hx
    replace hRead := hRead.ext hx
    replace hFew := hFew.ext hx
    replace hNow := hNow.ext hx
    clear hx
    go_wp2_with fail
    -- Read
    refine (read_any _ S textB (by decide) _ hb).mono ?_
    rintro e w14 ⟨u, rfl, ⟨v, rfl, -, -⟩, hx⟩
    rw [HRB.out]
    replace hA := hA.ext hx
    replace hB := hB.ext hx
    replace hb := hb.ext hx
    replace q0 := hx.cell q0
    replace q1 := hx.cell q1
    replace x1 := x1.trans hx
    replace hMade := hMade.ext hx
    replace hOf := hOf.ext hx
    replace hFi := hFi.ext hx
    replace hRead := hRead.ext hx
    replace hFew := hFew.ext hx
    replace hNow := hNow.ext hx
    clear hx
    go_wp2_with fail
    refine (read_any _ S textW (by decide) _ hb).mono ?_
    rintro e w15 ⟨u2, rfl, ⟨v2, rfl, -, -⟩, hx⟩
    rw [HRW.out]
    replace hA := hA.ext hx
    replace hB := hB.ext hx
    replace hb := hb.ext hx
    replace q0 := hx.cell q0
    replace q1 := hx.cell q1
    replace x1 := x1.trans hx
    replace hMade := hMade.ext hx
    replace hOf := hOf.ext hx
    replace hFi := hFi.ext hx
    replace hRead := hRead.ext hx
    replace hFew := hFew.ext hx
    replace hNow := hNow.ext hx
    clear hx
    go_wp2_with fail
    refine (Mend_any _ _ S 3 (by constructor <;> decide) letA _ hb hA).mono ?_
    rw [HME3.out]
    rintro e w16 ⟨rfl, hx⟩
    replace hA := hA.ext hx
    replace hB := hB.ext hx
    replace hb := hb.ext hx
    replace q0 := hx.cell q0
    replace q1 := hx.cell q1
    replace x1 := x1.trans hx
    replace hMade := hMade.ext hx
    replace hOf := hOf.ext hx
    replace hFi := hFi.ext hx
    replace hRead := hRead.ext hx
    replace hFew := hFew.ext hx
    replace hNow := hNow.ext hx
    clear hx hb q0 q1
    generalize mendM S 3 letA = many3
    go_wp2_with fail
    refine (same_any _ _ letA letA _ hMade hA).mono ?_
    rw [decide_eq_true rfl]
    rintro e w17 ⟨rfl, hx⟩
    replace hA := hA.ext hx
    replace hB := hB.ext hx
    replace hOf := hOf.ext hx
    replace hFi := hFi.ext hx
    replace hRead := hRead.ext hx
    replace hFew := hFew.ext hx
    replace hNow := hNow.ext hx
    replace x1 := x1.trans hx
    clear hx hMade
    go_wp2_with fail
    refine (ints_any _ _ [2] [2] _ (hOf.ext (ext_alloc _ _)) (IntsAt.oneAt (n := 2) (by simp) (by decide))).mono ?_
    rw [show decide (([2] : List Int) = [2]) = true from rfl]
    rintro e w18 ⟨rfl, hx'⟩
    have hx := hx'.of_alloc
    replace hA := hA.ext hx
    replace hB := hB.ext hx
    replace hFi := hFi.ext hx
    replace hRead := hRead.ext hx
    replace hFew := hFew.ext hx
    replace hNow := hNow.ext hx
    replace x1 := x1.trans hx
    clear hx hx' hOf
    go_wp2_with fail
    refine (words_any _ [wA] (by kernel_rfl) (by decide) _).mono ?_
    rintro e w19 ⟨⟨ta, tc, rfl, h1, -⟩, hx⟩
    replace hA := hA.ext hx
    replace hB := hB.ext hx
    replace hFi := hFi.ext hx
    replace hRead := hRead.ext hx
    replace hFew := hFew.ext hx
    replace hNow := hNow.ext hx
    replace x1 := x1.trans hx
    clear hx
    go_wp2_with fail
    refine (words_any _ [wB, wC] (by kernel_rfl) (by decide) _).mono ?_
    rintro e w20 ⟨⟨sa, sc, rfl, h2, -⟩, hx⟩
    replace hA := hA.ext hx
    replace hB := hB.ext hx
    replace hFi := hFi.ext hx
    replace hRead := hRead.ext hx
    replace hFew := hFew.ext hx
    replace hNow := hNow.ext hx
    replace x1 := x1.trans hx
    replace h1 := h1.ext hx
    clear hx
    go_wp2_with fail
    refine (sames_any _ _ [[wA], [wB, wC]] [[wA], [wB, wC]] _ (hFi.ext (ext_alloc _ _)) (FillsAt.twoAt rfl h1 h2)).mono ?_
    rw [decide_eq_true rfl]
    rintro e w21 ⟨rfl, hx'⟩
    have hx := hx'.of_alloc
    clear hx' hFi h1 h2
    replace hA := hA.ext hx
    replace hB := hB.ext hx
    replace hRead := hRead.ext hx
    replace hFew := hFew.ext hx
    replace hNow := hNow.ext hx
    replace x1 := x1.trans hx
    clear hx
    go_wp2_with fail
    refine (same_any _ _ letA letA _ hRead hA).mono ?_
    rw [decide_eq_true rfl]
    rintro e w22 ⟨rfl, hx⟩
    replace hA := hA.ext hx
    replace hB := hB.ext hx
    replace hRead := hRead.ext hx
    replace hFew := hFew.ext hx
    replace hNow := hNow.ext hx
    replace x1 := x1.trans hx
    clear hx
    clear hRead hA
    go_wp2_with fail
    refine (lawMarks_any _).mono ?_
    rintro e w23 ⟨⟨na, nc, rfl, hMk⟩, hx⟩
    replace hB := hB.ext hx
    replace hFew := hFew.ext hx
    replace hNow := hNow.ext hx
    replace x1 := x1.trans hx
    clear hx
    go_wp2_with fail
    refine (equal_any _ _ marksE marksE _ hFew hMk).mono ?_
    rw [decide_eq_true rfl]
    rintro e w24 ⟨rfl, hx⟩
    replace hB := hB.ext hx
    replace hNow := hNow.ext hx
    replace x1 := x1.trans hx
    clear hx hFew hMk
    go_wp2_with fail
    refine (same_any _ _ letB letB _ hNow hB).mono ?_
    rw [decide_eq_true rfl]
    rintro e w25 ⟨rfl, hx⟩
    replace x1 := x1.trans hx
    clear hx hNow hB
    go_wp2
    go_ret
    exact ⟨rfl, x1⟩
end Go.Proofs.Ytgcibmdohifiaaa

namespace Go.Proofs.Ytgcibmdohifiaaa
set_option linter.unusedSimpArgs false
set_option linter.unusedVariables false
open Go.RowKit
set_option linter.unusedVariables false

set_option maxRecDepth 100000 in
set_option maxHeartbeats 20000000 in
theorem knownL_any (w : World) : Calls Try.prog 3 #[] w fun e w' => e = .returned (.bool true) ∧ Ext w w' := by
  have hshelf := fun w => Shelf_any w
  have hS : shelfE.forms.length = 3 := rfl
  obtain ⟨S, hSS⟩ : ∃ S, S = shelfE := ⟨_, rfl⟩
  have HOA := Lib.hid e_ofA
  have HEA := Lib.hid e_errA
  have HON := Lib.hid e_ofN
  have HEN := Lib.hid e_errN
  have HFA := Lib.hid e_fillA
  have HM0 := Lib.hid e_mend0
  have HE0 := Lib.hid e_mendE0
  have HM1 := Lib.hid e_mend1
  have HE1 := Lib.hid e_mendE1
  rw [← hSS] at hS HOA HEA HON HEN HFA HM0 HE0 HM1 HE1
  simp only [← hSS] at hshelf
  clear hSS
  have HS := Lib.hid hS
  clear hS
  go_enter Try.func3, Try.ntmps3
  go_wp2_with fail
  refine (hshelf _).mono ?_
  rintro e w1 ⟨v, rfl, hb, x1⟩
  clear hshelf
  obtain ⟨fa, fc, rfl, -⟩ := hb.open
  rw [HS.out] at hb ⊢
  obtain ⟨q0, q1⟩ : (w1.alloc (.cells #[.int .i64 S.width, .slice fa 3 fc] 24)).cell? ⟨w1.heap.size, 0, none⟩ = some (.int .i64 S.width) ∧ (w1.alloc (.cells #[.int .i64 S.width, .slice fa 3 fc] 24)).cell? ⟨w1.heap.size, 1, none⟩ = some (.slice fa 3 fc) := ⟨by simp [go_sem], by simp [go_sem]⟩
  go_wp2_with fail
  obtain ⟨W, hW⟩ : ∃ W, W = w1.alloc (.cells #[.int .i64 S.width, .slice fa 3 fc] 24) := ⟨_, rfl⟩
  replace hb := hb.ext (ext_alloc w1 (.cells #[.int .i64 S.width, .slice fa 3 fc] 24))
  replace x1 : Ext w W := by rw [hW]; exact x1.alloc _
  rw [← hW] at hb q0 q1 ⊢
  clear hW
  refine (words_any _ letA (by kernel_rfl) (by decide) _).mono ?_
  rintro e w2 ⟨⟨Aa, Ac, rfl, hA, -⟩, hx⟩
  replace hb := hb.ext hx
  replace q0 := hx.cell q0
  replace q1 := hx.cell q1
  replace x1 := x1.trans hx
  clear hx
  go_wp2_with fail
  refine (of_any _ _ S letA _ hb hA).mono ?_
  rw [HOA.out, HEA.out]
  rintro e w3 ⟨u, rfl, ⟨v, rfl, hPlea, -⟩, hx⟩
  replace hPlea := hPlea rfl
  replace hA := hA.ext hx
  replace hb := hb.ext hx
  replace q0 := hx.cell q0
  replace q1 := hx.cell q1
  replace x1 := x1.trans hx
  clear hx
  obtain ⟨pa, pc, rfl, -⟩ := hPlea.shape
  go_wp2_with fail
  apply Facts.wp_region [.val (.agg #[.int .i64 S.width, .slice fa 3 fc]), .fact (fun u w => StrsAt w u letN), .fact (TupI [1]), .fact (TupI [1]), .fact (fun u w => IntsAt w u [1]), .val (.int .i64 0), .fact (fun u w => IntsAt w u [1]), .val (.int .i64 0)] (by kernel_rfl) (by kernel_rfl) ⟨fun u a c hx h => StrsAt.ext h hx, fun u a c hx h => TupI.ext h hx, fun u a c hx h => TupI.ext h hx, fun u a c hx h => IntsAt.ext h hx, fun u a c hx h => IntsAt.ext h hx, trivial⟩ ?main
  case main =>
  iterate 1 (refine ⟨fun w1 hx hh => ?_, ?_⟩; focus (clear hh; have f0 := hx.cell q0; have f1 := hx.cell q1; go_simp; first | exact ⟨Ext.refl _, rfl⟩ | exact Ext.refl _))
  refine ⟨fun w1 hx hh => ?_, ?_⟩
  · clear hh
    go_simp
    refine (words_any _ letN (by kernel_rfl) (by decide) _).mono ?_
    rintro e w' ⟨⟨a, c, rfl, h, -⟩, hx⟩
    exact ⟨_, rfl, hx, h⟩
  intro uc1
  refine ⟨fun w1 hx hh => ?_, ?_⟩
  · have h1 : StrsAt w1 uc1 letN := hh 1 _ List.mem_cons_self (by kernel_rfl)
    have hx2 := hx
    clear hh
    go_simp
    refine (of_any _ _ S letN _ (hb.ext hx2) h1).mono ?_
    rw [HON.out, HEN.out]
    rintro e w' ⟨u, rfl, ⟨v, rfl, hv, -⟩, hx⟩
    exact ⟨_, rfl, hx, ⟨rfl, hv rfl⟩⟩
  intro uc2
  (refine ⟨fun w1 hx hh => ?_, ?_⟩; focus (have h4 : TupI [1] uc2 w1 := hh 2 _ List.mem_cons_self (by kernel_rfl); clear hh; go_simp; first | exact ⟨Ext.refl _, h4⟩ | exact Ext.refl _))
  intro uc3
  (refine ⟨fun w1 hx hh => ?_, ?_⟩; focus (have h5 : TupI [1] uc3 w1 := hh 3 _ List.mem_cons_self (by kernel_rfl); have e := h5.1; have hs := h5.2; clear hh h5; generalize fstV uc3 = f5 at *; subst e; go_simp; first | exact ⟨Ext.refl _, hs⟩ | exact ⟨Ext.refl _, rfl⟩ | exact Ext.refl _))
  intro uc4
  (refine ⟨fun w1 hx hh => ?_, ?_⟩; focus (have h5 : TupI [1] uc3 w1 := hh 3 _ (List.mem_cons_of_mem _ List.mem_cons_self) (by kernel_rfl); have e := h5.1; have hs := h5.2; clear hh h5; generalize fstV uc3 = f5 at *; subst e; go_simp; first | exact ⟨Ext.refl _, hs⟩ | exact ⟨Ext.refl _, rfl⟩ | exact Ext.refl _))
  (refine ⟨fun w1 hx hh => ?_, ?_⟩; focus (have h6 : (fun w => IntsAt w uc4 [1]) w1 := hh 4 _ List.mem_cons_self (by kernel_rfl); clear hh; go_simp; first | exact ⟨Ext.refl _, h6⟩ | exact Ext.refl _))
  intro uc6
  iterate 1 (refine ⟨fun w1 hx hh => ?_, ?_⟩; focus (clear hh; skip; go_simp; first | exact ⟨Ext.refl _, rfl⟩ | exact Ext.refl _))
  intro w5 hx hh
  have hNote : IntsAt w5 uc6 [1] := hh 6 _ List.mem_cons_self
  clear hh
  replace hPlea := hPlea.ext hx
  replace hA := hA.ext hx
  replace hb := hb.ext hx
  replace q0 := hx.cell q0
  replace q1 := hx.cell q1
  replace x1 := x1.trans hx
  clear hx
  have eM := hNote.form
  generalize slA uc6 = oa at *
  generalize slC uc6 = oc at *
  subst eM
  go_simp
  go_wp2_with fail
  refine (Fills_any _ _ S 0 (by constructor <;> decide) letA _ hb hA).mono ?_
  rw [HFA.out]
  rintro e w6 ⟨v, rfl, hFi, hx⟩
  replace hPlea := hPlea.ext hx
  replace hNote := hNote.ext hx
  replace hA := hA.ext hx
  replace hb := hb.ext hx
  replace q0 := hx.cell q0
  replace q1 := hx.cell q1
  replace x1 := x1.trans hx
  clear hx
  obtain ⟨ia, ic, rfl, -⟩ := hFi.shape
  go_wp2_with fail
  refine (Mend_any _ _ S 0 (by constructor <;> decide) letA _ hb hA).mono ?_
  rw [HM0.out, HE0.out]
  rintro e w7 ⟨rfl, hx⟩
  replace hPlea := hPlea.ext hx
  replace hNote := hNote.ext hx
  replace hFi := hFi.ext hx
  replace hA := hA.ext hx
  replace hb := hb.ext hx
  replace q0 := hx.cell q0
  replace q1 := hx.cell q1
  replace x1 := x1.trans hx
  clear hx
  go_wp2_with fail
  refine (Mend_any _ _ S 1 (by constructor <;> decide) letA _ hb hA).mono ?_
  rw [HM1.out, HE1.out]
  rintro e w8 ⟨rfl, hx⟩
  replace hPlea := hPlea.ext hx
  replace hNote := hNote.ext hx
  replace hFi := hFi.ext hx
  replace x1 := x1.trans hx
  clear hx hA hb q0 q1
  go_wp2_with fail
  refine (ints_any _ _ [0] [0] _ (hPlea.ext (ext_alloc _ _)) (IntsAt.oneAt (n := 0) (by simp) (by decide))).mono ?_
  rw [show decide (([0] : List Int) = [0]) = true from rfl]
  rintro e w9 ⟨rfl, hx'⟩
  have hx := hx'.of_alloc
  replace hNote := hNote.ext hx
  replace hFi := hFi.ext hx
  replace x1 := x1.trans hx
  clear hx hx' hPlea
  go_wp2_with fail
  refine (ints_any _ _ [1] [1] _ (hNote.ext (ext_alloc _ _)) (IntsAt.oneAt (n := 1) (by simp) (by decide))).mono ?_
  rw [show decide (([1] : List Int) = [1]) = true from rfl]
  rintro e w10 ⟨rfl, hx'⟩
  have hx := hx'.of_alloc
  replace hFi := hFi.ext hx
  replace x1 := x1.trans hx
  clear hx hx' hNote
  go_wp2_with fail
  refine (words_any _ [wJudge] (by kernel_rfl) (by decide) _).mono ?_
  rintro e w11 ⟨⟨ta, tc, rfl, h1, -⟩, hx⟩
  replace hFi := hFi.ext hx
  replace x1 := x1.trans hx
  clear hx
  go_wp2_with fail
  refine (words_any _ [wMercy] (by kernel_rfl) (by decide) _).mono ?_
  rintro e w12 ⟨⟨sa, sc, rfl, h2, -⟩, hx⟩
  replace hFi := hFi.ext hx
  replace x1 := x1.trans hx
  replace h1 := h1.ext hx
  clear hx
  go_wp2_with fail
  refine (sames_any _ _ [[wJudge], [wMercy]] [[wJudge], [wMercy]] _ (hFi.ext (ext_alloc _ _)) (FillsAt.twoAt rfl h1 h2)).mono ?_
  rw [decide_eq_true rfl]
  rintro e w13 ⟨rfl, hx'⟩
  have hx := hx'.of_alloc
  replace x1 := x1.trans hx
  clear hx hx' hFi h1 h2
  go_wp2_with fail
  refine (awakeL_any _).mono ?_
  rintro e w14 ⟨rfl, hx⟩
  replace x1 := x1.trans hx
  clear hx
  go_wp2
  go_ret
  exact ⟨rfl, x1⟩
end Go.Proofs.Ytgcibmdohifiaaa

namespace Go.Proofs.Ytgcibmdohifiaaa
set_option linter.unusedSimpArgs false
set_option linter.unusedVariables false
open Go.ChangeShapes Go.WideShapes Go.ChangeAt Go.RowKit
section
variable {H : Type} {enc : TypeId × Value → H} {P : Program}
/-- a call that lets all that was there be, and answers as it should, keeps a law's word -/
theorem post_ext {f : Func} {s : ChangeSpec} {apart fresh handsOn again : Bool} {W W' : World} {args : Array Value} {v : Value} {ds gs : List (DataW H)} {before pa pv : List MemPlace}
    (hW : DataW.Whole enc P f.params.toList s.vars apart W args.toList ds gs before)
    (hres : ∀ (b : Nat) (sp : Nat → Bool) (hd : Bool), DataW.TrodAll enc P W' b sp hd f.resultTypes.toList (v.resultList f.resultTypes.size) (s.fn H (ds ++ gs)).results [])
    (hargs : ∀ sp : Nat → Bool, (∀ p ∈ before, sp p.block = true) → DataW.TrodAll enc P W' 0 sp true f.params.toList args.toList (s.fn H (ds ++ gs)).args pa)
    (hvars : ∀ sp : Nat → Bool, (∀ p ∈ before, sp p.block = true) → DataW.TrodVars enc P W' sp s.vars (s.fn H (ds ++ gs)).vars pv)
    (hps : before = pa ++ pv) (hx : Ext W W')
    (hok : ∀ (j : Nat) (t : TypeId) (r : Value), f.resultTypes[j]? = some t → (v.resultList f.resultTypes.size)[j]? = some r → Value.okWide P W' .any 0 t r) :
    s.post enc P f apart fresh handsOn again W args v W' := by
  have hlt := hW.lt
  have hold : ∀ p ∈ before, (fun b => decide (b < W.heap.size)) p.block = true := fun p hp => decide_eq_true (hlt p hp)
  have hin : ∀ p ∈ before, p ∈ pa ∨ p ∈ pv := fun p hp => List.mem_append.1 (hps ▸ hp)
  refine ⟨ds, gs, before, [], pa, pv, hW, hres _ _ _, hargs _ hold, hvars _ hold, World.keptBut_mono (fun p (hp : p ∈ before) => ⟨hp, .inr (hin p hp)⟩) (Below.frame hx _), fun _ => ⟨hok, ?_⟩⟩
  obtain ⟨_, _, _, _, _, hz, hn⟩ := hW
  refine ⟨_, _, pa ++ pv, ⟨[] ++ pa, pv, trodAll_append (hargs _ (fun _ _ => rfl)) (hres _ _ _), hvars _ (fun _ _ => rfl), by simp, fun b off hp => ?_, fun ha => by rw [← hps]; exact hn ha⟩, fun p hp _ => by rw [hps]; exact hp⟩
  rw [← hps] at hp
  rw [hx.frozen (p := ⟨b, off, none⟩) (hlt _ hp)]
  exact hz b off hp
end
end Go.Proofs.Ytgcibmdohifiaaa

namespace Go.Proofs.Ytgcibmdohifiaaa
set_option linter.unusedSimpArgs false
set_option linter.unusedVariables false
set_option linter.unusedVariables false

/-- a way from one letter to another one, with so many corrections -/
inductive Ed : List ByteArray → List ByteArray → Nat → Prop where
  | nil : Ed [] [] 0
  | keep (x : ByteArray) {a b : List ByteArray} {n : Nat} : Ed a b n → Ed (x :: a) (x :: b) n
  | turn (x y : ByteArray) {a b : List ByteArray} {n : Nat} : Ed a b n → Ed (x :: a) (y :: b) (n + 1)
  | drop (x : ByteArray) {a b : List ByteArray} {n : Nat} : Ed a b n → Ed (x :: a) b (n + 1)
  | put (y : ByteArray) {a b : List ByteArray} {n : Nat} : Ed a b n → Ed a (y :: b) (n + 1)
theorem Ed.puts : ∀ b : List ByteArray, Ed [] b b.length
  | [] => .nil
  | y :: b => .put y (Ed.puts b)
theorem Ed.drops : ∀ a : List ByteArray, Ed a [] a.length
  | [] => .nil
  | x :: a => .drop x (Ed.drops a)
theorem sameW_eq {x s : ByteArray} (h : sameW x s = true) : x = s := toList_inj (eq_of_beq h)
theorem sameW_self (x : ByteArray) : sameW x x = true := by simp [sameW]
theorem ed_far : ∀ (n : Nat) (a b : List ByteArray), a.length + b.length < n → Ed a b (farM n a b)
  | 0, a, b, h => by omega
  | n + 1, [], b, h => by rw [farM]; exact Ed.puts b
  | n + 1, x :: a, [], h => Ed.drops (x :: a)
  | n + 1, x :: a, s :: b, h => by
    simp only [List.length_cons] at h
    have i1 := ed_far n a b (by omega)
    have i2 := ed_far n a (s :: b) (by simp only [List.length_cons]; omega)
    have i3 := ed_far n (x :: a) b (by simp only [List.length_cons]; omega)
    rw [farM]
    have j2 : Ed (x :: a) (s :: b) (1 + farM n a (s :: b)) := by rw [Nat.add_comm]; exact .drop x i2
    have j3 : Ed (x :: a) (s :: b) (1 + farM n (x :: a) b) := by rw [Nat.add_comm]; exact .put s i3
    have j1 : Ed (x :: a) (s :: b) (if sameW x s then farM n a b else 1 + farM n a b) := by
      cases hs : sameW x s
      · simp only [Bool.false_eq_true, if_false]; rw [Nat.add_comm]; exact .turn x s i1
      · obtain rfl := sameW_eq hs
        simp only [if_true]; exact .keep x i1
    generalize (if sameW x s then farM n a b else 1 + farM n a b) = p at *
    generalize 1 + farM n a (s :: b) = q at *
    generalize 1 + farM n (x :: a) b = r at *
    rcases Nat.le_total p (min q r) with h1 | h1
    · rw [Nat.min_eq_left h1]; exact j1
    · rw [Nat.min_eq_right h1]
      rcases Nat.le_total q r with h2 | h2
      · rw [Nat.min_eq_left h2]; exact j2
      · rw [Nat.min_eq_right h2]; exact j3
theorem far_nil (n : Nat) (a : List ByteArray) : farM (n + 1) a [] = a.length := by cases a <;> rfl
theorem far_le {a b : List ByteArray} {k : Nat} (h : Ed a b k) : ∀ n, a.length + b.length < n → farM n a b ≤ k := by
  induction h with
  | nil => intro n hn; obtain ⟨n, rfl⟩ : ∃ m, n = m + 1 := ⟨n - 1, by omega⟩; exact Nat.le_refl _
  | keep x h ih =>
    intro n hn
    obtain ⟨n, rfl⟩ : ∃ m, n = m + 1 := ⟨n - 1, by omega⟩
    simp only [List.length_cons] at hn
    have := ih n (by omega)
    rw [farM, sameW_self, if_pos rfl]
    omega
  | turn x y h ih =>
    intro n hn
    obtain ⟨n, rfl⟩ : ∃ m, n = m + 1 := ⟨n - 1, by omega⟩
    simp only [List.length_cons] at hn
    have := ih n (by omega)
    rw [farM]
    split <;> omega
  | @drop x a b k h ih =>
    intro n hn
    obtain ⟨n, rfl⟩ : ∃ m, n = m + 1 := ⟨n - 1, by omega⟩
    simp only [List.length_cons] at hn
    have h1 := ih n (by omega)
    cases b with
    | nil =>
      obtain ⟨m, rfl⟩ : ∃ m, n = m + 1 := ⟨n - 1, by omega⟩
      rw [far_nil] at h1 ⊢
      simp only [List.length_cons]; omega
    | cons s b => rw [farM]; omega
  | @put y a b k h ih =>
    intro n hn
    obtain ⟨n, rfl⟩ : ∃ m, n = m + 1 := ⟨n - 1, by omega⟩
    simp only [List.length_cons] at hn
    have h1 := ih n (by omega)
    cases a with
    | nil =>
      obtain ⟨m, rfl⟩ : ∃ m, n = m + 1 := ⟨n - 1, by omega⟩
      rw [farM] at h1 ⊢
      simp only [List.length_cons]; omega
    | cons s a => rw [farM]; omega
theorem Ed.comp : ∀ (N : Nat) {a c b : List ByteArray} {n m : Nat}, a.length + c.length + b.length ≤ N → Ed a c n → Ed c b m → ∃ k, k ≤ n + m ∧ Ed a b k := by
  intro N
  induction N with
  | zero =>
    intro a c b n m hN h1 h2
    have ha : a = [] := List.eq_nil_of_length_eq_zero (by omega)
    have hb : b = [] := List.eq_nil_of_length_eq_zero (by omega)
    subst ha; subst hb
    exact ⟨0, Nat.zero_le _, .nil⟩
  | succ N ih =>
    intro a c b n m hN h1 h2
    cases h1 with
    | nil => exact ⟨m, by omega, h2⟩
    | drop x h1 =>
      simp only [List.length_cons] at hN
      obtain ⟨k, hk, h⟩ := ih (by omega) h1 h2
      exact ⟨k + 1, by omega, .drop x h⟩
    | keep x h1 =>
      cases h2 with
      | keep _ h2 =>
        simp only [List.length_cons] at hN
        obtain ⟨k, hk, h⟩ := ih (by omega) h1 h2
        exact ⟨k, by omega, .keep x h⟩
      | turn _ y h2 =>
        simp only [List.length_cons] at hN
        obtain ⟨k, hk, h⟩ := ih (by omega) h1 h2
        exact ⟨k + 1, by omega, .turn x y h⟩
      | drop _ h2 =>
        simp only [List.length_cons] at hN
        obtain ⟨k, hk, h⟩ := ih (by omega) h1 h2
        exact ⟨k + 1, by omega, .drop x h⟩
      | put y h2 =>
        simp only [List.length_cons] at hN
        obtain ⟨k, hk, h⟩ := ih (by simp only [List.length_cons]; omega) (Ed.keep x h1) h2
        exact ⟨k + 1, by omega, .put y h⟩
    | turn x z h1 =>
      cases h2 with
      | keep _ h2 =>
        simp only [List.length_cons] at hN
        obtain ⟨k, hk, h⟩ := ih (by omega) h1 h2
        exact ⟨k + 1, by omega, .turn x z h⟩
      | turn _ y h2 =>
        simp only [List.length_cons] at hN
        obtain ⟨k, hk, h⟩ := ih (by omega) h1 h2
        exact ⟨k + 1, by omega, .turn x y h⟩
      | drop _ h2 =>
        simp only [List.length_cons] at hN
        obtain ⟨k, hk, h⟩ := ih (by omega) h1 h2
        exact ⟨k + 1, by omega, .drop x h⟩
      | put y h2 =>
        simp only [List.length_cons] at hN
        obtain ⟨k, hk, h⟩ := ih (by simp only [List.length_cons]; omega) (Ed.turn x z h1) h2
        exact ⟨k + 1, by omega, .put y h⟩
    | put z h1 =>
      cases h2 with
      | keep _ h2 =>
        simp only [List.length_cons] at hN
        obtain ⟨k, hk, h⟩ := ih (by omega) h1 h2
        exact ⟨k + 1, by omega, .put z h⟩
      | turn _ y h2 =>
        simp only [List.length_cons] at hN
        obtain ⟨k, hk, h⟩ := ih (by omega) h1 h2
        exact ⟨k + 1, by omega, .put y h⟩
      | drop _ h2 =>
        simp only [List.length_cons] at hN
        obtain ⟨k, hk, h⟩ := ih (by omega) h1 h2
        exact ⟨k, by omega, h⟩
      | put y h2 =>
        simp only [List.length_cons] at hN
        obtain ⟨k, hk, h⟩ := ih (by simp only [List.length_cons]; omega) (Ed.put z h1) h2
        exact ⟨k + 1, by omega, .put y h⟩
/-- by way of a third letter no fewer -/
theorem cost_way {a b c : List ByteArray} (hb : ∀ s ∈ b, wordM s = true) (hc : ∀ s ∈ c, wordM s = true) : (costM a (givenM b)).2 ≤ (costM a (givenM c)).2 + (costM c (givenM b)).2 := by
  obtain ⟨N, hN⟩ : ∃ N, N = a.length + b.length + c.length + 1 := ⟨_, rfl⟩
  rw [cost_far N a b (by omega) hb, cost_far N a c (by omega) hc, cost_far N c b (by omega) hb]
  obtain ⟨k, hk, h⟩ := Ed.comp _ (Nat.le_refl _) (ed_far N a c (by omega)) (ed_far N c b (by omega))
  exact Nat.le_trans (far_le h N (by omega)) hk
end Go.Proofs.Ytgcibmdohifiaaa

namespace Go.Proofs.Ytgcibmdohifiaaa
set_option linter.unusedSimpArgs false
set_option linter.unusedVariables false
open Go.RowKit
set_option linter.unusedVariables false

/-- what is so of the numbers of corrections between three letters -/
structure BackP (a b c : List ByteArray) : Prop where
  bad : (letterErrL a ≠ 0 ∨ letterErrL b ≠ 0) → fewErrM a b ≠ 0 ∧ fewErrM b a ≠ 0 ∧ fewManyM a b = 0 ∧ fewManyM b a = 0
  good : letterErrL a = 0 → letterErrL b = 0 → fewErrM a b = 0 ∧ fewErrM b a = 0 ∧ fewManyM a b = fewManyM b a ∧ (fewManyM a b = 0 ↔ a = b) ∧ fewManyM a b ≤ 30
  badC : letterErrL a = 0 → letterErrL b = 0 → letterErrL c ≠ 0 → fewErrM a c ≠ 0 ∧ fewErrM c b ≠ 0
  goodC : letterErrL a = 0 → letterErrL b = 0 → letterErrL c = 0 → fewErrM a c = 0 ∧ fewErrM c b = 0 ∧ fewManyM a b ≤ fewManyM a c + fewManyM c b ∧ fewManyM a c ≤ 30 ∧ fewManyM c b ≤ 30
theorem few_le (a b : List ByteArray) (ha : a.length ≤ 15) (hb : b.length ≤ 15) : fewManyM a b ≤ 30 := by
  unfold fewManyM
  split
  · have := costM_le a (givenM b)
    have hg : (givenM b).length = b.length := by simp [givenM]
    omega
  · omega
theorem backP (a b c : List ByteArray) : BackP a b c := by
  have err : ∀ x y : List ByteArray, letterErrL x = 0 → letterErrL y = 0 → fewErrM x y = 0 := fun x y h1 h2 => by unfold fewErrM; rw [if_neg (by rw [h1]; simp), h2]
  have bad : ∀ x y : List ByteArray, (letterErrL x ≠ 0 ∨ letterErrL y ≠ 0) → fewErrM x y ≠ 0 := fun x y h => by
    unfold fewErrM
    by_cases h1 : letterErrL x = 0
    · rw [if_neg (by simpa using h1)]; exact h.resolve_left (fun e => e h1)
    · rw [if_pos h1]; exact h1
  have many : ∀ x y : List ByteArray, fewErrM x y ≠ 0 → fewManyM x y = 0 := fun x y h => by unfold fewManyM; rw [if_neg h]
  have good : ∀ x y : List ByteArray, fewErrM x y = 0 → fewManyM x y = (costM x (givenM y)).2 := fun x y h => by unfold fewManyM; rw [if_pos h]
  refine ⟨fun h => ?_, fun h1 h2 => ?_, fun h1 h2 h3 => ?_, fun h1 h2 h3 => ?_⟩
  · exact ⟨bad a b h, bad b a h.symm, many _ _ (bad a b h), many _ _ (bad b a h.symm)⟩
  · obtain ⟨a15, aw⟩ := lettErr_ok h1
    obtain ⟨b15, bw⟩ := lettErr_ok h2
    refine ⟨err _ _ h1 h2, err _ _ h2 h1, ?_, ?_, few_le a b a15 b15⟩
    · rw [good _ _ (err _ _ h1 h2), good _ _ (err _ _ h2 h1)]; exact cost_comm aw bw
    · rw [good _ _ (err _ _ h1 h2)]; exact cost_zero bw
  · exact ⟨bad _ _ (.inr h3), bad _ _ (.inl h3)⟩
  · obtain ⟨a15, aw⟩ := lettErr_ok h1
    obtain ⟨b15, bw⟩ := lettErr_ok h2
    obtain ⟨c15, cw⟩ := lettErr_ok h3
    refine ⟨err _ _ h1 h3, err _ _ h3 h2, ?_, few_le a c a15 c15, few_le c b c15 b15⟩
    rw [good _ _ (err _ _ h1 h2), good _ _ (err _ _ h1 h3), good _ _ (err _ _ h3 h2)]
    exact cost_way bw cw
theorem ne_true {x : Int} (h : x ≠ 0) : (x != 0) = true := by simpa using h
theorem ne_false {x : Int} (h : x = 0) : (x != 0) = false := by simpa using h

set_option maxRecDepth 100000 in
set_option maxHeartbeats 4000000 in
theorem back_any (va vb vc : Value) (a b c : List ByteArray) (w : World) (ha : StrsAt w va a) (hb : StrsAt w vb b) (hc : StrsAt w vc c) :
    Calls Try.prog 5 #[va, vb, vc] w fun e w' => e = .returned (.bool true) ∧ Ext w w' := by
  obtain ⟨g1, g2, g3, g4⟩ := backP a b c
  obtain ⟨aa, ac, rfl, -⟩ := ha.shape
  obtain ⟨ba, bc, rfl, -⟩ := hb.shape
  obtain ⟨ca, cc, rfl, -⟩ := hc.shape
  have G1 := Lib.hid g1
  have G2 := Lib.hid g2
  have G3 := Lib.hid g3
  have G4 := Lib.hid g4
  clear g1 g2 g3 g4
  go_enter Try.func5, Try.ntmps5
  go_wp2_with fail
  refine (Fewest_any _ _ a b _ ha hb).mono ?_
  rintro e w1 ⟨u1, rfl, -, x1⟩
  go_wp2_with fail
  refine (Fewest_any _ _ b a _ (hb.ext x1) (ha.ext x1)).mono ?_
  rintro e w2 ⟨u2, rfl, -, hx⟩
  replace x1 := x1.trans hx
  clear hx
  go_wp2_with fail
  refine (Fewest_any _ _ a c _ (ha.ext x1) (hc.ext x1)).mono ?_
  rintro e w3 ⟨u3, rfl, -, hx⟩
  replace x1 := x1.trans hx
  clear hx
  go_wp2_with fail
  refine (Fewest_any _ _ c b _ (hc.ext x1) (hb.ext x1)).mono ?_
  rintro e w4 ⟨u4, rfl, -, hx⟩
  replace x1 := x1.trans hx
  clear hx
  generalize fewErrM a b = e1 at *
  generalize fewErrM b a = e2 at *
  generalize fewErrM a c = e3 at *
  generalize fewErrM c b = e4 at *
  generalize fewManyM a b = n1 at *
  generalize fewManyM b a = n2 at *
  generalize fewManyM a c = n3 at *
  generalize fewManyM c b = n4 at *
  have hla := fun w (x : Ext w4 w) => refLett_any _ a w ((ha.ext x1).ext x)
  have hlb := fun w (x : Ext w4 w) => refLett_any _ b w ((hb.ext x1).ext x)
  have hlc := fun w (x : Ext w4 w) => refLett_any _ c w ((hc.ext x1).ext x)
  have hsm := fun w (x : Ext w4 w) => same_any _ _ a b w ((ha.ext x1).ext x) ((hb.ext x1).ext x)
  generalize letterErrL a = la at *
  generalize letterErrL b = lb at *
  generalize letterErrL c = lc at *
  clear ha hb hc
  by_cases h1 : la ≠ 0 ∨ lb ≠ 0
  · obtain ⟨k1, k2, k3, k4⟩ := G1.out h1
    subst k3
    subst k4
    have k1' := ne_true k1
    have k2' := ne_true k2
    clear G1 G2 G3 G4 k1 k2 hsm hlc
    by_cases h2 : la = 0
    · have h3 : lb ≠ 0 := h1.resolve_left (fun e => e h2)
      have h2' := ne_false h2
      have h3' := ne_true h3
      subst h2
      clear h1 h3 h2'
      go_wp2_with fail
      refine (hla _ (by first | (with_reducible exact Ext.refl _) | (with_reducible assumption) | (show Below _ _ _; go_grown; done))).mono ?_
      rintro e w5 ⟨rfl, x5⟩
      go_wp2_with fail
      refine (hlb _ (by first | (with_reducible exact Ext.refl _) | (with_reducible assumption) | (show Below _ _ _; go_grown; done))).mono ?_
      rintro e w6 ⟨rfl, hx⟩
      replace x5 := x5.trans hx
      clear hx
      go_wp2_with fail
      refine (awakeL_any _).mono ?_
      rintro e w7 ⟨rfl, hx⟩
      go_wp2
      go_ret
      exact ⟨rfl, (x1.trans x5).trans hx⟩
    · have h2' := ne_true h2
      clear h1 h2
      go_wp2_with fail
      refine (hla _ (by first | (with_reducible exact Ext.refl _) | (with_reducible assumption) | (show Below _ _ _; go_grown; done))).mono ?_
      rintro e w5 ⟨rfl, x5⟩
      go_wp2_with fail
      refine (awakeL_any _).mono ?_
      rintro e w7 ⟨rfl, hx⟩
      go_wp2
      go_ret
      exact ⟨rfl, (x1.trans x5).trans hx⟩
  · obtain rfl : la = 0 := Decidable.not_not.1 fun e => h1 (.inl e)
    obtain rfl : lb = 0 := Decidable.not_not.1 fun e => h1 (.inr e)
    obtain ⟨rfl, rfl, rfl, k4, k5⟩ := G2.out rfl rfl
    have hns : (((n1 : Int) == 0) = true ∧ decide (a = b) = true) ∨ (((n1 : Int) == 0) = false ∧ decide (a = b) = false) := by
      by_cases e : a = b
      · exact .inl ⟨by simp [k4.2 e], decide_eq_true e⟩
      · exact .inr ⟨by
          have : ¬ n1 = 0 := fun x => e (k4.1 x)
          simp; omega, decide_eq_false e⟩
    generalize decide (a = b) = sm at *
    clear k4 h1 G1 G2
    rcases hns with ⟨hn0, rfl⟩ | ⟨hn0, rfl⟩
    all_goals
      by_cases h3 : lc = 0
      · subst h3
        obtain ⟨rfl, rfl, k6, k7, k8⟩ := G4.out rfl rfl rfl
        clear G3 G4
        have wk : IntKind.i64.wrap ((n3 : Int) + n4) = (n3 : Int) + n4 := IntWalk.i64_in _ (by omega)
        have kle : (n1 : Int) ≤ (n3 : Int) + n4 := by omega
        go_wp2_with fail
        refine (hla _ (by first | (with_reducible exact Ext.refl _) | (with_reducible assumption) | (show Below _ _ _; go_grown; done))).mono ?_
        rintro e w5 ⟨rfl, x5⟩
        go_wp2_with fail
        refine (hlb _ (by first | (with_reducible exact Ext.refl _) | (with_reducible assumption) | (show Below _ _ _; go_grown; done))).mono ?_
        rintro e w6 ⟨rfl, hx⟩
        replace x5 := x5.trans hx
        clear hx
        go_wp2_with fail
        refine (hsm _ (by first | (with_reducible exact Ext.refl _) | (with_reducible assumption) | (show Below _ _ _; go_grown; done))).mono ?_
        rintro e w7 ⟨rfl, hx⟩
        replace x5 := x5.trans hx
        clear hx
        go_wp2_with fail
        refine (hlc _ (by first | (with_reducible exact Ext.refl _) | (with_reducible assumption) | (show Below _ _ _; go_grown; done))).mono ?_
        rintro e w8 ⟨rfl, hx⟩
        replace x5 := x5.trans hx
        clear hx
        go_wp2_with fail
        refine (awakeL_any _).mono ?_
        rintro e w9 ⟨rfl, hx⟩
        go_wp2
        go_ret
        exact ⟨rfl, (x1.trans x5).trans hx⟩
      · obtain ⟨k6, k7⟩ := G3.out rfl rfl h3
        have h3' := ne_true h3
        have k6' := ne_true k6
        have k7' := ne_true k7
        clear G3 G4 h3 k6 k7
        go_wp2_with fail
        refine (hla _ (by first | (with_reducible exact Ext.refl _) | (with_reducible assumption) | (show Below _ _ _; go_grown; done))).mono ?_
        rintro e w5 ⟨rfl, x5⟩
        go_wp2_with fail
        refine (hlb _ (by first | (with_reducible exact Ext.refl _) | (with_reducible assumption) | (show Below _ _ _; go_grown; done))).mono ?_
        rintro e w6 ⟨rfl, hx⟩
        replace x5 := x5.trans hx
        clear hx
        go_wp2_with fail
        refine (hsm _ (by first | (with_reducible exact Ext.refl _) | (with_reducible assumption) | (show Below _ _ _; go_grown; done))).mono ?_
        rintro e w7 ⟨rfl, hx⟩
        replace x5 := x5.trans hx
        clear hx
        go_wp2_with fail
        refine (hlc _ (by first | (with_reducible exact Ext.refl _) | (with_reducible assumption) | (show Below _ _ _; go_grown; done))).mono ?_
        rintro e w8 ⟨rfl, hx⟩
        replace x5 := x5.trans hx
        clear hx
        go_wp2_with fail
        refine (awakeL_any _).mono ?_
        rintro e w9 ⟨rfl, hx⟩
        go_wp2
        go_ret
        exact ⟨rfl, (x1.trans x5).trans hx⟩
end Go.Proofs.Ytgcibmdohifiaaa

namespace Go.Proofs.Ytgcibmdohifiaaa
set_option linter.unusedSimpArgs false
set_option linter.unusedVariables false
open Go.ChangeShapes Go.WideShapes Go.RowKit

theorem add_none (b o n : Nat) : (⟨b, o, none⟩ : Addr).add n = ⟨b, o + n, none⟩ := by
  unfold Addr.add
  by_cases h : n = 0
  · subst h; simp
  · simp [h]
theorem three_of {cs : List Value} (h : cs.length = 3) : ∃ a b c, cs = [a, b, c] := by
  match cs, h with
  | [a, b, c], _ => exact ⟨a, b, c, rfl⟩
theorem two_of {cs : List Value} (h : cs.length = 2) : ∃ a b, cs = [a, b] := by
  match cs, h with
  | [a, b], _ => exact ⟨a, b, rfl⟩
theorem spot_none {w : World} {a : Addr} {v : Value} (h : w.cell? a = some v) : a.spot = none := by
  unfold World.cell? at h
  cases hs : a.spot with
  | none => rfl
  | some x => split at h <;> simp [hs] at h
section
variable {H : Type} {enc : TypeId × Value → H} {w : World} {base : Nat} {sp : Nat → Bool} {held : Bool}
theorem slice_of {α : Type} [Inhabited α] {sz : Nat} {R : World → Nat → Nat → α → Prop} {t e : TypeId} (ht : Try.prog.underlying t = some (.slice e)) (hc : Try.prog.cellsOf e = sz) (hsz : 0 < sz)
    (hel : ∀ n cs y, DataW.trod enc Try.prog w base sp held n e cs = some y → ∃ x : α, ∀ b o, (∀ j, j < sz → w.cell? ⟨b, o + j, none⟩ = cs[j]?) → R w b o x)
    {fuel : Nat} {v : Value} {x : DataW H × List MemPlace} (h : DataW.trod enc Try.prog w base sp held fuel t [v] = some x) : ∃ l : List α, SliceAt sz R w v l := by
  rcases Deep.open_slice ht h with ⟨h1, _⟩ | ⟨a, len, cap, m, n, D, Pl, hcs, _, hl, hm, hmm, _, hx⟩
  · obtain rfl : v = .slice none 0 0 := by simpa using h1
    exact ⟨[], SliceAt.nil⟩
  · obtain rfl : v = .slice (some a) len cap := by simpa using hcs
    have hlm : len ≤ m := by rw [hmm]; split <;> omega
    rw [hc] at hx
    obtain ⟨f, hf⟩ := Deep.choose_lt (α := α) (n := len) (p := fun i x => ∃ cs', w.cells? base (a.add (i * sz)) sz = some cs' ∧ ∀ b o, (∀ j, j < sz → w.cell? ⟨b, o + j, none⟩ = cs'[j]?) → R w b o x) (fun i hi => by
      obtain ⟨cs', h1, h2⟩ := hx i (by omega)
      obtain ⟨x, hR⟩ := hel _ _ _ h2
      exact ⟨x, cs', h1, hR⟩)
    refine ⟨(List.range len).map f, some a, cap, by simp, by simpa using hl, by simpa [maxLen] using hm, fun i hi => ?_⟩
    have hi' : i < len := by simpa using hi
    obtain ⟨b, o, s⟩ := a
    have hs : s = none := by
      obtain ⟨cs0, h1, _⟩ := hf 0 (by omega)
      obtain ⟨_, hl0, h2⟩ := World.cells?_some h1
      have h3 := h2 0 hsz
      rw [Nat.zero_mul] at h3
      have h4 : w.cell? ⟨b, o, s⟩ = cs0[0]? := by simpa [Addr.add] using h3
      rw [List.getElem?_eq_getElem (by omega)] at h4
      exact spot_none h4
    subst hs
    obtain ⟨cs', h1, hR⟩ := hf i hi'
    refine ⟨b, o, rfl, ?_⟩
    have e1 : ((List.range len).map f)[i] = f i := by simp
    rw [e1]
    refine hR b (o + i * sz) fun j hj => ?_
    have h2 := (World.cells?_some h1).2.2 j hj
    rw [add_none, add_none] at h2
    exact h2
instance : Inhabited Letter := ⟨⟨0, 0, true⟩⟩
instance : Inhabited Alphabet := ⟨⟨⟨#[]⟩, []⟩⟩
instance : Inhabited Spelling := ⟨⟨0, ⟨#[]⟩⟩⟩
theorem cellsInt : Try.prog.cellsOf 3 = 1 := by kernel_rfl
theorem cellsU8 : Try.prog.cellsOf 5 = 1 := by kernel_rfl
theorem cellsBool : Try.prog.cellsOf 4 = 1 := by kernel_rfl
theorem cellsString : Try.prog.cellsOf 9 = 1 := by kernel_rfl
theorem wf_i64 {n : Int} (h : (Lit.int .i64 n).wf = true) : I64 n := by
  simpa [Lit.wf, IntKind.min, IntKind.max, IntKind.signed, IntKind.bits, I64] using h
theorem wf_u8 {n : Int} (h : (Lit.int .u8 n).wf = true) : U8 n := by
  simpa [Lit.wf, IntKind.min, IntKind.max, IntKind.signed, IntKind.bits, U8] using h
/-- a place that was there is as it was -/
theorem same_of_ext {W W' : World} (h : Ext W W') {p : MemPlace} (hp : p.block < W.heap.size) : W.sameAt W' p := by
  cases p with
  | cell b off =>
    show W'.cell? ⟨b, off, none⟩ = W.cell? ⟨b, off, none⟩
    exact Below.cell (p := ⟨b, off, none⟩) h hp
  | map b =>
    show W'.heap[b]? = W.heap[b]?
    exact Below.block h b hp
end
end Go.Proofs.Ytgcibmdohifiaaa

namespace Go.Proofs.Ytgcibmdohifiaaa
set_option linter.unusedSimpArgs false
set_option linter.unusedVariables false
open Go.ChangeShapes Go.WideShapes Go.RowKit
set_option maxRecDepth 100000
section
variable {H : Type} {enc : TypeId × Value → H} {w : World} {base : Nat} {sp : Nat → Bool} {held : Bool}
instance : Inhabited Part := ⟨⟨[], 0, 0⟩⟩
instance : Inhabited Form := ⟨⟨⟨#[]⟩, []⟩⟩
instance : Inhabited Mark := ⟨⟨0, ⟨#[]⟩⟩⟩
instance : Inhabited ByteArray := ⟨⟨#[]⟩⟩
theorem cellsStrs : Try.prog.cellsOf 26 = 1 := by kernel_rfl
theorem strs_in {fuel : Nat} {v : Value} {x : DataW H × List MemPlace} (h : DataW.trod enc Try.prog w base sp held fuel 26 [v] = some x) : ∃ l, StrsAt w v l :=
  slice_of Try.underlying26 cellsString (by decide) (fun n cs y hy => by
    obtain ⟨s, rfl, -, hs⟩ := DataW.trod_string Try.underlying9 hy
    exact ⟨s, fun b o hc => ⟨hc 0 (by decide), by simpa [maxLen] using hs⟩⟩) h
/-- a letter -/
theorem strsArg_of {r : Reach} {b0 : Nat} {v : Value} {d : DataW H} {ps : List MemPlace} (hval : Value.okWide Try.prog w r b0 26 v) (hd : DataW.Trod enc Try.prog w base sp held 26 v d ps) : ∃ l, StrsAt w v l := by
  obtain ⟨a0, len, cap, rfl⟩ := okWide_slice Try.underlying26 hval
  obtain ⟨fuel, h⟩ := hd
  exact strs_in h
/-- a list of bytes -/
theorem bytesL_of {r : Reach} {b0 : Nat} {v : Value} {d : DataW H} {ps : List MemPlace} (hval : Value.okWide Try.prog w r b0 40 v) (hd : DataW.Trod enc Try.prog w base sp held 40 v d ps) : ∃ l, BytesAt w v l := by
  obtain ⟨a0, len, cap, rfl⟩ := okWide_slice Try.underlying40 hval
  obtain ⟨fuel, h⟩ := hd
  exact slice_of Try.underlying40 cellsU8 (by decide) (fun n cs y hy => by
    obtain ⟨x, rfl, -, wx⟩ := DataW.trod_int Try.underlying5 hy
    exact ⟨x, fun b o hc => ⟨hc 0 (by decide), wf_u8 wx⟩⟩) h
/-- a string -/
theorem str_of {r : Reach} {b0 : Nat} {v : Value} {d : DataW H} {ps : List MemPlace} (hval : Value.okWide Try.prog w r b0 9 v) (hd : DataW.Trod enc Try.prog w base sp held 9 v d ps) : ∃ s, v = .string s ∧ s.size ≤ 9223372036854775807 := by
  obtain ⟨s, rfl⟩ := okWide_string Try.underlying9 hval
  obtain ⟨fuel, h⟩ := hd
  simp only [Value.cells] at h
  obtain ⟨s', e, -, hs⟩ := DataW.trod_string Try.underlying9 h
  simp only [List.cons.injEq, and_true] at e
  cases e
  exact ⟨_, rfl, by simpa [maxLen] using hs⟩
end
section
variable {H : Type} {enc : TypeId × Value → H} {w : World} {base : Nat} {sp : Nat → Bool} {held : Bool}
theorem cellsMark : Try.prog.cellsOf 92 = 2 := by kernel_rfl
theorem marksArg_of {r : Reach} {b0 : Nat} {v : Value} {d : DataW H} {ps : List MemPlace} (hval : Value.okWide Try.prog w r b0 41 v) (hd : DataW.Trod enc Try.prog w base sp held 41 v d ps) : ∃ l, MarksAt w v l := by
  obtain ⟨a0, len, cap, rfl⟩ := okWide_slice Try.underlying41 hval
  obtain ⟨fuel, h⟩ := hd
  exact slice_of Try.underlying41 cellsMark (by decide) (fun n cs y hy => by
    obtain ⟨y0, y1, m, -, hl, h0, h1⟩ := trod_struct2 Try.underlying92 hy
    rw [cellsMark] at hl
    obtain ⟨c0, c1, rfl⟩ := two_of hl
    simp only [cellsInt, cellsString, List.drop_zero, List.drop_succ_cons, List.take_succ_cons, List.take_zero] at h0 h1
    obtain ⟨a, ea, -, wa⟩ := DataW.trod_int Try.underlying3 h0
    obtain ⟨s, es, -, hs⟩ := DataW.trod_string Try.underlying9 h1
    simp only [List.cons.injEq, and_true] at ea es
    subst ea es
    refine ⟨⟨a, s⟩, fun b o hc => ⟨?_, ?_, wf_i64 wa, by simpa [maxLen] using hs⟩⟩
    · exact hc 0 (by decide)
    · exact hc 1 (by decide)) h
theorem fillsArg_of {r : Reach} {b0 : Nat} {v : Value} {d : DataW H} {ps : List MemPlace} (hval : Value.okWide Try.prog w r b0 32 v) (hd : DataW.Trod enc Try.prog w base sp held 32 v d ps) : ∃ l, FillsAt w v l := by
  obtain ⟨a0, len, cap, rfl⟩ := okWide_slice Try.underlying32 hval
  obtain ⟨fuel, h⟩ := hd
  exact slice_of Try.underlying32 cellsStrs (by decide) (fun n cs y hy => by
    have hl : ∃ v, cs = [v] := by
      rcases Deep.open_slice Try.underlying26 hy with ⟨h1, _⟩ | ⟨a, len, cap, m, n, D, Pl, hcs, _⟩
      · exact ⟨_, h1⟩
      · exact ⟨_, hcs⟩
    obtain ⟨v, rfl⟩ := hl
    obtain ⟨l, hl⟩ := strs_in hy
    exact ⟨l, fun b o hc => ⟨v, hc 0 (by decide), hl⟩⟩) h
end
section
variable {H : Type} {enc : TypeId × Value → H} {w : World} {base : Nat} {sp : Nat → Bool} {held : Bool}
theorem cellsPart : Try.prog.cellsOf 56 = 3 := by kernel_rfl
theorem cellsForm : Try.prog.cellsOf 61 = 2 := by kernel_rfl
theorem cellsShelf : Try.prog.cellsOf 24 = 2 := by kernel_rfl
theorem cellsSpan : Try.prog.cellsOf 54 = 2 := by kernel_rfl
theorem cellsParts : Try.prog.cellsOf 59 = 1 := by kernel_rfl
theorem cellsForms : Try.prog.cellsOf 22 = 1 := by kernel_rfl
theorem part_of {n : Nat} {cs : List Value} {y : DataW H × List MemPlace} (h : DataW.trod enc Try.prog w base sp held n 56 cs = some y) :
    ∃ (x : Part) (u : Value), cs = [u, .int .i64 x.lo, .int .i64 x.hi] ∧ StrsAt w u x.words ∧ I64 x.lo ∧ I64 x.hi := by
  obtain ⟨y0, y1, m, -, hl, h0, h1⟩ := trod_struct2 Try.underlying56 h
  rw [cellsPart] at hl
  obtain ⟨c0, c1, c2, rfl⟩ := three_of hl
  simp only [cellsStrs, cellsSpan, List.drop_zero, List.drop_succ_cons, List.take_succ_cons, List.take_zero] at h0 h1
  obtain ⟨l, hll⟩ := strs_in h0
  obtain ⟨z0, z1, m', -, -, k0, k1⟩ := trod_struct2 Try.underlying54 h1
  simp only [cellsInt, List.drop_zero, List.drop_succ_cons, List.take_succ_cons, List.take_zero] at k0 k1
  obtain ⟨a, ea, -, wa⟩ := DataW.trod_int Try.underlying3 k0
  obtain ⟨b, eb, -, wb⟩ := DataW.trod_int Try.underlying3 k1
  simp only [List.cons.injEq, and_true] at ea eb
  subst ea eb
  exact ⟨⟨l, a, b⟩, c0, rfl, hll, wf_i64 wa, wf_i64 wb⟩
theorem parts_of {fuel : Nat} {v : Value} {x : DataW H × List MemPlace} (h : DataW.trod enc Try.prog w base sp held fuel 59 [v] = some x) : ∃ l, PartsAt w v l :=
  slice_of Try.underlying59 cellsPart (by decide) (fun n cs y hy => by
    obtain ⟨x, u, rfl, hs, h1, h2⟩ := part_of hy
    refine ⟨x, fun b o hc => ⟨⟨u, ?_, hs⟩, ?_, ?_, h1, h2⟩⟩
    · exact hc 0 (by decide)
    · exact hc 1 (by decide)
    · exact hc 2 (by decide)) h
theorem form_of {n : Nat} {cs : List Value} {y : DataW H × List MemPlace} (h : DataW.trod enc Try.prog w base sp held n 61 cs = some y) :
    ∃ (x : Form) (u : Value), cs = [.string x.name, u] ∧ x.name.size ≤ 9223372036854775807 ∧ PartsAt w u x.parts := by
  obtain ⟨y0, y1, m, -, hl, h0, h1⟩ := trod_struct2 Try.underlying61 h
  rw [cellsForm] at hl
  obtain ⟨c0, c1, rfl⟩ := two_of hl
  simp only [cellsString, cellsParts, List.drop_zero, List.drop_succ_cons, List.take_succ_cons, List.take_zero] at h0 h1
  obtain ⟨s, es, -, hs⟩ := DataW.trod_string Try.underlying9 h0
  obtain ⟨l, hll⟩ := parts_of h1
  simp only [List.cons.injEq, and_true] at es
  subst es
  exact ⟨⟨s, l⟩, c1, rfl, by simpa [maxLen] using hs, hll⟩
theorem forms_of {fuel : Nat} {v : Value} {x : DataW H × List MemPlace} (h : DataW.trod enc Try.prog w base sp held fuel 22 [v] = some x) : ∃ l, FormsAt w v l :=
  slice_of Try.underlying22 cellsForm (by decide) (fun n cs y hy => by
    obtain ⟨x, u, rfl, hs, hl⟩ := form_of hy
    refine ⟨x, fun b o hc => ⟨?_, hs, u, ?_, hl⟩⟩
    · exact hc 0 (by decide)
    · exact hc 1 (by decide)) h
/-- A SHELF -/
theorem shelf_of {r : Reach} {b0 : Nat} {v : Value} {d : DataW H} {ps : List MemPlace} (hval : Value.okWide Try.prog w r b0 24 v) (hd : DataW.Trod enc Try.prog w base sp held 24 v d ps) : ∃ s, ShelfAt w v s := by
  simp only [Value.okWide, Try.underlying24] at hval
  obtain ⟨cs, rfl, -, -⟩ := hval
  obtain ⟨fuel, h⟩ := hd
  simp only [Value.cells] at h
  obtain ⟨y0, y1, m, -, hl, h0, h1⟩ := trod_struct2 Try.underlying24 h
  rw [cellsShelf] at hl
  obtain ⟨cs⟩ := cs
  obtain ⟨c0, c1, rfl⟩ := two_of hl
  simp only [cellsInt, cellsForms, List.drop_zero, List.drop_succ_cons, List.take_succ_cons, List.take_zero] at h0 h1
  obtain ⟨a, ea, -, wa⟩ := DataW.trod_int Try.underlying3 h0
  obtain ⟨l, hll⟩ := forms_of h1
  simp only [List.cons.injEq, and_true] at ea
  subst ea
  exact ⟨⟨a, l⟩, c1, rfl, wf_i64 wa, hll⟩
end
end Go.Proofs.Ytgcibmdohifiaaa

namespace Go.Proofs.Ytgcibmdohifiaaa
set_option linter.unusedSimpArgs false
set_option linter.unusedVariables false
set_option linter.unusedVariables false

def saidL : List ByteArray := [⟨#[97]⟩, ⟨#[105]⟩, ⟨#[97, 115, 107]⟩, ⟨#[116, 111]⟩, ⟨#[116, 104, 101]⟩, ⟨#[98]⟩, ⟨#[106, 117, 100, 103, 101]⟩, ⟨#[109, 101, 114, 99, 121]⟩]
theorem said_words : ∀ s ∈ saidL, wordM s = true := by decide +kernel
/-- what marks have made of the first k words of a letter -/
structure Loud (l : List ByteArray) (ms : List Mark) (k : Nat) (out : List ByteArray) : Prop where
  runs : ∀ rest, markedF (ms ++ rest) l [] = markedF rest (l.drop k) out
  words : ∀ s ∈ out, wordM s = true
  few : ms.length ≤ out.length + k
  room : out.length + (l.length - k) ≤ 15
  at_ : k ≤ l.length
  sound : ∀ m ∈ ms, I64 m.kind ∧ m.word.size ≤ 9223372036854775807
theorem Loud.start {l : List ByteArray} (h : l.length ≤ 15) : Loud l [] 0 [] := ⟨fun _ => rfl, by simp, by simp, by simpa using h, Nat.zero_le _, by simp⟩
theorem Loud.step {l : List ByteArray} {ms : List Mark} {k : Nat} {out : List ByteArray} (h : Loud l ms k out) (kd : Nat) (wd : ByteArray) (hk : kd < 4) (he : markErrM ⟨kd, wd⟩ (l.drop k) = 0)
    (hb : ∀ s ∈ becM kd (l.drop k) wd, wordM s = true) (hroom : (out ++ becM kd (l.drop k) wd).length + (l.length - (k + kW kd)) ≤ 15) (hfew : 1 ≤ (becM kd (l.drop k) wd).length + kW kd) (hat : k + kW kd ≤ l.length) (hw : wd.size ≤ 9223372036854775807) :
    Loud l (ms ++ [⟨kd, wd⟩]) (k + kW kd) (out ++ becM kd (l.drop k) wd) := by
  refine ⟨fun rest => ?_, fun s hs => ?_, ?_, hroom, hat, fun m hm => ?_⟩
  · rw [List.append_assoc, h.runs]
    show markedF (⟨kd, wd⟩ :: rest) (l.drop k) out = _
    rw [markedF, if_neg (by rw [he]; simp)]
    show markedF rest ((l.drop k).drop (kW ((kd : Nat) : Int).toNat)) (out ++ becM ((kd : Nat) : Int).toNat (l.drop k) wd) = _
    rw [Int.toNat_natCast, List.drop_drop]
  · rcases List.mem_append.1 hs with h1 | h1
    · exact h.words s h1
    · exact hb s h1
  · have := h.few
    simp only [List.length_append, List.length_cons, List.length_nil] at *
    omega
  · rcases List.mem_append.1 hm with h1 | h1
    · exact h.sound m h1
    · rw [List.mem_singleton] at h1
      subst h1
      exact ⟨⟨by show _ ≤ ((kd : Nat) : Int); omega, by show ((kd : Nat) : Int) ≤ _; omega⟩, hw⟩
theorem Loud.ends {l : List ByteArray} {ms : List Mark} {out : List ByteArray} (h : Loud l ms l.length out) (hl : letterErrL l = 0) : applyM ms l = ⟨out, 0⟩ ∧ letterErrL out = 0 := by
  obtain ⟨h15, hw⟩ := lettErr_ok hl
  have hr := h.runs []
  rw [List.append_nil, List.drop_of_length_le (Nat.le_refl _), markedF] at hr
  have hroom := h.room
  have hfew := h.few
  refine ⟨?_, ?_⟩
  · unfold applyM
    rw [if_neg (by rw [hl]; simp), if_neg (by omega)]
    unfold markedM
    rw [hr, if_neg (by simp), if_neg (by simp), if_neg (by simp; omega)]
  · unfold letterErrL
    rw [if_neg (by omega), if_neg]
    simp only [wordsM, Bool.not_eq_false, List.all_eq_true]
    exact h.words
theorem Loud.keep {l : List ByteArray} {ms : List Mark} {k : Nat} {out : List ByteArray} {lk : ByteArray} (h : Loud l ms k out) (hk : k < l.length) (hd : l.drop k = lk :: l.drop (k + 1)) (hw : wordM lk = true) : Loud l (ms ++ [⟨0, ⟨#[]⟩⟩]) (k + 1) (out ++ [lk]) := by
  have hb : becM 0 (l.drop k) (⟨#[]⟩ : ByteArray) = [lk] := by rw [hd]; rfl
  have hr := h.room
  have := h.step 0 ⟨#[]⟩ (by decide) (by rw [hd]; simp [markErrM, kWr, kW]) (by rw [hb]; intro s hs; rw [List.mem_singleton] at hs; subst hs; exact hw) (by rw [hb]; show _ + (l.length - (k + 1)) ≤ 15; simp; omega) (by simp [kW]) (by simp only [kW]; omega) (by decide)
  rw [hb] at this
  exact this
theorem Loud.turn {l : List ByteArray} {ms : List Mark} {k : Nat} {out : List ByteArray} {lk wd : ByteArray} (h : Loud l ms k out) (hk : k < l.length) (hd : l.drop k = lk :: l.drop (k + 1)) (hw : wordM wd = true) (hne : (wd.toList == lk.toList) = false) : Loud l (ms ++ [⟨1, wd⟩]) (k + 1) (out ++ [wd]) := by
  have hr := h.room
  have hs := word_size hw
  have hne' : ¬ lk.toList = wd.toList := fun e => by rw [e] at hne; simp at hne
  exact h.step 1 wd (by decide) (by rw [hd]; simp [markErrM, kWr, kW, hw, hne']) (by intro s hs; simp [becM] at hs; subst hs; exact hw) (by show (out ++ [wd]).length + (l.length - (k + 1)) ≤ 15; simp; omega) (by simp [kW]) (by simp only [kW]; omega) (by omega)
theorem Loud.drop {l : List ByteArray} {ms : List Mark} {k : Nat} {out : List ByteArray} {lk : ByteArray} (h : Loud l ms k out) (hk : k < l.length) (hd : l.drop k = lk :: l.drop (k + 1)) : Loud l (ms ++ [⟨2, ⟨#[]⟩⟩]) (k + 1) out := by
  have hr := h.room
  have := h.step 2 ⟨#[]⟩ (by decide) (by rw [hd]; simp [markErrM, kWr, kW]) (by simp [becM]) (by show (out ++ []).length + (l.length - (k + 1)) ≤ 15; simp; omega) (by simp [kW]) (by simp only [kW]; omega) (by decide)
  simp only [becM, List.append_nil] at this
  exact this
theorem Loud.put {l : List ByteArray} {ms : List Mark} {k : Nat} {out : List ByteArray} {wd : ByteArray} (h : Loud l ms k out) (hw : wordM wd = true) (hroom : out.length + (l.length - k) < 15) : Loud l (ms ++ [⟨3, wd⟩]) k (out ++ [wd]) := by
  have hs := word_size hw
  have ha := h.at_
  exact h.step 3 wd (by decide) (by simp [markErrM, kWr, kW, hw]) (by intro s hs; simp [becM] at hs; subst hs; exact hw) (by show (out ++ [wd]).length + (l.length - (k + 0)) ≤ 15; simp; omega) (by simp [becM, kW]) (by simp only [kW]; omega) (by omega)
end Go.Proofs.Ytgcibmdohifiaaa

namespace Go.Proofs.Ytgcibmdohifiaaa
set_option linter.unusedSimpArgs false
set_option linter.unusedVariables false
open Go.RowKit
set_option linter.unusedVariables false
namespace Facts.App
variable {P : Program} {ops : Array Oper}

theorem stepG_append {o : Oper} {a : Act} {w : World} {S : Value → World → Prop} (hgd : o.guard = none) (s x : Operand) (t : TypeId)
    (ho : o.op = .call { callee := .builtin .append, args := #[s, x], argTypes := #[t, t] })
    (base : Nat) (e : TypeId) (i : TypeInfo) (z : Value) (size bytes : Nat) (ht : P.underlying t = some (.slice e)) (hi : P.info? e = some i) (hz : i.zero = some z)
    (hsize : i.size = size) (hby : i.bytes = bytes) (hzs : z.cells.size = size) (hsz : 0 < size)
    (v : Value) (n : Nat) (xs : List Value) (hs : a.eval s = v) (hown : w.ownsRow base e size v n xs)
    (ad : Addr) (m c : Nat) (news : List Value) (hx : a.eval x = .slice (some ad) m c) (hl : news.length = m * size) (hnews : ∀ j u, news[j]? = some u → w.cell? (ad.add j) = some u) (h1 : ∀ u ∈ news, u.oneCell' = true)
    (h63 : n + m ≤ maxLen) (hbytes : (n + m) * bytes ≤ 140737488355328) (hbase : base ≤ w.heap.size)
    (h : ∀ v' w', w'.ownsRow base e size v' (n + m) (xs ++ news) → w.grownBy w' v.ownBlock → (v'.ownBlock = v.ownBlock ∨ v'.ownBlock = some w.heap.size) → S v' w') : stepG P ops o a w S := by
  obtain ⟨v', w', hr, h2, h3, h4, h5⟩ := run_append_own_at (P := P) w base t o.type e i z size bytes ht hi hz hsize hby hzs hsz v n xs hown ad m c news hl hnews h1 h63 hbytes hbase
  unfold stepG
  have hw : Region.wanted o (yielded ops a.tmps) = true := by unfold Region.wanted; rw [hgd]
  rw [if_pos hw]
  unfold execOp
  simp only [ho, resolve, invoke, builtin, Sem.run_bind, Sem.run_pure, Result.andThen_ok, List.map_toArray, List.map_cons, List.map_nil, hs, hx, hr]
  exact h v' w' h2 h3 h5
/-- a later world in which one row may have been written -/
def But (own : Option Nat) (w w' : World) : Prop := w.grownBy w' own
theorem But.of_ext {own : Option Nat} {w w' : World} (h : Ext w w') : But own w w' := ⟨Below.os h, Below.tape h, Below.output h, Below.size h, fun k hk _ => Below.block h k hk⟩
theorem two_but (own : Option Nat) : Piv.Two Ext (But own) :=
  ⟨fun _ _ h => But.of_ext h, fun _ _ _ h k => h.trans k, fun _ _ _ h k => World.grownBy.trans h k, fun _ => Ext.refl _, fun w => ext_drew w⟩
end Facts.App
end Go.Proofs.Ytgcibmdohifiaaa

namespace Go.Proofs.Ytgcibmdohifiaaa
set_option linter.unusedSimpArgs false
set_option linter.unusedVariables false
open Go.RowKit
set_option linter.unusedVariables false
namespace Facts.App
variable {P : Program} {ops : Array Oper}

/-- a later world in which new rows, from a block on, may have been written behind their first n cells -/
structure Grew (n0 n : Nat) (w w' : World) : Prop where
  os : w'.os = w.os
  tape : w'.tape = w.tape
  output : w'.output = w.output
  size : w.heap.size ≤ w'.heap.size
  block : ∀ k, k < w.heap.size → w'.heap[k]? = w.heap[k]? ∨ (n0 ≤ k ∧ ∃ cur cur' e, w.heap[k]? = some (.cells cur e (0, 0)) ∧ w'.heap[k]? = some (.cells cur' e (0, 0)) ∧ cur'.size = cur.size ∧ cur'.toList.take n = cur.toList.take n)
theorem Grew.of_ext {n0 n : Nat} {w w' : World} (h : Ext w w') : Grew n0 n w w' := ⟨Below.os h, Below.tape h, Below.output h, Below.size h, fun k hk => .inl (Below.block h k hk)⟩
theorem Grew.trans {n0 n : Nat} {a b c : World} (h : Grew n0 n a b) (k : Grew n0 n b c) : Grew n0 n a c :=
  ⟨k.os.trans h.os, k.tape.trans h.tape, k.output.trans h.output, Nat.le_trans h.size k.size, fun i hi => by
    rcases h.block i hi with h1 | ⟨h0, c1, c2, e, g1, g2, g3, g4⟩
    · rcases k.block i (Nat.lt_of_lt_of_le hi h.size) with h2 | ⟨h0, c1, c2, e, g1, g2, g3, g4⟩
      · exact .inl (h2.trans h1)
      · exact .inr ⟨h0, c1, c2, e, by rw [← h1]; exact g1, g2, g3, g4⟩
    · rcases k.block i (Nat.lt_of_lt_of_le hi h.size) with h2 | ⟨-, c3, c4, e', f1, f2, f3, f4⟩
      · exact .inr ⟨h0, c1, c2, e, g1, by rw [h2]; exact g2, g3, g4⟩
      · rw [g2] at f1
        simp only [Option.some.injEq, Obj.cells.injEq, and_true] at f1
        obtain ⟨rfl, rfl⟩ := f1
        exact .inr ⟨h0, c1, c4, e, g1, f2, f3.trans g3, f4.trans g4⟩⟩
theorem Grew.below {n0 n : Nat} {w w' : World} (h : Grew n0 n w w') {u : World} (hu : u.heap.size = n0) (hx : Ext u w) : Ext u w' := by
  subst hu
  exact ⟨h.os.trans (Below.os hx), h.tape.trans (Below.tape hx), h.output.trans (Below.output hx), Nat.le_trans (Below.size hx) h.size, fun k hk => by
    rcases h.block k (Nat.lt_of_lt_of_le hk (Below.size hx)) with h1 | ⟨h0, -⟩
    · exact h1.trans (Below.block hx k hk)
    · omega⟩
theorem two_grew (n0 n : Nat) : Piv.Two Ext (Grew n0 n) :=
  ⟨fun _ _ h => Grew.of_ext h, fun _ _ _ h k => h.trans k, fun _ _ _ h k => Grew.trans h k, fun _ => Ext.refl _, fun w => ext_drew w⟩
/-- a row of so many cells at most is kept -/
theorem Grew.owns {n0 n : Nat} {w w' : World} (h : Grew n0 n w w') {base size m : Nat} {e : TypeId} {v : Value} {xs : List Value} (ho : w.ownsRow base e size v m xs) (hm : m * size ≤ n) : w'.ownsRow base e size v m xs := by
  refine ⟨ho.1, ?_⟩
  rcases ho.2 with h1 | ⟨g, cap, cur, rfl, hb, hg, hnc, hcm, hcs, htake⟩
  · exact .inl h1
  · have hlt : g < w.heap.size := (Array.getElem?_eq_some_iff.1 hg).1
    rcases h.block g hlt with h1 | ⟨-, c1, c2, e', g1, g2, g3, g4⟩
    · exact .inr ⟨g, cap, cur, rfl, hb, by rw [h1]; exact hg, hnc, hcm, hcs, htake⟩
    · rw [hg] at g1
      simp only [Option.some.injEq, Obj.cells.injEq, and_true] at g1
      obtain ⟨rfl, rfl⟩ := g1
      refine .inr ⟨g, cap, c2, rfl, hb, g2, hnc, hcm, g3.trans hcs, ?_⟩
      have := congrArg (List.take (m * size)) g4
      rw [List.take_take, List.take_take, Nat.min_eq_left hm] at this
      rw [this]; exact htake
theorem Grew.cell {n0 n : Nat} {w w' : World} (h : Grew n0 n w w') {B j : Nat} {v : Value} (hc : w.cell? ⟨B, j, none⟩ = some v) (hj : j < n) : w'.cell? ⟨B, j, none⟩ = some v := by
  have hlt : B < w.heap.size := cell_lt hc
  rcases h.block B hlt with h1 | ⟨-, c1, c2, e', g1, g2, g3, g4⟩
  · rw [World.cell?_of_block (a := ⟨B, j, none⟩) h1]; exact hc
  · unfold World.cell? at hc ⊢
    simp only [g1] at hc
    simp only [g2]
    have e1 : c1[j]? = some v := by simpa using hc
    have e2 : c2[j]? = c1[j]? := by
      have a1 : c2.toList[j]? = (c2.toList.take n)[j]? := by rw [List.getElem?_take_of_lt hj]
      have a2 : c1.toList[j]? = (c1.toList.take n)[j]? := by rw [List.getElem?_take_of_lt hj]
      rw [← Array.getElem?_toList, ← Array.getElem?_toList, a1, a2, g4]
    simpa [e2] using e1
theorem run_append_grew {w : World} (base : Nat) (t ty e : TypeId) (i : TypeInfo) (z : Value) (size bytes : Nat) (ht : P.underlying t = some (.slice e)) (hi : P.info? e = some i) (hz : i.zero = some z)
    (hsize : i.size = size) (hby : i.bytes = bytes) (hzs : z.cells.size = size) (hsz : 0 < size)
    (v : Value) (n : Nat) (xs : List Value) (hown : w.ownsRow base e size v n xs)
    (a : Addr) (m c : Nat) (news : List Value) (hl : news.length = m * size) (hnews : ∀ j u, news[j]? = some u → w.cell? (a.add j) = some u) (h1 : ∀ u ∈ news, u.oneCell' = true)
    (h63 : n + m ≤ maxLen) (hbytes : (n + m) * bytes ≤ 140737488355328) (hbase : base ≤ w.heap.size) :
    ∃ v' w', (Builtin.append_ #[t, t] ty #[v, .slice (some a) m c]).run P w = .ok v' w' ∧ w'.ownsRow base e size v' (n + m) (xs ++ news) ∧ Grew base (n * size) w w' ∧
      ((∀ g cap, v = .slice (some ⟨g, 0, none⟩) n cap → cap < n + m) → Ext w w') := by
  obtain ⟨v', w', hr, ho, hg, -, -⟩ := run_append_own_at (P := P) w base t ty e i z size bytes ht hi hz hsize hby hzs hsz v n xs hown a m c news hl hnews h1 h63 hbytes hbase
  refine ⟨v', w', hr, ho, ?_⟩
  rcases hown.2 with ⟨rfl, rfl⟩ | ⟨g, cap, cur, rfl, hbg, hg0, hnc, hcm, hcs, htake⟩
  · have hx : Ext w w' := ⟨hg.os, hg.tape, hg.output, hg.size, fun k hk => hg.block k hk (by simp [Value.ownBlock])⟩
    exact ⟨Grew.of_ext hx, fun _ => hx⟩
  · by_cases hroom : n + m ≤ cap
    · obtain ⟨w2, hr2, ho2, hg2⟩ := run_append_fits (P := P) (w := w) base t ty e i size ht hi hsize g n cap xs hown a m c news hl hnews h1 hroom
      rw [hr] at hr2
      simp only [Result.ok.injEq] at hr2
      obtain ⟨rfl, rfl⟩ := hr2
      refine ⟨⟨hg2.os, hg2.tape, hg2.output, hg2.size, fun k hk => ?_⟩, fun hf => by have := hf g cap rfl; omega⟩
      by_cases hkg : k = g
      · subst hkg
        right
        refine ⟨hbg, ?_⟩
        rcases ho2.2 with ⟨he, -⟩ | ⟨g', cap', cur', he, -, hg', -, -, hcs', ht'⟩
        · simp at he
        · simp only [Value.slice.injEq, Option.some.injEq, Addr.mk.injEq, and_true, true_and] at he
          obtain ⟨rfl, rfl⟩ := he
          refine ⟨cur, cur', e, hg0, hg', by rw [hcs, hcs'], ?_⟩
          have e1 := congrArg (List.take (n * size)) ht'
          rw [List.take_take, Nat.min_eq_left (Nat.mul_le_mul_right _ (Nat.le_add_right _ _)), ← hown.1, List.take_left] at e1
          rw [← hown.1, e1, hown.1]; exact htake.symm
      · exact .inl (hg2.block k hk (by simpa using hkg))
    · have hb2 : (n + m) * i.bytes ≤ 140737488355328 := by rw [hby]; exact hbytes
      have hr2 := run_append_grow (P := P) w t ty e i z ht hi hz ⟨g, 0, none⟩ n cap xs (by rw [hsize]; exact hown.1) (hown.cells (g := g) rfl) a m c news (by rw [hsize]; exact hl) hnews (by omega) (by simp only [maxLen] at h63; omega) (growslice_fits (by omega) hb2)
      rw [hr] at hr2
      simp only [Result.ok.injEq] at hr2
      obtain ⟨rfl, rfl⟩ := hr2
      have hx : Ext w (w.drew.alloc (.cells (xs.toArray ++ news.toArray ++ Builtin.zeroCells z.cells (grownCap w (n + m) cap e - (n + m))) e)) := (ext_drew w).alloc _
      exact ⟨Grew.of_ext hx, fun _ => hx⟩
theorem stepG_append_grew {o : Oper} {a : Act} {w : World} {S : Value → World → Prop} (hgd : o.guard = none) (s x : Operand) (t : TypeId)
    (ho : o.op = .call { callee := .builtin .append, args := #[s, x], argTypes := #[t, t] })
    (base : Nat) (e : TypeId) (i : TypeInfo) (z : Value) (size bytes : Nat) (ht : P.underlying t = some (.slice e)) (hi : P.info? e = some i) (hz : i.zero = some z)
    (hsize : i.size = size) (hby : i.bytes = bytes) (hzs : z.cells.size = size) (hsz : 0 < size)
    (v : Value) (n : Nat) (xs : List Value) (hs : a.eval s = v) (hown : w.ownsRow base e size v n xs)
    (ad : Addr) (m c : Nat) (news : List Value) (hx : a.eval x = .slice (some ad) m c) (hl : news.length = m * size) (hnews : ∀ j u, news[j]? = some u → w.cell? (ad.add j) = some u) (h1 : ∀ u ∈ news, u.oneCell' = true)
    (h63 : n + m ≤ maxLen) (hbytes : (n + m) * bytes ≤ 140737488355328) (hbase : base ≤ w.heap.size)
    (h : ∀ v' w', w'.ownsRow base e size v' (n + m) (xs ++ news) → Grew base (n * size) w w' → ((∀ g cap, v = .slice (some ⟨g, 0, none⟩) n cap → cap < n + m) → Ext w w') → S v' w') : stepG P ops o a w S := by
  obtain ⟨v', w', hr, h2, h3, h4⟩ := run_append_grew (P := P) base t o.type e i z size bytes ht hi hz hsize hby hzs hsz v n xs hown ad m c news hl hnews h1 h63 hbytes hbase
  unfold stepG
  have hw : Region.wanted o (yielded ops a.tmps) = true := by unfold Region.wanted; rw [hgd]
  rw [if_pos hw]
  unfold execOp
  simp only [ho, resolve, invoke, builtin, Sem.run_bind, Sem.run_pure, Result.andThen_ok, List.map_toArray, List.map_cons, List.map_nil, hs, hx, hr]
  exact h v' w' h2 h3 h4
/-- onto a row, of nothing -/
theorem stepG_append_none {o : Oper} {a : Act} {w : World} {S : Value → World → Prop} (hgd : o.guard = none) (s x : Operand) (t : TypeId)
    (ho : o.op = .call { callee := .builtin .append, args := #[s, x], argTypes := #[t, t] })
    (base : Nat) (e : TypeId) (i : TypeInfo) (size : Nat) (ht : P.underlying t = some (.slice e)) (hi : P.info? e = some i)
    (v : Value) (n : Nat) (xs : List Value) (hs : a.eval s = v) (hown : w.ownsRow base e size v n xs) (hx : a.eval x = .slice none 0 0)
    (h : S v w) : stepG P ops o a w S := by
  have hrun := run_append_owned_none (P := P) (w := w) base t o.type e i size ht hi v n xs hown
  unfold stepG
  have hw : Region.wanted o (yielded ops a.tmps) = true := by unfold Region.wanted; rw [hgd]
  rw [if_pos hw]
  unfold execOp
  simp only [ho, resolve, invoke, builtin, Sem.run_bind, Sem.run_pure, Result.andThen_ok, List.map_toArray, List.map_cons, List.map_nil, hs, hx, hrun]
  exact h
end Facts.App
end Go.Proofs.Ytgcibmdohifiaaa

namespace Go.Proofs.Ytgcibmdohifiaaa
set_option linter.unusedSimpArgs false
set_option linter.unusedVariables false
open Go.RowKit
namespace Facts
theorem wp_frame {P : Program} {c : Code} {Q : Exit → Act → World → Prop} {a : Act} {w : World} (h : ∀ A : Act, A = a → Code.wp P c Q A w) : Code.wp P c Q a w := h a rfl
theorem eval_put_same (a : Act) (t : Nat) (v : Value) (h : t < a.tmps.size) : (a.put (some t) v).eval (.tmp t) = v := by
  simp only [Act.put, Act.eval]
  rw [Array.getD_eq_getD_getElem?, Array.getElem?_setIfInBounds_self, if_pos h]; rfl
theorem eval_put_other (a : Act) (d t : Nat) (v : Value) (h : d ≠ t) : (a.put (some d) v).eval (.tmp t) = a.eval (.tmp t) := by
  simp only [Act.put, Act.eval]
  rw [Array.getD_eq_getD_getElem?, Array.getD_eq_getD_getElem?, Array.getElem?_setIfInBounds_ne h]
theorem eval_put_none (a : Act) (v : Value) (o : Operand) : (a.put none v).eval o = a.eval o := rfl
theorem eval_const (a : Act) (v : Value) : a.eval (.const v) = v := rfl
theorem eval_func (a : Act) (f : FuncId) : a.eval (.func f) = .func (.func f) #[] #[] := rfl
theorem size_put (a : Act) (d : Option Tmp) (v : Value) : (a.put d v).tmps.size = a.tmps.size := put_size a d v
end Facts
end Go.Proofs.Ytgcibmdohifiaaa

namespace Go.Proofs.Ytgcibmdohifiaaa
set_option linter.unusedSimpArgs false
set_option linter.unusedVariables false
open Go.RowKit
def findBlock (n : Nat) : Code → Option Code
  | .block i c => if i = n then some (.block i c) else findBlock n c
  | .seq a b => match findBlock n a with
    | some c => some c
    | none => findBlock n b
  | .loop c => findBlock n c
  | .scope c => findBlock n c
  | .cond _ a b => match findBlock n a with
    | some c => some c
    | none => findBlock n b
  | _ => none
def findCond (t : Nat) : Code → Option Code
  | .cond (.tmp i) a b => if i = t then some (.cond (.tmp i) a b) else match findCond t a with
    | some c => some c
    | none => findCond t b
  | .seq a b => match findCond t a with
    | some c => some c
    | none => findCond t b
  | .loop c => findCond t c
  | .scope c => findCond t c
  | .block _ c => findCond t c
  | _ => none
noncomputable def blockOf (f : Func) (n : Nat) : Code := ((f.body.bind (findBlock n)).getD .skip)
noncomputable def condOf (f : Func) (n : Nat) : Code := ((f.body.bind (findCond n)).getD .skip)
end Go.Proofs.Ytgcibmdohifiaaa

namespace Go.Proofs.Ytgcibmdohifiaaa
set_option linter.unusedSimpArgs false
set_option linter.unusedVariables false
open Go.RowKit
def findRegion (n : Nat) : Code → Option Code
  | .region i ops d => if i = n then some (.region i ops d) else none
  | .block _ c => findRegion n c
  | .seq a b => match findRegion n a with
    | some c => some c
    | none => findRegion n b
  | .loop c => findRegion n c
  | .scope c => findRegion n c
  | .cond _ a b => match findRegion n a with
    | some c => some c
    | none => findRegion n b
  | _ => none
noncomputable def regionOf (f : Func) (n : Nat) : Code := ((f.body.bind (findRegion n)).getD .skip)
end Go.Proofs.Ytgcibmdohifiaaa
