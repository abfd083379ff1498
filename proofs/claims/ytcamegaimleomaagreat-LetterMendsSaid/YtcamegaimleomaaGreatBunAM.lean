/-
  WHAT Awake RETURNS: true.
  Apply of the reference.
  ANY MARKS, BY TURNS, plain: what has come of a letter, mark by mark.
  ONE MORE ELEMENT AT THE END OF A COPY (append(append([]T{}, l...), x)): what the steps of such a region leave. Over any element.
  ANY MARKS FOR A LETTER, by turns, and the letter that it becomes: Aloud of the statements.
  BY WAY OF A THIRD LETTER there are no fewer corrections.
  LetterBack: as many corrections back, by way of a third letter no fewer, none just if the letters are the same.
  LetterFewest: by what Fewest returns a letter becomes the other one; no marks that do so have fewer corrections.
  WHAT THE SMALL FUNCTIONS OF THE REFERENCE RETURN: whether a list has a number, ascending numbers, the bits of so many sounds.
  WHAT THE SMALL FUNCTIONS OF THE REFERENCE RETURN: a bit of some bits; the first index of a string; whether a string is a name; whether a name is fresh.
  WHAT Name AND Fresh OF THE REFERENCE RETURN, for any string: the same as that of ear.
-/
import Derived.Test.YtcamegaimleomaaGreatBunAL
import Derived.Test.YtcamegaimleomaaGreatBunAJ
import Derived.Test.YtcamegaimleomaaGreatBunAK
import Derived.Test.YtcamegaimleomaaGreatBunAD
import Derived.Test.YtcamegaimleomaaGreatBunAH
import Derived.Test.YtcamegaimleomaaGreatBunAI
namespace Go.Proofs.YtcamegaimleomaaGreat
set_option linter.unusedSimpArgs false
set_option linter.unusedVariables false
open Go.RowKit
set_option linter.unusedVariables false

theorem lawMarks_any (w : World) : Calls Tryz.prog 52 #[] w fun e w' => (∃ a c, e = .returned (.slice a marksE.length c) ∧ MarksAt w' (.slice a marksE.length c) marksE) ∧ Ext w w' := by
  go_enter Tryz.func52, Tryz.ntmps52
  go_wp2
  go_ret
  refine ⟨⟨_, _, rfl, _, _, rfl, Nat.le_refl _, by decide, fun i hi => ⟨_, _, rfl, ?_⟩⟩, ext_alloc _ _⟩
  have : i = 0 ∨ i = 1 ∨ i = 2 ∨ i = 3 ∨ i = 4 ∨ i = 5 ∨ i = 6 := by simp [marksE] at hi; omega
  have hk : ∀ k : Int, 0 ≤ k ∧ k ≤ 4 → I64 k := fun k h => ⟨by omega, by omega⟩
  rcases this with rfl | rfl | rfl | rfl | rfl | rfl | rfl
  all_goals exact ⟨by simp [go_sem, marksE], by simp [go_sem, marksE, noW, wFor]; first | done | rfl, hk _ (by simp [marksE]), by simp [marksE]; decide⟩
def slA : Value → Option Addr
  | .slice a _ _ => a
  | _ => none
def slC : Value → Nat
  | .slice _ _ c => c
  | _ => 0
theorem SliceAt.form {α : Type} {sz : Nat} {R : World → Nat → Nat → α → Prop} {w : World} {v : Value} {l : List α} (h : SliceAt sz R w v l) : v = .slice (slA v) l.length (slC v) := by
  obtain ⟨a, c, rfl, -⟩ := h.shape
  rfl
theorem FillsAt.twoAt {w : World} {u v : Value} {l m : List ByteArray} {t : TypeId} {B : Nat} (hB : w.heap.size = B) (h : StrsAt w u l) (h' : StrsAt w v m) : FillsAt (w.alloc (.cells #[u, v] t)) (.slice (some ⟨B, 0, none⟩) 2 2) [l, m] := by
  subst hB
  refine ⟨_, _, rfl, Nat.le_refl _, by omega, fun i hi => ?_⟩
  have : i = 0 ∨ i = 1 := by simp at hi; omega
  rcases this with rfl | rfl
  · exact ⟨_, _, rfl, _, by simp [go_sem], h.ext (ext_alloc _ _)⟩
  · exact ⟨_, _, rfl, _, by simp [go_sem], h'.ext (ext_alloc _ _)⟩
def fstV : Value → Value
  | .tuple a => a.getD 0 undef
  | _ => undef
/-- a letter and no error -/
def TupL (l : List ByteArray) (u : Value) (w : World) : Prop := u = .tuple #[fstV u, .int .i64 0] ∧ StrsAt w (fstV u) l
theorem TupL.ext {l : List ByteArray} {u : Value} {w w' : World} (h : TupL l u w) (hx : Ext w w') : TupL l u w' := ⟨h.1, h.2.ext hx⟩
def TupI (l : List Int) (u : Value) (w : World) : Prop := u = .tuple #[fstV u, .int .i64 0] ∧ IntsAt w (fstV u) l
theorem TupI.ext {l : List Int} {u : Value} {w w' : World} (h : TupI l u w) (hx : Ext w w') : TupI l u w' := ⟨h.1, h.2.ext hx⟩
def TupF (l : List (List ByteArray)) (n : Nat) (u : Value) (w : World) : Prop := u = .tuple #[fstV u, .int .i64 n, .int .i64 0] ∧ FillsAt w (fstV u) l
theorem TupF.ext {l : List (List ByteArray)} {n : Nat} {u : Value} {w w' : World} (h : TupF l n u w) (hx : Ext w w') : TupF l n u w' := ⟨h.1, h.2.ext hx⟩

set_option maxRecDepth 100000 in
set_option maxHeartbeats 20000000 in
theorem awakeL_any (w : World) : Calls Tryz.prog 14 #[] w fun e w' => e = .returned (.bool true) ∧ Ext w w' := by
  have hshelf := fun w => Shelf_any w
  have hS : shelfE.forms.length = 3 := rfl
  obtain ⟨S, hSS⟩ : ∃ S, S = shelfE := ⟨_, rfl⟩
  have HMK := Lib.hid e_make
  have HBU := Lib.hid e_built
  have HOC := Lib.hid e_ofC
  have HEC := Lib.hid e_errC
  have HFC := Lib.hid e_fillC
  have HEA := Lib.hid e_errA
  have HTA := Lib.hid e_textA
  have HRA := Lib.hid e_readA
  have HM2 := Lib.hid e_mend2
  have HME2 := Lib.hid e_mendE2
  have HN := Lib.hid e_near
  have HNE := Lib.hid e_nearE
  have HRB := Lib.hid e_readB
  have HRW := Lib.hid e_readW
  have HME3 := Lib.hid e_mendE3
  rw [← hSS] at hS HMK HBU HOC HEC HFC HEA HTA HRA HM2 HME2 HN HNE HRB HRW HME3
  simp only [← hSS] at hshelf
  clear hSS
  have HS := Lib.hid hS
  clear hS
  go_enter Tryz.func14, Tryz.ntmps14
  go_wp2_with fail
  refine (hshelf _).mono ?_
  rintro e w1 ⟨v, rfl, hb, x1⟩
  clear hshelf
  obtain ⟨fa, fc, rfl, -⟩ := hb.open
  rw [HS.out] at hb ⊢
  obtain ⟨q0, q1⟩ : (w1.alloc (.cells #[.int .i64 S.width, .slice fa 3 fc] 24)).cell? ⟨w1.heap.size, 0, none⟩ = some (.int .i64 S.width) ∧ (w1.alloc (.cells #[.int .i64 S.width, .slice fa 3 fc] 24)).cell? ⟨w1.heap.size, 1, none⟩ = some (.slice fa 3 fc) := ⟨by simp [go_sem], by simp [go_sem]⟩
  go_wp2_with fail
  obtain ⟨W, hW⟩ : ∃ W, W = w1.alloc (.cells #[.int .i64 S.width, .slice fa 3 fc] 24) := ⟨_, rfl⟩
  replace hb := hb.ext (ext_alloc w1 (.cells #[.int .i64 S.width, .slice fa 3 fc] 24))
  replace x1 : Ext w W := by rw [hW]; exact x1.alloc _
  rw [← hW] at hb q0 q1 ⊢
  clear hW
  refine (words_any _ letA (by kernel_rfl) (by decide) _).mono ?_
  rintro e w2 ⟨⟨Aa, Ac, rfl, hA, -⟩, hx⟩
  replace hb := hb.ext hx
  replace q0 := hx.cell q0
  replace q1 := hx.cell q1
  replace x1 := x1.trans hx
  clear hx
  go_wp2_with fail
  refine (words_any _ letB (by kernel_rfl) (by decide) _).mono ?_
  rintro e w3 ⟨⟨Ba, Bc, rfl, hB, -⟩, hx⟩
  replace hA := hA.ext hx
  replace hb := hb.ext hx
  replace q0 := hx.cell q0
  replace q1 := hx.cell q1
  replace x1 := x1.trans hx
  clear hx
  -- Make
  go_wp2_with fail
  apply Facts.wp_region [.val (.agg #[.int .i64 S.width, .slice fa 3 fc]), .fact (fun u w => StrsAt w u [wJudge]), .fact (fun u w => StrsAt w u [wMercy]), .fact (fun u w => FillsAt w u [[wJudge], [wMercy]]), .fact (TupL letA), .fact (TupL letA), .fact (fun u w => StrsAt w u letA), .val (.int .i64 0), .fact (fun u w => StrsAt w u letA), .val (.int .i64 0)] (by kernel_rfl) (by kernel_rfl) ⟨fun u a c hx h => StrsAt.ext h hx, fun u a c hx h => StrsAt.ext h hx, fun u a c hx h => FillsAt.ext h hx, fun u a c hx h => TupL.ext h hx, fun u a c hx h => TupL.ext h hx, fun u a c hx h => StrsAt.ext h hx, fun u a c hx h => StrsAt.ext h hx, trivial⟩ ?main
  case main =>
    iterate 1 (refine ⟨fun w1 hx hh => ?_, ?_⟩; focus (clear hh; have f0 := hx.cell q0; have f1 := hx.cell q1; go_simp; first | exact ⟨Ext.refl _, rfl⟩ | exact Ext.refl _))
    refine ⟨fun w1 hx hh => ?_, ?_⟩
    · clear hh
      go_simp
      refine (words_any _ [wJudge] (by kernel_rfl) (by decide) _).mono ?_
      rintro e w' ⟨⟨a, c, rfl, h, -⟩, hx⟩
      exact ⟨_, rfl, hx, h⟩
    intro u1
    refine ⟨fun w1 hx hh => ?_, ?_⟩
    · clear hh
      go_simp
      refine (words_any _ [wMercy] (by kernel_rfl) (by decide) _).mono ?_
      rintro e w' ⟨⟨a, c, rfl, h, -⟩, hx⟩
      exact ⟨_, rfl, hx, h⟩
    intro u2
    refine ⟨fun w1 hx hh => ?_, ?_⟩
    · have h1 : StrsAt w1 u1 [wJudge] := hh 1 _ (List.mem_cons_of_mem _ List.mem_cons_self) (by kernel_rfl)
      have h2 : StrsAt w1 u2 [wMercy] := hh 2 _ List.mem_cons_self (by kernel_rfl)
      clear hh
      have hF := FillsAt.twoAt (t := 25) rfl h1 h2
      have e1 := h1.form
      have e2 := h2.form
      rw [e1, e2] at hF ⊢
      clear e1 e2 h1 h2
      generalize slA u1 = a1 at *
      generalize slC u1 = c1 at *
      generalize slA u2 = a2 at *
      generalize slC u2 = c2 at *
      have HF := Lib.hid hF
      clear hF
      go_simp
      exact ⟨ext_alloc _ _, HF.out⟩
    intro u3
    refine ⟨fun w1 hx hh => ?_, ?_⟩
    · have h1 : FillsAt w1 u3 [[wJudge], [wMercy]] := hh 3 _ List.mem_cons_self (by kernel_rfl)
      have hx2 := hx
      clear hh
      go_simp
      refine (make_any _ _ S 0 (by constructor <;> decide) _ _ (hb.ext hx2) h1).mono ?_
      rw [HMK.out, HBU.out]
      rintro e w' ⟨u, rfl, ⟨v, rfl, hv, -⟩, hx⟩
      exact ⟨_, rfl, hx, ⟨rfl, hv rfl⟩⟩
    intro u4
    (refine ⟨fun w1 hx hh => ?_, ?_⟩; focus (have h4 : TupL letA u4 w1 := hh 4 _ List.mem_cons_self (by kernel_rfl); clear hh; go_simp; first | exact ⟨Ext.refl _, h4⟩ | exact Ext.refl _))
    intro u5
    (refine ⟨fun w1 hx hh => ?_, ?_⟩; focus (have h5 : TupL letA u5 w1 := hh 5 _ List.mem_cons_self (by kernel_rfl); have e := h5.1; have hs := h5.2; clear hh h5; generalize fstV u5 = f5 at *; subst e; go_simp; first | exact ⟨Ext.refl _, hs⟩ | exact ⟨Ext.refl _, rfl⟩ | exact Ext.refl _))
    intro u6
    (refine ⟨fun w1 hx hh => ?_, ?_⟩; focus (have h5 : TupL letA u5 w1 := hh 5 _ (List.mem_cons_of_mem _ List.mem_cons_self) (by kernel_rfl); have e := h5.1; have hs := h5.2; clear hh h5; generalize fstV u5 = f5 at *; subst e; go_simp; first | exact ⟨Ext.refl _, hs⟩ | exact ⟨Ext.refl _, rfl⟩ | exact Ext.refl _))
    (refine ⟨fun w1 hx hh => ?_, ?_⟩; focus (have h6 : (fun w => StrsAt w u6 letA) w1 := hh 6 _ List.mem_cons_self (by kernel_rfl); clear hh; go_simp; first | exact ⟨Ext.refl _, h6⟩ | exact Ext.refl _))
    intro u8
    iterate 1 (refine ⟨fun w1 hx hh => ?_, ?_⟩; focus (clear hh; skip; go_simp; first | exact ⟨Ext.refl _, rfl⟩ | exact Ext.refl _))
    intro w4 hx hh
    have hMade : StrsAt w4 u8 letA := hh 8 _ List.mem_cons_self
    clear hh
    replace hA := hA.ext hx
    replace hB := hB.ext hx
    replace hb := hb.ext hx
    replace q0 := hx.cell q0
    replace q1 := hx.cell q1
    replace x1 := x1.trans hx
    clear hx
    have eM := hMade.form
    generalize slA u8 = ma at *
    generalize slC u8 = mc at *
    subst eM
    go_simp
    go_wp2_with fail
    -- Of
    apply Facts.wp_region [.val (.agg #[.int .i64 S.width, .slice fa 3 fc]), .fact (fun u w => StrsAt w u letC), .fact (TupI [2]), .fact (TupI [2]), .fact (fun u w => IntsAt w u [2]), .val (.int .i64 0), .fact (fun u w => IntsAt w u [2]), .val (.int .i64 0)] (by kernel_rfl) (by kernel_rfl) ⟨fun u a c hx h => StrsAt.ext h hx, fun u a c hx h => TupI.ext h hx, fun u a c hx h => TupI.ext h hx, fun u a c hx h => IntsAt.ext h hx, fun u a c hx h => IntsAt.ext h hx, trivial⟩ ?main
    case main =>
    iterate 1 (refine ⟨fun w1 hx hh => ?_, ?_⟩; focus (clear hh; have f0 := hx.cell q0; have f1 := hx.cell q1; go_simp; first | exact ⟨Ext.refl _, rfl⟩ | exact Ext.refl _))
    refine ⟨fun w1 hx hh => ?_, ?_⟩
    · clear hh
      go_simp
      refine (words_any _ letC (by kernel_rfl) (by decide) _).mono ?_
      rintro e w' ⟨⟨a, c, rfl, h, -⟩, hx⟩
      exact ⟨_, rfl, hx, h⟩
    intro uc1
    refine ⟨fun w1 hx hh => ?_, ?_⟩
    · have h1 : StrsAt w1 uc1 letC := hh 1 _ List.mem_cons_self (by kernel_rfl)
      have hx2 := hx
      clear hh
      go_simp
      refine (of_any _ _ S letC _ (hb.ext hx2) h1).mono ?_
      rw [HOC.out, HEC.out]
      rintro e w' ⟨u, rfl, ⟨v, rfl, hv, -⟩, hx⟩
      exact ⟨_, rfl, hx, ⟨rfl, hv rfl⟩⟩
    intro uc2
    (refine ⟨fun w1 hx hh => ?_, ?_⟩; focus (have h4 : TupI [2] uc2 w1 := hh 2 _ List.mem_cons_self (by kernel_rfl); clear hh; go_simp; first | exact ⟨Ext.refl _, h4⟩ | exact Ext.refl _))
    intro uc3
    (refine ⟨fun w1 hx hh => ?_, ?_⟩; focus (have h5 : TupI [2] uc3 w1 := hh 3 _ List.mem_cons_self (by kernel_rfl); have e := h5.1; have hs := h5.2; clear hh h5; generalize fstV uc3 = f5 at *; subst e; go_simp; first | exact ⟨Ext.refl _, hs⟩ | exact ⟨Ext.refl _, rfl⟩ | exact Ext.refl _))
    intro uc4
    (refine ⟨fun w1 hx hh => ?_, ?_⟩; focus (have h5 : TupI [2] uc3 w1 := hh 3 _ (List.mem_cons_of_mem _ List.mem_cons_self) (by kernel_rfl); have e := h5.1; have hs := h5.2; clear hh h5; generalize fstV uc3 = f5 at *; subst e; go_simp; first | exact ⟨Ext.refl _, hs⟩ | exact ⟨Ext.refl _, rfl⟩ | exact Ext.refl _))
    (refine ⟨fun w1 hx hh => ?_, ?_⟩; focus (have h6 : (fun w => IntsAt w uc4 [2]) w1 := hh 4 _ List.mem_cons_self (by kernel_rfl); clear hh; go_simp; first | exact ⟨Ext.refl _, h6⟩ | exact Ext.refl _))
    intro uc6
    iterate 1 (refine ⟨fun w1 hx hh => ?_, ?_⟩; focus (clear hh; skip; go_simp; first | exact ⟨Ext.refl _, rfl⟩ | exact Ext.refl _))
    intro w5 hx hh
    have hOf : IntsAt w5 uc6 [2] := hh 6 _ List.mem_cons_self
    clear hh
    replace hMade := hMade.ext hx
    replace hA := hA.ext hx
    replace hB := hB.ext hx
    replace hb := hb.ext hx
    replace q0 := hx.cell q0
    replace q1 := hx.cell q1
    replace x1 := x1.trans hx
    clear hx
    have eM := hOf.form
    generalize slA uc6 = oa at *
    generalize slC uc6 = oc at *
    subst eM
    go_simp
    go_wp2_with fail
    -- Fills
    apply Facts.wp_region [.val (.agg #[.int .i64 S.width, .slice fa 3 fc]), .fact (fun u w => StrsAt w u letC), .fact (TupF [[wA], [wB, wC]] 2), .fact (TupF [[wA], [wB, wC]] 2), .fact (fun u w => FillsAt w u [[wA], [wB, wC]]), .val (.int .i64 2), .val (.int .i64 0), .fact (fun u w => FillsAt w u [[wA], [wB, wC]]), .val (.int .i64 2), .val (.int .i64 0)] (by kernel_rfl) (by kernel_rfl) ⟨fun u a c hx h => StrsAt.ext h hx, fun u a c hx h => TupF.ext h hx, fun u a c hx h => TupF.ext h hx, fun u a c hx h => FillsAt.ext h hx, fun u a c hx h => FillsAt.ext h hx, trivial⟩ ?main
    case main =>
    iterate 1 (refine ⟨fun w1 hx hh => ?_, ?_⟩; focus (clear hh; have f0 := hx.cell q0; have f1 := hx.cell q1; go_simp; first | exact ⟨Ext.refl _, rfl⟩ | exact Ext.refl _))
    refine ⟨fun w1 hx hh => ?_, ?_⟩
    · clear hh
      go_simp
      refine (words_any _ letC (by kernel_rfl) (by decide) _).mono ?_
      rintro e w' ⟨⟨a, c, rfl, h, -⟩, hx⟩
      exact ⟨_, rfl, hx, h⟩
    intro ud1
    refine ⟨fun w1 hx hh => ?_, ?_⟩
    · have h1 : StrsAt w1 ud1 letC := hh 1 _ List.mem_cons_self (by kernel_rfl)
      have hx2 := hx
      clear hh
      go_simp
      refine (Fills_any _ _ S 2 (by constructor <;> decide) letC _ (hb.ext hx2) h1).mono ?_
      rw [HFC.out]
      rintro e w' ⟨u, rfl, hv, hx⟩
      exact ⟨_, rfl, hx, ⟨rfl, hv⟩⟩
    intro ud2
    (refine ⟨fun w1 hx hh => ?_, ?_⟩; focus (have h4 : TupF [[wA], [wB, wC]] 2 ud2 w1 := hh 2 _ List.mem_cons_self (by kernel_rfl); clear hh; go_simp; first | exact ⟨Ext.refl _, h4⟩ | exact Ext.refl _))
    intro ud3
    (refine ⟨fun w1 hx hh => ?_, ?_⟩; focus (have h5 : TupF [[wA], [wB, wC]] 2 ud3 w1 := hh 3 _ List.mem_cons_self (by kernel_rfl); have e := h5.1; have hs := h5.2; clear hh h5; generalize fstV ud3 = f5 at *; subst e; go_simp; first | exact ⟨Ext.refl _, hs⟩ | exact ⟨Ext.refl _, rfl⟩ | exact Ext.refl _))
    intro ud4
    (refine ⟨fun w1 hx hh => ?_, ?_⟩; focus (have h5 : TupF [[wA], [wB, wC]] 2 ud3 w1 := hh 3 _ (List.mem_cons_of_mem _ List.mem_cons_self) (by kernel_rfl); have e := h5.1; have hs := h5.2; clear hh h5; generalize fstV ud3 = f5 at *; subst e; go_simp; first | exact ⟨Ext.refl _, hs⟩ | exact ⟨Ext.refl _, rfl⟩ | exact Ext.refl _))
    (refine ⟨fun w1 hx hh => ?_, ?_⟩; focus (have h5 : TupF [[wA], [wB, wC]] 2 ud3 w1 := hh 3 _ (List.mem_cons_of_mem _ List.mem_cons_self) (by kernel_rfl); have e := h5.1; have hs := h5.2; clear hh h5; generalize fstV ud3 = f5 at *; subst e; go_simp; first | exact ⟨Ext.refl _, hs⟩ | exact ⟨Ext.refl _, rfl⟩ | exact Ext.refl _))
    (refine ⟨fun w1 hx hh => ?_, ?_⟩; focus (have h6 : (fun w => FillsAt w ud4 [[wA], [wB, wC]]) w1 := hh 4 _ List.mem_cons_self (by kernel_rfl); clear hh; go_simp; first | exact ⟨Ext.refl _, h6⟩ | exact Ext.refl _))
    intro ud7
    iterate 2 (refine ⟨fun w1 hx hh => ?_, ?_⟩; focus (clear hh; skip; go_simp; first | exact ⟨Ext.refl _, rfl⟩ | exact Ext.refl _))
    intro w6 hx hh
    have hFi : FillsAt w6 ud7 [[wA], [wB, wC]] := hh 7 _ List.mem_cons_self
    clear hh
    replace hMade := hMade.ext hx
    replace hOf := hOf.ext hx
    replace hA := hA.ext hx
    replace hB := hB.ext hx
    replace hb := hb.ext hx
    replace q0 := hx.cell q0
    replace q1 := hx.cell q1
    replace x1 := x1.trans hx
    clear hx
    have eM := hFi.form
    generalize slA ud7 = ia at *
    generalize slC ud7 = ic at *
    subst eM
    go_simp
    go_wp2_with fail
    -- Write
    refine (write_any _ _ S letA _ hb hA).mono ?_
    rw [HTA.out, HEA.out]
    unfold textA
    rintro e w7 ⟨rfl, hx⟩
    replace hA := hA.ext hx
    replace hB := hB.ext hx
    replace hb := hb.ext hx
    replace q0 := hx.cell q0
    replace q1 := hx.cell q1
    replace x1 := x1.trans hx
    replace hMade := hMade.ext hx
    replace hOf := hOf.ext hx
    replace hFi := hFi.ext hx
    clear hx
    go_wp2_with fail
    -- Read
    refine (read_any _ S textA (by decide) _ hb).mono ?_
    rw [HRA.out]
    rintro e w8 ⟨u, rfl, ⟨v, rfl, hRead, -⟩, hx⟩
    replace hA := hA.ext hx
    replace hB := hB.ext hx
    replace hb := hb.ext hx
    replace q0 := hx.cell q0
    replace q1 := hx.cell q1
    replace x1 := x1.trans hx
    replace hMade := hMade.ext hx
    replace hOf := hOf.ext hx
    replace hFi := hFi.ext hx
    clear hx
    obtain ⟨ra, rc, rfl, -⟩ := hRead.shape
    simp only at hRead
    go_wp2_with fail
    -- Fewest
    refine (Fewest_any _ _ letA letB _ hA hB).mono ?_
    rw [e_fewE, e_fewM, e_fewN]
    rintro e w9 ⟨v, rfl, hFew, hx⟩
    replace hA := hA.ext hx
    replace hB := hB.ext hx
    replace hb := hb.ext hx
    replace q0 := hx.cell q0
    replace q1 := hx.cell q1
    replace x1 := x1.trans hx
    replace hMade := hMade.ext hx
    replace hOf := hOf.ext hx
    replace hFi := hFi.ext hx
    replace hRead := hRead.ext hx
    clear hx
    obtain ⟨ka, kc, rfl, -⟩ := hFew.shape
    go_wp2_with fail
    -- marks, Apply
    refine (lawMarks_any _).mono ?_
    rintro e w10 ⟨⟨na, nc, rfl, hMk⟩, hx⟩
    replace hA := hA.ext hx
    replace hB := hB.ext hx
    replace hb := hb.ext hx
    replace q0 := hx.cell q0
    replace q1 := hx.cell q1
    replace x1 := x1.trans hx
    replace hMade := hMade.ext hx
    replace hOf := hOf.ext hx
    replace hFi := hFi.ext hx
    replace hRead := hRead.ext hx
    replace hFew := hFew.ext hx
    clear hx
    go_wp2_with fail
    refine (Apply_any _ _ letA marksE _ hA hMk).mono ?_
    rw [e_apply]
    rintro e w11 ⟨v, rfl, hNow', hx⟩
    have hNow : StrsAt w11 v letB := hNow'.at_ (by decide +kernel)
    replace hA := hA.ext hx
    replace hB := hB.ext hx
    replace hb := hb.ext hx
    replace q0 := hx.cell q0
    replace q1 := hx.cell q1
    replace x1 := x1.trans hx
    replace hMade := hMade.ext hx
    replace hOf := hOf.ext hx
    replace hFi := hFi.ext hx
    replace hRead := hRead.ext hx
    replace hFew := hFew.ext hx
    clear hx hNow' hMk
    obtain ⟨pa, pc, rfl, -⟩ := hNow.shape
    go_wp2_with fail
    -- Mend
    refine (Mend_any _ _ S 2 (by constructor <;> decide) letA _ hb hA).mono ?_
    rw [HM2.out, HME2.out]
    rintro e w12 ⟨rfl, hx⟩
    replace hA := hA.ext hx
    replace hB := hB.ext hx
    replace hb := hb.ext hx
    replace q0 := hx.cell q0
    replace q1 := hx.cell q1
    replace x1 := x1.trans hx
    replace hMade := hMade.ext hx
    replace hOf := hOf.ext hx
    replace hFi := hFi.ext hx
    replace hRead := hRead.ext hx
    replace hFew := hFew.ext hx
    replace hNow := hNow.ext hx
    clear hx
    go_wp2_with fail
    -- Nearest
    refine (Nearest_any _ _ S letA _ hb hA).mono ?_
    rw [HN.out, HNE.out]
    rintro e w13 ⟨rfl, hx⟩
    replace hA := hA.ext hx
    replace hB := hB.ext hx
    replace hb := hb.ext hx
    replace q0 := hx.cell q0
    replace q1 := hx.cell q1
    replace x1 := x1.trans hx
    replace hMade := hMade.ext hx
    replace hOf := hOf.ext hx
    replace hFi := hFi.ext hx
    replace hRead := hRead.ext hx
    replace hFew := hFew.ext hx
    replace hNow := hNow.ext hx
    clear hx
    go_wp2_with fail
    -- Read
    refine (read_any _ S textB (by decide) _ hb).mono ?_
    rintro e w14 ⟨u, rfl, ⟨v, rfl, -, -⟩, hx⟩
    rw [HRB.out]
    replace hA := hA.ext hx
    replace hB := hB.ext hx
    replace hb := hb.ext hx
    replace q0 := hx.cell q0
    replace q1 := hx.cell q1
    replace x1 := x1.trans hx
    replace hMade := hMade.ext hx
    replace hOf := hOf.ext hx
    replace hFi := hFi.ext hx
    replace hRead := hRead.ext hx
    replace hFew := hFew.ext hx
    replace hNow := hNow.ext hx
    clear hx
    go_wp2_with fail
    refine (read_any _ S textW (by decide) _ hb).mono ?_
    rintro e w15 ⟨u2, rfl, ⟨v2, rfl, -, -⟩, hx⟩
    rw [HRW.out]
    replace hA := hA.ext hx
    replace hB := hB.ext hx
    replace hb := hb.ext hx
    replace q0 := hx.cell q0
    replace q1 := hx.cell q1
    replace x1 := x1.trans hx
    replace hMade := hMade.ext hx
    replace hOf := hOf.ext hx
    replace hFi := hFi.ext hx
    replace hRead := hRead.ext hx
    replace hFew := hFew.ext hx
    replace hNow := hNow.ext hx
    clear hx
    go_wp2_with fail
    refine (Mend_any _ _ S 3 (by constructor <;> decide) letA _ hb hA).mono ?_
    rw [HME3.out]
    rintro e w16 ⟨rfl, hx⟩
    replace hA := hA.ext hx
    replace hB := hB.ext hx
    replace hb := hb.ext hx
    replace q0 := hx.cell q0
    replace q1 := hx.cell q1
    replace x1 := x1.trans hx
    replace hMade := hMade.ext hx
    replace hOf := hOf.ext hx
    replace hFi := hFi.ext hx
    replace hRead := hRead.ext hx
    replace hFew := hFew.ext hx
    replace hNow := hNow.ext hx
    clear hx hb q0 q1
    generalize mendM S 3 letA = many3
    go_wp2_with fail
    refine (same_any _ _ letA letA _ hMade hA).mono ?_
    rw [decide_eq_true rfl]
    rintro e w17 ⟨rfl, hx⟩
    replace hA := hA.ext hx
    replace hB := hB.ext hx
    replace hOf := hOf.ext hx
    replace hFi := hFi.ext hx
    replace hRead := hRead.ext hx
    replace hFew := hFew.ext hx
    replace hNow := hNow.ext hx
    replace x1 := x1.trans hx
    clear hx hMade
    go_wp2_with fail
    refine (ints_any _ _ [2] [2] _ (hOf.ext (ext_alloc _ _)) (IntsAt.oneAt (n := 2) (by simp) (by decide))).mono ?_
    rw [show decide (([2] : List Int) = [2]) = true from rfl]
    rintro e w18 ⟨rfl, hx'⟩
    have hx := hx'.of_alloc
    replace hA := hA.ext hx
    replace hB := hB.ext hx
    replace hFi := hFi.ext hx
    replace hRead := hRead.ext hx
    replace hFew := hFew.ext hx
    replace hNow := hNow.ext hx
    replace x1 := x1.trans hx
    clear hx hx' hOf
    go_wp2_with fail
    refine (words_any _ [wA] (by kernel_rfl) (by decide) _).mono ?_
    rintro e w19 ⟨⟨ta, tc, rfl, h1, -⟩, hx⟩
    replace hA := hA.ext hx
    replace hB := hB.ext hx
    replace hFi := hFi.ext hx
    replace hRead := hRead.ext hx
    replace hFew := hFew.ext hx
    replace hNow := hNow.ext hx
    replace x1 := x1.trans hx
    clear hx
    go_wp2_with fail
    refine (words_any _ [wB, wC] (by kernel_rfl) (by decide) _).mono ?_
    rintro e w20 ⟨⟨sa, sc, rfl, h2, -⟩, hx⟩
    replace hA := hA.ext hx
    replace hB := hB.ext hx
    replace hFi := hFi.ext hx
    replace hRead := hRead.ext hx
    replace hFew := hFew.ext hx
    replace hNow := hNow.ext hx
    replace x1 := x1.trans hx
    replace h1 := h1.ext hx
    clear hx
    go_wp2_with fail
    refine (sames_any _ _ [[wA], [wB, wC]] [[wA], [wB, wC]] _ (hFi.ext (ext_alloc _ _)) (FillsAt.twoAt rfl h1 h2)).mono ?_
    rw [decide_eq_true rfl]
    rintro e w21 ⟨rfl, hx'⟩
    have hx := hx'.of_alloc
    clear hx' hFi h1 h2
    replace hA := hA.ext hx
    replace hB := hB.ext hx
    replace hRead := hRead.ext hx
    replace hFew := hFew.ext hx
    replace hNow := hNow.ext hx
    replace x1 := x1.trans hx
    clear hx
    go_wp2_with fail
    refine (same_any _ _ letA letA _ hRead hA).mono ?_
    rw [decide_eq_true rfl]
    rintro e w22 ⟨rfl, hx⟩
    replace hA := hA.ext hx
    replace hB := hB.ext hx
    replace hRead := hRead.ext hx
    replace hFew := hFew.ext hx
    replace hNow := hNow.ext hx
    replace x1 := x1.trans hx
    clear hx
    clear hRead hA
    go_wp2_with fail
    refine (lawMarks_any _).mono ?_
    rintro e w23 ⟨⟨na, nc, rfl, hMk⟩, hx⟩
    replace hB := hB.ext hx
    replace hFew := hFew.ext hx
    replace hNow := hNow.ext hx
    replace x1 := x1.trans hx
    clear hx
    go_wp2_with fail
    refine (equal_any _ _ marksE marksE _ hFew hMk).mono ?_
    rw [decide_eq_true rfl]
    rintro e w24 ⟨rfl, hx⟩
    replace hB := hB.ext hx
    replace hNow := hNow.ext hx
    replace x1 := x1.trans hx
    clear hx hFew hMk
    go_wp2_with fail
    refine (same_any _ _ letB letB _ hNow hB).mono ?_
    rw [decide_eq_true rfl]
    rintro e w25 ⟨rfl, hx⟩
    replace x1 := x1.trans hx
    clear hx hNow hB
    go_wp2
    go_ret
    exact ⟨rfl, x1⟩
end Go.Proofs.YtcamegaimleomaaGreat

namespace Go.Proofs.YtcamegaimleomaaGreat
set_option linter.unusedSimpArgs false
set_option linter.unusedVariables false
open Go.RowKit
set_option linter.unusedVariables false

/-- words and a number -/
def TupE (l : List ByteArray) (er : Int) (u : Value) (w : World) : Prop := u = .tuple #[fstV u, .int .i64 er] ∧ StrsAt w (fstV u) l
theorem TupE.ext {l : List ByteArray} {er : Int} {u : Value} {w w' : World} (h : TupE l er u w) (hx : Ext w w') : TupE l er u w' := ⟨h.1, h.2.ext hx⟩
theorem rowW_shape {base : Nat} {l : List ByteArray} {u : Value} {w : World} (h : RowW base l u w) : ∃ a c, u = .slice a l.length c := by
  rcases h.2 with ⟨rfl, hn⟩ | ⟨g, cap, cur, rfl, -⟩
  · exact ⟨_, _, by rw [hn]⟩
  · exact ⟨_, _, rfl⟩
theorem rowW_weaken {base b2 : Nat} {l : List ByteArray} {u : Value} {w : World} (h : RowW base l u w) (hb : b2 ≤ base) : RowW b2 l u w := by
  refine ⟨h.1, ?_⟩
  rcases h.2 with h1 | ⟨g, cap, cur, e, h2, h3⟩
  · exact .inl h1
  · exact .inr ⟨g, cap, cur, e, Nat.le_trans hb h2, h3⟩
theorem markW_len (m : Mark) (l : List ByteArray) : (markW m l).length ≤ 1 := by
  unfold markW
  split
  · unfold becM
    split <;> simp
    omega
  · simp
set_option maxRecDepth 100000 in
set_option maxHeartbeats 4000000 in
theorem refApply_any (lv mv : Value) (l : List ByteArray) (ms : List Mark) (w : World) (hl : StrsAt w lv l) (hm : MarksAt w mv ms) :
    Calls Tryz.prog 19 #[lv, mv] w fun e w' => ∃ u, e = .returned (.tuple #[u, .int .i64 (applyM ms l).err]) ∧ RowW w.heap.size (applyM ms l).words u w' ∧ Ext w w' := by
  obtain ⟨ma, mc, rfl, hmc, hmm⟩ := hm.shape
  obtain ⟨la, lc, rfl, hlc, hlm⟩ := hl.shape
  obtain ⟨i0, hi, hz0, hz1, hz2⟩ := info_parts infoString
  obtain ⟨R, hR⟩ : ∃ R, applyM ms l = R := ⟨_, rfl⟩
  obtain ⟨F, ee⟩ := R
  rw [hR]
  have HR := Lib.hid hR
  clear hR
  simp only
  go_enter Tryz.func19, Tryz.ntmps19
  go_wp2_with fail
  refine (refLett_any _ l _ hl).mono ?_
  rintro e w1 ⟨rfl, hx⟩
  have x1 : Ext w w1 := hx
  replace hl := hl.ext hx
  replace hm := hm.ext hx
  clear hx
  obtain ⟨le, hle⟩ : ∃ le, letterErrL l = le := ⟨_, rfl⟩
  rw [hle]
  have Hle := Lib.hid hle
  clear hle
  by_cases h0 : le = 0
  · subst h0
    by_cases h30 : 30 < ms.length
    · have hR2 : (⟨[], 3⟩ : MarkedR) = ⟨F, ee⟩ := by
        have := HR.out
        unfold applyM at this
        rw [if_neg (by rw [Hle.out]; simp), if_pos h30] at this
        exact this
      obtain ⟨rfl, rfl⟩ := MarkedR.mk.inj hR2
      have h30' : (30 : Int) < (ms.length : Int) := by omega
      have k1 : (0 : Int) < (ms.length : Int) := by omega
      clear hR2 HR Hle h30
      go_wp2_with fail
      go_loopw [6, 7, 8, 9] (fun ev ov av iv wr => ev = .int .i64 3 ∧ ov = .slice none 0 0 ∧ av = .int .i64 0 ∧ iv = .int .i64 0 ∧ wr = w1) (fun _ _ _ _ _ => 0)
      case atStart => exact ⟨rfl, rfl, rfl, rfl, rfl⟩
      case round =>
        obtain ⟨rfl, rfl, rfl, rfl, rfl⟩ := hrel
        go_wp2
        go_ret2
        exact ⟨_, rfl, RowW.nil, x1⟩
    · have h30' : ¬ (30 : Int) < (ms.length : Int) := by omega
      have l15 := (lettErr_ok Hle.out).1
      go_wp2_with fail
      go_loopw [6, 7, 8, 9] (fun ev ov av iv wr => ∃ (k a : Nat) (out : List ByteArray) (er : Int), k ≤ ms.length ∧ a ≤ l.length ∧ ev = .int .i64 er ∧ av = .int .i64 a ∧ iv = .int .i64 k ∧ Ext w1 wr ∧ RowW w1.heap.size out ov wr ∧ out.length ≤ k ∧ (er = 0 → markedF (ms.drop k) (l.drop a) out = markedF ms l []) ∧ (er ≠ 0 → (markedF ms l []).2.2 = er)) (fun _ _ _ i _ => ms.length - (intOf i).toNat)
      case atStart => exact ⟨0, 0, [], 0, Nat.zero_le _, Nat.zero_le _, rfl, rfl, rfl, Ext.refl _, RowW.nil, Nat.le_refl _, fun _ => rfl, fun h => absurd rfl h⟩
      case round =>
        obtain ⟨k, a, out, er, hk, ha, rfl, rfl, rfl, hxr, hrow, hout, hm0, hm1⟩ := hrel
        have Hm0 := Lib.hid hm0
        have Hm1 := Lib.hid hm1
        clear hm0 hm1
        by_cases hlt : k < ms.length ∧ er = 0
        · obtain ⟨hlt, rfl⟩ := hlt
          have k1 : (k : Int) < (ms.length : Int) := by omega
          have a1 : (a : Int) ≤ (l.length : Int) := by omega
          obtain ⟨mb, mo, rfl, p0, p1, hI, hS⟩ := hm.get hlt
          have hd : ms.drop k = ms[k] :: ms.drop (k + 1) := List.drop_eq_getElem_cons hlt
          have hmk := Hm0.out rfl
          rw [hd, markedF] at hmk
          generalize ms[k] = m at *
          obtain ⟨kd, wd⟩ := m
          simp only at p0 p1 hI hS hmk
          have r0 := hxr.cell p0
          have r1 := hxr.cell p1
          have hsl := (hl.ext hxr).sliced a ha
          have Hmk := Lib.hid hmk
          have hca : a ≤ lc := by omega
          obtain ⟨sa, hsa⟩ : ∃ sa, (if lc = a then la else la.map fun x => x.add (a * 1)) = sa := ⟨_, rfl⟩
          rw [hsa] at hsl
          rw [Nat.mul_one] at hsa
          have hmE := fun w' (h : Ext wr w') => refMark_any (.slice sa (l.length - a) (lc - a)) ⟨kd, wd⟩ (l.drop a) w' hI hS (hsl.ext h)
          simp only at hmE
          clear hmk hd
          go_wp2_with fail
          apply Facts.wp_region [.val _, .val _, .val _, .val (.agg #[.int .i64 kd, .string wd]), .val _, .val _, .val (.slice sa (l.length - a) (lc - a)), .fact (TupE (markW ⟨kd, wd⟩ (l.drop a)) (markErrM ⟨kd, wd⟩ (l.drop a))), .fact (TupE (markW ⟨kd, wd⟩ (l.drop a)) (markErrM ⟨kd, wd⟩ (l.drop a))), .fact (fun u w => StrsAt w u (markW ⟨kd, wd⟩ (l.drop a))), .val _, .fact (fun u w => StrsAt w u (markW ⟨kd, wd⟩ (l.drop a))), .val _] (by kernel_rfl) (by kernel_rfl) ⟨fun u a c hx h => h.ext hx, fun u a c hx h => h.ext hx, fun u a c hx h => StrsAt.ext h hx, fun u a c hx h => StrsAt.ext h hx, trivial⟩ ?main
          case main =>
            iterate 7 (refine ⟨fun w1 hx hh => ?_, ?_⟩; focus (clear hh; have e0 := hx.cell r0; have e1 := hx.cell r1; go_simp; first | exact ⟨Ext.refl _, rfl⟩ | exact Ext.refl _))
            refine ⟨fun w1 hx hh => ?_, ?_⟩
            · clear hh
              have hmE' := hmE _ hx
              clear hmE
              go_simp
              refine hmE'.mono ?_
              rintro e w' ⟨u, rfl, hu, hx⟩
              exact ⟨_, rfl, hx, rfl, hu⟩
            intro y7
            (refine ⟨fun w1 hx hh => ?_, ?_⟩; focus (have h7 : ((TupE (markW ⟨kd, wd⟩ (l.drop a)) (markErrM ⟨kd, wd⟩ (l.drop a))) y7) w1 := hh 7 _ List.mem_cons_self (by kernel_rfl); clear hh; go_simp; first | exact ⟨Ext.refl _, h7⟩ | exact Ext.refl _))
            intro y8
            (refine ⟨fun w1 hx hh => ?_, ?_⟩; focus (have h5 : (TupE (markW ⟨kd, wd⟩ (l.drop a)) (markErrM ⟨kd, wd⟩ (l.drop a))) y8 w1 := hh 8 _ List.mem_cons_self (by kernel_rfl); have e := h5.1; have hs := h5.2; clear hh h5; generalize fstV y8 = f5 at *; subst e; go_simp; first | exact ⟨Ext.refl _, hs⟩ | exact ⟨Ext.refl _, rfl⟩ | exact Ext.refl _))
            intro y9
            (refine ⟨fun w1 hx hh => ?_, ?_⟩; focus (have h5 : (TupE (markW ⟨kd, wd⟩ (l.drop a)) (markErrM ⟨kd, wd⟩ (l.drop a))) y8 w1 := hh 8 _ (List.mem_cons_of_mem _ List.mem_cons_self) (by kernel_rfl); have e := h5.1; have hs := h5.2; clear hh h5; generalize fstV y8 = f5 at *; subst e; go_simp; first | exact ⟨Ext.refl _, hs⟩ | exact ⟨Ext.refl _, rfl⟩ | exact Ext.refl _))
            (refine ⟨fun w1 hx hh => ?_, ?_⟩; focus (have h9 : (fun w => StrsAt w y9 (markW ⟨kd, wd⟩ (l.drop a))) w1 := hh 9 _ List.mem_cons_self (by kernel_rfl); clear hh; go_simp; first | exact ⟨Ext.refl _, h9⟩ | exact Ext.refl _))
            intro y11
            iterate 1 (refine ⟨fun w1 hx hh => ?_, ?_⟩; focus (clear hh; skip; go_simp; first | exact ⟨Ext.refl _, rfl⟩ | exact Ext.refl _))
            intro w2 hx hh
            have hown : StrsAt w2 y11 (markW ⟨kd, wd⟩ (l.drop a)) := hh 11 _ List.mem_cons_self
            clear hh
            have eo := hown.form
            generalize slA y11 = oa at *
            generalize slC y11 = oc at *
            subst eo
            have hrow2 := RowW.ext hrow hx
            have hownlt := fun k hk => World.ownsRow.lt hrow2 k hk
            have x2 := hxr.trans hx
            have hs2 := x2.size
            have hol := markW_len ⟨kd, wd⟩ (l.drop a)
            obtain ⟨ra, rc, rfl⟩ := rowW_shape hrow2
            obtain ⟨er, her⟩ : ∃ er, markErrM ⟨kd, wd⟩ (l.drop a) = er := ⟨_, rfl⟩
            obtain ⟨ow, how⟩ : ∃ ow, markW ⟨kd, wd⟩ (l.drop a) = ow := ⟨_, rfl⟩
            rw [how] at hown hol ⊢
            rw [her]
            have Her := Lib.hid her
            have How := Lib.hid how
            have hmk := Hmk.out
            rw [her] at hmk
            have Hmk2 := Lib.hid hmk
            clear hmk her how hx hrow hmE hsl hsa Hmk r0 r1
            have hle1 : out.length + ow.length ≤ k + 1 := by omega
            by_cases her0 : er = 0
            · subst her0
              obtain ⟨kk, hk3, hkd, hkW⟩ := markErr_ok Her.out
              simp only at hkd
              subst hkd
              have hmk := Hmk2.out
              rw [if_neg (by simp), Int.toNat_natCast, List.drop_drop] at hmk
              have how : ow = becM kk (l.drop a) wd := by rw [← How.out]; unfold markW; rw [if_pos Her.out]; simp
              rw [← how] at hmk
              have Hmk3 := Lib.hid hmk
              rw [List.length_drop] at hkW
              clear hmk how Hmk2 Her How
              by_cases h3 : kk = 3
              · subst h3
                have g1 : ((3 : Nat) : Int) = 3 := rfl
                (go_simp; go_wp2_with (at_builtin; go_loud (refine wpList_append_strs rfl _ _ 25 rfl w1.heap.size i0 Tryz.underlying25 hi hz0 hz1 hz2 (.slice ra out.length rc) _ rfl hrow2 (.slice oa ow.length oc) rfl ow hown (by omega) (by omega) ?_; intro v' w3 hown' hgrow _; have x3 : Ext w1 w3 := Ext.grown x2 hgrow (fun k hk => (hownlt k hk).1); have s0 := x3.cell p0; have s1 := x3.cell p1)))
                go_roundw
                case rel => exact ⟨k + 1, a, out ++ ow, 0, by omega, ha, rfl, rfl, by go_num, x3, hown', by rw [List.length_append]; exact hle1, fun _ => Hmk3.out, fun h => absurd rfl h⟩
                case measure => simp [intOf]; omega
              · have g1 : (((kk : Nat) : Int) != 3) = true := by simp; omega
                have hkk : kW kk = 1 := by
                  have : kk = 0 ∨ kk = 1 ∨ kk = 2 := by omega
                  rcases this with rfl | rfl | rfl <;> rfl
                have hmk := Hmk3.out
                rw [hkk] at hmk hkW
                have Hmk4 := Lib.hid hmk
                clear hmk Hmk3 hkk
                (go_simp; go_wp2_with (at_builtin; go_loud (refine wpList_append_strs rfl _ _ 25 rfl w1.heap.size i0 Tryz.underlying25 hi hz0 hz1 hz2 (.slice ra out.length rc) _ rfl hrow2 (.slice oa ow.length oc) rfl ow hown (by omega) (by omega) ?_; intro v' w3 hown' hgrow _; have x3 : Ext w1 w3 := Ext.grown x2 hgrow (fun k hk => (hownlt k hk).1); have s0 := x3.cell p0; have s1 := x3.cell p1)))
                go_roundw
                case rel => exact ⟨k + 1, a + 1, out ++ ow, 0, by omega, by omega, rfl, by go_num, by go_num, x3, hown', by rw [List.length_append]; exact hle1, fun _ => Hmk4.out, fun h => absurd rfl h⟩
                case measure => simp [intOf]; omega
            · have hmk := Hmk2.out
              rw [if_pos her0] at hmk
              have Hmk3 := Lib.hid hmk
              have Her0 := Lib.hid her0
              have g2 : (er == 0) = false := by simpa using her0
              clear hmk Hmk2 her0
              by_cases h3 : kd = 3
              · subst h3
                (go_simp; go_wp2_with (at_builtin; go_loud (refine wpList_append_strs rfl _ _ 25 rfl w1.heap.size i0 Tryz.underlying25 hi hz0 hz1 hz2 (.slice ra out.length rc) _ rfl hrow2 (.slice oa ow.length oc) rfl ow hown (by omega) (by omega) ?_; intro v' w3 hown' hgrow _; have x3 : Ext w1 w3 := Ext.grown x2 hgrow (fun k hk => (hownlt k hk).1); have s0 := x3.cell p0; have s1 := x3.cell p1)))
                go_roundw
                case rel => exact ⟨k + 1, a, out ++ ow, er, by omega, ha, rfl, rfl, by go_num, x3, hown', by rw [List.length_append]; exact hle1, fun h => absurd h Her0.out, fun _ => by rw [← Hmk3.out]⟩
                case measure => simp [intOf]; omega
              · have g1 : (kd != 3) = true := by simpa using h3
                (go_simp; go_wp2_with (at_builtin; go_loud (refine wpList_append_strs rfl _ _ 25 rfl w1.heap.size i0 Tryz.underlying25 hi hz0 hz1 hz2 (.slice ra out.length rc) _ rfl hrow2 (.slice oa ow.length oc) rfl ow hown (by omega) (by omega) ?_; intro v' w3 hown' hgrow _; have x3 : Ext w1 w3 := Ext.grown x2 hgrow (fun k hk => (hownlt k hk).1); have s0 := x3.cell p0; have s1 := x3.cell p1)))
                go_roundw
                case rel => exact ⟨k + 1, a, out ++ ow, er, by omega, ha, rfl, rfl, by go_num, x3, hown', by rw [List.length_append]; exact hle1, fun h => absurd h Her0.out, fun _ => by rw [← Hmk3.out]⟩
                case measure => simp [intOf]; omega
        · have hR2 : markedM ms l = ⟨F, ee⟩ := by
            have := HR.out
            unfold applyM at this
            rw [if_neg (by rw [Hle.out]; simp), if_neg h30] at this
            exact this
          unfold markedM at hR2
          by_cases her : er = 0
          · subst her
            have hke : k = ms.length := by omega
            have h1 := Hm0.out rfl
            rw [hke, List.drop_length, markedF] at h1
            rw [← h1] at hR2
            rw [if_neg (by simp), List.length_drop] at hR2
            have hrow' := hrow
            obtain ⟨ra, rc, rfl⟩ := rowW_shape hrow'
            clear h1 Hm0 Hm1 hrow'
            subst hke
            by_cases ha2 : a < l.length
            · rw [if_pos (by omega)] at hR2
              obtain ⟨rfl, rfl⟩ := MarkedR.mk.inj hR2
              have a2 : (a : Int) < (l.length : Int) := by omega
              clear hR2 HR
              go_wp2
              go_ret2
              exact ⟨_, rfl, RowW.nil, x1.trans hxr⟩
            · rw [if_neg (by omega)] at hR2
              have a2 : ¬ (a : Int) < (l.length : Int) := by omega
              by_cases ho : 15 < out.length
              · rw [if_pos ho] at hR2
                obtain ⟨rfl, rfl⟩ := MarkedR.mk.inj hR2
                have o2 : (15 : Int) < (out.length : Int) := by omega
                clear hR2 HR
                go_wp2
                go_ret2
                exact ⟨_, rfl, RowW.nil, x1.trans hxr⟩
              · rw [if_neg ho] at hR2
                obtain ⟨rfl, rfl⟩ := MarkedR.mk.inj hR2
                have o2 : ¬ (15 : Int) < (out.length : Int) := by omega
                have hz := x1.size
                clear hR2 HR
                go_wp2
                go_ret2
                exact ⟨_, rfl, rowW_weaken hrow hz, x1.trans hxr⟩
          · have h1 := Hm1.out her
            rw [h1, if_pos her] at hR2
            obtain ⟨rfl, rfl⟩ := MarkedR.mk.inj hR2
            have g2 : (er == 0) = false := by simpa using her
            have g3 : (er != 0) = true := by simpa using her
            clear h1 hR2 HR Hm0 Hm1 her
            by_cases hkl : k < ms.length
            · have k1 : (k : Int) < (ms.length : Int) := by omega
              go_wp2
              go_ret2
              exact ⟨_, rfl, RowW.nil, x1.trans hxr⟩
            · have k1 : ¬ (k : Int) < (ms.length : Int) := by omega
              go_wp2
              go_ret2
              exact ⟨_, rfl, RowW.nil, x1.trans hxr⟩
  · have hR2 : (⟨[], le⟩ : MarkedR) = ⟨F, ee⟩ := by
      have := HR.out
      unfold applyM at this
      rw [Hle.out, if_pos h0] at this
      exact this
    obtain ⟨rfl, rfl⟩ := MarkedR.mk.inj hR2
    have g2 : (le == 0) = false := by simpa using h0
    have g3 : (le != 0) = true := by simpa using h0
    clear hR2 HR Hle h0
    go_wp2_with fail
    go_loopw [6, 7, 8, 9] (fun ev ov av iv wr => ev = .int .i64 le ∧ ov = .slice none 0 0 ∧ av = .int .i64 0 ∧ iv = .int .i64 0 ∧ wr = w1) (fun _ _ _ _ _ => 0)
    case atStart => exact ⟨rfl, rfl, rfl, rfl, rfl⟩
    case round =>
      obtain ⟨rfl, rfl, rfl, rfl, rfl⟩ := hrel
      by_cases hkl : 0 < ms.length
      · have k1 : (0 : Int) < (ms.length : Int) := by omega
        go_wp2
        go_ret2
        exact ⟨_, rfl, RowW.nil, x1⟩
      · have k1 : ms.length = 0 := by omega
        have k2 : ¬ (0 : Int) < (ms.length : Int) := by omega
        clear hkl
        go_wp2
        go_ret2
        exact ⟨_, rfl, RowW.nil, x1⟩
end Go.Proofs.YtcamegaimleomaaGreat

namespace Go.Proofs.YtcamegaimleomaaGreat
set_option linter.unusedSimpArgs false
set_option linter.unusedVariables false
set_option linter.unusedVariables false

def saidL : List ByteArray := [⟨#[97]⟩, ⟨#[105]⟩, ⟨#[97, 115, 107]⟩, ⟨#[116, 111]⟩, ⟨#[116, 104, 101]⟩, ⟨#[98]⟩, ⟨#[106, 117, 100, 103, 101]⟩, ⟨#[109, 101, 114, 99, 121]⟩]
theorem said_words : ∀ s ∈ saidL, wordM s = true := by decide +kernel
/-- what marks have made of the first k words of a letter -/
structure Loud (l : List ByteArray) (ms : List Mark) (k : Nat) (out : List ByteArray) : Prop where
  runs : ∀ rest, markedF (ms ++ rest) l [] = markedF rest (l.drop k) out
  words : ∀ s ∈ out, wordM s = true
  few : ms.length ≤ out.length + k
  room : out.length + (l.length - k) ≤ 15
  at_ : k ≤ l.length
  sound : ∀ m ∈ ms, I64 m.kind ∧ m.word.size ≤ 9223372036854775807
theorem Loud.start {l : List ByteArray} (h : l.length ≤ 15) : Loud l [] 0 [] := ⟨fun _ => rfl, by simp, by simp, by simpa using h, Nat.zero_le _, by simp⟩
theorem Loud.step {l : List ByteArray} {ms : List Mark} {k : Nat} {out : List ByteArray} (h : Loud l ms k out) (kd : Nat) (wd : ByteArray) (hk : kd < 4) (he : markErrM ⟨kd, wd⟩ (l.drop k) = 0)
    (hb : ∀ s ∈ becM kd (l.drop k) wd, wordM s = true) (hroom : (out ++ becM kd (l.drop k) wd).length + (l.length - (k + kW kd)) ≤ 15) (hfew : 1 ≤ (becM kd (l.drop k) wd).length + kW kd) (hat : k + kW kd ≤ l.length) (hw : wd.size ≤ 9223372036854775807) :
    Loud l (ms ++ [⟨kd, wd⟩]) (k + kW kd) (out ++ becM kd (l.drop k) wd) := by
  refine ⟨fun rest => ?_, fun s hs => ?_, ?_, hroom, hat, fun m hm => ?_⟩
  · rw [List.append_assoc, h.runs]
    show markedF (⟨kd, wd⟩ :: rest) (l.drop k) out = _
    rw [markedF, if_neg (by rw [he]; simp)]
    show markedF rest ((l.drop k).drop (kW ((kd : Nat) : Int).toNat)) (out ++ becM ((kd : Nat) : Int).toNat (l.drop k) wd) = _
    rw [Int.toNat_natCast, List.drop_drop]
  · rcases List.mem_append.1 hs with h1 | h1
    · exact h.words s h1
    · exact hb s h1
  · have := h.few
    simp only [List.length_append, List.length_cons, List.length_nil] at *
    omega
  · rcases List.mem_append.1 hm with h1 | h1
    · exact h.sound m h1
    · rw [List.mem_singleton] at h1
      subst h1
      exact ⟨⟨by show _ ≤ ((kd : Nat) : Int); omega, by show ((kd : Nat) : Int) ≤ _; omega⟩, hw⟩
theorem Loud.ends {l : List ByteArray} {ms : List Mark} {out : List ByteArray} (h : Loud l ms l.length out) (hl : letterErrL l = 0) : applyM ms l = ⟨out, 0⟩ ∧ letterErrL out = 0 := by
  obtain ⟨h15, hw⟩ := lettErr_ok hl
  have hr := h.runs []
  rw [List.append_nil, List.drop_of_length_le (Nat.le_refl _), markedF] at hr
  have hroom := h.room
  have hfew := h.few
  refine ⟨?_, ?_⟩
  · unfold applyM
    rw [if_neg (by rw [hl]; simp), if_neg (by omega)]
    unfold markedM
    rw [hr, if_neg (by simp), if_neg (by simp), if_neg (by simp; omega)]
  · unfold letterErrL
    rw [if_neg (by omega), if_neg]
    simp only [wordsM, Bool.not_eq_false, List.all_eq_true]
    exact h.words
theorem Loud.keep {l : List ByteArray} {ms : List Mark} {k : Nat} {out : List ByteArray} {lk : ByteArray} (h : Loud l ms k out) (hk : k < l.length) (hd : l.drop k = lk :: l.drop (k + 1)) (hw : wordM lk = true) : Loud l (ms ++ [⟨0, ⟨#[]⟩⟩]) (k + 1) (out ++ [lk]) := by
  have hb : becM 0 (l.drop k) (⟨#[]⟩ : ByteArray) = [lk] := by rw [hd]; rfl
  have hr := h.room
  have := h.step 0 ⟨#[]⟩ (by decide) (by rw [hd]; simp [markErrM, kWr, kW]) (by rw [hb]; intro s hs; rw [List.mem_singleton] at hs; subst hs; exact hw) (by rw [hb]; show _ + (l.length - (k + 1)) ≤ 15; simp; omega) (by simp [kW]) (by simp only [kW]; omega) (by decide)
  rw [hb] at this
  exact this
theorem Loud.turn {l : List ByteArray} {ms : List Mark} {k : Nat} {out : List ByteArray} {lk wd : ByteArray} (h : Loud l ms k out) (hk : k < l.length) (hd : l.drop k = lk :: l.drop (k + 1)) (hw : wordM wd = true) (hne : (wd.toList == lk.toList) = false) : Loud l (ms ++ [⟨1, wd⟩]) (k + 1) (out ++ [wd]) := by
  have hr := h.room
  have hs := word_size hw
  have hne' : ¬ lk.toList = wd.toList := fun e => by rw [e] at hne; simp at hne
  exact h.step 1 wd (by decide) (by rw [hd]; simp [markErrM, kWr, kW, hw, hne']) (by intro s hs; simp [becM] at hs; subst hs; exact hw) (by show (out ++ [wd]).length + (l.length - (k + 1)) ≤ 15; simp; omega) (by simp [kW]) (by simp only [kW]; omega) (by omega)
theorem Loud.drop {l : List ByteArray} {ms : List Mark} {k : Nat} {out : List ByteArray} {lk : ByteArray} (h : Loud l ms k out) (hk : k < l.length) (hd : l.drop k = lk :: l.drop (k + 1)) : Loud l (ms ++ [⟨2, ⟨#[]⟩⟩]) (k + 1) out := by
  have hr := h.room
  have := h.step 2 ⟨#[]⟩ (by decide) (by rw [hd]; simp [markErrM, kWr, kW]) (by simp [becM]) (by show (out ++ []).length + (l.length - (k + 1)) ≤ 15; simp; omega) (by simp [kW]) (by simp only [kW]; omega) (by decide)
  simp only [becM, List.append_nil] at this
  exact this
theorem Loud.put {l : List ByteArray} {ms : List Mark} {k : Nat} {out : List ByteArray} {wd : ByteArray} (h : Loud l ms k out) (hw : wordM wd = true) (hroom : out.length + (l.length - k) < 15) : Loud l (ms ++ [⟨3, wd⟩]) k (out ++ [wd]) := by
  have hs := word_size hw
  have ha := h.at_
  exact h.step 3 wd (by decide) (by simp [markErrM, kWr, kW, hw]) (by intro s hs; simp [becM] at hs; subst hs; exact hw) (by show (out ++ [wd]).length + (l.length - (k + 0)) ≤ 15; simp; omega) (by simp [becM, kW]) (by simp only [kW]; omega) (by omega)
end Go.Proofs.YtcamegaimleomaaGreat

namespace Go.Proofs.YtcamegaimleomaaGreat
set_option linter.unusedSimpArgs false
set_option linter.unusedVariables false
open Go.RowKit
set_option linter.unusedVariables false

theorem no_falseE {X : Bool} (h : X = false) (h2 : X = true) : False := by rw [h] at h2; cases h2
/-- a row of one's own -/
def OwnR (base : Nat) (e : TypeId) (sz n : Nat) (cs : List Value) (u : Value) (w : World) : Prop := w.ownsRow base e sz u n cs
theorem OwnR.ext {base : Nat} {e : TypeId} {sz n : Nat} {cs : List Value} {u : Value} {w w' : World} (h : OwnR base e sz n cs u w) (hx : Ext w w') : OwnR base e sz n cs u w' := Ext.owns h hx
theorem OwnR.grew {base : Nat} {e : TypeId} {sz n : Nat} {cs : List Value} {u : Value} {n0 k : Nat} {w w' : World} (h : OwnR base e sz n cs u w) (hn : n * sz ≤ k) (hx : Facts.App.Grew n0 k w w') : OwnR base e sz n cs u w' := hx.owns h hn
/-- a row of nothing, with no room -/
def EmptyR (base : Nat) (e : TypeId) (sz : Nat) (u : Value) (w : World) : Prop := ∃ B, u = .slice (some ⟨B, 0, none⟩) 0 0 ∧ OwnR base e sz 0 [] u w
theorem EmptyR.ext {base : Nat} {e : TypeId} {sz : Nat} {u : Value} {w w' : World} (h : EmptyR base e sz u w) (hx : Ext w w') : EmptyR base e sz u w' := by
  obtain ⟨B, e, h1⟩ := h; exact ⟨B, e, h1.ext hx⟩
theorem EmptyR.grew {base : Nat} {e : TypeId} {sz : Nat} {u : Value} {n0 n : Nat} {w w' : World} (h : EmptyR base e sz u w) (hx : Facts.App.Grew n0 n w w') : EmptyR base e sz u w' := by
  obtain ⟨B, e, h1⟩ := h; exact ⟨B, e, h1.grew (by omega) hx⟩
theorem EmptyR.row {base : Nat} {e : TypeId} {sz : Nat} {u : Value} {w : World} (h : EmptyR base e sz u w) : w.ownsRow base e sz u 0 [] := by
  obtain ⟨B, e, h1⟩ := h; exact h1
theorem EmptyR.full {base : Nat} {e : TypeId} {sz : Nat} {u : Value} {w : World} (h : EmptyR base e sz u w) (m : Nat) (hm : 0 < m) : ∀ g cap, u = .slice (some ⟨g, 0, none⟩) 0 cap → cap < 0 + m := by
  obtain ⟨B, e, -⟩ := h
  intro g cap e2
  rw [e] at e2
  have := (Value.slice.inj e2).2.2
  omega
/-- new elements, in a block of their own -/
def NewR (n : Nat) (cs : List Value) (u : Value) (w : World) : Prop := ∃ B, u = .slice (some ⟨B, 0, none⟩) n n ∧ ∀ j v, cs[j]? = some v → w.cell? ((⟨B, 0, none⟩ : Addr).add j) = some v
noncomputable def NewR.B {n : Nat} {cs : List Value} {u : Value} {w : World} (h : NewR n cs u w) : Nat := Exists.choose h
theorem NewR.spec {n : Nat} {cs : List Value} {u : Value} {w : World} (h : NewR n cs u w) : u = .slice (some ⟨h.B, 0, none⟩) n n ∧ ∀ j v, cs[j]? = some v → w.cell? ((⟨h.B, 0, none⟩ : Addr).add j) = some v := Exists.choose_spec h
theorem NewR.ext {n : Nat} {cs : List Value} {u : Value} {w w' : World} (h : NewR n cs u w) (hx : Ext w w') : NewR n cs u w' := by
  obtain ⟨B, h1, h2⟩ := h; exact ⟨B, h1, fun j v e => hx.cell (h2 j v e)⟩
theorem NewR.grew {n : Nat} {cs : List Value} {u : Value} {n0 k : Nat} {w w' : World} (h : NewR n cs u w) (hn : cs.length ≤ k) (hx : Facts.App.Grew n0 k w w') : NewR n cs u w' := by
  obtain ⟨B, h1, h2⟩ := h
  refine ⟨B, h1, fun j v e => ?_⟩
  have hj : j < cs.length := by
    rcases Nat.lt_or_ge j cs.length with h | h
    · exact h
    · rw [List.getElem?_eq_none h] at e; cases e
  have := h2 j v e
  rw [show (⟨B, 0, none⟩ : Addr).add j = ⟨B, 0 + j, none⟩ by unfold Addr.add; split <;> simp_all] at this ⊢
  exact hx.cell this (by omega)
theorem NewR.made (w : World) (n : Nat) (cs : List Value) (t : TypeId) : NewR n cs (.slice (some ⟨w.heap.size, 0, none⟩) n n) (w.alloc (.cells cs.toArray t)) := by
  refine ⟨_, rfl, fun j v e => ?_⟩
  rw [show (⟨w.heap.size, 0, none⟩ : Addr).add j = ⟨w.heap.size, 0 + j, none⟩ by unfold Addr.add; split <;> simp_all]
  simpa [go_sem] using e
theorem marks_new {w : World} {ad : Addr} {n c : Nat} {l : List Mark} (h : MarksAt w (.slice (some ad) n c) l) : ∀ j u, (cellsK l)[j]? = some u → w.cell? (ad.add j) = some u := by
  intro j u hu
  have hlen : (cellsK l).length = l.length * 2 := cellsK_len l
  have hj : j < l.length * 2 := by
    rcases Nat.lt_or_ge j (l.length * 2) with h1 | h1
    · exact h1
    · rw [List.getElem?_eq_none (by omega)] at hu; cases hu
  have hi : j / 2 < l.length := by omega
  obtain ⟨b, o, e2, r0, r1, -⟩ := h.get hi
  obtain rfl := Option.some.inj e2
  obtain ⟨c0, c1⟩ := cellsK_get l (j / 2) hi
  rw [show (⟨b, o, none⟩ : Addr).add j = ⟨b, o + j, none⟩ by unfold Addr.add; split <;> simp_all]
  rcases Nat.mod_two_eq_zero_or_one j with h0 | h0
  · rw [show j = j / 2 * 2 from by omega] at hu ⊢
    rw [c0] at hu
    obtain rfl := Option.some.inj hu
    exact r0
  · rw [show j = j / 2 * 2 + 1 from by omega] at hu ⊢
    rw [c1] at hu
    obtain rfl := Option.some.inj hu
    exact r1
theorem marks_one (l : List Mark) : ∀ u ∈ cellsK l, u.oneCell' = true := fun u hu => by
  simp only [cellsK, List.mem_flatMap] at hu
  obtain ⟨x, -, hx⟩ := hu
  simp at hx
  rcases hx with rfl | rfl <;> simp [Value.oneCell']
end Go.Proofs.YtcamegaimleomaaGreat

namespace Go.Proofs.YtcamegaimleomaaGreat
set_option linter.unusedSimpArgs false
set_option linter.unusedVariables false
open Go.RowKit
set_option linter.unusedVariables false

set_option maxRecDepth 100000 in
theorem lawTurn_any (v : Value) (l : List Int) (n : Nat) (w : World) (hn : n ≤ 9223372036854775807) (hl : BytesAt w v l) : Calls Tryz.prog 87 #[v, .int .i64 n] w fun e w' => e = .returned (.int .i64 (turnM l n)) ∧ w = w' := by
  obtain ⟨a, cap, rfl, hlc, hcm, hc⟩ := hl
  by_cases h0 : l.length = 0
  · have h0' : ((l.length : Int) == 0) = true := by simp [h0]
    have H0 := Lib.hid h0
    clear hc h0
    go_enter Tryz.func87, Tryz.ntmps87
    go_wp2
    go_ret
    exact ⟨ret_int (by rw [List.eq_nil_of_length_eq_zero H0.out]; rfl), rfl⟩
  · have h0' : ((l.length : Int) == 0) = false := by simp; intro e; exact h0 (by simp [e])
    have hml : n % l.length < l.length := Nat.mod_lt _ (by omega)
    have hm : Int.tmod (n : Int) (l.length : Int) = ((n % l.length : Nat) : Int) := by rw [Int.tmod_eq_emod_of_nonneg (by omega)]; simp
    obtain ⟨b, off, rfl, c0, hu⟩ := hc (n % l.length) hml
    have hgd : turnM l n = l[n % l.length] := by rw [turnM, List.getD_eq_getElem?_getD, List.getElem?_eq_getElem hml]; rfl
    generalize hy : l[n % l.length] = y at *
    have Hgd := Lib.hid hgd
    clear hgd hy hc
    simp only [Nat.mul_one] at c0
    generalize hq : n % l.length = q at *
    have wq : IntKind.i64.wrap (q : Int) = q := IntWalk.i64_in _ (by omega)
    have wy : IntKind.i64.wrap y = y := IntWalk.i64_in _ (by unfold U8 at hu; omega)
    have q1 : (q : Int) < (l.length : Int) := by omega
    have nz : ¬ (l.length : Int) = 0 := by omega
    clear hq
    go_enter Tryz.func87, Tryz.ntmps87
    go_wp2
    go_ret
    exact ⟨ret_int Hgd.out.symm, rfl⟩
theorem turnM_in {w : World} {v : Value} {l : List Int} (hl : BytesAt w v l) (n : Nat) : 0 ≤ turnM l n ∧ turnM l n ≤ 255 := by
  obtain ⟨a, cap, rfl, hlc, hcm, hc⟩ := hl
  unfold turnM
  rcases Nat.eq_zero_or_pos l.length with h0 | h0
  · rw [List.eq_nil_of_length_eq_zero h0]; simp
  · have hml : n % l.length < l.length := Nat.mod_lt _ (by omega)
    rw [List.getD_eq_getElem?_getD, List.getElem?_eq_getElem hml]
    obtain ⟨b, off, -, -, hu⟩ := hc _ hml
    exact hu
theorem said_any (w : World) : Calls Tryz.prog 88 #[] w fun e w' => (∃ B, e = .returned (.slice (some ⟨B, 0, none⟩) 8 8) ∧ StrsAt w' (.slice (some ⟨B, 0, none⟩) 8 8) saidL) ∧ Ext w w' := by
  go_enter Tryz.func88, Tryz.ntmps88
  go_wp2
  go_ret
  refine ⟨⟨_, rfl, _, _, rfl, by decide, by decide, fun i hi => ⟨_, _, rfl, ?_⟩⟩, ext_alloc _ _⟩
  have : i = 0 ∨ i = 1 ∨ i = 2 ∨ i = 3 ∨ i = 4 ∨ i = 5 ∨ i = 6 ∨ i = 7 := by simp [saidL] at hi; omega
  rcases this with rfl | rfl | rfl | rfl | rfl | rfl | rfl | rfl
  all_goals exact ⟨by simp [go_sem, saidL], by simp [saidL]; decide⟩

theorem mod_nat (y n : Nat) : Int.tmod (y : Int) (n : Int) = ((y % n : Nat) : Int) := by rw [Int.tmod_eq_emod_of_nonneg (by omega)]; simp
theorem said_at (m : Nat) (h : m < 8) : m < saidL.length := h
theorem MarksAt.grownBy {w w' : World} {row : Option Nat} {sa : Option Addr} {n sc : Nat} {l : List Mark} (h : MarksAt w (.slice sa n sc) l) (hg : w.grownBy w' row) (hne : ∀ ad, sa = some ad → some ad.block ≠ row) : MarksAt w' (.slice sa n sc) l := by
  obtain ⟨a, cap, e, h2, h3, h4⟩ := h
  obtain ⟨rfl, rfl, rfl⟩ := Value.slice.inj e
  refine ⟨_, _, rfl, h2, h3, fun i hi => ?_⟩
  obtain ⟨b, o, rfl, r0, r1, r2⟩ := h4 i hi
  exact ⟨b, o, rfl, hg.cell r0 (show some b ≠ row from hne ⟨b, o, none⟩ rfl), hg.cell r1 (show some b ≠ row from hne ⟨b, o, none⟩ rfl), r2⟩
theorem RowW.shape {base : Nat} {l : List ByteArray} {u : Value} {w : World} (h : RowW base l u w) : ∃ a c, u = .slice a l.length c := by
  rcases h.2 with ⟨rfl, hn⟩ | ⟨g, cap, cur, rfl, -⟩
  · exact ⟨_, _, by rw [hn]⟩
  · exact ⟨_, _, rfl⟩
theorem RowK.newer {base : Nat} {l : List Mark} {u : Value} {w : World} (h : RowK base l u w) : ∀ ad n c, u = .slice (some ad) n c → base ≤ ad.block := by
  intro ad n c hu
  rcases h.2 with ⟨rfl, hn⟩ | ⟨g, cap, cur, rfl, hb, -⟩
  · cases hu
  · cases hu; exact hb
/-- the marks do not lie in the row of words -/
def Apart (mv ov : Value) : Prop := ∀ ad n c, mv = .slice (some ad) n c → some ad.block ≠ ov.ownBlock
theorem Apart.nil (ov : Value) : Apart (.slice none 0 0) ov := fun ad n c h => by cases h
end Go.Proofs.YtcamegaimleomaaGreat

namespace Go.Proofs.YtcamegaimleomaaGreat
set_option linter.unusedSimpArgs false
set_option linter.unusedVariables false
set_option linter.unusedVariables false

/-- a way from one letter to another one, with so many corrections -/
inductive Ed : List ByteArray → List ByteArray → Nat → Prop where
  | nil : Ed [] [] 0
  | keep (x : ByteArray) {a b : List ByteArray} {n : Nat} : Ed a b n → Ed (x :: a) (x :: b) n
  | turn (x y : ByteArray) {a b : List ByteArray} {n : Nat} : Ed a b n → Ed (x :: a) (y :: b) (n + 1)
  | drop (x : ByteArray) {a b : List ByteArray} {n : Nat} : Ed a b n → Ed (x :: a) b (n + 1)
  | put (y : ByteArray) {a b : List ByteArray} {n : Nat} : Ed a b n → Ed a (y :: b) (n + 1)
theorem Ed.puts : ∀ b : List ByteArray, Ed [] b b.length
  | [] => .nil
  | y :: b => .put y (Ed.puts b)
theorem Ed.drops : ∀ a : List ByteArray, Ed a [] a.length
  | [] => .nil
  | x :: a => .drop x (Ed.drops a)
theorem sameW_eq {x s : ByteArray} (h : sameW x s = true) : x = s := toList_inj (eq_of_beq h)
theorem sameW_self (x : ByteArray) : sameW x x = true := by simp [sameW]
theorem ed_far : ∀ (n : Nat) (a b : List ByteArray), a.length + b.length < n → Ed a b (farM n a b)
  | 0, a, b, h => by omega
  | n + 1, [], b, h => by rw [farM]; exact Ed.puts b
  | n + 1, x :: a, [], h => Ed.drops (x :: a)
  | n + 1, x :: a, s :: b, h => by
    simp only [List.length_cons] at h
    have i1 := ed_far n a b (by omega)
    have i2 := ed_far n a (s :: b) (by simp only [List.length_cons]; omega)
    have i3 := ed_far n (x :: a) b (by simp only [List.length_cons]; omega)
    rw [farM]
    have j2 : Ed (x :: a) (s :: b) (1 + farM n a (s :: b)) := by rw [Nat.add_comm]; exact .drop x i2
    have j3 : Ed (x :: a) (s :: b) (1 + farM n (x :: a) b) := by rw [Nat.add_comm]; exact .put s i3
    have j1 : Ed (x :: a) (s :: b) (if sameW x s then farM n a b else 1 + farM n a b) := by
      cases hs : sameW x s
      · simp only [Bool.false_eq_true, if_false]; rw [Nat.add_comm]; exact .turn x s i1
      · obtain rfl := sameW_eq hs
        simp only [if_true]; exact .keep x i1
    generalize (if sameW x s then farM n a b else 1 + farM n a b) = p at *
    generalize 1 + farM n a (s :: b) = q at *
    generalize 1 + farM n (x :: a) b = r at *
    rcases Nat.le_total p (min q r) with h1 | h1
    · rw [Nat.min_eq_left h1]; exact j1
    · rw [Nat.min_eq_right h1]
      rcases Nat.le_total q r with h2 | h2
      · rw [Nat.min_eq_left h2]; exact j2
      · rw [Nat.min_eq_right h2]; exact j3
theorem far_nil (n : Nat) (a : List ByteArray) : farM (n + 1) a [] = a.length := by cases a <;> rfl
theorem far_le {a b : List ByteArray} {k : Nat} (h : Ed a b k) : ∀ n, a.length + b.length < n → farM n a b ≤ k := by
  induction h with
  | nil => intro n hn; obtain ⟨n, rfl⟩ : ∃ m, n = m + 1 := ⟨n - 1, by omega⟩; exact Nat.le_refl _
  | keep x h ih =>
    intro n hn
    obtain ⟨n, rfl⟩ : ∃ m, n = m + 1 := ⟨n - 1, by omega⟩
    simp only [List.length_cons] at hn
    have := ih n (by omega)
    rw [farM, sameW_self, if_pos rfl]
    omega
  | turn x y h ih =>
    intro n hn
    obtain ⟨n, rfl⟩ : ∃ m, n = m + 1 := ⟨n - 1, by omega⟩
    simp only [List.length_cons] at hn
    have := ih n (by omega)
    rw [farM]
    split <;> omega
  | @drop x a b k h ih =>
    intro n hn
    obtain ⟨n, rfl⟩ : ∃ m, n = m + 1 := ⟨n - 1, by omega⟩
    simp only [List.length_cons] at hn
    have h1 := ih n (by omega)
    cases b with
    | nil =>
      obtain ⟨m, rfl⟩ : ∃ m, n = m + 1 := ⟨n - 1, by omega⟩
      rw [far_nil] at h1 ⊢
      simp only [List.length_cons]; omega
    | cons s b => rw [farM]; omega
  | @put y a b k h ih =>
    intro n hn
    obtain ⟨n, rfl⟩ : ∃ m, n = m + 1 := ⟨n - 1, by omega⟩
    simp only [List.length_cons] at hn
    have h1 := ih n (by omega)
    cases a with
    | nil =>
      obtain ⟨m, rfl⟩ : ∃ m, n = m + 1 := ⟨n - 1, by omega⟩
      rw [farM] at h1 ⊢
      simp only [List.length_cons]; omega
    | cons s a => rw [farM]; omega
theorem Ed.comp : ∀ (N : Nat) {a c b : List ByteArray} {n m : Nat}, a.length + c.length + b.length ≤ N → Ed a c n → Ed c b m → ∃ k, k ≤ n + m ∧ Ed a b k := by
  intro N
  induction N with
  | zero =>
    intro a c b n m hN h1 h2
    have ha : a = [] := List.eq_nil_of_length_eq_zero (by omega)
    have hb : b = [] := List.eq_nil_of_length_eq_zero (by omega)
    subst ha; subst hb
    exact ⟨0, Nat.zero_le _, .nil⟩
  | succ N ih =>
    intro a c b n m hN h1 h2
    cases h1 with
    | nil => exact ⟨m, by omega, h2⟩
    | drop x h1 =>
      simp only [List.length_cons] at hN
      obtain ⟨k, hk, h⟩ := ih (by omega) h1 h2
      exact ⟨k + 1, by omega, .drop x h⟩
    | keep x h1 =>
      cases h2 with
      | keep _ h2 =>
        simp only [List.length_cons] at hN
        obtain ⟨k, hk, h⟩ := ih (by omega) h1 h2
        exact ⟨k, by omega, .keep x h⟩
      | turn _ y h2 =>
        simp only [List.length_cons] at hN
        obtain ⟨k, hk, h⟩ := ih (by omega) h1 h2
        exact ⟨k + 1, by omega, .turn x y h⟩
      | drop _ h2 =>
        simp only [List.length_cons] at hN
        obtain ⟨k, hk, h⟩ := ih (by omega) h1 h2
        exact ⟨k + 1, by omega, .drop x h⟩
      | put y h2 =>
        simp only [List.length_cons] at hN
        obtain ⟨k, hk, h⟩ := ih (by simp only [List.length_cons]; omega) (Ed.keep x h1) h2
        exact ⟨k + 1, by omega, .put y h⟩
    | turn x z h1 =>
      cases h2 with
      | keep _ h2 =>
        simp only [List.length_cons] at hN
        obtain ⟨k, hk, h⟩ := ih (by omega) h1 h2
        exact ⟨k + 1, by omega, .turn x z h⟩
      | turn _ y h2 =>
        simp only [List.length_cons] at hN
        obtain ⟨k, hk, h⟩ := ih (by omega) h1 h2
        exact ⟨k + 1, by omega, .turn x y h⟩
      | drop _ h2 =>
        simp only [List.length_cons] at hN
        obtain ⟨k, hk, h⟩ := ih (by omega) h1 h2
        exact ⟨k + 1, by omega, .drop x h⟩
      | put y h2 =>
        simp only [List.length_cons] at hN
        obtain ⟨k, hk, h⟩ := ih (by simp only [List.length_cons]; omega) (Ed.turn x z h1) h2
        exact ⟨k + 1, by omega, .put y h⟩
    | put z h1 =>
      cases h2 with
      | keep _ h2 =>
        simp only [List.length_cons] at hN
        obtain ⟨k, hk, h⟩ := ih (by omega) h1 h2
        exact ⟨k + 1, by omega, .put z h⟩
      | turn _ y h2 =>
        simp only [List.length_cons] at hN
        obtain ⟨k, hk, h⟩ := ih (by omega) h1 h2
        exact ⟨k + 1, by omega, .put y h⟩
      | drop _ h2 =>
        simp only [List.length_cons] at hN
        obtain ⟨k, hk, h⟩ := ih (by omega) h1 h2
        exact ⟨k, by omega, h⟩
      | put y h2 =>
        simp only [List.length_cons] at hN
        obtain ⟨k, hk, h⟩ := ih (by simp only [List.length_cons]; omega) (Ed.put z h1) h2
        exact ⟨k + 1, by omega, .put y h⟩
/-- by way of a third letter no fewer -/
theorem cost_way {a b c : List ByteArray} (hb : ∀ s ∈ b, wordM s = true) (hc : ∀ s ∈ c, wordM s = true) : (costM a (givenM b)).2 ≤ (costM a (givenM c)).2 + (costM c (givenM b)).2 := by
  obtain ⟨N, hN⟩ : ∃ N, N = a.length + b.length + c.length + 1 := ⟨_, rfl⟩
  rw [cost_far N a b (by omega) hb, cost_far N a c (by omega) hc, cost_far N c b (by omega) hb]
  obtain ⟨k, hk, h⟩ := Ed.comp _ (Nat.le_refl _) (ed_far N a c (by omega)) (ed_far N c b (by omega))
  exact Nat.le_trans (far_le h N (by omega)) hk
end Go.Proofs.YtcamegaimleomaaGreat

namespace Go.Proofs.YtcamegaimleomaaGreat
set_option linter.unusedSimpArgs false
set_option linter.unusedVariables false
open Go.RowKit
set_option linter.unusedVariables false

/-- what is so of the numbers of corrections between three letters -/
structure BackP (a b c : List ByteArray) : Prop where
  bad : (letterErrL a ≠ 0 ∨ letterErrL b ≠ 0) → fewErrM a b ≠ 0 ∧ fewErrM b a ≠ 0 ∧ fewManyM a b = 0 ∧ fewManyM b a = 0
  good : letterErrL a = 0 → letterErrL b = 0 → fewErrM a b = 0 ∧ fewErrM b a = 0 ∧ fewManyM a b = fewManyM b a ∧ (fewManyM a b = 0 ↔ a = b) ∧ fewManyM a b ≤ 30
  badC : letterErrL a = 0 → letterErrL b = 0 → letterErrL c ≠ 0 → fewErrM a c ≠ 0 ∧ fewErrM c b ≠ 0
  goodC : letterErrL a = 0 → letterErrL b = 0 → letterErrL c = 0 → fewErrM a c = 0 ∧ fewErrM c b = 0 ∧ fewManyM a b ≤ fewManyM a c + fewManyM c b ∧ fewManyM a c ≤ 30 ∧ fewManyM c b ≤ 30
theorem few_le (a b : List ByteArray) (ha : a.length ≤ 15) (hb : b.length ≤ 15) : fewManyM a b ≤ 30 := by
  unfold fewManyM
  split
  · have := costM_le a (givenM b)
    have hg : (givenM b).length = b.length := by simp [givenM]
    omega
  · omega
theorem backP (a b c : List ByteArray) : BackP a b c := by
  have err : ∀ x y : List ByteArray, letterErrL x = 0 → letterErrL y = 0 → fewErrM x y = 0 := fun x y h1 h2 => by unfold fewErrM; rw [if_neg (by rw [h1]; simp), h2]
  have bad : ∀ x y : List ByteArray, (letterErrL x ≠ 0 ∨ letterErrL y ≠ 0) → fewErrM x y ≠ 0 := fun x y h => by
    unfold fewErrM
    by_cases h1 : letterErrL x = 0
    · rw [if_neg (by simpa using h1)]; exact h.resolve_left (fun e => e h1)
    · rw [if_pos h1]; exact h1
  have many : ∀ x y : List ByteArray, fewErrM x y ≠ 0 → fewManyM x y = 0 := fun x y h => by unfold fewManyM; rw [if_neg h]
  have good : ∀ x y : List ByteArray, fewErrM x y = 0 → fewManyM x y = (costM x (givenM y)).2 := fun x y h => by unfold fewManyM; rw [if_pos h]
  refine ⟨fun h => ?_, fun h1 h2 => ?_, fun h1 h2 h3 => ?_, fun h1 h2 h3 => ?_⟩
  · exact ⟨bad a b h, bad b a h.symm, many _ _ (bad a b h), many _ _ (bad b a h.symm)⟩
  · obtain ⟨a15, aw⟩ := lettErr_ok h1
    obtain ⟨b15, bw⟩ := lettErr_ok h2
    refine ⟨err _ _ h1 h2, err _ _ h2 h1, ?_, ?_, few_le a b a15 b15⟩
    · rw [good _ _ (err _ _ h1 h2), good _ _ (err _ _ h2 h1)]; exact cost_comm aw bw
    · rw [good _ _ (err _ _ h1 h2)]; exact cost_zero bw
  · exact ⟨bad _ _ (.inr h3), bad _ _ (.inl h3)⟩
  · obtain ⟨a15, aw⟩ := lettErr_ok h1
    obtain ⟨b15, bw⟩ := lettErr_ok h2
    obtain ⟨c15, cw⟩ := lettErr_ok h3
    refine ⟨err _ _ h1 h3, err _ _ h3 h2, ?_, few_le a c a15 c15, few_le c b c15 b15⟩
    rw [good _ _ (err _ _ h1 h2), good _ _ (err _ _ h1 h3), good _ _ (err _ _ h3 h2)]
    exact cost_way bw cw
theorem ne_true {x : Int} (h : x ≠ 0) : (x != 0) = true := by simpa using h
theorem ne_false {x : Int} (h : x = 0) : (x != 0) = false := by simpa using h

end Go.Proofs.YtcamegaimleomaaGreat

namespace Go.Proofs.YtcamegaimleomaaGreat
set_option linter.unusedSimpArgs false
set_option linter.unusedVariables false
open Go.RowKit
set_option linter.unusedVariables false

theorem apply_fewA {f t : List ByteArray} (h : fewErrM f t = 0) : applyM (fewMarksM f t) f = ⟨t, 0⟩ := by
  have hm := apply_few h
  obtain ⟨h1, h2⟩ := few_ok h
  obtain ⟨f15, -⟩ := lettErr_ok h1
  obtain ⟨t15, -⟩ := lettErr_ok h2
  unfold applyM
  rw [if_neg (by rw [h1]; simp), if_neg, hm]
  have := marksF_len (f.length + (givenM t).length) f (givenM t)
  have hg : (givenM t).length = t.length := by simp [givenM]
  unfold fewMarksM
  rw [if_pos h]
  unfold marksM
  omega
theorem corrM_N : ∀ ms : List Mark, (∀ m ∈ ms, ∃ k : Nat, k ≤ 3 ∧ m.kind = k) → corrM ms = corrN ms
  | [], _ => rfl
  | m :: ms, h => by
    obtain ⟨k, hk, e⟩ := h m List.mem_cons_self
    have ih := corrM_N ms fun x hx => h x (List.mem_cons_of_mem _ hx)
    have h1 : corrM (m :: ms) = kC m.kind.toNat + corrM ms := by simp [corrM]
    have h2 : corrN (m :: ms) = (if (m.kind != 0) = true then 1 else 0) + corrN ms := by
      unfold corrN
      rw [List.filter_cons]
      cases m.kind != 0 <;> simp; omega
    rw [h1, h2, ih, e, Int.toNat_natCast]
    have : k = 0 ∨ k = 1 ∨ k = 2 ∨ k = 3 := by omega
    rcases this with rfl | rfl | rfl | rfl <;> simp [kC]
theorem marked_kinds : ∀ (ms : List Mark) (ws out res : List ByteArray), markedF ms ws out = ([], res, 0) → ∀ m ∈ ms, ∃ k : Nat, k ≤ 3 ∧ m.kind = k
  | [], ws, out, res, h => by simp
  | m :: r, ws, out, res, h => by
    rw [markedF] at h
    by_cases he : markErrM m ws = 0
    · rw [if_neg (by simpa using he)] at h
      obtain ⟨k, hk, hkd, hW⟩ := markErr_ok he
      have := marked_kinds r _ _ _ h
      intro x hx
      rcases List.mem_cons.1 hx with rfl | hx
      · exact ⟨k, hk, hkd⟩
      · exact this x hx
    · rw [if_pos he] at h
      obtain ⟨-, h2⟩ := Prod.mk.inj h
      exact absurd (Prod.mk.inj h2).2 he
theorem apply_kinds {ms : List Mark} {f t : List ByteArray} (h : applyM ms f = ⟨t, 0⟩) : ∀ m ∈ ms, ∃ k : Nat, k ≤ 3 ∧ m.kind = k := by
  unfold applyM at h
  split at h
  · rename_i h1; exact absurd (MarkedR.mk.inj h).2 h1
  · split at h
    · exact absurd (MarkedR.mk.inj h).2 (by decide)
    · unfold markedM at h
      split at h
      · rename_i h1; exact absurd (MarkedR.mk.inj h).2 h1
      · rename_i h1
        split at h
        · exact absurd (MarkedR.mk.inj h).2 (by decide)
        · rename_i h2
          split at h
          · exact absurd (MarkedR.mk.inj h).2 (by decide)
          · have e : markedF ms f [] = ([], t, 0) := by
              have a1 : (markedF ms f []).1 = [] := List.eq_nil_of_length_eq_zero (by omega)
              have a2 := (MarkedR.mk.inj h).1
              have a3 : (markedF ms f []).2.2 = 0 := by simpa using h1
              exact Prod.ext a1 (Prod.ext a2 a3)
            exact marked_kinds ms f [] t e
/-- what the law needs -/
theorem few_corrN {f t : List ByteArray} (h : fewErrM f t = 0) : corrN (fewMarksM f t) = fewManyM f t := by
  rw [← corrM_N _ (apply_kinds (apply_fewA h)), corr_few h]
theorem few_leastN {ms : List Mark} {f t : List ByteArray} (h : applyM ms f = ⟨t, 0⟩) (he : fewErrM f t = 0) : fewManyM f t ≤ corrN ms := by
  rw [← corrM_N _ (apply_kinds h)]
  unfold fewManyM
  rw [if_pos he]
  exact fewest_least h
theorem RowW.at15 {base : Nat} {l : List ByteArray} {u : Value} {w : World} (h : RowW base l u w) (hl : letterErrL l = 0) : StrsAt w u l := h.at_ fun s hs => by
  have := word_size ((lettErr_ok hl).2 s hs)
  omega
end Go.Proofs.YtcamegaimleomaaGreat

namespace Go.Proofs.YtcamegaimleomaaGreat
set_option linter.unusedSimpArgs false
set_option linter.unusedVariables false
open Go.RowKit

theorem mem_take_step (l : List Int) (k : Nat) (n x : Int) (h : k < l.length) (hx : l[k] = x) : decide (n ∈ l.take (k + 1)) = (decide (n ∈ l.take k) || (x == n)) := by
  rw [List.take_succ_eq_append_getElem h, hx]
  by_cases h1 : n ∈ l.take k <;> by_cases h2 : x = n
  · simp [h1, h2]
  · simp [h1]
  · simp [h1, h2]
  · simp [h1, h2, Ne.symm h2]
set_option maxHeartbeats 1000000 in
set_option maxRecDepth 100000 in
theorem has_any (v : Value) (n : Int) (l : List Int) (w : World) (hl : IntsAt w v l) :
    Calls Tryz.prog 30 #[v, .int .i64 n] w fun r w' => r = .returned (.bool (decide (n ∈ l))) ∧ Ext w w' := by
  obtain ⟨a, cap, rfl, hlc, hcm⟩ := hl.shape
  go_enter Tryz.func30, Tryz.ntmps30
  go_wp2
  go_loopw [5, 6] (fun m i wr => ∃ k : Nat, ∃ met : Bool, k ≤ l.length ∧ m = .bool met ∧ i = .int .i64 k ∧ Ext w wr ∧ decide (n ∈ l.take k) = met) (fun _ i _ => l.length - (intOf i).toNat)
  case atStart => exact ⟨0, false, Nat.zero_le _, rfl, rfl, Ext.refl _, by simp⟩
  case round =>
    obtain ⟨k, met, hk, rfl, rfl, hx, hd⟩ := hrel
    have Hd := Lib.hid hd; clear hd
    by_cases h1 : k < l.length
    · have k1 : (k : Int) < (l.length : Int) := by omega
      obtain ⟨_, _, he, -, -, hh⟩ := hl.ext hx
      obtain ⟨b, off, rfl, c0, -⟩ := hh k h1
      cases he
      clear hh
      generalize hx' : l[k] = x at *
      have hst := mem_take_step l k n x h1 hx'
      have Hst := Lib.hid hst
      clear hx' hst
      simp only [Nat.mul_one] at c0
      cases met
      · cases h0 : x == n
        all_goals
          have H0 := Lib.hid h0
          go_wp2
          go_roundw
          case rel => exact ⟨k + 1, _, by omega, rfl, by go_num, hx, by rw [Hst.out, Hd.out, H0.out]; rfl⟩
          case measure => simp [intOf]; omega
      · go_wp2
        go_roundw
        case rel => exact ⟨k + 1, true, by omega, rfl, by go_num, hx, by rw [Hst.out, Hd.out]; rfl⟩
        case measure => simp [intOf]; omega
    · go_wp2
      go_ret
      have := Hd.out
      rw [List.take_of_length_le (by omega)] at this
      exact ⟨ret_bool this.symm, hx⟩

def risingM (below : Int) : Int → List Int → Bool
  | _, [] => true
  | last, x :: l => decide (last < x) && decide (x < below) && risingM below x l
set_option maxRecDepth 100000 in
theorem all_any (n : Nat) (h : n ≤ 4) (w : World) : Calls Tryz.prog 119 #[.int .i64 n] w fun r w' => r = .returned (.int .i64 (2 ^ n - 1)) ∧ w = w' := by
  go_enter Tryz.func119, Tryz.ntmps119
  go_wp2
  go_loop [3, 4] (fun m i => ∃ k : Nat, k ≤ n ∧ m = .int .i64 (2 ^ k - 1) ∧ i = .int .i64 k) (fun _ i => n - (intOf i).toNat)
  case atStart => exact ⟨0, Nat.zero_le _, rfl, rfl⟩
  case round =>
    obtain ⟨k, hk, rfl, rfl⟩ := hrel
    by_cases h1 : k < n
    · have hk4 : k = 0 ∨ k = 1 ∨ k = 2 ∨ k = 3 := by omega
      rcases hk4 with rfl | rfl | rfl | rfl
      all_goals
        have h1' : _ := Int.ofNat_lt.2 h1
        go_wp2
        go_round
        case rel => exact ⟨_, h1, rfl, rfl⟩
        case measure => simp [intOf]; omega
    · obtain rfl : k = n := by omega
      go_wp2
      go_ret
      exact ⟨rfl, rfl⟩
end Go.Proofs.YtcamegaimleomaaGreat

namespace Go.Proofs.YtcamegaimleomaaGreat
set_option linter.unusedSimpArgs false
set_option linter.unusedVariables false
open Go.RowKit

def bitM : Nat → Int → Bool
  | 0, c => c.tmod 2 == 1
  | n + 1, c => bitM n (c.tdiv 2)
theorem tdiv2_in (c : Int) (h : I64 c) : I64 (c.tdiv 2) := by
  unfold I64 at *
  rcases Int.le_total 0 c with h0 | h0
  · rw [Int.tdiv_eq_ediv_of_nonneg h0]; omega
  · have e : c.tdiv 2 = -((-c) / 2) := by
      rw [← Int.tdiv_eq_ediv_of_nonneg (by omega), Int.neg_tdiv, Int.neg_neg]
    rw [e]; omega
def whereM (s : ByteArray) : List ByteArray → Nat → Int
  | [], _ => -1
  | x :: l, k => if (x.toList == s.toList) = true then k else whereM s l (k + 1)
theorem whereM_step (s : ByteArray) (l : List ByteArray) (k : Nat) (h : k < l.length) (x : ByteArray) (hx : l[k] = x) : whereM s (l.drop k) k = if (x.toList == s.toList) = true then (k : Int) else whereM s (l.drop (k + 1)) (k + 1) := by
  rw [List.drop_eq_getElem_cons h, hx, whereM]
theorem whereM_ge (s : ByteArray) (l : List ByteArray) : ∀ k : Nat, decide (0 ≤ whereM s l k) = l.any fun y => y.toList == s.toList := by
  induction l with
  | nil => intro k; simp [whereM]
  | cons x l ih =>
    intro k
    rw [whereM, List.any_cons]
    cases h : x.toList == s.toList
    · simp only [Bool.false_eq_true, if_false, Bool.false_or]; exact ih _
    · simp only [if_true, Bool.true_or, decide_eq_true_eq]; exact Int.natCast_nonneg k
set_option maxHeartbeats 1000000 in
set_option maxRecDepth 100000 in
theorem where_any (v : Value) (s : ByteArray) (l : List ByteArray) (w : World) (hl : StrsAt w v l) :
    Calls Tryz.prog 117 #[v, .string s] w fun r w' => r = .returned (.int .i64 (whereM s l 0)) ∧ w = w' := by
  obtain ⟨a, cap, rfl, hlc, hcm, hc⟩ := hl
  go_enter Tryz.func117, Tryz.ntmps117
  go_wp2
  go_loop [5] (fun i => ∃ k : Nat, k ≤ l.length ∧ i = .int .i64 k ∧ whereM s (l.drop k) k = whereM s l 0) (fun i => l.length - (intOf i).toNat)
  case atStart => exact ⟨0, Nat.zero_le _, rfl, rfl⟩
  case round =>
    obtain ⟨k, hk, rfl, hd⟩ := hrel
    have Hd := Lib.hid hd; clear hd
    by_cases h1 : k < l.length
    · have k1 : (k : Int) < (l.length : Int) := by omega
      have n1 : ((k : Int) == (l.length : Int)) = false := by simp; omega
      obtain ⟨b, off, rfl, c0, -⟩ := hc k h1
      clear hc
      have hst := fun x hx => whereM_step s l k h1 x hx
      generalize hx : l[k] = x at *
      have Hst := Lib.hid (hst x rfl)
      clear hx hst
      simp only [Nat.mul_one] at c0
      cases h2 : x.toList == s.toList
      all_goals
        have H2 := Lib.hid h2
        go_wp2
        first
          | (go_ret
             exact ⟨ret_int (by rw [← Hd.out, Hst.out, if_pos H2.out]), rfl⟩)
          | (go_round
             case rel => exact ⟨k + 1, by omega, by go_num, by rw [← Hd.out, Hst.out, if_neg (by rw [H2.out]; decide)]⟩
             case measure => simp [intOf]; omega)
    · obtain rfl : k = l.length := by omega
      go_wp2
      go_ret
      have := Hd.out
      rw [List.drop_eq_nil_of_le (Nat.le_refl _)] at this
      exact ⟨ret_int this, rfl⟩
end Go.Proofs.YtcamegaimleomaaGreat

namespace Go.Proofs.YtcamegaimleomaaGreat
set_option linter.unusedSimpArgs false
set_option linter.unusedVariables false
open Go.RowKit

def nameTo (s : ByteArray) (k : Nat) : Bool := inM s.size 1 16 && (List.range k).all fun k => okByte k (byteAt s k)
theorem nameTo_step (s : ByteArray) (k : Nat) : nameTo s (k + 1) = (nameTo s k && okByte k (byteAt s k)) := by
  simp [nameTo, List.range_succ, Bool.and_assoc]

set_option maxHeartbeats 1000000 in
set_option maxRecDepth 100000 in
theorem refName_any (s : ByteArray) (w : World) (hs : s.size ≤ 9223372036854775807) :
    Calls Tryz.prog 118 #[.string s] w fun e w' => e = .returned (.bool (nameM s)) ∧ w = w' := by
  go_enter Tryz.func118, Tryz.ntmps118
  go_wp2_with (go_at_call 69; refine (In_any _ _ _ _).mono ?_; rintro e w' ⟨rfl, rfl⟩)
  go_loop [3, 4, 5] (fun f i _ => ∃ k : Nat, ∃ fine : Bool, k ≤ s.size ∧ f = .bool fine ∧ i = .int .i64 k ∧ nameTo s k = fine) (fun _ i _ => s.size - (intOf i).toNat)
  case atStart => exact ⟨0, _, Nat.zero_le _, rfl, rfl, by simp [nameTo]⟩
  case round =>
    obtain ⟨k, fine, hk, rfl, rfl, hd⟩ := hrel
    have Hd := Lib.hid hd; clear hd
    by_cases h1 : k < s.size
    · have k1 : (k : Int) < (s.size : Int) := by omega
      have Hst : Hid (nameTo s (k + 1) = (nameTo s k && okByte k ((s[k]'h1).toNat : Int))) := Lib.hid (by rw [nameTo_step, byteAt_eq s k h1])
      by_cases i2 : ((s[k]'h1).toNat : Int) = 46
      · have I2 := Lib.hid i2
        have i1 : inM 46 97 122 = false := by decide
        cases fine
        all_goals
          by_cases hk0 : k = 0
          · subst hk0
            go_wp2_with (go_at_call 69; refine (In_any _ _ _ _).mono ?_; rintro e w' ⟨rfl, rfl⟩)
            go_round
            case rel => exact ⟨1, _, by omega, rfl, by go_num, by rw [Hst.out, Hd.out, I2.out]; rfl⟩
            case measure => simp [intOf]; omega
          · have k0 : (0 : Int) < (k : Int) := by omega
            have K0 := Lib.hid hk0
            go_wp2_with (go_at_call 69; refine (In_any _ _ _ _).mono ?_; rintro e w' ⟨rfl, rfl⟩)
            go_round
            case rel => exact ⟨k + 1, _, by omega, rfl, by go_num, by
              rw [Hst.out, Hd.out, I2.out]
              first
                | rfl
                | (simp [okByte, K0.out]; done)⟩
            case measure => simp [intOf]; omega
      · have I2 := Lib.hid i2
        have wc : IntKind.i64.wrap ((s[k]'h1).toNat : Int) = ((s[k]'h1).toNat : Int) := IntWalk.i64_in _ (by have := (s[k]'h1).toNat_lt; omega)
        cases i1 : inM ((s[k]'h1).toNat : Int) 97 122
        all_goals
          have I1 := Lib.hid i1
          cases fine
          all_goals
            by_cases hk0 : k = 0
            · subst hk0
              go_wp2_with (go_at_call 69; refine (In_any _ _ _ _).mono ?_; rintro e w' ⟨rfl, rfl⟩)
              go_round
              case rel => exact ⟨1, _, by omega, rfl, by go_num, by rw [Hst.out, Hd.out]; first | rfl | (rw [okByte, I1.out]; rfl)⟩
              case measure => simp [intOf]; omega
            · have k0 : (0 : Int) < (k : Int) := by omega
              have K0 := Lib.hid hk0
              go_wp2_with (go_at_call 69; refine (In_any _ _ _ _).mono ?_; rintro e w' ⟨rfl, rfl⟩)
              go_round
              case rel => exact ⟨k + 1, _, by omega, rfl, by go_num, by
                rw [Hst.out, Hd.out]
                first
                  | rfl
                  | (rw [okByte, I1.out]; rfl)
                  | (rw [okByte, I1.out]; simp [K0.out]; exact Bool.or_comm _ _)⟩
              case measure => simp [intOf]; omega
    · obtain rfl : k = s.size := by omega
      go_wp2
      go_ret
      exact ⟨ret_bool Hd.out.symm, rfl⟩

def freshM (s : ByteArray) (l : List ByteArray) : Int := if nameM s = false then 6 else if (l.any fun y => y.toList == s.toList) = true then 5 else 0
theorem fresh_any (v : Value) (s : ByteArray) (l : List ByteArray) (w : World) (hs : s.size ≤ 9223372036854775807) (hl : StrsAt w v l) :
    Calls Tryz.prog 70 #[.string s, v] w fun r w' => r = .returned (.int .i64 (freshM s l)) ∧ w = w' := by
  obtain ⟨a, cap, rfl, hlc, hcm⟩ := hl.shape
  have hw := whereM_ge s l 0
  generalize hm : whereM s l 0 = m at *
  have HM := Lib.hid hm; clear hm
  have HW := Lib.hid hw; clear hw
  by_cases h0 : 0 ≤ m
  all_goals
    have H0 := Lib.hid h0
    cases hn : nameM s
    all_goals
      have HN := Lib.hid hn
      go_enter Tryz.func70, Tryz.ntmps70
      go_wp2_with (first | (go_at_call 117; refine (where_any _ s l _ hl).mono ?_; rintro e w' ⟨rfl, rfl⟩; rw [HM.out]) | (go_at_call 118; refine (refName_any s _ hs).mono ?_; rintro e w' ⟨rfl, rfl⟩))
      go_ret
      first
        | exact ⟨ret_int (by rw [freshM, if_pos HN.out]), rfl⟩
        | exact ⟨ret_int (by rw [freshM, if_neg (by rw [HN.out]; decide), if_pos (by rw [← HW.out]; exact decide_eq_true H0.out)]), rfl⟩
        | exact ⟨ret_int (by rw [freshM, if_neg (by rw [HN.out]; decide), if_neg (by rw [← HW.out, decide_eq_true_eq]; have := H0.out; omega)]), rfl⟩
end Go.Proofs.YtcamegaimleomaaGreat
