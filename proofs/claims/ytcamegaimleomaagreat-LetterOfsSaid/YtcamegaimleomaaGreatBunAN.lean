/-
  WHAT Awake RETURNS: true.
  A LETTER's TEXT: Text and Write of the reference.
  WHAT A LETTER's TEXT IS PARTED INTO, plain: by its spaces and line feeds, and by fields: the letter again.
  A TEXT READ: Read of the reference.
  LetterTexts: Write and Read of the program return what those of the reference do.
  LetterNearest: no form needs fewer corrections than Nearest says; those that need none are the forms of Of.
  A LETTER THAT IS MADE OF A FORM needs no corrections; one correction more or less, plain.
  THE WAYS IN WHICH A LETTER IS OF A FORM, as lists of counts, plain: what fills they are, in which order they come.
  HOW MANY WORDS ROOMS CAN HAVE, all lists of them in order, plain.
-/
import Derived.Test.YtcamegaimleomaaGreatBunAL
import Derived.Test.YtcamegaimleomaaGreatBunAM
import Derived.Test.YtcamegaimleomaaGreatBunAI
import Derived.Test.YtcamegaimleomaaGreatBunAJ
import Derived.Test.YtcamegaimleomaaGreatBunAD
import Derived.Test.YtcamegaimleomaaGreatBunAG
import Derived.Laws.RangeString
import Derived.Test.YtcamegaimleomaaGreatBunAK
namespace Go.Proofs.YtcamegaimleomaaGreat
set_option linter.unusedSimpArgs false
set_option linter.unusedVariables false
open Go.RowKit
set_option linter.unusedVariables false

theorem lawMarks_any (w : World) : Calls Tryz.prog 52 #[] w fun e w' => (∃ a c, e = .returned (.slice a marksE.length c) ∧ MarksAt w' (.slice a marksE.length c) marksE) ∧ Ext w w' := by
  go_enter Tryz.func52, Tryz.ntmps52
  go_wp2
  go_ret
  refine ⟨⟨_, _, rfl, _, _, rfl, Nat.le_refl _, by decide, fun i hi => ⟨_, _, rfl, ?_⟩⟩, ext_alloc _ _⟩
  have : i = 0 ∨ i = 1 ∨ i = 2 ∨ i = 3 ∨ i = 4 ∨ i = 5 ∨ i = 6 := by simp [marksE] at hi; omega
  have hk : ∀ k : Int, 0 ≤ k ∧ k ≤ 4 → I64 k := fun k h => ⟨by omega, by omega⟩
  rcases this with rfl | rfl | rfl | rfl | rfl | rfl | rfl
  all_goals exact ⟨by simp [go_sem, marksE], by simp [go_sem, marksE, noW, wFor]; first | done | rfl, hk _ (by simp [marksE]), by simp [marksE]; decide⟩
def slA : Value → Option Addr
  | .slice a _ _ => a
  | _ => none
def slC : Value → Nat
  | .slice _ _ c => c
  | _ => 0
theorem SliceAt.form {α : Type} {sz : Nat} {R : World → Nat → Nat → α → Prop} {w : World} {v : Value} {l : List α} (h : SliceAt sz R w v l) : v = .slice (slA v) l.length (slC v) := by
  obtain ⟨a, c, rfl, -⟩ := h.shape
  rfl
theorem FillsAt.twoAt {w : World} {u v : Value} {l m : List ByteArray} {t : TypeId} {B : Nat} (hB : w.heap.size = B) (h : StrsAt w u l) (h' : StrsAt w v m) : FillsAt (w.alloc (.cells #[u, v] t)) (.slice (some ⟨B, 0, none⟩) 2 2) [l, m] := by
  subst hB
  refine ⟨_, _, rfl, Nat.le_refl _, by omega, fun i hi => ?_⟩
  have : i = 0 ∨ i = 1 := by simp at hi; omega
  rcases this with rfl | rfl
  · exact ⟨_, _, rfl, _, by simp [go_sem], h.ext (ext_alloc _ _)⟩
  · exact ⟨_, _, rfl, _, by simp [go_sem], h'.ext (ext_alloc _ _)⟩
def fstV : Value → Value
  | .tuple a => a.getD 0 undef
  | _ => undef
/-- a letter and no error -/
def TupL (l : List ByteArray) (u : Value) (w : World) : Prop := u = .tuple #[fstV u, .int .i64 0] ∧ StrsAt w (fstV u) l
theorem TupL.ext {l : List ByteArray} {u : Value} {w w' : World} (h : TupL l u w) (hx : Ext w w') : TupL l u w' := ⟨h.1, h.2.ext hx⟩
def TupI (l : List Int) (u : Value) (w : World) : Prop := u = .tuple #[fstV u, .int .i64 0] ∧ IntsAt w (fstV u) l
theorem TupI.ext {l : List Int} {u : Value} {w w' : World} (h : TupI l u w) (hx : Ext w w') : TupI l u w' := ⟨h.1, h.2.ext hx⟩
def TupF (l : List (List ByteArray)) (n : Nat) (u : Value) (w : World) : Prop := u = .tuple #[fstV u, .int .i64 n, .int .i64 0] ∧ FillsAt w (fstV u) l
theorem TupF.ext {l : List (List ByteArray)} {n : Nat} {u : Value} {w w' : World} (h : TupF l n u w) (hx : Ext w w') : TupF l n u w' := ⟨h.1, h.2.ext hx⟩

set_option maxRecDepth 100000 in
set_option maxHeartbeats 20000000 in
theorem awakeL_any (w : World) : Calls Tryz.prog 14 #[] w fun e w' => e = .returned (.bool true) ∧ Ext w w' := by
  have hshelf := fun w => Shelf_any w
  have hS : shelfE.forms.length = 3 := rfl
  obtain ⟨S, hSS⟩ : ∃ S, S = shelfE := ⟨_, rfl⟩
  have HMK := Lib.hid e_make
  have HBU := Lib.hid e_built
  have HOC := Lib.hid e_ofC
  have HEC := Lib.hid e_errC
  have HFC := Lib.hid e_fillC
  have HEA := Lib.hid e_errA
  have HTA := Lib.hid e_textA
  have HRA := Lib.hid e_readA
  have HM2 := Lib.hid e_mend2
  have HME2 := Lib.hid e_mendE2
  have HN := Lib.hid e_near
  have HNE := Lib.hid e_nearE
  have HRB := Lib.hid e_readB
  have HRW := Lib.hid e_readW
  have HME3 := Lib.hid e_mendE3
  rw [← hSS] at hS HMK HBU HOC HEC HFC HEA HTA HRA HM2 HME2 HN HNE HRB HRW HME3
  simp only [← hSS] at hshelf
  clear hSS
  have HS := Lib.hid hS
  clear hS
  go_enter Tryz.func14, Tryz.ntmps14
  go_wp2_with fail
  refine (hshelf _).mono ?_
  rintro e w1 ⟨v, rfl, hb, x1⟩
  clear hshelf
  obtain ⟨fa, fc, rfl, -⟩ := hb.open
  rw [HS.out] at hb ⊢
  obtain ⟨q0, q1⟩ : (w1.alloc (.cells #[.int .i64 S.width, .slice fa 3 fc] 24)).cell? ⟨w1.heap.size, 0, none⟩ = some (.int .i64 S.width) ∧ (w1.alloc (.cells #[.int .i64 S.width, .slice fa 3 fc] 24)).cell? ⟨w1.heap.size, 1, none⟩ = some (.slice fa 3 fc) := ⟨by simp [go_sem], by simp [go_sem]⟩
  go_wp2_with fail
  obtain ⟨W, hW⟩ : ∃ W, W = w1.alloc (.cells #[.int .i64 S.width, .slice fa 3 fc] 24) := ⟨_, rfl⟩
  replace hb := hb.ext (ext_alloc w1 (.cells #[.int .i64 S.width, .slice fa 3 fc] 24))
  replace x1 : Ext w W := by rw [hW]; exact x1.alloc _
  rw [← hW] at hb q0 q1 ⊢
  clear hW
  refine (words_any _ letA (by kernel_rfl) (by decide) _).mono ?_
  rintro e w2 ⟨⟨Aa, Ac, rfl, hA, -⟩, hx⟩
  replace hb := hb.ext hx
  replace q0 := hx.cell q0
  replace q1 := hx.cell q1
  replace x1 := x1.trans hx
  clear hx
  go_wp2_with fail
  refine (words_any _ letB (by kernel_rfl) (by decide) _).mono ?_
  rintro e w3 ⟨⟨Ba, Bc, rfl, hB, -⟩, hx⟩
  replace hA := hA.ext hx
  replace hb := hb.ext hx
  replace q0 := hx.cell q0
  replace q1 := hx.cell q1
  replace x1 := x1.trans hx
  clear hx
  -- Make
  go_wp2_with fail
  apply Facts.wp_region [.val (.agg #[.int .i64 S.width, .slice fa 3 fc]), .fact (fun u w => StrsAt w u [wJudge]), .fact (fun u w => StrsAt w u [wMercy]), .fact (fun u w => FillsAt w u [[wJudge], [wMercy]]), .fact (TupL letA), .fact (TupL letA), .fact (fun u w => StrsAt w u letA), .val (.int .i64 0), .fact (fun u w => StrsAt w u letA), .val (.int .i64 0)] (by kernel_rfl) (by kernel_rfl) ⟨fun u a c hx h => StrsAt.ext h hx, fun u a c hx h => StrsAt.ext h hx, fun u a c hx h => FillsAt.ext h hx, fun u a c hx h => TupL.ext h hx, fun u a c hx h => TupL.ext h hx, fun u a c hx h => StrsAt.ext h hx, fun u a c hx h => StrsAt.ext h hx, trivial⟩ ?main
  case main =>
    iterate 1 (refine ⟨fun w1 hx hh => ?_, ?_⟩; focus (clear hh; have f0 := hx.cell q0; have f1 := hx.cell q1; go_simp; first | exact ⟨Ext.refl _, rfl⟩ | exact Ext.refl _))
    refine ⟨fun w1 hx hh => ?_, ?_⟩
    · clear hh
      go_simp
      refine (words_any _ [wJudge] (by kernel_rfl) (by decide) _).mono ?_
      rintro e w' ⟨⟨a, c, rfl, h, -⟩, hx⟩
      exact ⟨_, rfl, hx, h⟩
    intro u1
    refine ⟨fun w1 hx hh => ?_, ?_⟩
    · clear hh
      go_simp
      refine (words_any _ [wMercy] (by kernel_rfl) (by decide) _).mono ?_
      rintro e w' ⟨⟨a, c, rfl, h, -⟩, hx⟩
      exact ⟨_, rfl, hx, h⟩
    intro u2
    refine ⟨fun w1 hx hh => ?_, ?_⟩
    · have h1 : StrsAt w1 u1 [wJudge] := hh 1 _ (List.mem_cons_of_mem _ List.mem_cons_self) (by kernel_rfl)
      have h2 : StrsAt w1 u2 [wMercy] := hh 2 _ List.mem_cons_self (by kernel_rfl)
      clear hh
      have hF := FillsAt.twoAt (t := 25) rfl h1 h2
      have e1 := h1.form
      have e2 := h2.form
      rw [e1, e2] at hF ⊢
      clear e1 e2 h1 h2
      generalize slA u1 = a1 at *
      generalize slC u1 = c1 at *
      generalize slA u2 = a2 at *
      generalize slC u2 = c2 at *
      have HF := Lib.hid hF
      clear hF
      go_simp
      exact ⟨ext_alloc _ _, HF.out⟩
    intro u3
    refine ⟨fun w1 hx hh => ?_, ?_⟩
    · have h1 : FillsAt w1 u3 [[wJudge], [wMercy]] := hh 3 _ List.mem_cons_self (by kernel_rfl)
      have hx2 := hx
      clear hh
      go_simp
      refine (make_any _ _ S 0 (by constructor <;> decide) _ _ (hb.ext hx2) h1).mono ?_
      rw [HMK.out, HBU.out]
      rintro e w' ⟨u, rfl, ⟨v, rfl, hv, -⟩, hx⟩
      exact ⟨_, rfl, hx, ⟨rfl, hv rfl⟩⟩
    intro u4
    (refine ⟨fun w1 hx hh => ?_, ?_⟩; focus (have h4 : TupL letA u4 w1 := hh 4 _ List.mem_cons_self (by kernel_rfl); clear hh; go_simp; first | exact ⟨Ext.refl _, h4⟩ | exact Ext.refl _))
    intro u5
    (refine ⟨fun w1 hx hh => ?_, ?_⟩; focus (have h5 : TupL letA u5 w1 := hh 5 _ List.mem_cons_self (by kernel_rfl); have e := h5.1; have hs := h5.2; clear hh h5; generalize fstV u5 = f5 at *; subst e; go_simp; first | exact ⟨Ext.refl _, hs⟩ | exact ⟨Ext.refl _, rfl⟩ | exact Ext.refl _))
    intro u6
    (refine ⟨fun w1 hx hh => ?_, ?_⟩; focus (have h5 : TupL letA u5 w1 := hh 5 _ (List.mem_cons_of_mem _ List.mem_cons_self) (by kernel_rfl); have e := h5.1; have hs := h5.2; clear hh h5; generalize fstV u5 = f5 at *; subst e; go_simp; first | exact ⟨Ext.refl _, hs⟩ | exact ⟨Ext.refl _, rfl⟩ | exact Ext.refl _))
    (refine ⟨fun w1 hx hh => ?_, ?_⟩; focus (have h6 : (fun w => StrsAt w u6 letA) w1 := hh 6 _ List.mem_cons_self (by kernel_rfl); clear hh; go_simp; first | exact ⟨Ext.refl _, h6⟩ | exact Ext.refl _))
    intro u8
    iterate 1 (refine ⟨fun w1 hx hh => ?_, ?_⟩; focus (clear hh; skip; go_simp; first | exact ⟨Ext.refl _, rfl⟩ | exact Ext.refl _))
    intro w4 hx hh
    have hMade : StrsAt w4 u8 letA := hh 8 _ List.mem_cons_self
    clear hh
    replace hA := hA.ext hx
    replace hB := hB.ext hx
    replace hb := hb.ext hx
    replace q0 := hx.cell q0
    replace q1 := hx.cell q1
    replace x1 := x1.trans hx
    clear hx
    have eM := hMade.form
    generalize slA u8 = ma at *
    generalize slC u8 = mc at *
    subst eM
    go_simp
    go_wp2_with fail
    -- Of
    apply Facts.wp_region [.val (.agg #[.int .i64 S.width, .slice fa 3 fc]), .fact (fun u w => StrsAt w u letC), .fact (TupI [2]), .fact (TupI [2]), .fact (fun u w => IntsAt w u [2]), .val (.int .i64 0), .fact (fun u w => IntsAt w u [2]), .val (.int .i64 0)] (by kernel_rfl) (by kernel_rfl) ⟨fun u a c hx h => StrsAt.ext h hx, fun u a c hx h => TupI.ext h hx, fun u a c hx h => TupI.ext h hx, fun u a c hx h => IntsAt.ext h hx, fun u a c hx h => IntsAt.ext h hx, trivial⟩ ?main
    case main =>
    iterate 1 (refine ⟨fun w1 hx hh => ?_, ?_⟩; focus (clear hh; have f0 := hx.cell q0; have f1 := hx.cell q1; go_simp; first | exact ⟨Ext.refl _, rfl⟩ | exact Ext.refl _))
    refine ⟨fun w1 hx hh => ?_, ?_⟩
    · clear hh
      go_simp
      refine (words_any _ letC (by kernel_rfl) (by decide) _).mono ?_
      rintro e w' ⟨⟨a, c, rfl, h, -⟩, hx⟩
      exact ⟨_, rfl, hx, h⟩
    intro uc1
    refine ⟨fun w1 hx hh => ?_, ?_⟩
    · have h1 : StrsAt w1 uc1 letC := hh 1 _ List.mem_cons_self (by kernel_rfl)
      have hx2 := hx
      clear hh
      go_simp
      refine (of_any _ _ S letC _ (hb.ext hx2) h1).mono ?_
      rw [HOC.out, HEC.out]
      rintro e w' ⟨u, rfl, ⟨v, rfl, hv, -⟩, hx⟩
      exact ⟨_, rfl, hx, ⟨rfl, hv rfl⟩⟩
    intro uc2
    (refine ⟨fun w1 hx hh => ?_, ?_⟩; focus (have h4 : TupI [2] uc2 w1 := hh 2 _ List.mem_cons_self (by kernel_rfl); clear hh; go_simp; first | exact ⟨Ext.refl _, h4⟩ | exact Ext.refl _))
    intro uc3
    (refine ⟨fun w1 hx hh => ?_, ?_⟩; focus (have h5 : TupI [2] uc3 w1 := hh 3 _ List.mem_cons_self (by kernel_rfl); have e := h5.1; have hs := h5.2; clear hh h5; generalize fstV uc3 = f5 at *; subst e; go_simp; first | exact ⟨Ext.refl _, hs⟩ | exact ⟨Ext.refl _, rfl⟩ | exact Ext.refl _))
    intro uc4
    (refine ⟨fun w1 hx hh => ?_, ?_⟩; focus (have h5 : TupI [2] uc3 w1 := hh 3 _ (List.mem_cons_of_mem _ List.mem_cons_self) (by kernel_rfl); have e := h5.1; have hs := h5.2; clear hh h5; generalize fstV uc3 = f5 at *; subst e; go_simp; first | exact ⟨Ext.refl _, hs⟩ | exact ⟨Ext.refl _, rfl⟩ | exact Ext.refl _))
    (refine ⟨fun w1 hx hh => ?_, ?_⟩; focus (have h6 : (fun w => IntsAt w uc4 [2]) w1 := hh 4 _ List.mem_cons_self (by kernel_rfl); clear hh; go_simp; first | exact ⟨Ext.refl _, h6⟩ | exact Ext.refl _))
    intro uc6
    iterate 1 (refine ⟨fun w1 hx hh => ?_, ?_⟩; focus (clear hh; skip; go_simp; first | exact ⟨Ext.refl _, rfl⟩ | exact Ext.refl _))
    intro w5 hx hh
    have hOf : IntsAt w5 uc6 [2] := hh 6 _ List.mem_cons_self
    clear hh
    replace hMade := hMade.ext hx
    replace hA := hA.ext hx
    replace hB := hB.ext hx
    replace hb := hb.ext hx
    replace q0 := hx.cell q0
    replace q1 := hx.cell q1
    replace x1 := x1.trans hx
    clear hx
    have eM := hOf.form
    generalize slA uc6 = oa at *
    generalize slC uc6 = oc at *
    subst eM
    go_simp
    go_wp2_with fail
    -- Fills
    apply Facts.wp_region [.val (.agg #[.int .i64 S.width, .slice fa 3 fc]), .fact (fun u w => StrsAt w u letC), .fact (TupF [[wA], [wB, wC]] 2), .fact (TupF [[wA], [wB, wC]] 2), .fact (fun u w => FillsAt w u [[wA], [wB, wC]]), .val (.int .i64 2), .val (.int .i64 0), .fact (fun u w => FillsAt w u [[wA], [wB, wC]]), .val (.int .i64 2), .val (.int .i64 0)] (by kernel_rfl) (by kernel_rfl) ⟨fun u a c hx h => StrsAt.ext h hx, fun u a c hx h => TupF.ext h hx, fun u a c hx h => TupF.ext h hx, fun u a c hx h => FillsAt.ext h hx, fun u a c hx h => FillsAt.ext h hx, trivial⟩ ?main
    case main =>
    iterate 1 (refine ⟨fun w1 hx hh => ?_, ?_⟩; focus (clear hh; have f0 := hx.cell q0; have f1 := hx.cell q1; go_simp; first | exact ⟨Ext.refl _, rfl⟩ | exact Ext.refl _))
    refine ⟨fun w1 hx hh => ?_, ?_⟩
    · clear hh
      go_simp
      refine (words_any _ letC (by kernel_rfl) (by decide) _).mono ?_
      rintro e w' ⟨⟨a, c, rfl, h, -⟩, hx⟩
      exact ⟨_, rfl, hx, h⟩
    intro ud1
    refine ⟨fun w1 hx hh => ?_, ?_⟩
    · have h1 : StrsAt w1 ud1 letC := hh 1 _ List.mem_cons_self (by kernel_rfl)
      have hx2 := hx
      clear hh
      go_simp
      refine (Fills_any _ _ S 2 (by constructor <;> decide) letC _ (hb.ext hx2) h1).mono ?_
      rw [HFC.out]
      rintro e w' ⟨u, rfl, hv, hx⟩
      exact ⟨_, rfl, hx, ⟨rfl, hv⟩⟩
    intro ud2
    (refine ⟨fun w1 hx hh => ?_, ?_⟩; focus (have h4 : TupF [[wA], [wB, wC]] 2 ud2 w1 := hh 2 _ List.mem_cons_self (by kernel_rfl); clear hh; go_simp; first | exact ⟨Ext.refl _, h4⟩ | exact Ext.refl _))
    intro ud3
    (refine ⟨fun w1 hx hh => ?_, ?_⟩; focus (have h5 : TupF [[wA], [wB, wC]] 2 ud3 w1 := hh 3 _ List.mem_cons_self (by kernel_rfl); have e := h5.1; have hs := h5.2; clear hh h5; generalize fstV ud3 = f5 at *; subst e; go_simp; first | exact ⟨Ext.refl _, hs⟩ | exact ⟨Ext.refl _, rfl⟩ | exact Ext.refl _))
    intro ud4
    (refine ⟨fun w1 hx hh => ?_, ?_⟩; focus (have h5 : TupF [[wA], [wB, wC]] 2 ud3 w1 := hh 3 _ (List.mem_cons_of_mem _ List.mem_cons_self) (by kernel_rfl); have e := h5.1; have hs := h5.2; clear hh h5; generalize fstV ud3 = f5 at *; subst e; go_simp; first | exact ⟨Ext.refl _, hs⟩ | exact ⟨Ext.refl _, rfl⟩ | exact Ext.refl _))
    (refine ⟨fun w1 hx hh => ?_, ?_⟩; focus (have h5 : TupF [[wA], [wB, wC]] 2 ud3 w1 := hh 3 _ (List.mem_cons_of_mem _ List.mem_cons_self) (by kernel_rfl); have e := h5.1; have hs := h5.2; clear hh h5; generalize fstV ud3 = f5 at *; subst e; go_simp; first | exact ⟨Ext.refl _, hs⟩ | exact ⟨Ext.refl _, rfl⟩ | exact Ext.refl _))
    (refine ⟨fun w1 hx hh => ?_, ?_⟩; focus (have h6 : (fun w => FillsAt w ud4 [[wA], [wB, wC]]) w1 := hh 4 _ List.mem_cons_self (by kernel_rfl); clear hh; go_simp; first | exact ⟨Ext.refl _, h6⟩ | exact Ext.refl _))
    intro ud7
    iterate 2 (refine ⟨fun w1 hx hh => ?_, ?_⟩; focus (clear hh; skip; go_simp; first | exact ⟨Ext.refl _, rfl⟩ | exact Ext.refl _))
    intro w6 hx hh
    have hFi : FillsAt w6 ud7 [[wA], [wB, wC]] := hh 7 _ List.mem_cons_self
    clear hh
    replace hMade := hMade.ext hx
    replace hOf := hOf.ext hx
    replace hA := hA.ext hx
    replace hB := hB.ext hx
    replace hb := hb.ext hx
    replace q0 := hx.cell q0
    replace q1 := hx.cell q1
    replace x1 := x1.trans hx
    clear hx
    have eM := hFi.form
    generalize slA ud7 = ia at *
    generalize slC ud7 = ic at *
    subst eM
    go_simp
    go_wp2_with fail
    -- Write
    refine (write_any _ _ S letA _ hb hA).mono ?_
    rw [HTA.out, HEA.out]
    unfold textA
    rintro e w7 ⟨rfl, hx⟩
    replace hA := hA.ext hx
    replace hB := hB.ext hx
    replace hb := hb.ext hx
    replace q0 := hx.cell q0
    replace q1 := hx.cell q1
    replace x1 := x1.trans hx
    replace hMade := hMade.ext hx
    replace hOf := hOf.ext hx
    replace hFi := hFi.ext hx
    clear hx
    go_wp2_with fail
    -- Read
    refine (read_any _ S textA (by decide) _ hb).mono ?_
    rw [HRA.out]
    rintro e w8 ⟨u, rfl, ⟨v, rfl, hRead, -⟩, hx⟩
    replace hA := hA.ext hx
    replace hB := hB.ext hx
    replace hb := hb.ext hx
    replace q0 := hx.cell q0
    replace q1 := hx.cell q1
    replace x1 := x1.trans hx
    replace hMade := hMade.ext hx
    replace hOf := hOf.ext hx
    replace hFi := hFi.ext hx
    clear hx
    obtain ⟨ra, rc, rfl, -⟩ := hRead.shape
    simp only at hRead
    go_wp2_with fail
    -- Fewest
    refine (Fewest_any _ _ letA letB _ hA hB).mono ?_
    rw [e_fewE, e_fewM, e_fewN]
    rintro e w9 ⟨v, rfl, hFew, hx⟩
    replace hA := hA.ext hx
    replace hB := hB.ext hx
    replace hb := hb.ext hx
    replace q0 := hx.cell q0
    replace q1 := hx.cell q1
    replace x1 := x1.trans hx
    replace hMade := hMade.ext hx
    replace hOf := hOf.ext hx
    replace hFi := hFi.ext hx
    replace hRead := hRead.ext hx
    clear hx
    obtain ⟨ka, kc, rfl, -⟩ := hFew.shape
    go_wp2_with fail
    -- marks, Apply
    refine (lawMarks_any _).mono ?_
    rintro e w10 ⟨⟨na, nc, rfl, hMk⟩, hx⟩
    replace hA := hA.ext hx
    replace hB := hB.ext hx
    replace hb := hb.ext hx
    replace q0 := hx.cell q0
    replace q1 := hx.cell q1
    replace x1 := x1.trans hx
    replace hMade := hMade.ext hx
    replace hOf := hOf.ext hx
    replace hFi := hFi.ext hx
    replace hRead := hRead.ext hx
    replace hFew := hFew.ext hx
    clear hx
    go_wp2_with fail
    refine (Apply_any _ _ letA marksE _ hA hMk).mono ?_
    rw [e_apply]
    rintro e w11 ⟨v, rfl, hNow', hx⟩
    have hNow : StrsAt w11 v letB := hNow'.at_ (by decide +kernel)
    replace hA := hA.ext hx
    replace hB := hB.ext hx
    replace hb := hb.ext hx
    replace q0 := hx.cell q0
    replace q1 := hx.cell q1
    replace x1 := x1.trans hx
    replace hMade := hMade.ext hx
    replace hOf := hOf.ext hx
    replace hFi := hFi.ext hx
    replace hRead := hRead.ext hx
    replace hFew := hFew.ext hx
    clear hx hNow' hMk
    obtain ⟨pa, pc, rfl, -⟩ := hNow.shape
    go_wp2_with fail
    -- Mend
    refine (Mend_any _ _ S 2 (by constructor <;> decide) letA _ hb hA).mono ?_
    rw [HM2.out, HME2.out]
    rintro e w12 ⟨rfl, hx⟩
    replace hA := hA.ext hx
    replace hB := hB.ext hx
    replace hb := hb.ext hx
    replace q0 := hx.cell q0
    replace q1 := hx.cell q1
    replace x1 := x1.trans hx
    replace hMade := hMade.ext hx
    replace hOf := hOf.ext hx
    replace hFi := hFi.ext hx
    replace hRead := hRead.ext hx
    replace hFew := hFew.ext hx
    replace hNow := hNow.ext hx
    clear hx
    go_wp2_with fail
    -- Nearest
    refine (Nearest_any _ _ S letA _ hb hA).mono ?_
    rw [HN.out, HNE.out]
    rintro e w13 ⟨rfl, hx⟩
    replace hA := hA.ext hx
    replace hB := hB.ext hx
    replace hb := hb.ext hx
    replace q0 := hx.cell q0
    replace q1 := hx.cell q1
    replace x1 := x1.trans hx
    replace hMade := hMade.ext hx
    replace hOf := hOf.ext hx
    replace hFi := hFi.ext hx
    replace hRead := hRead.ext hx
    replace hFew := hFew.ext hx
    replace hNow := hNow.ext hx
    clear hx
    go_wp2_with fail
    -- Read
    refine (read_any _ S textB (by decide) _ hb).mono ?_
    rintro e w14 ⟨u, rfl, ⟨v, rfl, -, -⟩, hx⟩
    rw [HRB.out]
    replace hA := hA.ext hx
    replace hB := hB.ext hx
    replace hb := hb.ext hx
    replace q0 := hx.cell q0
    replace q1 := hx.cell q1
    replace x1 := x1.trans hx
    replace hMade := hMade.ext hx
    replace hOf := hOf.ext hx
    replace hFi := hFi.ext hx
    replace hRead := hRead.ext hx
    replace hFew := hFew.ext hx
    replace hNow := hNow.ext hx
    clear hx
    go_wp2_with fail
    refine (read_any _ S textW (by decide) _ hb).mono ?_
    rintro e w15 ⟨u2, rfl, ⟨v2, rfl, -, -⟩, hx⟩
    rw [HRW.out]
    replace hA := hA.ext hx
    replace hB := hB.ext hx
    replace hb := hb.ext hx
    replace q0 := hx.cell q0
    replace q1 := hx.cell q1
    replace x1 := x1.trans hx
    replace hMade := hMade.ext hx
    replace hOf := hOf.ext hx
    replace hFi := hFi.ext hx
    replace hRead := hRead.ext hx
    replace hFew := hFew.ext hx
    replace hNow := hNow.ext hx
    clear hx
    go_wp2_with fail
    refine (Mend_any _ _ S 3 (by constructor <;> decide) letA _ hb hA).mono ?_
    rw [HME3.out]
    rintro e w16 ⟨rfl, hx⟩
    replace hA := hA.ext hx
    replace hB := hB.ext hx
    replace hb := hb.ext hx
    replace q0 := hx.cell q0
    replace q1 := hx.cell q1
    replace x1 := x1.trans hx
    replace hMade := hMade.ext hx
    replace hOf := hOf.ext hx
    replace hFi := hFi.ext hx
    replace hRead := hRead.ext hx
    replace hFew := hFew.ext hx
    replace hNow := hNow.ext hx
    clear hx hb q0 q1
    generalize mendM S 3 letA = many3
    go_wp2_with fail
    refine (same_any _ _ letA letA _ hMade hA).mono ?_
    rw [decide_eq_true rfl]
    rintro e w17 ⟨rfl, hx⟩
    replace hA := hA.ext hx
    replace hB := hB.ext hx
    replace hOf := hOf.ext hx
    replace hFi := hFi.ext hx
    replace hRead := hRead.ext hx
    replace hFew := hFew.ext hx
    replace hNow := hNow.ext hx
    replace x1 := x1.trans hx
    clear hx hMade
    go_wp2_with fail
    refine (ints_any _ _ [2] [2] _ (hOf.ext (ext_alloc _ _)) (IntsAt.oneAt (n := 2) (by simp) (by decide))).mono ?_
    rw [show decide (([2] : List Int) = [2]) = true from rfl]
    rintro e w18 ⟨rfl, hx'⟩
    have hx := hx'.of_alloc
    replace hA := hA.ext hx
    replace hB := hB.ext hx
    replace hFi := hFi.ext hx
    replace hRead := hRead.ext hx
    replace hFew := hFew.ext hx
    replace hNow := hNow.ext hx
    replace x1 := x1.trans hx
    clear hx hx' hOf
    go_wp2_with fail
    refine (words_any _ [wA] (by kernel_rfl) (by decide) _).mono ?_
    rintro e w19 ⟨⟨ta, tc, rfl, h1, -⟩, hx⟩
    replace hA := hA.ext hx
    replace hB := hB.ext hx
    replace hFi := hFi.ext hx
    replace hRead := hRead.ext hx
    replace hFew := hFew.ext hx
    replace hNow := hNow.ext hx
    replace x1 := x1.trans hx
    clear hx
    go_wp2_with fail
    refine (words_any _ [wB, wC] (by kernel_rfl) (by decide) _).mono ?_
    rintro e w20 ⟨⟨sa, sc, rfl, h2, -⟩, hx⟩
    replace hA := hA.ext hx
    replace hB := hB.ext hx
    replace hFi := hFi.ext hx
    replace hRead := hRead.ext hx
    replace hFew := hFew.ext hx
    replace hNow := hNow.ext hx
    replace x1 := x1.trans hx
    replace h1 := h1.ext hx
    clear hx
    go_wp2_with fail
    refine (sames_any _ _ [[wA], [wB, wC]] [[wA], [wB, wC]] _ (hFi.ext (ext_alloc _ _)) (FillsAt.twoAt rfl h1 h2)).mono ?_
    rw [decide_eq_true rfl]
    rintro e w21 ⟨rfl, hx'⟩
    have hx := hx'.of_alloc
    clear hx' hFi h1 h2
    replace hA := hA.ext hx
    replace hB := hB.ext hx
    replace hRead := hRead.ext hx
    replace hFew := hFew.ext hx
    replace hNow := hNow.ext hx
    replace x1 := x1.trans hx
    clear hx
    go_wp2_with fail
    refine (same_any _ _ letA letA _ hRead hA).mono ?_
    rw [decide_eq_true rfl]
    rintro e w22 ⟨rfl, hx⟩
    replace hA := hA.ext hx
    replace hB := hB.ext hx
    replace hRead := hRead.ext hx
    replace hFew := hFew.ext hx
    replace hNow := hNow.ext hx
    replace x1 := x1.trans hx
    clear hx
    clear hRead hA
    go_wp2_with fail
    refine (lawMarks_any _).mono ?_
    rintro e w23 ⟨⟨na, nc, rfl, hMk⟩, hx⟩
    replace hB := hB.ext hx
    replace hFew := hFew.ext hx
    replace hNow := hNow.ext hx
    replace x1 := x1.trans hx
    clear hx
    go_wp2_with fail
    refine (equal_any _ _ marksE marksE _ hFew hMk).mono ?_
    rw [decide_eq_true rfl]
    rintro e w24 ⟨rfl, hx⟩
    replace hB := hB.ext hx
    replace hNow := hNow.ext hx
    replace x1 := x1.trans hx
    clear hx hFew hMk
    go_wp2_with fail
    refine (same_any _ _ letB letB _ hNow hB).mono ?_
    rw [decide_eq_true rfl]
    rintro e w25 ⟨rfl, hx⟩
    replace x1 := x1.trans hx
    clear hx hNow hB
    go_wp2
    go_ret
    exact ⟨rfl, x1⟩
end Go.Proofs.YtcamegaimleomaaGreat

namespace Go.Proofs.YtcamegaimleomaaGreat
set_option linter.unusedSimpArgs false
set_option linter.unusedVariables false
open Go.RowKit
set_option linter.unusedVariables false

def mkS (l : List UInt8) : ByteArray := ⟨l.toArray⟩
theorem mkS_append (a b : List UInt8) : mkS a ++ mkS b = mkS (a ++ b) := by
  apply ByteArray.ext
  rw [ByteArray.data_append]
  simp [mkS]
theorem mkS_size (l : List UInt8) : (mkS l).size = l.length := by
  show l.toArray.size = _
  simp
theorem mkS_bytes (x : ByteArray) : mkS (bytesL x) = x := by
  obtain ⟨x⟩ := x
  simp [mkS, bytesL]
theorem bytes_mkS (l : List UInt8) : bytesL (mkS l) = l := by simp [mkS, bytesL]
theorem ret_str {a b : ByteArray} (h : a = b) : Ending.returned (.string a) = .returned (.string b) := by rw [h]
theorem textSt_has (width : Int) (l : List ByteArray) (k : Nat) (h0 : 0 < k) (hk : k ≤ l.length) : (textSt width (l.take k)).2.2 = true := by
  rw [textSt_some]
  simp
  refine ⟨by omega, fun h => ?_⟩
  subst h; simp at hk; omega
theorem lett_small {l : List ByteArray} (h : letterErrL l = 0) : l.length ≤ 15 ∧ ∀ s ∈ l, s.size ≤ 8 := by
  obtain ⟨h15, hw⟩ := lettErr_ok h
  exact ⟨h15, fun s hs => (word_size (hw s hs)).2⟩
end Go.Proofs.YtcamegaimleomaaGreat

namespace Go.Proofs.YtcamegaimleomaaGreat
set_option linter.unusedSimpArgs false
set_option linter.unusedVariables false
set_option linter.unusedVariables false

/-- whether a byte stands between words -/
def sepB (b : UInt8) : Bool := b == 32 || b == 10
/-- parted by what stands between words -/
def splitP : List UInt8 → List UInt8 → List (List UInt8)
  | [], cur => [cur]
  | x :: r, cur => if sepB x then cur :: splitP r [] else splitP r (cur ++ [x])
/-- the words between -/
def fieldsB : List UInt8 → Option (List UInt8) → List (List UInt8)
  | [], none => []
  | [], some c => [c]
  | x :: r, none => if sepB x then fieldsB r none else fieldsB r (some [x])
  | x :: r, some c => if sepB x then c :: fieldsB r none else fieldsB r (some (c ++ [x]))
theorem splitB_snoc (c : UInt8) : ∀ (T cur : List UInt8), splitB c (T ++ [c]) cur = splitB c T cur ++ [[]]
  | [], cur => by simp [splitB]
  | x :: T, cur => by
    rw [List.cons_append, splitB, splitB]
    split
    · rw [splitB_snoc c T []]; rfl
    · exact splitB_snoc c T _
theorem splitB_end (c : UInt8) : ∀ (T cur : List UInt8) (pre : List (List UInt8)) (cw : List UInt8) (x : UInt8), splitB c T cur = pre ++ [cw] → splitB c (T ++ [x]) cur = if x = c then pre ++ [cw] ++ [[]] else pre ++ [cw ++ [x]]
  | [], cur, pre, cw, x, h => by
    rw [splitB] at h
    have : pre = [] ∧ cur = cw := by
      cases pre with
      | nil => simpa using h
      | cons a pre => simp at h
    obtain ⟨rfl, rfl⟩ := this
    simp only [List.nil_append, splitB]
    split <;> simp
  | y :: T, cur, pre, cw, x, h => by
    rw [splitB] at h
    rw [List.cons_append, splitB]
    split
    · rename_i hy
      rw [if_pos hy] at h
      obtain ⟨p2, rfl⟩ : ∃ p2, pre = cur :: p2 := by
        cases pre with
        | nil =>
          exfalso
          have h2 := (List.cons.inj h).2
          cases T with
          | nil => simp [splitB] at h2
          | cons z T => rw [splitB] at h2; split at h2 <;> simp at h2; exact splitB_ne c T [z] h2
        | cons a pre => exact ⟨pre, by rw [(List.cons.inj h).1]⟩
      have h2 : splitB c T [] = p2 ++ [cw] := (List.cons.inj h).2
      rw [splitB_end c T [] p2 cw x h2]
      split <;> rfl
    · rename_i hy
      rw [if_neg hy] at h
      exact splitB_end c T _ pre cw x h
where splitB_ne (c : UInt8) : ∀ (T cur : List UInt8), splitB c T cur ≠ []
  | [], cur => by simp [splitB]
  | x :: T, cur => by
    rw [splitB]
    split
    · simp
    · exact splitB_ne c T _
/-- first into lines, then each line -/
theorem split_lines : ∀ (T cur : List UInt8) (pre : List (List UInt8)) (cw : List UInt8), splitB 32 cur [] = pre ++ [cw] → (splitB 10 T cur).flatMap (fun l => splitB 32 l []) = pre ++ splitP T cw
  | [], cur, pre, cw, h => by simp [splitB, splitP, h]
  | x :: T, cur, pre, cw, h => by
    rw [splitB, splitP]
    by_cases h10 : x = 10
    · subst h10
      have := split_lines T [] [] [] (by rfl)
      rw [if_pos rfl, if_pos (by decide), List.flatMap_cons, this, h, List.nil_append, List.append_assoc]
      rfl
    · rw [if_neg h10]
      have he := splitB_end 32 cur [] pre cw x h
      by_cases h32 : x = 32
      · subst h32
        rw [if_pos rfl] at he
        rw [if_pos (by decide), split_lines T (cur ++ [32]) (pre ++ [cw]) [] he, List.append_assoc]
        rfl
      · rw [if_neg h32] at he
        rw [if_neg (by simp [sepB, h32, h10]), split_lines T (cur ++ [x]) pre (cw ++ [x]) he]
/-- a word has nothing that stands between words -/
theorem word_bytes {x : ByteArray} (h : wordM x = true) : ∀ b ∈ bytesL x, 97 ≤ b.toNat ∧ b.toNat ≤ 122 := by
  intro b hb
  unfold wordM at h
  rw [Bool.and_eq_true, List.all_eq_true] at h
  obtain ⟨i, hi, rfl⟩ := List.getElem_of_mem hb
  have hi' : i < x.size := hi
  have h2 := h.2 i (List.mem_range.2 hi')
  rw [byteAt_eq x i hi'] at h2
  have h3 : inM (((x[i]'hi').toNat : Nat) : Int) 97 122 = true := h2
  unfold inM at h3
  simp at h3
  have e : ((bytesL x)[i]).toNat = (x[i]'hi').toNat := rfl
  omega
theorem word_nosep {x : ByteArray} (h : wordM x = true) : ∀ b ∈ bytesL x, sepB b = false := fun b hb => by
  have := word_bytes h b hb
  unfold sepB
  have h1 : b ≠ 32 := fun e => by subst e; simp at this
  have h2 : b ≠ 10 := fun e => by subst e; simp at this
  simp [h1, h2]
theorem splitP_word : ∀ (x r cur : List UInt8), (∀ b ∈ x, sepB b = false) → splitP (x ++ r) cur = splitP r (cur ++ x)
  | [], r, cur, _ => by simp
  | b :: x, r, cur, h => by
    rw [List.cons_append, splitP, if_neg (by rw [h b List.mem_cons_self]; decide), splitP_word x r _ fun c hc => h c (List.mem_cons_of_mem _ hc), List.append_assoc]
    rfl
theorem fieldsB_word : ∀ (x r c : List UInt8), (∀ b ∈ x, sepB b = false) → fieldsB (x ++ r) (some c) = fieldsB r (some (c ++ x))
  | [], r, c, _ => by simp
  | b :: x, r, c, h => by
    rw [List.cons_append, fieldsB, if_neg (by rw [h b List.mem_cons_self]; decide), fieldsB_word x r _ fun c hc => h c (List.mem_cons_of_mem _ hc), List.append_assoc]
    rfl
theorem fieldsB_first (x r : List UInt8) (hx : x ≠ []) (h : ∀ b ∈ x, sepB b = false) : fieldsB (x ++ r) none = fieldsB r (some x) := by
  cases x with
  | nil => exact absurd rfl hx
  | cons b x =>
    rw [List.cons_append, fieldsB, if_neg (by rw [h b List.mem_cons_self]; decide), fieldsB_word x r _ fun c hc => h c (List.mem_cons_of_mem _ hc)]
    rfl
/-- what the lines of a letter are parted into -/
theorem text_parts (width : Int) (l : List ByteArray) : (∀ s ∈ l, wordM s = true) → ∀ (y : ByteArray) (hy : wordM y = true) (r : List UInt8),
    splitP ((textSt width (l ++ [y])).1 ++ r) [] = l.map bytesL ++ splitP r (bytesL y) ∧ fieldsB ((textSt width (l ++ [y])).1 ++ r) none = l.map bytesL ++ fieldsB r (some (bytesL y)) := by
  refine snoc_ind (p := fun l => (∀ s ∈ l, wordM s = true) → ∀ (y : ByteArray) (hy : wordM y = true) (r : List UInt8), splitP ((textSt width (l ++ [y])).1 ++ r) [] = l.map bytesL ++ splitP r (bytesL y) ∧ fieldsB ((textSt width (l ++ [y])).1 ++ r) none = l.map bytesL ++ fieldsB r (some (bytesL y))) ?_ ?_ l
  · intro _ y hy r
    have hne : bytesL y ≠ [] := fun e => by
      have := (word_size hy).1
      have h2 := bytesL_len y
      rw [e] at h2; simp at h2; omega
    show splitP (bytesL y ++ r) [] = _ ∧ fieldsB (bytesL y ++ r) none = _
    exact ⟨by rw [splitP_word _ _ _ (word_nosep hy)]; simp, by rw [fieldsB_first _ _ hne (word_nosep hy)]; simp⟩
  · intro l x ih h y hy r
    have hl : ∀ s ∈ l, wordM s = true := fun s hs => h s (List.mem_append_left _ hs)
    have hx : wordM x = true := h x (by simp)
    have hne : bytesL y ≠ [] := fun e => by
      have := (word_size hy).1
      have h2 := bytesL_len y
      rw [e] at h2; simp at h2; omega
    have key : ∀ sp : UInt8, sepB sp = true → splitP ((textSt width (l ++ [x])).1 ++ [sp] ++ bytesL y ++ r) [] = (l ++ [x]).map bytesL ++ splitP r (bytesL y) ∧ fieldsB ((textSt width (l ++ [x])).1 ++ [sp] ++ bytesL y ++ r) none = (l ++ [x]).map bytesL ++ fieldsB r (some (bytesL y)) := fun sp hsp => by
      obtain ⟨i1, i2⟩ := ih hl x hx ([sp] ++ bytesL y ++ r)
      simp only [List.append_assoc] at i1 i2 ⊢
      rw [i1, i2]
      simp only [List.singleton_append, splitP, fieldsB, hsp, if_true]
      rw [splitP_word _ _ _ (word_nosep hy), fieldsB_first _ _ hne (word_nosep hy)]
      simp
    rw [textSt_snoc width (l ++ [x]) y]
    unfold lineStep
    rw [if_neg (by rw [textSt_some]; simp)]
    split
    · exact key 32 (by decide)
    · exact key 10 (by decide)
/-- the words of a text, as the reference takes them -/
def refWordsM (t : ByteArray) : List ByteArray := (splitM 10 t).dropLast.flatMap (splitM 32)
theorem splitM_mk (c : UInt8) (l : List UInt8) : splitM c (mkS l) = (splitB c l []).map mkS := rfl
theorem refWords_snoc (T : List UInt8) : refWordsM (mkS (T ++ [10])) = (splitP T []).map mkS := by
  unfold refWordsM
  rw [splitM_mk, splitB_snoc, List.map_append]
  simp only [List.map_cons, List.map_nil, List.dropLast_concat]
  have := split_lines T [] [] [] (by rfl)
  rw [List.nil_append] at this
  rw [← this, List.flatMap_map, List.map_flatMap]
  rfl
theorem map_mkS (l : List ByteArray) : (l.map bytesL).map mkS = l := by
  rw [List.map_map]
  have : (mkS ∘ bytesL) = id := by funext x; exact mkS_bytes x
  rw [this, List.map_id]
/-- written and parted: the letter -/
theorem refWords_text (width : Int) (l : List ByteArray) (h : ∀ s ∈ l, wordM s = true) : refWordsM (mkS (textM width l)) = l := by
  rcases List.eq_nil_or_concat l with rfl | ⟨l, y, rfl⟩
  · rfl
  · rw [List.concat_eq_append] at *
    have h1 : ∀ s ∈ l, wordM s = true := fun s hs => h s (List.mem_append_left _ hs)
    have hy : wordM y = true := h y (by simp)
    obtain ⟨i1, -⟩ := text_parts width l h1 y hy []
    unfold textM
    rw [if_neg (by simp), refWords_snoc]
    rw [List.append_nil] at i1
    rw [i1, splitP, List.map_append, map_mkS]
    simp [mkS_bytes]
/-! ### the fields of a text -/
theorem spans_fields (T : List UInt8) (ha : ∀ b ∈ T, b.toNat < 128) : ∀ (f pos : Nat) (st : Option Nat) (acc : List (Nat × Nat)), T.length - pos ≤ f → pos ≤ T.length → (∀ a, st = some a → a ≤ pos) →
    (Lib.closeSpans (mkS T) (Lib.spansFromP betweenP (mkS T) f pos st acc)).map (fun x => (mkS T).extract x.1 x.2) = acc.map (fun x => (mkS T).extract x.1 x.2) ++ (fieldsB (T.drop pos) (st.map fun a => (T.drop a).take (pos - a))).map mkS := by
  have hext : ∀ a b, (mkS T).extract a b = mkS ((T.drop a).take (b - a)) := fun a b => extract_part (mkS T) a b
  have hend : ∀ (st : Option Nat) (acc : List (Nat × Nat)), (∀ a, st = some a → a ≤ T.length) → (Lib.closeSpans (mkS T) (acc, st)).map (fun x => (mkS T).extract x.1 x.2) = acc.map (fun x => (mkS T).extract x.1 x.2) ++ (fieldsB [] (st.map fun a => (T.drop a).take (T.length - a))).map mkS := fun st acc hst => by
    cases st with
    | none => simp [Lib.closeSpans, fieldsB]
    | some a => simp [Lib.closeSpans, fieldsB, hext, mkS_size]
  intro f
  induction f with
  | zero =>
    intro pos st acc hf hpos hst
    obtain rfl : pos = T.length := by omega
    rw [Lib.spansFromP, List.drop_length]
    exact hend st acc hst
  | succ f ih =>
    intro pos st acc hf hpos hst
    by_cases hlt : pos < T.length
    · have hlt' : pos < (mkS T).size := by rw [mkS_size]; exact hlt
      have hb : ((mkS T)[pos]'hlt').toNat < 128 := ha _ (by show T[pos] ∈ T; exact List.getElem_mem hlt)
      have hd := decode_ascii (mkS T) pos hlt' hb
      have hg : (mkS T)[pos]'hlt' = T[pos] := rfl
      rw [hg] at hd
      unfold Lib.spansFromP
      rw [if_pos hlt', hd]
      have hbt : betweenP T[pos].toNat = sepB T[pos] := by
        unfold betweenP sepB
        have h1 : (T[pos].toNat == 32) = (T[pos] == 32) := by
          rw [Bool.eq_iff_iff]; simp [← UInt8.toNat_inj]
        have h2 : (T[pos].toNat == 10) = (T[pos] == 10) := by
          rw [Bool.eq_iff_iff]; simp [← UInt8.toNat_inj]
        rw [h1, h2]
      have hdrop : T.drop pos = T[pos] :: T.drop (pos + 1) := List.drop_eq_getElem_cons hlt
      have h1 : (T.drop pos).take (pos + 1 - pos) = [T[pos]] := by
        rw [show pos + 1 - pos = 1 from by omega, hdrop]; rfl
      have h2 : ∀ a, a ≤ pos → (T.drop a).take (pos + 1 - a) = (T.drop a).take (pos - a) ++ [T[pos]] := fun a hap => by
        rw [show pos + 1 - a = (pos - a) + 1 from by omega, List.take_succ_eq_append_getElem (by rw [List.length_drop]; omega), List.getElem_drop]
        simp only [show a + (pos - a) = pos from by omega]
        rfl
      simp only [hbt]
      rw [hdrop]
      clear hbt hd hg hb hdrop
      generalize T[pos] = c at *
      cases hs : sepB c
      · cases st with
        | none =>
          simp only [Bool.false_eq_true, if_false]
          rw [ih (pos + 1) (some pos) acc (by omega) (by omega) (fun a e => by cases e; omega)]
          simp only [Option.map_none, Option.map_some, fieldsB, hs, Bool.false_eq_true, if_false, h1]
        | some a =>
          have hap := hst a rfl
          simp only [Bool.false_eq_true, if_false]
          rw [ih (pos + 1) (some a) acc (by omega) (by omega) (fun b e => by cases e; omega)]
          simp only [Option.map_some, fieldsB, hs, Bool.false_eq_true, if_false, h2 a hap]
      · cases st with
        | none =>
          simp only [if_true]
          rw [ih (pos + 1) none acc (by omega) (by omega) (fun a e => by cases e)]
          simp only [Option.map_none, fieldsB, hs, if_true]
        | some a =>
          simp only [if_true]
          rw [ih (pos + 1) none (acc ++ [(a, pos)]) (by omega) (by omega) (fun a e => by cases e)]
          simp only [Option.map_none, Option.map_some, fieldsB, hs, if_true, List.map_append, List.map_cons, List.map_nil, hext, List.append_assoc]
          rfl
    · obtain rfl : pos = T.length := by omega
      rw [Lib.spansFromP_end _ _ _ _ _ _ (by rw [mkS_size]; omega), List.drop_length]
      exact hend st acc hst
theorem fields_mk (T : List UInt8) (ha : ∀ b ∈ T, b.toNat < 128) : fieldsM (mkS T) = (fieldsB T none).map mkS := by
  have := spans_fields T ha (mkS T).size 0 none [] (by rw [mkS_size]; omega) (Nat.zero_le _) (fun a e => by cases e)
  unfold fieldsM Lib.goFieldsP Lib.spansOfP
  rw [this]
  simp
theorem text_ascii (width : Int) (l : List ByteArray) : (∀ s ∈ l, wordM s = true) → ∀ b ∈ (textSt width l).1, b.toNat < 128 := by
  refine snoc_ind (p := fun l => (∀ s ∈ l, wordM s = true) → ∀ b ∈ (textSt width l).1, b.toNat < 128) (by simp [textSt_nil]) (fun l x ih h => ?_) l
  have i := ih fun s hs => h s (List.mem_append_left _ hs)
  have hx := word_bytes (h x (by simp))
  rw [textSt_snoc]
  unfold lineStep
  intro b hb
  split at hb
  · have := hx b hb; omega
  · split at hb
    all_goals
      simp only [List.mem_append, List.mem_singleton] at hb
      rcases hb with (hb | hb) | hb
      · exact i b hb
      · subst hb; decide
      · have := hx b hb; omega
theorem fields_text (width : Int) (l : List ByteArray) (h : ∀ s ∈ l, wordM s = true) : fieldsM (mkS (textM width l)) = l := by
  rcases List.eq_nil_or_concat l with rfl | ⟨l, y, rfl⟩
  · rfl
  · rw [List.concat_eq_append] at *
    have h1 : ∀ s ∈ l, wordM s = true := fun s hs => h s (List.mem_append_left _ hs)
    have hy : wordM y = true := h y (by simp)
    obtain ⟨-, i2⟩ := text_parts width l h1 y hy [10]
    have hasc : ∀ b ∈ textM width (l ++ [y]), b.toNat < 128 := by
      unfold textM
      rw [if_neg (by simp)]
      intro b hb
      rcases List.mem_append.1 hb with hb | hb
      · exact text_ascii width (l ++ [y]) h b hb
      · rw [List.mem_singleton] at hb; subst hb; decide
    rw [fields_mk _ hasc]
    unfold textM
    rw [if_neg (by simp), i2]
    simp only [fieldsB, sepB, List.map_append]
    rw [map_mkS]
    simp [mkS_bytes]
/-- the letter that a text is of, as the reference takes it -/
def refReadM (s : Shelf) (t : ByteArray) : List ByteArray × Int :=
  if errS s ≠ 0 then ([], errS s) else if 160 < t.size then ([], 3) else if letterErrL (refWordsM t) ≠ 0 ∨ mkS (textM s.width (refWordsM t)) ≠ t then ([], 6) else (refWordsM t, 0)
theorem read_same (s : Shelf) (t : ByteArray) : refReadM s t = readM s t := by
  unfold refReadM readM
  have he : shelfErrM s [] = errS s := by
    unfold shelfErrM
    by_cases h : errS s = 0
    · rw [if_neg (by simpa using h), h]; rfl
    · rw [if_pos h]
  rw [he]
  by_cases h0 : errS s = 0
  · have hne : ¬ (errS s ≠ 0) := by simpa using h0
    rw [if_neg hne, if_neg hne]
    by_cases h1 : 160 < t.size
    · rw [if_pos h1, if_pos h1]
    · rw [if_neg h1, if_neg h1]
      have hmk : ∀ l : List ByteArray, (textM s.width l = bytesL t) ↔ mkS (textM s.width l) = t := fun l => ⟨fun h => by rw [h, mkS_bytes], fun h => by rw [← h, bytes_mkS]⟩
      by_cases hp : letterErrL (fieldsM t) = 0 ∧ textM s.width (fieldsM t) = bytesL t
      · have hw := (lettErr_ok hp.1).2
        have ht := (hmk _).1 hp.2
        have hr : refWordsM t = fieldsM t := by
          have := refWords_text s.width (fieldsM t) hw
          rw [ht] at this
          exact this
        have hne2 : ¬ (letterErrL (fieldsM t) ≠ 0) := by simpa using hp.1
        have hne3 : ¬ (letterErrL (fieldsM t) ≠ 0 ∨ mkS (textM s.width (fieldsM t)) ≠ t) := by
          rintro (h | h)
          · exact h hp.1
          · exact h ht
        rw [hr, if_neg hne3, if_neg hne2, if_pos hp.2]
      · have hq : ¬ (letterErrL (refWordsM t) = 0 ∧ mkS (textM s.width (refWordsM t)) = t) := fun hq => by
          have hw := (lettErr_ok hq.1).2
          have hf : fieldsM t = refWordsM t := by
            have := fields_text s.width (refWordsM t) hw
            rw [hq.2] at this
            exact this
          exact hp ⟨by rw [hf]; exact hq.1, (hmk _).2 (by rw [hf]; exact hq.2)⟩
        rw [if_pos]
        · by_cases h2 : letterErrL (fieldsM t) = 0
          · rw [if_neg (by simpa using h2), if_neg (fun h => hp ⟨h2, h⟩)]
          · rw [if_pos h2]
        · by_cases h2 : letterErrL (refWordsM t) = 0
          · exact .inr fun h => hq ⟨h2, h⟩
          · exact .inl h2
  · rw [if_pos h0, if_pos h0]
end Go.Proofs.YtcamegaimleomaaGreat

namespace Go.Proofs.YtcamegaimleomaaGreat
set_option linter.unusedSimpArgs false
set_option linter.unusedVariables false
open Go.RowKit
set_option linter.unusedVariables false

theorem splitB_len (c : UInt8) : ∀ (l cur : List UInt8), (splitB c l cur).length ≤ l.length + 1
  | [], cur => by simp [splitB]
  | x :: r, cur => by
    rw [splitB]
    split
    · have := splitB_len c r []
      simp; omega
    · have := splitB_len c r (cur ++ [x])
      simp; omega
theorem splitM_len (c : UInt8) (s : ByteArray) : (splitM c s).length ≤ s.size + 1 := by
  unfold splitM
  rw [List.length_map]
  exact splitB_len c _ _
theorem splitM_ne (c : UInt8) (s : ByteArray) : 0 < (splitM c s).length := by
  unfold splitM
  rw [List.length_map]
  exact List.length_pos_iff.2 (splitB_end.splitB_ne c _ _)
end Go.Proofs.YtcamegaimleomaaGreat

namespace Go.Proofs.YtcamegaimleomaaGreat
set_option linter.unusedSimpArgs false
set_option linter.unusedVariables false
open Go.RowKit
set_option linter.unusedVariables false

/-- a shelf in a box -/
theorem box_shelf {w : World} {fa : Option Addr} {fc : Nat} {s : Shelf} (hb : ShelfAt w (.agg #[.int .i64 s.width, .slice fa s.forms.length fc]) s) :
    ∃ W, W = w.alloc (.cells #[.int .i64 s.width, .slice fa s.forms.length fc] 24) ∧ ShelfAt W (.agg #[.int .i64 s.width, .slice fa s.forms.length fc]) s ∧ W.cell? ⟨w.heap.size, 0, none⟩ = some (.int .i64 s.width) ∧ W.cell? ⟨w.heap.size, 1, none⟩ = some (.slice fa s.forms.length fc) ∧ Ext w W :=
  ⟨_, rfl, hb.ext (ext_alloc _ _), by simp [go_sem], by simp [go_sem], ext_alloc _ _⟩
end Go.Proofs.YtcamegaimleomaaGreat

namespace Go.Proofs.YtcamegaimleomaaGreat
set_option linter.unusedSimpArgs false
set_option linter.unusedVariables false
open Go.RowKit
set_option linter.unusedVariables false

theorem neT {x : Int} (h : x ≠ 0) : (x != 0) = true := by simpa using h
/-- the first that needs the fewest -/
theorem pick_first (fs : List Form) (l : List ByteArray) : ∀ n, 0 < n → (pickC (needsTo fs l n)).1 < n ∧ (pickC (needsTo fs l n)).2 = costOf fs l (pickC (needsTo fs l n)).1 ∧ (∀ i < n, (pickC (needsTo fs l n)).2 ≤ costOf fs l i) ∧ (∀ i < (pickC (needsTo fs l n)).1, (pickC (needsTo fs l n)).2 < costOf fs l i)
  | 0, h => absurd h (by omega)
  | n + 1, _ => by
    have hst : pickC (needsTo fs l (n + 1)) = if n = 0 ∨ fewCh (n, costOf fs l n) (pickC (needsTo fs l n)) = true then (n, costOf fs l n) else pickC (needsTo fs l n) := by
      rw [needsTo_step]
      unfold pickC
      rw [pickB_snoc, pickB_many, needsTo_len]
    by_cases h0 : n = 0
    · subst h0
      rw [if_pos (.inl rfl)] at hst
      rw [hst]
      refine ⟨by simp, rfl, fun i hi => ?_, fun i hi => absurd hi (by simp)⟩
      obtain rfl : i = 0 := by omega
      exact Nat.le_refl _
    · obtain ⟨g1, g2, g3, g4⟩ := pick_first fs l n (by omega)
      by_cases hf : fewCh (n, costOf fs l n) (pickC (needsTo fs l n)) = true
      · rw [if_pos (.inr hf)] at hst
        rw [hst]
        unfold fewCh at hf
        have hf' := of_decide_eq_true hf
        simp only at hf' ⊢
        refine ⟨by omega, trivial, fun i hi => ?_, fun i hi => ?_⟩
        · by_cases hin : i = n
          · subst hin; exact Nat.le_refl _
          · have := g3 i (by omega); omega
        · have := g3 i (by omega); omega
      · rw [if_neg (by simp [h0, hf])] at hst
        rw [hst]
        unfold fewCh at hf
        have hf' := of_decide_eq_false (Bool.eq_false_iff.2 hf)
        simp only at hf'
        refine ⟨by omega, g2, fun i hi => ?_, g4⟩
        by_cases hin : i = n
        · subst hin; omega
        · exact g3 i (by omega)
theorem ofTo_mem (fs : List Form) (l : List ByteArray) : ∀ (k i : Nat), ((i : Int) ∈ ofTo fs l k ↔ i < k ∧ 0 < (formWays (fs.getD i ⟨⟨#[]⟩, []⟩).parts l).length)
  | 0, i => by simp [ofTo]
  | k + 1, i => by
    rw [ofTo, List.mem_append, ofTo_mem fs l k i]
    by_cases h : 0 < (formWays (fs.getD k ⟨⟨#[]⟩, []⟩).parts l).length
    · rw [if_pos h]
      constructor
      · rintro (⟨h1, h2⟩ | h1)
        · exact ⟨by omega, h2⟩
        · have : (i : Int) = k := by simpa using h1
          obtain rfl : i = k := by omega
          exact ⟨by omega, h⟩
      · rintro ⟨h1, h2⟩
        by_cases hik : i = k
        · right; simp [hik]
        · left; exact ⟨by omega, h2⟩
    · rw [if_neg h]
      constructor
      · rintro (⟨h1, h2⟩ | h1)
        · exact ⟨by omega, h2⟩
        · simp at h1
      · rintro ⟨h1, h2⟩
        by_cases hik : i = k
        · subst hik; exact absurd h2 h
        · left; exact ⟨by omega, h2⟩
theorem rising_snoc (b x : Int) : ∀ (l : List Int) (a : Int), (∀ y ∈ l, y < x) → a < x → x < b → risingM b a l = true → risingM b a (l ++ [x]) = true
  | [], a, _, ha, hx, _ => by simp [risingM, ha, hx]
  | y :: l, a, hl, ha, hx, h => by
    rw [risingM, Bool.and_eq_true, Bool.and_eq_true] at h
    rw [List.cons_append, risingM, Bool.and_eq_true, Bool.and_eq_true]
    exact ⟨h.1, rising_snoc b x l y (fun z hz => hl z (List.mem_cons_of_mem _ hz)) (hl y List.mem_cons_self) hx h.2⟩
theorem ofTo_lt (fs : List Form) (l : List ByteArray) : ∀ (k : Nat), ∀ x ∈ ofTo fs l k, x < (k : Int)
  | 0, x, h => by simp [ofTo] at h
  | k + 1, x, h => by
    rw [ofTo, List.mem_append] at h
    rcases h with h | h
    · have := ofTo_lt fs l k x h; omega
    · split at h
      · have : x = k := by simpa using h
        omega
      · simp at h
theorem ofTo_rising (fs : List Form) (l : List ByteArray) (b : Nat) : ∀ k, k ≤ b → risingM b (-1) (ofTo fs l k) = true
  | 0, _ => rfl
  | k + 1, hk => by
    rw [ofTo]
    have ih := ofTo_rising fs l b k (by omega)
    split
    · exact rising_snoc _ _ _ _ (ofTo_lt fs l k) (by omega) (by omega) ih
    · rwa [List.append_nil]
theorem valid_partOk {p : Part} (h : ValidPart p) : PartOk p := by
  by_cases hw : p.words = []
  · exact .inl hw
  · exact .inr (h.z hw).2
/-- no corrections are needed just if the letter is of the form -/
theorem cost_of {s : Shelf} (hv : ValidShelf s) (l : List ByteArray) (i : Nat) (hi : i < s.forms.length) : decide ((i : Int) ∈ ofM s l) = ((costOf s.forms l i : Int) == 0) := by
  have h1 := ofTo_mem s.forms l s.forms.length i
  have h2 := cost_none (fun p hp => valid_partOk ((hv.forms _ (List.getElem_mem hi)).parts p hp)) l
  have e1 : s.forms.getD i ⟨⟨#[]⟩, []⟩ = s.forms[i] := by rw [List.getD_eq_getElem?_getD, List.getElem?_eq_getElem hi]; rfl
  rw [e1] at h1
  have e2 : costOf s.forms l i = (costM l (formSlotsM s.forms[i].parts)).2 := by simp [costOf, hi]
  rw [e2]
  unfold ofM
  by_cases h : (costM l (formSlotsM s.forms[i].parts)).2 = 0
  · rw [h]
    rw [decide_eq_true (h1.2 ⟨hi, Nat.pos_of_ne_zero (h2.1 h)⟩)]; rfl
  · rw [decide_eq_false (fun e => h (h2.2 (by have := (h1.1 e).2; omega)))]
    symm; simpa using h
theorem mend_cost {s : Shelf} {l : List ByteArray} (hv : errS s = 0) (hl : letterErrL l = 0) (i : Nat) (hi : i < s.forms.length) : openForErrM s i l = 0 ∧ mendM s i l = costOf s.forms l i := by
  have h1 : openErrM s i = 0 := by
    unfold openErrM
    rw [if_neg (by rw [hv]; simp), if_neg]
    unfold inM
    simp only [Bool.and_eq_false_iff, decide_eq_false_iff_not, not_or, Decidable.not_not]
    omega
  have h2 : openForErrM s i l = 0 := by unfold openForErrM; rw [if_neg (by rw [h1]; simp), hl]
  refine ⟨h2, ?_⟩
  unfold mendM
  rw [if_pos h2]
  simp [costOf, hi]
/-- Nearest, where it is right -/
structure NearOk (s : Shelf) (l : List ByteArray) : Prop where
  e : nearErrM s l = 0
  lt : (nearV s l).1 < s.forms.length
  is : costOf s.forms l (nearV s l).1 = (nearV s l).2
  le : ∀ i < s.forms.length, (nearV s l).2 ≤ costOf s.forms l i
  fst : ∀ i < (nearV s l).1, (nearV s l).2 < costOf s.forms l i
theorem near_ok {s : Shelf} {l : List ByteArray} (hv : errS s = 0) (h0 : s.forms.length ≠ 0) (hl : letterErrL l = 0) : NearOk s l := by
  have he : nearErrM s l = 0 := by
    unfold nearErrM
    have : shelfErrM s l = 0 := by unfold shelfErrM; rw [if_neg (by rw [hv]; simp), hl]
    rw [if_neg (by rw [this]; simp), if_neg h0]
  have hn : nearV s l = pickC (needsTo s.forms l s.forms.length) := by unfold nearV; rw [if_pos he]; rfl
  obtain ⟨g1, g2, g3, g4⟩ := pick_first s.forms l s.forms.length (by omega)
  rw [← hn] at g1 g2 g3 g4
  exact ⟨he, g1, g2.symm, g3, g4⟩
theorem near_bad {s : Shelf} {l : List ByteArray} (h : errS s ≠ 0 ∨ s.forms.length = 0 ∨ letterErrL l ≠ 0) : nearErrM s l ≠ 0 ∧ nearV s l = (0, 0) := by
  have he : nearErrM s l ≠ 0 := by
    unfold nearErrM
    by_cases h0 : shelfErrM s l = 0
    · rw [if_neg (by rw [h0]; simp), if_pos]
      · decide
      · unfold shelfErrM at h0
        by_cases h1 : errS s = 0
        · rw [if_neg (by rw [h1]; simp)] at h0
          rcases h with h | h | h
          · exact absurd h1 h
          · exact h
          · exact absurd h0 h
        · rw [if_pos h1] at h0; exact absurd h0 h1
    · rw [if_pos h0]; exact h0
  exact ⟨he, by unfold nearV; rw [if_neg he]⟩
end Go.Proofs.YtcamegaimleomaaGreat

namespace Go.Proofs.YtcamegaimleomaaGreat
set_option linter.unusedSimpArgs false
set_option linter.unusedVariables false
set_option linter.unusedVariables false

/-- the letter of a form and fills, part by part -/
def builtR : List Part → List (List ByteArray) → List ByteArray
  | [], _ => []
  | p :: ps, fs => if roomyM p then fs.headD [] ++ builtR ps fs.tail else p.words ++ builtR ps fs
theorem built_rec (ps : List Part) (fs : List (List ByteArray)) : ∀ k, k ≤ ps.length → (builtTo ps fs k).1 ++ builtR (ps.drop k) (builtTo ps fs k).2 = builtR ps fs
  | 0, _ => by simp [builtTo]
  | k + 1, hk => by
    have ih := built_rec ps fs k (by omega)
    have hlt : k < ps.length := by omega
    rw [List.drop_eq_getElem_cons hlt, builtR] at ih
    have e : ps.getD k ⟨[], 0, 0⟩ = ps[k] := by rw [List.getD_eq_getElem?_getD, List.getElem?_eq_getElem hlt]; rfl
    rw [builtTo, stepB, e]
    cases hr : roomyM ps[k]
    · rw [hr] at ih
      simp only [Bool.false_eq_true, if_false] at ih ⊢
      rw [List.append_assoc]; exact ih
    · rw [hr] at ih
      simp only [if_true] at ih ⊢
      rw [List.append_assoc]; exact ih
theorem built_is (ps : List Part) (fs : List (List ByteArray)) : builtM ps fs = builtR ps fs := by
  have := built_rec ps fs ps.length (Nat.le_refl _)
  rw [List.drop_length] at this
  unfold builtM
  rw [← this, builtR, List.append_nil]
theorem edS_words {a : List ByteArray} {ss : List Slot} {n : Nat} (h : EdS a ss n) : ∀ ws : List ByteArray, EdS (ws ++ a) (givenM ws ++ ss) n
  | [] => h
  | x :: ws => .keep x ⟨x, false⟩ (by simp [takesM]) (edS_words h ws)
theorem edS_room {a : List ByteArray} {ss : List Slot} {n : Nat} (h : EdS a ss n) : ∀ (l : List ByteArray) (sl : List Slot), l.length ≤ sl.length → (∀ s ∈ sl, s.word = ByteArray.empty) → (∀ s ∈ sl.drop l.length, s.free = true) → EdS (l ++ a) (sl ++ ss) n
  | [], [], _, _, _ => h
  | [], s :: sl, _, hw, hf => .skip s (hf s (by simp)) (edS_room h [] sl (by simp) (fun x hx => hw x (List.mem_cons_of_mem _ hx)) fun x hx => hf x (by simpa using Or.inr (by simpa using hx)))
  | x :: l, [], hl, _, _ => by simp at hl
  | x :: l, s :: sl, hl, hw, hf => .keep x s (by have := hw s List.mem_cons_self; simp [takesM, this]) (edS_room h l sl (by simpa using hl) (fun x hx => hw x (List.mem_cons_of_mem _ hx)) fun x hx => hf x (by simpa using hx))
theorem roomSlots_free (lo : Int) (n m : Nat) (h : lo ≤ m) : ∀ s ∈ (roomSlotsM lo n).drop m, s.free = true := by
  intro s hs
  unfold roomSlotsM at hs
  rw [← List.map_drop, List.mem_map] at hs
  obtain ⟨k, hk, rfl⟩ := hs
  obtain ⟨i, hi, rfl⟩ := List.getElem_of_mem hk
  simp only [List.getElem_drop, List.getElem_range]
  exact decide_eq_true (by omega)
theorem PutOk.tail {p : Part} {rs : List Part} {l : List ByteArray} {fs : List (List ByteArray)} (h : PutOk (p :: rs) (l :: fs)) : PutOk rs fs ∧ (p.lo ≤ l.length ∧ (l.length : Int) ≤ p.hi) ∧ ∀ s ∈ l, wordM s = true :=
  ⟨⟨by have := h.le; simpa using this, fun i hi h2 => by have := h.at_ (i + 1) (by simp; omega) (by simp; omega); simpa using this, fun x hx => h.w x (List.mem_cons_of_mem _ hx)⟩, by have := h.at_ 0 (by simp) (by simp); simpa using this, h.w l List.mem_cons_self⟩
theorem made_ed : ∀ (ps : List Part) (fs : List (List ByteArray)), (∀ p ∈ ps, ValidPart p) → PutOk (roomsM ps) fs → fs.length = (roomsM ps).length →
    EdS (builtR ps fs) (formSlotsM ps) 0 ∧ (builtR ps fs).length ≤ 3 * ps.length ∧ ∀ s ∈ builtR ps fs, wordM s = true
  | [], fs, _, _, _ => ⟨.nil, by simp [builtR], by simp [builtR]⟩
  | p :: ps, fs, hv, hp, hn => by
    have hvp := hv p List.mem_cons_self
    have hv' : ∀ q ∈ ps, ValidPart q := fun q hq => hv q (List.mem_cons_of_mem _ hq)
    have hs : formSlotsM (p :: ps) = partSlotsM p ++ formSlotsM ps := by simp [formSlotsM]
    rw [hs, builtR]
    cases hr : roomyM p
    · have hrm : roomsM (p :: ps) = roomsM ps := by simp [roomsM, hr]
      rw [hrm] at hp hn
      obtain ⟨i1, i2, i3⟩ := made_ed ps fs hv' hp hn
      have hne : p.words ≠ [] := fun e => by unfold roomyM at hr; rw [e] at hr; simp at hr
      have h0 : partSlotsM p = givenM p.words := by
        unfold partSlotsM
        rw [(hvp.z hne).2]
        simp [roomSlotsM]
      have hw := hvp.w
      have h3 := hvp.n
      unfold wordsM at hw
      rw [List.all_eq_true] at hw
      rw [h0]
      simp only [Bool.false_eq_true, if_false, List.length_append, List.length_cons]
      refine ⟨edS_words i1 _, by omega, fun s hs => ?_⟩
      rcases List.mem_append.1 hs with h | h
      · exact hw s h
      · exact i3 s h
    · have hrm : roomsM (p :: ps) = p :: roomsM ps := by simp [roomsM, hr]
      rw [hrm] at hp hn
      cases fs with
      | nil => simp at hn
      | cons l fs =>
        obtain ⟨t1, t2, t3⟩ := hp.tail
        obtain ⟨i1, i2, i3⟩ := made_ed ps fs hv' t1 (by simpa using hn)
        have he : p.words = [] := by unfold roomyM at hr; exact List.eq_nil_of_length_eq_zero (by simpa using hr)
        obtain ⟨r1, r2, r3, r4⟩ := hvp.r he
        have h0 : partSlotsM p = roomSlotsM p.lo p.hi.toNat := by unfold partSlotsM; rw [he]; rfl
        have hlen : (roomSlotsM p.lo p.hi.toNat).length = p.hi.toNat := by simp [roomSlotsM]
        rw [h0]
        simp only [if_true, List.headD_cons, List.tail_cons, List.length_append, List.length_cons]
        refine ⟨edS_room i1 l _ (by rw [hlen]; omega) (fun s hs => ?_) (roomSlots_free _ _ _ t2.1), by omega, fun s hs => ?_⟩
        · unfold roomSlotsM at hs
          obtain ⟨k, -, rfl⟩ := List.mem_map.1 hs
          rfl
        · rcases List.mem_append.1 hs with h | h
          · exact t3 s h
          · exact i3 s h
theorem lett_okM {l : List ByteArray} (h : l.length ≤ 15) (hw : ∀ s ∈ l, wordM s = true) : letterErrL l = 0 := by
  unfold letterErrL
  rw [if_neg (by omega), if_neg]
  rw [Bool.not_eq_false]
  unfold wordsM
  rw [List.all_eq_true]
  exact hw
/-- a letter that is made of a form: right, and no nearer than what the form needs -/
theorem made_far {f : Form} (hv : ValidForm f) {fs : List (List ByteArray)} (hp : PutOk (roomsM f.parts) fs) (hn : fs.length = (roomsM f.parts).length) {l : List ByteArray} (hl : letterErrL l = 0) :
    letterErrL (builtM f.parts fs) = 0 ∧ fewErrM l (builtM f.parts fs) = 0 ∧ (costM l (formSlotsM f.parts)).2 ≤ fewManyM l (builtM f.parts fs) := by
  obtain ⟨h1, h2, h3⟩ := made_ed f.parts fs hv.parts hp hn
  rw [← built_is] at h1 h2 h3
  have h5 := hv.n
  have hL := lett_okM (by omega) h3
  have hE : fewErrM l (builtM f.parts fs) = 0 := by unfold fewErrM; rw [if_neg (by rw [hl]; simp), hL]
  refine ⟨hL, hE, ?_⟩
  have := cost_wayS (a := l) (formSlotsM f.parts) h3
  have h0 := cost_le h1
  unfold fewManyM
  rw [if_pos hE]
  omega
theorem Ed.pre {a b : List ByteArray} {n : Nat} (h : Ed a b n) : ∀ p : List ByteArray, Ed (p ++ a) (p ++ b) n
  | [] => h
  | x :: p => .keep x (Ed.pre h p)
theorem Ed.same : ∀ a : List ByteArray, Ed a a 0
  | [] => .nil
  | x :: a => .keep x (Ed.same a)
def dropW (l : List ByteArray) (n : Nat) : List ByteArray := l.take n ++ l.drop (n + 1)
theorem cost_ed {a b : List ByteArray} {n : Nat} (hb : ∀ s ∈ b, wordM s = true) (h : Ed a b n) : (costM a (givenM b)).2 ≤ n := by
  rw [cost_far (a.length + b.length + 1) a b (by omega) hb]
  exact far_le h _ (by omega)
theorem near_one {a b : List ByteArray} (ha : ∀ s ∈ a, wordM s = true) (hb : ∀ s ∈ b, wordM s = true) (h1 : Ed a b 1) (h2 : Ed b a 1) (ss : List Slot) : (costM b ss).2 ≤ (costM a ss).2 + 1 ∧ (costM a ss).2 ≤ (costM b ss).2 + 1 := by
  have g1 := cost_wayS (a := b) ss ha
  have g2 := cost_wayS (a := a) ss hb
  have g3 := cost_ed hb h1
  have g4 := cost_ed ha h2
  omega
theorem drop_one {l : List ByteArray} {n : Nat} (h : n < l.length) : Ed l (dropW l n) 1 ∧ Ed (dropW l n) l 1 := by
  have e : l = l.take n ++ l[n] :: l.drop (n + 1) := by rw [← List.drop_eq_getElem_cons h, List.take_append_drop]
  have a1 : Ed (l[n] :: l.drop (n + 1)) (l.drop (n + 1)) (0 + 1) := .drop _ (Ed.same _)
  have a2 : Ed (l.drop (n + 1)) (l[n] :: l.drop (n + 1)) (0 + 1) := .put _ (Ed.same _)
  have b1 := Ed.pre a1 (l.take n)
  have b2 := Ed.pre a2 (l.take n)
  rw [← e] at b1 b2
  exact ⟨b1, b2⟩
theorem turn_one {l : List ByteArray} {n : Nat} (h : n < l.length) : Ed l (turnW l n) 1 ∧ Ed (turnW l n) l 1 := by
  have e : l = l.take n ++ l[n] :: l.drop (n + 1) := by rw [← List.drop_eq_getElem_cons h, List.take_append_drop]
  have a1 : Ed (l[n] :: l.drop (n + 1)) (zzW :: l.drop (n + 1)) (0 + 1) := .turn _ _ (Ed.same _)
  have a2 : Ed (zzW :: l.drop (n + 1)) (l[n] :: l.drop (n + 1)) (0 + 1) := .turn _ _ (Ed.same _)
  have b1 := Ed.pre a1 (l.take n)
  have b2 := Ed.pre a2 (l.take n)
  rw [← e] at b1 b2
  have e2 : turnW l n = l.take n ++ zzW :: l.drop (n + 1) := by unfold turnW; simp
  rw [e2]
  exact ⟨b1, b2⟩
theorem zz_word : wordM zzW = true := by decide +kernel
/-- one word less, or another one: right, and no further from any form than by one -/
theorem other_ok {l : List ByteArray} (hl : letterErrL l = 0) {n : Nat} (h : n < l.length) (ss : List Slot) :
    (letterErrL (dropW l n) = 0 ∧ (costM (dropW l n) ss).2 ≤ (costM l ss).2 + 1 ∧ (costM l ss).2 ≤ (costM (dropW l n) ss).2 + 1) ∧
    (letterErrL (turnW l n) = 0 ∧ (costM (turnW l n) ss).2 ≤ (costM l ss).2 + 1 ∧ (costM l ss).2 ≤ (costM (turnW l n) ss).2 + 1) := by
  obtain ⟨h15, hw⟩ := lettErr_ok hl
  have wd : ∀ s ∈ dropW l n, wordM s = true := fun s hs => by
    rcases List.mem_append.1 hs with h | h
    · exact hw s (List.mem_of_mem_take h)
    · exact hw s (List.mem_of_mem_drop h)
  have wt : ∀ s ∈ turnW l n, wordM s = true := fun s hs => by
    rcases List.mem_append.1 hs with h | h
    · rcases List.mem_append.1 h with h | h
      · exact hw s (List.mem_of_mem_take h)
      · rw [List.mem_singleton] at h; subst h; exact zz_word
    · exact hw s (List.mem_of_mem_drop h)
  obtain ⟨d1, d2⟩ := drop_one h
  obtain ⟨t1, t2⟩ := turn_one h
  refine ⟨⟨lett_okM (by unfold dropW; rw [List.length_append, List.length_take, List.length_drop]; omega) wd, near_one hw wd d1 d2 ss⟩, ⟨lett_okM (by unfold turnW; rw [List.length_append, List.length_append, List.length_take, List.length_drop]; simp; omega) wt, near_one hw wt t1 t2 ss⟩⟩
end Go.Proofs.YtcamegaimleomaaGreat

namespace Go.Proofs.YtcamegaimleomaaGreat
set_option linter.unusedSimpArgs false
set_option linter.unusedVariables false
set_option linter.unusedVariables false

/-- counts as a list, over others -/
def ovr : (Nat → Int) → Nat → List Nat → (Nat → Int)
  | c, _, [] => c
  | c, k, n :: ns => ovr (updC c k n) (k + 1) ns
def waysL : List (List Slot) → List ByteArray → List (List Nat)
  | [], left => if left.length = 0 then [[]] else []
  | sl :: r, left => (List.range (sl.length + 1)).flatMap fun n => if sizeOk sl left n = true then (waysL r (left.drop n)).map (n :: ·) else []
theorem waysTo_flat (step : Nat → List (Nat → Int)) (sl : List Slot) (left : List ByteArray) : ∀ k, waysTo step sl left k = (List.range k).flatMap fun n => if sizeOk sl left n = true then step n else []
  | 0 => rfl
  | k + 1 => by rw [waysTo, waysTo_flat step sl left k, List.range_succ, List.flatMap_append]; simp
theorem ways_list : ∀ (ss : List (List Slot)) (k : Nat) (left : List ByteArray) (c : Nat → Int), waysF ss k left c = (waysL ss left).map (ovr c k)
  | [], k, left, c => by unfold waysF waysL; split <;> rfl
  | sl :: r, k, left, c => by
    rw [waysF, waysTo_flat, waysL, List.map_flatMap]
    congr 1
    funext n
    split
    · rw [ways_list r (k + 1) _ _, List.map_map]; rfl
    · rfl
theorem waysL_mem {sl : List Slot} {r : List (List Slot)} {left : List ByteArray} {ns : List Nat} : ns ∈ waysL (sl :: r) left ↔ ∃ n m, ns = n :: m ∧ n ≤ sl.length ∧ sizeOk sl left n = true ∧ m ∈ waysL r (left.drop n) := by
  rw [waysL, List.mem_flatMap]
  constructor
  · rintro ⟨n, hn, h⟩
    split at h
    · rename_i hs
      obtain ⟨m, hm, rfl⟩ := List.mem_map.1 h
      exact ⟨n, m, rfl, by have := List.mem_range.1 hn; omega, hs, hm⟩
    · cases h
  · rintro ⟨n, m, rfl, h1, h2, h3⟩
    exact ⟨n, List.mem_range.2 (by omega), by rw [if_pos h2]; exact List.mem_map.2 ⟨m, h3, rfl⟩⟩
theorem waysL_len : ∀ (ss : List (List Slot)) (left : List ByteArray) (ns : List Nat), ns ∈ waysL ss left → ns.length = ss.length
  | [], left, ns, h => by
    unfold waysL at h
    split at h
    · rw [List.mem_singleton] at h; subst h; rfl
    · cases h
  | sl :: r, left, ns, h => by
    obtain ⟨n, m, rfl, -, -, hm⟩ := waysL_mem.1 h
    rw [List.length_cons, List.length_cons, waysL_len r _ m hm]
theorem ovr_at : ∀ (ns : List Nat) (c : Nat → Int) (k j : Nat), ovr c k ns j = if k ≤ j ∧ j < k + ns.length then ((ns.getD (j - k) 0 : Nat) : Int) else c j
  | [], c, k, j => by rw [ovr, if_neg (by simp only [List.length_nil]; omega)]
  | n :: ns, c, k, j => by
    rw [ovr, ovr_at ns _ (k + 1) j]
    by_cases hj : j = k
    · subst hj
      rw [if_neg (by omega), if_pos (by simp)]
      simp [updC]
    · by_cases h : k + 1 ≤ j ∧ j < k + 1 + ns.length
      · rw [if_pos h, if_pos (by simp; omega)]
        have : j - k = (j - (k + 1)) + 1 := by omega
        rw [this, List.getD_cons_succ]
      · rw [if_neg h, if_neg (by simp; omega)]
        simp [updC, hj]
/-- the fills by counts, part by part -/
def fillsR : List Part → List Nat → List ByteArray → List (List ByteArray)
  | p :: ps, n :: ns, l => if roomyM p then l.take n :: fillsR ps ns (l.drop n) else fillsR ps ns (l.drop n)
  | _, _, _ => []
theorem fillsR_nil (ns : List Nat) (l : List ByteArray) : fillsR [] ns l = [] := by cases ns <;> rfl
theorem fills_rec (ps : List Part) (c : Nat → Int) (ns : List Nat) (l : List ByteArray) (hn : ns.length = ps.length) (hc : ∀ j (h : j < ns.length), c j = (ns[j] : Nat)) : ∀ k, k ≤ ps.length → (fillsTo ps c l k).1 ++ fillsR (ps.drop k) (ns.drop k) (fillsTo ps c l k).2 = fillsR ps ns l
  | 0, _ => by simp [fillsTo]
  | k + 1, hk => by
    have ih := fills_rec ps c ns l hn hc k (by omega)
    have hlt : k < ps.length := by omega
    have hln : k < ns.length := by omega
    rw [List.drop_eq_getElem_cons hlt, List.drop_eq_getElem_cons hln, fillsR] at ih
    have e : ps.getD k ⟨[], 0, 0⟩ = ps[k] := by rw [List.getD_eq_getElem?_getD, List.getElem?_eq_getElem hlt]; rfl
    have e2 : (c k).toNat = ns[k] := by rw [hc k hln]; simp
    rw [fillsTo, e, e2]
    cases hr : roomyM ps[k]
    · rw [hr] at ih
      simpa using ih
    · rw [hr] at ih
      simpa using ih
theorem fills_is (ps : List Part) (ns : List Nat) (l : List ByteArray) (hn : ns.length = ps.length) : fillsM ps (ovr (fun _ => 0) 0 ns) l = fillsR ps ns l := by
  have := fills_rec ps (ovr (fun _ => 0) 0 ns) ns l hn (fun j h => by rw [ovr_at, if_pos (by omega)]; simp [h]) ps.length (Nat.le_refl _)
  rw [List.drop_length, fillsR_nil, List.append_nil] at this
  exact this
/-- the lengths in the rooms -/
def lensR : List Part → List Nat → List Int
  | p :: ps, n :: ns => if roomyM p then (n : Int) :: lensR ps ns else lensR ps ns
  | _, _ => []
theorem given_size {ws left : List ByteArray} {n : Nat} (hw : ∀ s ∈ ws, wordM s = true) (h : n ≤ ws.length) (hs : sizeOk (givenM ws) left n = true) : n = ws.length ∧ left.take n = ws := by
  obtain ⟨h1, h2, h3⟩ := sizeOk_iff.1 hs
  have hlen : (givenM ws).length = ws.length := by simp [givenM]
  have hn : n = ws.length := by
    rcases h2 with h2 | h2
    · omega
    · by_cases hlt : n < ws.length
      · have e : (givenM ws).getD n noSlot = ⟨ws[n], false⟩ := by rw [List.getD_eq_getElem?_getD, List.getElem?_eq_getElem (by omega)]; simp [givenM]
        rw [e] at h2; cases h2
      · omega
  subst hn
  refine ⟨rfl, List.ext_getElem (by rw [List.length_take]; omega) fun i hi h2 => ?_⟩
  have := h3 i h2
  have e : (givenM ws).getD i noSlot = ⟨ws[i], false⟩ := by rw [List.getD_eq_getElem?_getD, List.getElem?_eq_getElem (by omega)]; simp [givenM]
  rw [e] at this
  unfold takesM at this
  rw [toList_ne (hw _ (List.getElem_mem h2)), Bool.false_or] at this
  have e2 : left.getD i ByteArray.empty = left[i]'(by omega) := by rw [List.getD_eq_getElem?_getD, List.getElem?_eq_getElem (by omega)]; rfl
  rw [e2] at this
  rw [List.getElem_take]
  exact (toList_inj (eq_of_beq this)).symm
theorem room_size {lo hi : Int} {left : List ByteArray} {n : Nat} (hlh : lo ≤ hi) (h0 : 0 ≤ lo) (h : n ≤ (roomSlotsM lo hi.toNat).length) (hs : sizeOk (roomSlotsM lo hi.toNat) left n = true) : n ≤ left.length ∧ lo ≤ n ∧ (n : Int) ≤ hi := by
  obtain ⟨h1, h2, -⟩ := sizeOk_iff.1 hs
  have hlen : (roomSlotsM lo hi.toNat).length = hi.toNat := by simp [roomSlotsM]
  rw [hlen] at h h2
  refine ⟨h1, ?_, by omega⟩
  rcases h2 with h2 | h2
  · omega
  · by_cases hlt : n < hi.toNat
    · have e : (roomSlotsM lo hi.toNat).getD n noSlot = ⟨ByteArray.empty, decide (lo ≤ (n : Int))⟩ := by rw [List.getD_eq_getElem?_getD, List.getElem?_eq_getElem (by omega)]; simp [roomSlotsM]
      rw [e] at h2
      exact of_decide_eq_true h2
    · omega
theorem part_given {p : Part} (hv : ValidPart p) (hr : roomyM p = false) : partSlotsM p = givenM p.words ∧ ∀ s ∈ p.words, wordM s = true := by
  have hne : p.words ≠ [] := fun e => by unfold roomyM at hr; rw [e] at hr; simp at hr
  have hw := hv.w
  unfold wordsM at hw
  rw [List.all_eq_true] at hw
  exact ⟨by unfold partSlotsM; rw [(hv.z hne).2]; simp [roomSlotsM], hw⟩
theorem part_room {p : Part} (hv : ValidPart p) (hr : roomyM p = true) : partSlotsM p = roomSlotsM p.lo p.hi.toNat ∧ 0 ≤ p.lo ∧ p.lo ≤ p.hi ∧ 1 ≤ p.hi ∧ p.hi ≤ 3 := by
  have he : p.words = [] := by unfold roomyM at hr; exact List.eq_nil_of_length_eq_zero (by simpa using hr)
  exact ⟨by unfold partSlotsM; rw [he]; rfl, hv.r he⟩
/-- a way's fills are right, and make the letter -/
theorem way_fills : ∀ (ps : List Part) (l : List ByteArray) (ns : List Nat), (∀ p ∈ ps, ValidPart p) → (∀ s ∈ l, wordM s = true) → ns ∈ waysL (ps.map partSlotsM) l →
    builtR ps (fillsR ps ns l) = l ∧ PutOk (roomsM ps) (fillsR ps ns l) ∧ (fillsR ps ns l).length = (roomsM ps).length ∧ (fillsR ps ns l).map (fun x => (x.length : Int)) = lensR ps ns
  | [], l, ns, _, _, h => by
    unfold waysL at h
    simp only [List.map_nil] at h
    split at h
    · rename_i h0
      rw [List.mem_singleton] at h; subst h
      exact ⟨(List.eq_nil_of_length_eq_zero h0).symm, ⟨by simp [fillsR], by simp [fillsR], by simp [fillsR]⟩, rfl, rfl⟩
    · cases h
  | p :: ps, l, ns, hv, hw, h => by
    rw [List.map_cons] at h
    obtain ⟨n, m, rfl, h1, h2, h3⟩ := waysL_mem.1 h
    have hvp := hv p List.mem_cons_self
    obtain ⟨i1, i2, i3, i4⟩ := way_fills ps (l.drop n) m (fun q hq => hv q (List.mem_cons_of_mem _ hq)) (fun s hs => hw s (List.mem_of_mem_drop hs)) h3
    rw [fillsR, builtR, lensR]
    cases hr : roomyM p
    · obtain ⟨e1, e2⟩ := part_given hvp hr
      rw [e1] at h1 h2
      obtain ⟨e3, e4⟩ := given_size e2 (by simpa [givenM] using h1) h2
      have hrm : roomsM (p :: ps) = roomsM ps := by simp [roomsM, hr]
      rw [hrm]
      simp only [Bool.false_eq_true, if_false]
      refine ⟨?_, i2, i3, i4⟩
      rw [i1]
      conv => rhs; rw [← List.take_append_drop n l, e4]
    · obtain ⟨e1, e2, e3, e4, e5⟩ := part_room hvp hr
      rw [e1] at h1 h2
      obtain ⟨g1, g2, g3⟩ := room_size e3 e2 h1 h2
      have hrm : roomsM (p :: ps) = p :: roomsM ps := by simp [roomsM, hr]
      have hlt : (l.take n).length = n := by rw [List.length_take]; omega
      rw [hrm]
      simp only [if_true, List.headD_cons, List.tail_cons, List.map_cons, hlt]
      refine ⟨by rw [i1, List.take_append_drop], ⟨by simp; omega, fun i hi hi2 => ?_, fun x hx => ?_⟩, by simp [i3], by rw [i4]⟩
      · cases i with
        | zero => simp only [List.getElem_cons_zero, hlt]; exact ⟨g2, g3⟩
        | succ i => simpa using i2.at_ i (by simpa using hi) (by simpa using hi2)
      · rcases List.mem_cons.1 hx with rfl | hx
        · exact fun s hs => hw s (List.mem_of_mem_take hs)
        · exact i2.w x hx
/-- fills that are right are one of the ways of their letter -/
theorem fills_way : ∀ (ps : List Part) (fs : List (List ByteArray)), (∀ p ∈ ps, ValidPart p) → PutOk (roomsM ps) fs → fs.length = (roomsM ps).length → ∃ ns, ns ∈ waysL (ps.map partSlotsM) (builtR ps fs) ∧ fillsR ps ns (builtR ps fs) = fs
  | [], fs, _, _, hn => by
    have : fs = [] := List.eq_nil_of_length_eq_zero hn
    subst this
    exact ⟨[], by simp [waysL, builtR], rfl⟩
  | p :: ps, fs, hv, hp, hn => by
    have hvp := hv p List.mem_cons_self
    have hv' : ∀ q ∈ ps, ValidPart q := fun q hq => hv q (List.mem_cons_of_mem _ hq)
    cases hr : roomyM p
    · have hrm : roomsM (p :: ps) = roomsM ps := by simp [roomsM, hr]
      rw [hrm] at hp hn
      obtain ⟨ns, i1, i2⟩ := fills_way ps fs hv' hp hn
      obtain ⟨e1, e2⟩ := part_given hvp hr
      have hb : builtR (p :: ps) fs = p.words ++ builtR ps fs := by rw [builtR, hr]; rfl
      have hd : (p.words ++ builtR ps fs).drop p.words.length = builtR ps fs := List.drop_left
      rw [hb]
      refine ⟨p.words.length :: ns, ?_, by rw [fillsR, hr, hd]; exact i2⟩
      rw [List.map_cons, e1]
      refine waysL_mem.2 ⟨_, _, rfl, by simp [givenM], sizeOk_iff.2 ⟨by simp, .inl (by simp [givenM]), fun i hi => ?_⟩, by rw [hd]; exact i1⟩
      have e : (givenM p.words).getD i noSlot = ⟨p.words[i], false⟩ := by rw [List.getD_eq_getElem?_getD, List.getElem?_eq_getElem (by simp [givenM]; exact hi)]; simp [givenM]
      have e3 : (p.words ++ builtR ps fs).getD i ByteArray.empty = p.words[i] := by rw [List.getD_eq_getElem?_getD, List.getElem?_append_left hi, List.getElem?_eq_getElem hi]; rfl
      rw [e, e3]
      simp [takesM]
    · have hrm : roomsM (p :: ps) = p :: roomsM ps := by simp [roomsM, hr]
      rw [hrm] at hp hn
      cases fs with
      | nil => simp at hn
      | cons x fs =>
        obtain ⟨t1, t2, t3⟩ := hp.tail
        obtain ⟨ns, i1, i2⟩ := fills_way ps fs hv' t1 (by simpa using hn)
        obtain ⟨e1, e2, e3, e4, e5⟩ := part_room hvp hr
        have hb : builtR (p :: ps) (x :: fs) = x ++ builtR ps fs := by rw [builtR, hr]; rfl
        have hd : (x ++ builtR ps fs).drop x.length = builtR ps fs := List.drop_left
        have ht : (x ++ builtR ps fs).take x.length = x := List.take_left
        have hlen : (roomSlotsM p.lo p.hi.toNat).length = p.hi.toNat := by simp [roomSlotsM]
        rw [hb]
        refine ⟨x.length :: ns, ?_, by rw [fillsR, hr, hd, ht]; simp [i2]⟩
        rw [List.map_cons, e1]
        refine waysL_mem.2 ⟨_, _, rfl, by rw [hlen]; omega, sizeOk_iff.2 ⟨by simp, ?_, fun i hi => ?_⟩, by rw [hd]; exact i1⟩
        · by_cases hlt : x.length < p.hi.toNat
          · right
            have e : (roomSlotsM p.lo p.hi.toNat).getD x.length noSlot = ⟨ByteArray.empty, decide (p.lo ≤ (x.length : Int))⟩ := by rw [List.getD_eq_getElem?_getD, List.getElem?_eq_getElem (by omega)]; simp [roomSlotsM]
            rw [e]
            exact decide_eq_true t2.1
          · left; rw [hlen]; omega
        · have e : (roomSlotsM p.lo p.hi.toNat).getD i noSlot = ⟨ByteArray.empty, decide (p.lo ≤ (i : Int))⟩ := by rw [List.getD_eq_getElem?_getD, List.getElem?_eq_getElem (by omega)]; simp [roomSlotsM]
          rw [e]
          simp [takesM]
/-! ### in which order the ways come -/
def intsN (ns : List Nat) : List Int := ns.map fun (n : Nat) => ((n : Nat) : Int)
theorem lexL_cons (x y : Int) (a b : List Int) : lexL (x :: a) (y :: b) = if x = y then lexL a b else decide (x < y) := rfl
theorem lexL_asym : ∀ (a b : List Int), lexL a b = true → lexL b a = false
  | [], _, h => by simp [lexL] at h
  | _ :: _, [], h => by simp [lexL] at h
  | x :: a, y :: b, h => by
    rw [lexL_cons] at h ⊢
    by_cases e : x = y
    · subst e
      rw [if_pos rfl] at h ⊢
      exact lexL_asym a b h
    · rw [if_neg e] at h
      rw [if_neg (Ne.symm e)]
      have := of_decide_eq_true h
      exact decide_eq_false (by omega)
theorem lexL_self : ∀ a : List Int, lexL a a = false
  | [] => rfl
  | x :: a => by rw [lexL_cons, if_pos rfl]; exact lexL_self a
theorem ways_sorted : ∀ (ss : List (List Slot)) (left : List ByteArray), (waysL ss left).Pairwise fun a b => lexL (intsN a) (intsN b) = true
  | [], left => by unfold waysL; split <;> simp
  | sl :: r, left => by
    rw [waysL, List.pairwise_flatMap]
    refine ⟨fun n hn => ?_, ?_⟩
    · split
      · rw [List.pairwise_map]
        exact (ways_sorted r (left.drop n)).imp fun {a b} h => by
          show lexL ((n : Int) :: intsN a) ((n : Int) :: intsN b) = true
          rw [lexL_cons, if_pos rfl]; exact h
      · simp
    · refine List.pairwise_lt_range.imp fun {n m} h a ha b hb => ?_
      split at ha
      · split at hb
        · obtain ⟨a, -, rfl⟩ := List.mem_map.1 ha
          obtain ⟨b, -, rfl⟩ := List.mem_map.1 hb
          show lexL ((n : Int) :: intsN a) ((m : Int) :: intsN b) = true
          rw [lexL_cons, if_neg (by omega)]
          exact decide_eq_true (by omega)
        · cases hb
      · cases ha
theorem lex_pad : ∀ (a b z : List Int), a.length = b.length → lexL (a ++ z) (b ++ z) = lexL a b
  | [], [], z, _ => by rw [List.nil_append, lexL_self]; rfl
  | x :: a, y :: b, z, h => by
    rw [List.cons_append, List.cons_append, lexL_cons, lexL_cons, lex_pad a b z (by simpa using h)]
  | [], _ :: _, z, h => by simp at h
  | _ :: _, [], z, h => by simp at h
theorem ovr_five {ns : List Nat} (h : ns.length ≤ 5) : [ovr (fun _ => 0) 0 ns 0, ovr (fun _ => 0) 0 ns 1, ovr (fun _ => 0) 0 ns 2, ovr (fun _ => 0) 0 ns 3, ovr (fun _ => 0) 0 ns 4] = intsN ns ++ List.replicate (5 - ns.length) 0 := by
  match ns, h with
  | [], _ => rfl
  | [a], _ => rfl
  | [a, b], _ => rfl
  | [a, b, c], _ => rfl
  | [a, b, c, d], _ => rfl
  | [a, b, c, d, e], _ => rfl
theorem before_lex {a b : List Nat} (h : a.length ≤ 5) (e : a.length = b.length) : beforeM (ovr (fun _ => 0) 0 a) (ovr (fun _ => 0) 0 b) = lexL (intsN a) (intsN b) := by
  unfold beforeM
  rw [ovr_five h, ovr_five (by omega), ← e, lex_pad _ _ _ (by simp [intsN, e])]
theorem pick_head {α : Type} (bf : α → α → Bool) (z h : α) : ∀ t : List α, (∀ x ∈ t, bf x h = false) → (pickB bf z (h :: t)).1 = h := by
  intro t
  refine snoc_ind (p := fun t => (∀ x ∈ t, bf x h = false) → (pickB bf z (h :: t)).1 = h) (fun _ => rfl) (fun t x ih ht => ?_) t
  have := ih fun y hy => ht y (List.mem_append_left _ hy)
  rw [← List.cons_append, pickB_snoc, pickB_many, this, if_neg]
  rintro (h0 | h0)
  · simp at h0
  · rw [ht x (by simp)] at h0; cases h0
/-- the lengths in the rooms are in the order of the counts -/
theorem lens_lex : ∀ (ps : List Part) (la lb : List ByteArray) (a b : List Nat), (∀ p ∈ ps, ValidPart p) → a ∈ waysL (ps.map partSlotsM) la → b ∈ waysL (ps.map partSlotsM) lb → lessM (lensR ps a) (lensR ps b) = lexL (intsN a) (intsN b)
  | [], la, lb, a, b, _, ha, hb => by
    have h1 := waysL_len _ _ _ ha
    have h2 := waysL_len _ _ _ hb
    rw [List.eq_nil_of_length_eq_zero h1, List.eq_nil_of_length_eq_zero h2]; rfl
  | p :: ps, la, lb, a, b, hv, ha, hb => by
    rw [List.map_cons] at ha hb
    obtain ⟨n, a, rfl, a1, a2, a3⟩ := waysL_mem.1 ha
    obtain ⟨m, b, rfl, b1, b2, b3⟩ := waysL_mem.1 hb
    have ih := lens_lex ps _ _ a b (fun q hq => hv q (List.mem_cons_of_mem _ hq)) a3 b3
    have hvp := hv p List.mem_cons_self
    rw [lensR, lensR]
    show _ = lexL ((n : Int) :: intsN a) ((m : Int) :: intsN b)
    rw [lexL_cons]
    cases hr : roomyM p
    · obtain ⟨e1, e2⟩ := part_given hvp hr
      rw [e1] at a1 a2 b1 b2
      obtain ⟨e3, -⟩ := given_size e2 (by simpa [givenM] using a1) a2
      obtain ⟨e4, -⟩ := given_size e2 (by simpa [givenM] using b1) b2
      rw [e3, e4, if_pos rfl]
      simpa using ih
    · simp only [if_true]
      rw [lessM, ih]
/-- what LetterMade needs of the ways -/
theorem made_first {f : Form} (hv : ValidForm f) {fs : List (List ByteArray)} (hp : PutOk (roomsM f.parts) fs) (hn : fs.length = (roomsM f.parts).length) :
    (formWays f.parts (builtM f.parts fs)).length ≠ 0 ∧ builtM f.parts (fillsM f.parts (firstWayM f.parts (builtM f.parts fs)) (builtM f.parts fs)) = builtM f.parts fs ∧
      PutOk (roomsM f.parts) (fillsM f.parts (firstWayM f.parts (builtM f.parts fs)) (builtM f.parts fs)) ∧ (fillsM f.parts (firstWayM f.parts (builtM f.parts fs)) (builtM f.parts fs)).length = (roomsM f.parts).length ∧
      lessM (fs.map fun x => (x.length : Int)) ((fillsM f.parts (firstWayM f.parts (builtM f.parts fs)) (builtM f.parts fs)).map fun x => (x.length : Int)) = false ∧
      ((formWays f.parts (builtM f.parts fs)).length ≤ 1 → fillsM f.parts (firstWayM f.parts (builtM f.parts fs)) (builtM f.parts fs) = fs) := by
  obtain ⟨-, -, hw⟩ := made_ed f.parts fs hv.parts hp hn
  obtain ⟨ns, h1, h2⟩ := fills_way f.parts fs hv.parts hp hn
  rw [built_is]
  generalize hl : builtR f.parts fs = l at *
  have h5 := hv.n
  have hways : formWays f.parts l = (waysL (f.parts.map partSlotsM) l).map (ovr (fun _ => 0) 0) := by unfold formWays; rw [ways_list]
  have hlen := fun m (hm : m ∈ waysL (f.parts.map partSlotsM) l) => (waysL_len _ _ _ hm).trans (List.length_map ..)
  have hsort := ways_sorted (f.parts.map partSlotsM) l
  cases hW : waysL (f.parts.map partSlotsM) l with
  | nil => rw [hW] at h1; cases h1
  | cons hd tl =>
    rw [hW] at hsort hlen h1 hways
    have hhd := hlen hd List.mem_cons_self
    have hlt := (List.pairwise_cons.1 hsort).1
    have hfirst : firstWayM f.parts l = ovr (fun _ => 0) 0 hd := by
      unfold firstWayM
      rw [hways, List.map_cons]
      refine pick_head _ _ _ _ fun x hx => ?_
      obtain ⟨m, hm, rfl⟩ := List.mem_map.1 hx
      rw [before_lex (by rw [hlen m (List.mem_cons_of_mem _ hm)]; exact h5) (by rw [hhd, hlen m (List.mem_cons_of_mem _ hm)])]
      exact lexL_asym _ _ (hlt m hm)
    have hin : hd ∈ waysL (f.parts.map partSlotsM) l := by rw [hW]; exact List.mem_cons_self
    have hin2 : ns ∈ waysL (f.parts.map partSlotsM) l := by rw [hW]; exact h1
    obtain ⟨g1, g2, g3, g4⟩ := way_fills f.parts l hd hv.parts hw hin
    obtain ⟨-, -, -, k4⟩ := way_fills f.parts l ns hv.parts hw hin2
    rw [h2] at k4
    rw [hfirst, fills_is _ _ _ hhd, built_is]
    refine ⟨by rw [hways]; simp, g1, g2, g3, ?_, fun hle => ?_⟩
    · rw [g4, k4, lens_lex f.parts l l ns hd hv.parts hin2 hin]
      rcases List.mem_cons.1 h1 with rfl | h
      · exact lexL_self _
      · exact lexL_asym _ _ (hlt ns h)
    · rw [hways, List.length_map, List.length_cons] at hle
      have : tl = [] := List.eq_nil_of_length_eq_zero (by omega)
      subst this
      rw [List.mem_singleton] at h1
      subst h1
      exact h2
end Go.Proofs.YtcamegaimleomaaGreat

namespace Go.Proofs.YtcamegaimleomaaGreat
set_option linter.unusedSimpArgs false
set_option linter.unusedVariables false
set_option linter.unusedVariables false

def noPart : Part := ⟨[], 0, 0⟩
/-- one number more -/
def cntStep (p : Part) (L : List Nat) : List (List Nat) := (List.range' p.lo.toNat (p.hi.toNat + 1 - p.lo.toNat)).map fun x => L ++ [x]
def cntTo (rooms : List Part) : Nat → List (List Nat)
  | 0 => [[]]
  | k + 1 => (cntTo rooms k).flatMap (cntStep (rooms.getD k noPart))
def countsM (rooms : List Part) : List (List Nat) := cntTo rooms rooms.length
def RoomOk (p : Part) : Prop := 0 ≤ p.lo ∧ p.lo ≤ p.hi ∧ p.hi ≤ 3
theorem getD_ok {rooms : List Part} (h : ∀ p ∈ rooms, RoomOk p) (k : Nat) : RoomOk (rooms.getD k noPart) := by
  rw [List.getD_eq_getElem?_getD]
  by_cases hk : k < rooms.length
  · rw [List.getElem?_eq_getElem hk]; exact h _ (List.getElem_mem hk)
  · rw [List.getElem?_eq_none (by omega)]; exact ⟨by decide, by decide, by decide⟩
theorem cntStep_fine {p : Part} (hp : RoomOk p) {L M : List Nat} (h : M ∈ cntStep p L) : ∃ x : Nat, M = L ++ [x] ∧ p.lo ≤ x ∧ (x : Int) ≤ p.hi := by
  unfold cntStep at h
  obtain ⟨x, hx, rfl⟩ := List.mem_map.1 h
  obtain ⟨h1, h2, h3⟩ := hp
  rw [List.mem_range'_1] at hx
  exact ⟨x, rfl, by omega, by omega⟩
theorem cntStep_len {p : Part} (hp : RoomOk p) (L : List Nat) : (cntStep p L).length ≤ 4 := by
  obtain ⟨h1, h2, h3⟩ := hp
  unfold cntStep
  rw [List.length_map, List.length_range']
  omega
theorem cntTo_fine {rooms : List Part} (h : ∀ p ∈ rooms, RoomOk p) : ∀ k, ∀ L ∈ cntTo rooms k, L.length = k ∧ ∀ x ∈ L, x ≤ 3
  | 0, L, hL => by
    rw [cntTo, List.mem_singleton] at hL; subst hL; simp
  | k + 1, L, hL => by
    rw [cntTo, List.mem_flatMap] at hL
    obtain ⟨M, hM, h2⟩ := hL
    obtain ⟨i1, i2⟩ := cntTo_fine h k M hM
    have ho := getD_ok h k
    obtain ⟨x, rfl, -, h4⟩ := cntStep_fine ho h2
    obtain ⟨-, -, h5⟩ := ho
    refine ⟨by simp [i1], fun y hy => ?_⟩
    rcases List.mem_append.1 hy with hy | hy
    · exact i2 y hy
    · rw [List.mem_singleton] at hy; subst hy; omega
theorem cntFlat_len {p : Part} (hp : RoomOk p) : ∀ LL : List (List Nat), (LL.flatMap (cntStep p)).length ≤ 4 * LL.length
  | [] => by simp
  | L :: LL => by
    have := cntFlat_len hp LL
    have h4 := cntStep_len hp L
    rw [List.flatMap_cons, List.length_append, List.length_cons]
    omega
theorem cntTo_len {rooms : List Part} (h : ∀ p ∈ rooms, RoomOk p) : ∀ k, (cntTo rooms k).length ≤ 4 ^ k
  | 0 => by simp [cntTo]
  | k + 1 => by
    have ih := cntTo_len h k
    have := cntFlat_len (getD_ok h k) (cntTo rooms k)
    rw [cntTo, Nat.pow_succ]
    omega
theorem cntTo_ne {rooms : List Part} (h : ∀ p ∈ rooms, RoomOk p) : ∀ k, cntTo rooms k ≠ []
  | 0 => by simp [cntTo]
  | k + 1 => by
    have ih := cntTo_ne h k
    obtain ⟨h1, h2, h3⟩ := getD_ok h k
    rw [cntTo]
    cases hc : cntTo rooms k with
    | nil => exact absurd hc ih
    | cons L LL =>
      rw [List.flatMap_cons]
      intro e
      have e1 := (List.append_eq_nil_iff.1 e).1
      have : (cntStep (rooms.getD k noPart) L).length = 0 := by rw [e1]; rfl
      unfold cntStep at this
      rw [List.length_map, List.length_range'] at this
      omega
theorem cnt_next (p : Part) (LL : List (List Nat)) (q : Nat) (h : q < LL.length) : (LL.take (q + 1)).flatMap (cntStep p) = (LL.take q).flatMap (cntStep p) ++ cntStep p LL[q] := by
  rw [List.take_succ_eq_append_getElem h, List.flatMap_append]
  simp
/-- those with fewer than m -/
def cntBelow (a m : Nat) (L : List Nat) : List (List Nat) := (List.range' a (m - a)).map fun x => L ++ [x]
theorem cntBelow_snoc (a m : Nat) (L : List Nat) (h : a ≤ m) : cntBelow a (m + 1) L = cntBelow a m L ++ [L ++ [m]] := by
  unfold cntBelow
  rw [show m + 1 - a = (m - a) + 1 from by omega, List.range'_1_concat, List.map_append, show a + (m - a) = m from by omega]
  rfl
theorem cntBelow_len (a m : Nat) (L : List Nat) : (cntBelow a m L).length = m - a := by unfold cntBelow; rw [List.length_map, List.length_range']
/-- from the front -/
def countsR : List Part → List (List Nat)
  | [] => [[]]
  | p :: ps => (List.range' p.lo.toNat (p.hi.toNat + 1 - p.lo.toNat)).flatMap fun n => (countsR ps).map (n :: ·)
theorem cntTo_front (rooms : List Part) : ∀ k, k ≤ rooms.length → (cntTo rooms k).flatMap (fun c => (countsR (rooms.drop k)).map (c ++ ·)) = countsR rooms
  | 0, _ => by
    rw [cntTo, List.drop_zero]
    simp
  | k + 1, hk => by
    have ih := cntTo_front rooms k (by omega)
    have hlt : k < rooms.length := by omega
    rw [← ih, cntTo, List.drop_eq_getElem_cons hlt, countsR, List.flatMap_assoc]
    congr 1
    funext c
    have e : rooms.getD k noPart = rooms[k] := by rw [List.getD_eq_getElem?_getD, List.getElem?_eq_getElem hlt]; rfl
    rw [e, cntStep, List.flatMap_map, List.map_flatMap]
    congr 1
    funext n
    rw [List.map_map]
    congr 1
    funext m
    simp
theorem counts_front (rooms : List Part) : countsM rooms = countsR rooms := by
  have := cntTo_front rooms rooms.length (Nat.le_refl _)
  rw [List.drop_length, countsR] at this
  rw [← this]
  unfold countsM
  simp
end Go.Proofs.YtcamegaimleomaaGreat
