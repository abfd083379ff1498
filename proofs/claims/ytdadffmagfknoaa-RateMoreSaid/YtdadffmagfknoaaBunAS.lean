/-
  WHAT Worth OF THE REFERENCE RETURNS: the same as that of rate.
  WHAT AN AGENT PAYS FOR ALL ITS ENTRIES AT SOME RATES: Sum of the reference.
  WHAT Paid OF THE REFERENCE RETURNS: the same as that of rate.
  RateWorths: Worth and Paid return what the reference does.
  AN ARRAY OF THREE NUMBERS that is handed in.
  ALL ASCENDING LISTS OF SO MANY NUMBERS BELOW ANOTHER ONE, IN THEIR ORDER. No program.
  PLAIN FACTS for Agree and Wrong of the reference.
  WHAT Agree OF THE REFERENCE RETURNS: the same as that of rate.
  LISTS OF LISTS THAT A CALL MAKES ITSELF: a row of slices, each with numbers of its own.
-/
import Derived.Test.YtdadffmagfknoaaBunAR
import Derived.Test.YtdadffmagfknoaaBunAG
import Derived.Test.YtdadffmagfknoaaBunAK
import Derived.Test.YtdadffmagfknoaaBunAL
import Derived.Test.YtdadffmagfknoaaBunAM
import Derived.Test.YtdadffmagfknoaaBunAO
import Derived.Test.YtdadffmagfknoaaBunAJ
import Derived.Test.YtdadffmagfknoaaBunAQ
import Derived.Test.YtdadffmagfknoaaBunAD
import Derived.Maps.AppendAt
import Derived.Laws.AppendOwnNone
namespace Go.Proofs.Ytdadffmagfknoaa
set_option linter.unusedSimpArgs false
set_option linter.unusedVariables false
open Go.RowKit
set_option linter.unusedVariables false
set_option maxRecDepth 100000

/-- the error of the arguments of Worth, as the reference finds it -/
def worErr (h : House) (who day near : Int) : Int := pncErr near 99 (if idxErr h who h.agents.length = 0 then idxErr h day h.days else idxErr h who h.agents.length)
theorem idx_agt (h : House) (d : Int) : idxErr h d h.agents.length = openR h [⟨d, agtsM h, 4⟩] := by
  by_cases hv : raErr h = 0
  · have hV := validH_of hv
    rw [openR_one hv ⟨d, agtsM h, 4⟩ (by show (4 : Int) ≠ 0; decide)]
    have hn : ¬ raErr h ≠ 0 := fun g => g hv
    unfold idxErr
    rw [if_neg hn]
    simp only
    rw [agtsM_is hV]
  · rw [openR_bad hv]
    unfold idxErr
    rw [if_pos hv]
theorem wor_open (h : House) (who day near : Int) : worErr h who day near = openR h (worthArgs h who day near) := by
  unfold worErr worthArgs
  rw [idx_agt, idx_open]
  by_cases hv : raErr h = 0
  · have hn : ¬ raErr h ≠ 0 := fun g => g hv
    unfold openR pncErr
    simp only [if_neg hn]
    unfold firstErr firstErrFrom argE argErrM
    simp only
    cases inM who 0 (agtsM h)
    · rfl
    · unfold firstErrFrom
      simp only
      cases inM day 0 (daysM h)
      · rfl
      · unfold firstErrFrom
        simp only
        cases inM near 0 99 <;> rfl
  · rw [openR_bad hv, openR_bad hv, openR_bad hv]
    unfold pncErr
    rw [if_neg hv, if_pos hv]
theorem wor_err (h : House) (who day near : Int) (f : List Int → Int) : numErr h (worthArgs h who day near) f = knErr h (worErr h who day near) := by
  unfold numErr knErr
  rw [wor_open, numM_err]
theorem wor_bad (h : House) (who day near : Int) (f : List Int → Int) (he : knErr h (worErr h who day near) ≠ 0) : numSpan h (worthArgs h who day near) f = (0, 0) := by
  rw [← wor_err h who day near f] at he
  unfold numErr at he
  unfold numSpan
  by_cases ho : openR h (worthArgs h who day near) ≠ 0
  · rw [if_pos ho]
  · rw [if_neg ho] at he ⊢
    by_cases hT : truL h (outB 0) = []
    · rw [hT]; rfl
    · exact absurd (numM_is f hT).1 he
theorem wor_good (h : House) (who day near : Int) (he : knErr h (worErr h who day near) = 0) : ValidH h ∧ (0 ≤ who ∧ who < h.agents.length) ∧ (0 ≤ day ∧ day < h.days) ∧ (0 ≤ near ∧ near ≤ 99) ∧ truL h (outB 0) ≠ [] ∧ numSpan h (worthArgs h who day near) (worthF h who day near) = (numM (worthF h who day near) (truL h (outB 0))).1 := by
  have hp : worErr h who day near = 0 := Decidable.byContradiction fun g => by unfold knErr at he; rw [if_pos g] at he; exact g he
  have hT : truL h (outB 0) ≠ [] := fun g => by unfold knErr at he; rw [hp, if_neg (by decide), if_pos g] at he; cases he
  have ho := hp
  rw [wor_open] at ho
  obtain ⟨hV, ha⟩ := openR_ok ho
  have a1 := ha ⟨who, agtsM h, 4⟩ (by simp [worthArgs]) (by show (4 : Int) ≠ 0; decide)
  have a2 := ha ⟨day, daysM h, 4⟩ (by simp [worthArgs]) (by show (4 : Int) ≠ 0; decide)
  have a3 := ha ⟨near, 99, 7⟩ (by simp [worthArgs]) (by show (7 : Int) ≠ 0; decide)
  simp only at a1 a2 a3
  rw [agtsM_is hV] at a1
  rw [daysM_is hV] at a2
  refine ⟨hV, by omega, by omega, a3, hT, ?_⟩
  unfold numSpan
  rw [if_neg (fun g => g ho)]
theorem wor_bad1 (h : House) (who day near : Int) (he : knErr h (worErr h who day near) ≠ 0) : (numSpan h (worthArgs h who day near) (worthF h who day near)).1 = 0 ∧ (numSpan h (worthArgs h who day near) (worthF h who day near)).2 = 0 := by
  rw [wor_bad h who day near _ he]
  exact ⟨rfl, rfl⟩
theorem wor_good1 (h : House) (who day near : Int) (he : knErr h (worErr h who day near) = 0) : ValidH h ∧ (0 ≤ who ∧ who < h.agents.length) ∧ (0 ≤ day ∧ day < h.days) ∧ (0 ≤ near ∧ near ≤ 99) ∧ truL h (outB 0) ≠ [] ∧ (numSpan h (worthArgs h who day near) (worthF h who day near)).1 = (numM (worthF h who day near) (truL h (outB 0))).1.1 ∧ (numSpan h (worthArgs h who day near) (worthF h who day near)).2 = (numM (worthF h who day near) (truL h (outB 0))).1.2 := by
  obtain ⟨h1, h2, h3, h4, h5, h6⟩ := wor_good h who day near he
  exact ⟨h1, h2, h3, h4, h5, congrArg Prod.fst h6, congrArg Prod.snd h6⟩
set_option maxHeartbeats 16000000 in
theorem refWorth_any (hv : Value) (h : House) (who day near : Int) (hw64 : I64 who) (hd64 : I64 day) (hn64 : I64 near) (w : World) (hh : HouseAt w hv h) :
    Calls Try.prog 25 #[hv, .int .i64 who, .int .i64 day, .int .i64 near] w fun e w' => e = .returned (.tuple #[.agg #[.int .i64 (numSpan h (worthArgs h who day near) (worthF h who day near)).1, .int .i64 (numSpan h (worthArgs h who day near) (worthF h who day near)).2], .int .i64 (numErr h (worthArgs h who day near) (worthF h who day near))]) ∧ Ext w w' := by
  have hHH := Lib.hid hh
  have hbad := wor_bad1 h who day near
  have hgood := wor_good1 h who day near
  rw [wor_err]
  have hiv : worErr h who day near = 0 → ValidH h := fun e => by rw [wor_open] at e; exact (openR_ok e).1
  have hbd : raErr h = 0 → 0 ≤ h.days ∧ h.days ≤ 100 := fun e => by have := (validH_of e).days; omega
  have hba : raErr h = 0 → 0 ≤ (h.agents.length : Int) ∧ (h.agents.length : Int) ≤ 100 := fun e => by have := (validH_of e).agents; omega
  have hid1 := fun w1 (hx : Ext w w1) => refIndex_any hv h who h.agents.length w1 (hh.ext hx) hba
  have hid2 := fun w1 (hx : Ext w w1) => refIndex_any hv h day h.days w1 (hh.ext hx) hbd
  have hkn := fun w1 (hx : Ext w w1) => refKnown_any hv h (worErr h who day near) w1 (hh.ext hx) hiv
  have hwe : worErr h who day near = pncErr near 99 (if idxErr h who h.agents.length = 0 then idxErr h day h.days else idxErr h who h.agents.length) := rfl
  generalize (numSpan h (worthArgs h who day near) (worthF h who day near)).1 = n1 at *
  generalize (numSpan h (worthArgs h who day near) (worthF h who day near)).2 = n2 at *
  generalize worErr h who day near = we at *
  generalize idxErr h who h.agents.length = e1 at *
  generalize idxErr h day h.days = e2 at *
  obtain ⟨ra, rc, aa, ac, ea, ec, rfl, -⟩ := hh
  have HBAD := Lib.hid hbad
  have HGOOD := Lib.hid hgood
  have HID1 := Lib.hid hid1
  have HID2 := Lib.hid hid2
  have HKN := Lib.hid hkn
  clear hbad hgood hiv hbd hba hid1 hid2 hkn
  go_enter Try.func25, Try.ntmps25
  go_wp2_with fail
  refine (HID1.out _ ((ext_alloc _ _).alloc _)).mono ?_
  rintro e w1 ⟨rfl, hx⟩
  have x1 : Ext w w1 := ((ext_alloc _ _).alloc _).trans hx
  have p0 : w1.cell? ⟨w.heap.size, 0, none⟩ = some (.int .i64 h.days) := hx.cell (by simp [go_sem])
  have p1 : w1.cell? ⟨w.heap.size, 1, none⟩ = some (.slice ra h.rates.length rc) := hx.cell (by simp [go_sem])
  have p2 : w1.cell? ⟨w.heap.size, 2, none⟩ = some (.int .i64 h.step) := hx.cell (by simp [go_sem])
  have p3 : w1.cell? ⟨w.heap.size, 3, none⟩ = some (.slice aa h.agents.length ac) := hx.cell (by simp [go_sem])
  have p4 : w1.cell? ⟨w.heap.size, 4, none⟩ = some (.slice ea h.entries.length ec) := hx.cell (by simp [go_sem])
  have q0 : w1.cell? ⟨w.heap.size + 1, 0, none⟩ = some (.int .i64 0) := hx.cell (by simp [go_sem])
  have q1 : w1.cell? ⟨w.heap.size + 1, 1, none⟩ = some (.int .i64 0) := hx.cell (by simp [go_sem])
  have rf : ∀ o, w1.frozen? ⟨w.heap.size + 1, o, none⟩ = false := fun o => by rw [hx.frozen (by simp)]; simp [go_sem]
  have zq : w.heap.size + 1 < w1.heap.size := cell_lt q0
  have z00 : w.heap.size < w1.heap.size := cell_lt p0
  clear hx HID1
  by_cases he : e1 = 0
  · subst he
    rw [if_pos rfl] at hwe
    have HPN : Hid (pncErr near 99 e2 = we) := Lib.hid hwe.symm
    clear hwe
    go_wp2_with fail
    refine (HID2.out _ x1).mono ?_
    rintro e w2 ⟨rfl, hx⟩
    replace rf : ∀ o, w2.frozen? ⟨w.heap.size + 1, o, none⟩ = false := fun o => by rw [hx.frozen zq]; exact rf o
    replace p0 := hx.cell p0
    replace p1 := hx.cell p1
    replace p2 := hx.cell p2
    replace p3 := hx.cell p3
    replace p4 := hx.cell p4
    replace q0 := hx.cell q0
    replace q1 := hx.cell q1
    replace x1 := x1.trans hx
    replace zq : w.heap.size + 1 < w2.heap.size := cell_lt q0
    clear hx
    clear HID2 z00
    have z00 : w.heap.size < w2.heap.size := cell_lt p0
    go_wp2_with fail
    apply Facts.wp_region [.val _, .val _, .val _, .val (.int .i64 we), .fact (KnT h we), .fact (KnT h we), .fact (KnL h we), .val (.int .i64 (knErr h we)), .fact (KnL h we), .val (.int .i64 (knErr h we))] (by kernel_rfl) (by kernel_rfl) ⟨fun u a c hx h => KnT.ext h hx, fun u a c hx h => KnT.ext h hx, fun u a c hx h => KnL.ext h hx, fun u a c hx h => KnL.ext h hx, trivial⟩ ?main
    case main =>
    iterate 3 (refine ⟨fun w1 hx hh => ?_, ?_⟩; focus (clear hh; have j0 := hx.cell p0; have j1 := hx.cell p1; have j2 := hx.cell p2; have j3 := hx.cell p3; have j4 := hx.cell p4; go_simp; first | exact ⟨Ext.refl _, rfl⟩ | exact Ext.refl _))
    refine ⟨fun w1 hx hh => ?_, ?_⟩
    · clear hh
      go_simp
      refine (refPence_any near 99 e2 _).mono ?_
      rintro e w' ⟨rfl, hx2⟩
      rw [HPN.out]
      exact ⟨_, rfl, hx2, rfl⟩
    refine ⟨fun w2 hx hh => ?_, ?_⟩
    · clear hh
      go_simp
      refine (HKN.out _ (x1.trans hx)).mono ?_
      rintro e w' ⟨u, rfl, hk, hx2⟩
      exact ⟨_, rfl, hx2, KnT.of hk⟩
    intro u6
    refine ⟨fun w1 hx hh => ?_, ?_⟩
    · have h6 : KnT h we u6 w1 := hh 4 _ List.mem_cons_self (by kernel_rfl)
      clear hh
      go_simp
      first | exact ⟨Ext.refl _, h6⟩ | exact Ext.refl _
    intro u7
    refine ⟨fun w1 hx hh => ?_, ?_⟩
    · have h7 : KnT h we u7 w1 := hh 5 _ List.mem_cons_self (by kernel_rfl)
      have e := h7.1
      have hs := h7.2
      clear hh h7
      generalize rfst u7 = f7 at *
      subst e
      go_simp
      first | exact ⟨Ext.refl _, hs⟩ | exact Ext.refl _
    intro u8
    refine ⟨fun w1 hx hh => ?_, ?_⟩
    · have h7 : KnT h we u7 w1 := hh 5 _ (List.mem_cons_of_mem _ List.mem_cons_self) (by kernel_rfl)
      have e := h7.1
      clear hh h7
      generalize rfst u7 = f7 at *
      subst e
      go_simp
      exact Ext.refl _
    refine ⟨fun w1 hx hh => ?_, ?_⟩
    · have h8 : KnL h we u8 w1 := hh 6 _ List.mem_cons_self (by kernel_rfl)
      clear hh
      go_simp
      first | exact ⟨Ext.refl _, h8⟩ | exact Ext.refl _
    intro u10
    iterate 1 (refine ⟨fun w1 hx hh => ?_, ?_⟩; focus (clear hh; skip; go_simp; first | exact ⟨Ext.refl _, rfl⟩ | exact Ext.refl _))
    intro w5 hx5 hh
    have hK : KnL h we u10 w5 := hh 8 _ List.mem_cons_self
    clear hh
    replace rf : ∀ o, w5.frozen? ⟨w.heap.size + 1, o, none⟩ = false := fun o => by rw [hx5.frozen zq]; exact rf o
    replace p0 := hx5.cell p0
    replace p1 := hx5.cell p1
    replace p2 := hx5.cell p2
    replace p3 := hx5.cell p3
    replace p4 := hx5.cell p4
    replace q0 := hx5.cell q0
    replace q1 := hx5.cell q1
    replace x1 := x1.trans hx5
    replace zq : w.heap.size + 1 < w5.heap.size := cell_lt q0
    have z0 : w.heap.size < w5.heap.size := cell_lt p0
    clear hx5 HKN HPN
    go_simp
    obtain ⟨⟨a, n, c, rfl⟩, hT⟩ := hK
    by_cases h0 : knErr h we = 0
    · obtain ⟨hV, hw1, hd1, hn1, hne, hns1, hns2⟩ := HGOOD.out h0
      have hL := hT h0
      have hgd : ∀ q ∈ truL h (outB 0), day.toNat < q.length ∧ ∀ x ∈ q, 1 ≤ x ∧ x ≤ 20 := fun q hq => by
        have h1 := levels_mem hV (Nat.le_refl _)
        rw [← ratesL_levels] at h1
        have h2 := h1 q (truL_sub hV hq)
        exact ⟨by rw [h2.1]; omega, h2.2⟩
      have hmany := truL_many hV (outB 0)
      have hwit := refWithin_any _ (.slice a n c) h hV _ hne who day near hgd hmany hw1 hd1.1 hn1 w5 (hHH.out.ext x1) hL
      rw [← hns1, ← hns2] at hwit
      rw [h0]
      have H0 := Lib.hid h0
      have HWIT := Lib.hid hwit
      clear hV hgd hmany hwit hns1 hns2 hne hL hT HBAD HGOOD h0
      go_wp2_with fail
      refine HWIT.out.mono ?_
      rintro e w6 ⟨rfl, hx6⟩
      have g0 := hx6.cell q0
      have g1 := hx6.cell q1
      have gf : ∀ o, w6.frozen? ⟨w.heap.size + 1, o, none⟩ = false := fun o => by rw [hx6.frozen zq]; exact rf o
      have x9 := x1.trans hx6
      have r0 := set_other (set_cell g0 (.int .i64 n1)) (p := ⟨w.heap.size + 1, 1, none⟩) (.inr (by simp)) (.int .i64 n2)
      have r1 := set_cell (set_other g1 (p := ⟨w.heap.size + 1, 0, none⟩) (.inr (by simp)) (.int .i64 n1)) (.int .i64 n2)
      clear hx6 p0 p1 p2 p3 p4 q0 q1 rf
      go_wp2
      exact bodyPost_ret (v := .tuple #[.agg #[.int .i64 n1, .int .i64 n2], .int .i64 0]) (by simp [results, Try.results25, go_sem, r0, r1]) rfl ⟨by rw [H0.out], (x9.setCell (by simp) _).setCell (by simp) _⟩
    · obtain ⟨rfl, rfl⟩ := HBAD.out h0
      have h0' : (knErr h we != 0) = true := by simpa using h0
      clear hT h0 HBAD HGOOD
      go_wp2
      have r0 := set_other (set_cell q0 (.int .i64 0)) (p := ⟨w.heap.size + 1, 1, none⟩) (.inr (by simp)) (.int .i64 0)
      have r1 := set_cell (set_other q1 (p := ⟨w.heap.size + 1, 0, none⟩) (.inr (by simp)) (.int .i64 0)) (.int .i64 0)
      exact bodyPost_ret (v := .tuple #[.agg #[.int .i64 0, .int .i64 0], .int .i64 (knErr h we)]) (by simp [results, Try.results25, go_sem, r0, r1]) rfl ⟨rfl, (x1.setCell (by simp) _).setCell (by simp) _⟩
  · rw [if_neg he] at hwe
    have he' : (e1 == 0) = false := by simpa using he
    have HPN : Hid (pncErr near 99 e1 = we) := Lib.hid hwe.symm
    clear hwe HID2 he
    go_wp2_with fail
    apply Facts.wp_region [.val _, .val _, .val _, .val (.int .i64 we), .fact (KnT h we), .fact (KnT h we), .fact (KnL h we), .val (.int .i64 (knErr h we)), .fact (KnL h we), .val (.int .i64 (knErr h we))] (by kernel_rfl) (by kernel_rfl) ⟨fun u a c hx h => KnT.ext h hx, fun u a c hx h => KnT.ext h hx, fun u a c hx h => KnL.ext h hx, fun u a c hx h => KnL.ext h hx, trivial⟩ ?main
    case main =>
    iterate 3 (refine ⟨fun w1 hx hh => ?_, ?_⟩; focus (clear hh; have j0 := hx.cell p0; have j1 := hx.cell p1; have j2 := hx.cell p2; have j3 := hx.cell p3; have j4 := hx.cell p4; go_simp; first | exact ⟨Ext.refl _, rfl⟩ | exact Ext.refl _))
    refine ⟨fun w1 hx hh => ?_, ?_⟩
    · clear hh
      go_simp
      refine (refPence_any near 99 e1 _).mono ?_
      rintro e w' ⟨rfl, hx2⟩
      rw [HPN.out]
      exact ⟨_, rfl, hx2, rfl⟩
    refine ⟨fun w2 hx hh => ?_, ?_⟩
    · clear hh
      go_simp
      refine (HKN.out _ (x1.trans hx)).mono ?_
      rintro e w' ⟨u, rfl, hk, hx2⟩
      exact ⟨_, rfl, hx2, KnT.of hk⟩
    intro u6
    refine ⟨fun w1 hx hh => ?_, ?_⟩
    · have h6 : KnT h we u6 w1 := hh 4 _ List.mem_cons_self (by kernel_rfl)
      clear hh
      go_simp
      first | exact ⟨Ext.refl _, h6⟩ | exact Ext.refl _
    intro u7
    refine ⟨fun w1 hx hh => ?_, ?_⟩
    · have h7 : KnT h we u7 w1 := hh 5 _ List.mem_cons_self (by kernel_rfl)
      have e := h7.1
      have hs := h7.2
      clear hh h7
      generalize rfst u7 = f7 at *
      subst e
      go_simp
      first | exact ⟨Ext.refl _, hs⟩ | exact Ext.refl _
    intro u8
    refine ⟨fun w1 hx hh => ?_, ?_⟩
    · have h7 : KnT h we u7 w1 := hh 5 _ (List.mem_cons_of_mem _ List.mem_cons_self) (by kernel_rfl)
      have e := h7.1
      clear hh h7
      generalize rfst u7 = f7 at *
      subst e
      go_simp
      exact Ext.refl _
    refine ⟨fun w1 hx hh => ?_, ?_⟩
    · have h8 : KnL h we u8 w1 := hh 6 _ List.mem_cons_self (by kernel_rfl)
      clear hh
      go_simp
      first | exact ⟨Ext.refl _, h8⟩ | exact Ext.refl _
    intro u10
    iterate 1 (refine ⟨fun w1 hx hh => ?_, ?_⟩; focus (clear hh; skip; go_simp; first | exact ⟨Ext.refl _, rfl⟩ | exact Ext.refl _))
    intro w5 hx5 hh
    have hK : KnL h we u10 w5 := hh 8 _ List.mem_cons_self
    clear hh
    replace rf : ∀ o, w5.frozen? ⟨w.heap.size + 1, o, none⟩ = false := fun o => by rw [hx5.frozen zq]; exact rf o
    replace p0 := hx5.cell p0
    replace p1 := hx5.cell p1
    replace p2 := hx5.cell p2
    replace p3 := hx5.cell p3
    replace p4 := hx5.cell p4
    replace q0 := hx5.cell q0
    replace q1 := hx5.cell q1
    replace x1 := x1.trans hx5
    replace zq : w.heap.size + 1 < w5.heap.size := cell_lt q0
    have z0 : w.heap.size < w5.heap.size := cell_lt p0
    clear hx5 HKN HPN
    go_simp
    obtain ⟨⟨a, n, c, rfl⟩, hT⟩ := hK
    by_cases h0 : knErr h we = 0
    · obtain ⟨hV, hw1, hd1, hn1, hne, hns1, hns2⟩ := HGOOD.out h0
      have hL := hT h0
      have hgd : ∀ q ∈ truL h (outB 0), day.toNat < q.length ∧ ∀ x ∈ q, 1 ≤ x ∧ x ≤ 20 := fun q hq => by
        have h1 := levels_mem hV (Nat.le_refl _)
        rw [← ratesL_levels] at h1
        have h2 := h1 q (truL_sub hV hq)
        exact ⟨by rw [h2.1]; omega, h2.2⟩
      have hmany := truL_many hV (outB 0)
      have hwit := refWithin_any _ (.slice a n c) h hV _ hne who day near hgd hmany hw1 hd1.1 hn1 w5 (hHH.out.ext x1) hL
      rw [← hns1, ← hns2] at hwit
      rw [h0]
      have H0 := Lib.hid h0
      have HWIT := Lib.hid hwit
      clear hV hgd hmany hwit hns1 hns2 hne hL hT HBAD HGOOD h0
      go_wp2_with fail
      refine HWIT.out.mono ?_
      rintro e w6 ⟨rfl, hx6⟩
      have g0 := hx6.cell q0
      have g1 := hx6.cell q1
      have gf : ∀ o, w6.frozen? ⟨w.heap.size + 1, o, none⟩ = false := fun o => by rw [hx6.frozen zq]; exact rf o
      have x9 := x1.trans hx6
      have r0 := set_other (set_cell g0 (.int .i64 n1)) (p := ⟨w.heap.size + 1, 1, none⟩) (.inr (by simp)) (.int .i64 n2)
      have r1 := set_cell (set_other g1 (p := ⟨w.heap.size + 1, 0, none⟩) (.inr (by simp)) (.int .i64 n1)) (.int .i64 n2)
      clear hx6 p0 p1 p2 p3 p4 q0 q1 rf
      go_wp2
      exact bodyPost_ret (v := .tuple #[.agg #[.int .i64 n1, .int .i64 n2], .int .i64 0]) (by simp [results, Try.results25, go_sem, r0, r1]) rfl ⟨by rw [H0.out], (x9.setCell (by simp) _).setCell (by simp) _⟩
    · obtain ⟨rfl, rfl⟩ := HBAD.out h0
      have h0' : (knErr h we != 0) = true := by simpa using h0
      clear hT h0 HBAD HGOOD
      go_wp2
      have r0 := set_other (set_cell q0 (.int .i64 0)) (p := ⟨w.heap.size + 1, 1, none⟩) (.inr (by simp)) (.int .i64 0)
      have r1 := set_cell (set_other q1 (p := ⟨w.heap.size + 1, 0, none⟩) (.inr (by simp)) (.int .i64 0)) (.int .i64 0)
      exact bodyPost_ret (v := .tuple #[.agg #[.int .i64 0, .int .i64 0], .int .i64 (knErr h we)]) (by simp [results, Try.results25, go_sem, r0, r1]) rfl ⟨rfl, (x1.setCell (by simp) _).setCell (by simp) _⟩
end Go.Proofs.Ytdadffmagfknoaa

namespace Go.Proofs.Ytdadffmagfknoaa
set_option linter.unusedSimpArgs false
set_option linter.unusedVariables false
open Go.RowKit
set_option linter.unusedVariables false
set_option maxRecDepth 100000

set_option maxHeartbeats 8000000 in
theorem refSum_any (hv rv : Value) (h : House) (hV : ValidH h) (who : Int) (r : List Int) (hlen : ∀ d : Int, 0 ≤ d → d < h.days → d.toNat < r.length) (hr : ∀ i, i < h.entries.length → RateIn h i r) (hw : 0 ≤ who ∧ who < h.agents.length) (w : World) (hh : HouseAt w hv h) (hl : IntsAt w rv r) :
    Calls Try.prog 39 #[hv, .int .i64 who, rv] w fun e w' => e = .returned (.int .i64 (paidM h who r)) ∧ Ext w w' := by
  obtain ⟨ra, rc, aa, ac, ea, ec, rfl, hdi, hsi, -, hag, he⟩ := hh
  have hle := hV.entries
  have hin := paidTo_in hV who hr
  have hen := fun i hi => entPay_in hV (i := i) hi ((hr i hi).good hV hi)
  have hgd := fun i hi => (hr i hi).good hV hi
  have hey := fun i (hi : i < h.entries.length) => hV.entry _ (entAt_mem hi)
  obtain ⟨i, rfl⟩ : ∃ i : Nat, who = i := ⟨who.toNat, by omega⟩
  have hil : i < h.agents.length := by omega
  have ki : (i : Int) < (h.agents.length : Int) := by omega
  have hag1 : h.agents[i] = agtAt h (i : Int) := by unfold agtAt; rw [Int.toNat_natCast, List.getD_eq_getElem?_getD, List.getElem?_eq_getElem hil]; rfl
  have hagv := hV.agent _ (agtAt_mem (h := h) (i := (i : Int)) hw.1 hw.2)
  obtain ⟨ab, ao, rfl, a0, a1, a2, gs, gf, gr⟩ := SliceAt.get hag hil
  rw [hag1] at a0 a1 a2 gs gf gr
  obtain ⟨sa, sc, rfl, -⟩ := hl.shape
  obtain ⟨W, hW⟩ : ∃ W, W = w.alloc (.cells #[.int .i64 h.days, .slice ra h.rates.length rc, .int .i64 h.step, .slice (some ⟨ab, ao, none⟩) h.agents.length ac, .slice ea h.entries.length ec] 26) := ⟨_, rfl⟩
  have xW : Ext w W := by rw [hW]; exact ext_alloc _ _
  have d3 : W.cell? ⟨w.heap.size, 3, none⟩ = some (.slice (some ⟨ab, ao, none⟩) h.agents.length ac) := by rw [hW]; simp [go_sem]
  have d4 : W.cell? ⟨w.heap.size, 4, none⟩ = some (.slice ea h.entries.length ec) := by rw [hW]; simp [go_sem]
  have HW := Lib.hid hW
  have Hin := Lib.hid hin
  have Hen := Lib.hid hen
  have Hgd := Lib.hid hgd
  have Hey := Lib.hid hey
  have HAG := Lib.hid hagv
  have HLEN := Lib.hid hlen
  clear hW hin hen hgd hr hey hagv hag1 hlen hV hag
  go_enter Try.func39, Try.ntmps39
  go_wp2_with fail
  rw [← HW.out]
  replace a0 := xW.cell a0
  replace a1 := xW.cell a1
  replace a2 := xW.cell a2
  replace he := he.ext xW
  replace hl := hl.ext xW
  go_loopw [7, 8] (fun sv ix wr => ∃ k : Nat, k ≤ h.entries.length ∧ ix = .int .i64 k ∧ sv = .int .i64 (paidTo h (i : Int) r k) ∧ Ext W wr) (fun _ ix _ => h.entries.length - (intOf ix).toNat)
  case atStart => exact ⟨0, Nat.zero_le _, rfl, rfl, Ext.refl _⟩
  case round =>
    obtain ⟨k, hk, rfl, rfl, hx⟩ := hrel
    have c3 := hx.cell d3
    have c4 := hx.cell d4
    have b0 := hx.cell a0
    have b1 := hx.cell a1
    have b2 := hx.cell a2
    by_cases hlt : k < h.entries.length
    · obtain ⟨xb, xo, rfl, e0, e1, e2, e3, i0, -⟩ := (he.ext hx).get hlt
      have k1 : (k : Int) < (h.entries.length : Int) := by omega
      have hea : entAt h k = h.entries[k] := entAt_get hlt
      have hst : paidTo h (i : Int) r (k + 1) = if (entAt h k).agent = (i : Int) then paidTo h (i : Int) r k + entPay h (entAt h k) (r.getD (entAt h k).day.toNat 0) else paidTo h (i : Int) r k := rfl
      have h1 := Hin.out k (by omega)
      have h2 := Hen.out k hlt
      have h3 := Hgd.out k hlt
      have h4 := Hey.out k hlt
      rw [← hea] at e0 e1 e2 e3
      have hpe : (entAt h k).agent = (i : Int) → entPay h (entAt h k) (r.getD (entAt h k).day.toNat 0) = payM (agtAt h (i : Int)) (entAt h k).near (r.getD (entAt h k).day.toNat 0) := fun g => by unfold entPay; rw [g]
      generalize entPay h (entAt h k) (r.getD (entAt h k).day.toNat 0) = pj at *
      generalize entAt h k = x at *
      generalize paidTo h (i : Int) r k = sk at *
      obtain ⟨xa, xd, xn, xf⟩ := x
      simp only at *
      obtain ⟨j, rfl⟩ : ∃ j : Nat, xd = j := ⟨xd.toNat, by omega⟩
      have hjl := HLEN.out (j : Int) (by omega) (by omega)
      simp only [Int.toNat_natCast] at hjl hst h3 hpe
      have kj : (j : Int) < (r.length : Int) := by omega
      obtain ⟨sb, so, rfl, sv, -⟩ := SliceAt.get (hl.ext hx) hjl
      rw [Nat.mul_one] at sv
      have hqj : r.getD j 0 = r[j]'hjl := by rw [List.getD_eq_getElem?_getD, List.getElem?_eq_getElem hjl]; rfl
      rw [hqj] at h3 hpe
      generalize r[j]'hjl = x at *
      have ws : IntKind.i64.wrap (sk + pj) = sk + pj := IntWalk.i64_in _ (by omega)
      have Hst := Lib.hid hst
      have hn : 0 ≤ xn ∧ xn ≤ 99 := h4.2.2.1
      have HN := Lib.hid hn
      have HX := Lib.hid h3
      have HPE := Lib.hid hpe
      clear hst h1 h2 hea h3 h4 hqj hpe hn
      by_cases hga : xa = (i : Int)
      · have HPJ := Lib.hid (HPE.out hga)
        have hst2 := Hst.out
        rw [if_pos hga] at hst2
        have Hst2 := Lib.hid hst2
        clear hst2 Hst HPE
        subst hga
        obtain ⟨W3, hW3⟩ : ∃ W3, W3 = wr.alloc (.cells #[.int .i64 (i : Int), .int .i64 (j : Int), .int .i64 xn, .int .i64 xf] 58) := ⟨_, rfl⟩
        have x3 : Ext wr W3 := by rw [hW3]; exact ext_alloc _ _
        have g1 : W3.cell? ⟨wr.heap.size, 1, none⟩ = some (.int .i64 (j : Int)) := by rw [hW3]; simp [go_sem]
        have g2 : W3.cell? ⟨wr.heap.size, 2, none⟩ = some (.int .i64 xn) := by rw [hW3]; simp [go_sem]
        have HW3 := Lib.hid hW3
        clear hW3
        go_wp2_with fail
        rw [← HW3.out]
        clear HW3
        have hx3 := hx.trans x3
        replace c3 := x3.cell c3
        replace b0 := x3.cell b0
        replace b1 := x3.cell b1
        replace b2 := x3.cell b2
        replace sv := x3.cell sv
        apply Facts.wp_region (.val _ :: .val _ :: .val _ :: .val _ :: .val _ :: .val _ :: .val _ :: .val _ :: .val _ :: .val _ :: .val _ :: .val _ :: .val (.int .i64 x) :: .val (.int .i64 pj) :: .val (.int .i64 (sk + pj)) :: .val (.int .i64 (sk + pj)) :: []) (by kernel_rfl) (by kernel_rfl) trivial ?main
        case main =>
        iterate 13 (refine ⟨fun w1 hx hh => ?_, ?_⟩; focus (clear hh; have j0 := hx.cell c3; have j1 := hx.cell b0; have j2 := hx.cell b1; have j3 := hx.cell b2; have j4 := hx.cell g1; have j5 := hx.cell g2; have j6 := hx.cell sv; go_simp; first | exact ⟨Ext.refl _, rfl⟩ | exact Ext.refl _))
        refine ⟨fun w1 hx hh => ?_, ?_⟩
        · clear hh
          go_simp
          refine (refPays_any _ _ xn x ⟨rfl, gs, gf, gr⟩ HAG.out.1 HAG.out.2 HN.out HX.out _).mono ?_
          rintro e w' ⟨rfl, hx2⟩
          exact ⟨_, rfl, hx2, by rw [HPJ.out]⟩
        iterate 2 (refine ⟨fun w1 hx hh => ?_, ?_⟩; focus (clear hh; skip; go_simp; first | exact ⟨Ext.refl _, rfl⟩ | exact Ext.refl _))
        intro w5 hx5 hh
        clear hh
        have x5 := hx3.trans hx5
        go_wp2
        go_roundw
        case rel => exact ⟨k + 1, by omega, by go_num, by rw [Hst2.out], x5⟩
        case measure => simp [intOf]; omega
      · have kag : (xa == (i : Int)) = false := by simpa using hga
        have Hag := Lib.hid hga
        clear hga
        go_wp2
        go_roundw
        case rel => exact ⟨k + 1, by omega, by go_num, by rw [Hst.out, if_neg Hag.out], hx.alloc _⟩
        case measure => simp [intOf]; omega
    · have hke : k = h.entries.length := by omega
      subst hke
      go_wp2
      go_ret
      exact ⟨rfl, xW.trans hx⟩
end Go.Proofs.Ytdadffmagfknoaa

namespace Go.Proofs.Ytdadffmagfknoaa
set_option linter.unusedSimpArgs false
set_option linter.unusedVariables false
open Go.RowKit
set_option linter.unusedVariables false
set_option maxRecDepth 100000

theorem pai_err (h : House) (who : Int) (f : List Int → Int) : numErr h [⟨who, agtsM h, 4⟩] f = knErr h (idxErr h who h.agents.length) := by
  unfold numErr knErr
  rw [idx_agt, numM_err]
theorem pai_bad (h : House) (who : Int) (f : List Int → Int) (he : knErr h (idxErr h who h.agents.length) ≠ 0) : (numSpan h [⟨who, agtsM h, 4⟩] f).1 = 0 ∧ (numSpan h [⟨who, agtsM h, 4⟩] f).2 = 0 := by
  rw [← pai_err h who f] at he
  unfold numErr at he
  unfold numSpan
  by_cases ho : openR h [⟨who, agtsM h, 4⟩] ≠ 0
  · rw [if_pos ho]; exact ⟨rfl, rfl⟩
  · rw [if_neg ho] at he ⊢
    by_cases hT : truL h (outB 0) = []
    · rw [hT]; exact ⟨rfl, rfl⟩
    · exact absurd (numM_is f hT).1 he
theorem pai_good (h : House) (who : Int) (f : List Int → Int) (he : knErr h (idxErr h who h.agents.length) = 0) : ValidH h ∧ (0 ≤ who ∧ who < h.agents.length) ∧ truL h (outB 0) ≠ [] ∧ (numSpan h [⟨who, agtsM h, 4⟩] f).1 = (numM f (truL h (outB 0))).1.1 ∧ (numSpan h [⟨who, agtsM h, 4⟩] f).2 = (numM f (truL h (outB 0))).1.2 := by
  have hp : idxErr h who h.agents.length = 0 := Decidable.byContradiction fun g => by unfold knErr at he; rw [if_pos g] at he; exact g he
  have hT : truL h (outB 0) ≠ [] := fun g => by unfold knErr at he; rw [hp, if_neg (by decide), if_pos g] at he; cases he
  have ho := hp
  rw [idx_agt] at ho
  obtain ⟨hV, ha⟩ := openR_ok ho
  have a1 := ha ⟨who, agtsM h, 4⟩ (by simp) (by show (4 : Int) ≠ 0; decide)
  simp only at a1
  rw [agtsM_is hV] at a1
  unfold numSpan
  rw [if_neg (fun g => g ho)]
  exact ⟨hV, by omega, hT, rfl, rfl⟩

set_option maxHeartbeats 16000000 in
theorem refPaid_any (hv : Value) (h : House) (who : Int) (hw64 : I64 who) (w : World) (hh : HouseAt w hv h) :
    Calls Try.prog 27 #[hv, .int .i64 who] w fun e w' => e = .returned (.tuple #[.agg #[.int .i64 (numSpan h [⟨who, agtsM h, 4⟩] (fun r => paidM h who r)).1, .int .i64 (numSpan h [⟨who, agtsM h, 4⟩] (fun r => paidM h who r)).2], .int .i64 (numErr h [⟨who, agtsM h, 4⟩] (fun r => paidM h who r))]) ∧ Ext w w' := by
  obtain ⟨f, hf⟩ : ∃ f, (fun r => paidM h who r) = f := ⟨_, rfl⟩
  have hfr : ∀ r, paidM h who r = f r := fun r => by rw [← hf]
  rw [hf]
  have hHH := Lib.hid hh
  have hbad := pai_bad h who f
  have hgood := pai_good h who f
  rw [pai_err]
  have hiv : idxErr h who h.agents.length = 0 → ValidH h := fun e => by rw [idx_agt] at e; exact (openR_ok e).1
  have hba : raErr h = 0 → 0 ≤ (h.agents.length : Int) ∧ (h.agents.length : Int) ≤ 100 := fun e => by have := (validH_of e).agents; omega
  have hid1 := fun w1 (hx : Ext w w1) => refIndex_any hv h who h.agents.length w1 (hh.ext hx) hba
  have hkn := fun w1 (hx : Ext w w1) => refKnown_any hv h (idxErr h who h.agents.length) w1 (hh.ext hx) hiv
  generalize (numSpan h [⟨who, agtsM h, 4⟩] f).1 = n1 at *
  generalize (numSpan h [⟨who, agtsM h, 4⟩] f).2 = n2 at *
  generalize idxErr h who h.agents.length = we at *
  obtain ⟨ra, rc, aa, ac, ea, ec, rfl, -⟩ := hh
  have HBAD := Lib.hid hbad
  have HGOOD := Lib.hid hgood
  have HID1 := Lib.hid hid1
  have HKN := Lib.hid hkn
  have HFR := Lib.hid hfr
  clear hbad hgood hiv hba hid1 hkn hf hfr
  go_enter Try.func27, Try.ntmps27
  go_wp2_with fail
  obtain ⟨W0, hW0⟩ : ∃ W, W = ((w.alloc (.cells #[.int .i64 h.days, .slice ra h.rates.length rc, .int .i64 h.step, .slice aa h.agents.length ac, .slice ea h.entries.length ec] 26)).alloc (.cells #[.int .i64 0, .int .i64 0] 35)) := ⟨_, rfl⟩
  have x1 : Ext w W0 := by rw [hW0]; exact (ext_alloc _ _).alloc _
  have p0 : W0.cell? ⟨w.heap.size, 0, none⟩ = some (.int .i64 h.days) := by rw [hW0]; simp [go_sem]
  have p1 : W0.cell? ⟨w.heap.size, 1, none⟩ = some (.slice ra h.rates.length rc) := by rw [hW0]; simp [go_sem]
  have p2 : W0.cell? ⟨w.heap.size, 2, none⟩ = some (.int .i64 h.step) := by rw [hW0]; simp [go_sem]
  have p3 : W0.cell? ⟨w.heap.size, 3, none⟩ = some (.slice aa h.agents.length ac) := by rw [hW0]; simp [go_sem]
  have p4 : W0.cell? ⟨w.heap.size, 4, none⟩ = some (.slice ea h.entries.length ec) := by rw [hW0]; simp [go_sem]
  have q0 : W0.cell? ⟨w.heap.size + 1, 0, none⟩ = some (.int .i64 0) := by rw [hW0]; simp [go_sem]
  have q1 : W0.cell? ⟨w.heap.size + 1, 1, none⟩ = some (.int .i64 0) := by rw [hW0]; simp [go_sem]
  have rf : ∀ o, W0.frozen? ⟨w.heap.size + 1, o, none⟩ = false := fun o => by rw [hW0]; simp [go_sem]
  rw [← hW0]
  clear hW0
  have zq : w.heap.size + 1 < W0.heap.size := cell_lt q0
  apply Facts.wp_region [.val _, .val _, .val _, .val _, .val _, .val _, .val (.int .i64 we), .fact (KnT h we), .fact (KnT h we), .fact (KnL h we), .val (.int .i64 (knErr h we)), .fact (KnL h we), .val (.int .i64 (knErr h we))] (by kernel_rfl) (by kernel_rfl) ⟨fun u a c hx h => KnT.ext h hx, fun u a c hx h => KnT.ext h hx, fun u a c hx h => KnL.ext h hx, fun u a c hx h => KnL.ext h hx, trivial⟩ ?main
  case main =>
  iterate 6 (refine ⟨fun w1 hx hh => ?_, ?_⟩; focus (clear hh; have j0 := hx.cell p0; have j1 := hx.cell p1; have j2 := hx.cell p2; have j3 := hx.cell p3; have j4 := hx.cell p4; go_simp; first | exact ⟨Ext.refl _, rfl⟩ | exact Ext.refl _))
  refine ⟨fun w1 hx hh => ?_, ?_⟩
  · clear hh
    go_simp
    refine (HID1.out _ (x1.trans hx)).mono ?_
    rintro e w' ⟨rfl, hx2⟩
    exact ⟨_, rfl, hx2, rfl⟩
  refine ⟨fun w2 hx hh => ?_, ?_⟩
  · clear hh
    go_simp
    refine (HKN.out _ (x1.trans hx)).mono ?_
    rintro e w' ⟨u, rfl, hk, hx2⟩
    exact ⟨_, rfl, hx2, KnT.of hk⟩
  intro u6
  refine ⟨fun w1 hx hh => ?_, ?_⟩
  · have h6 : KnT h we u6 w1 := hh 7 _ List.mem_cons_self (by kernel_rfl)
    clear hh
    go_simp
    first | exact ⟨Ext.refl _, h6⟩ | exact Ext.refl _
  intro u7
  refine ⟨fun w1 hx hh => ?_, ?_⟩
  · have h7 : KnT h we u7 w1 := hh 8 _ List.mem_cons_self (by kernel_rfl)
    have e := h7.1
    have hs := h7.2
    clear hh h7
    generalize rfst u7 = f7 at *
    subst e
    go_simp
    first | exact ⟨Ext.refl _, hs⟩ | exact Ext.refl _
  intro u8
  refine ⟨fun w1 hx hh => ?_, ?_⟩
  · have h7 : KnT h we u7 w1 := hh 8 _ (List.mem_cons_of_mem _ List.mem_cons_self) (by kernel_rfl)
    have e := h7.1
    clear hh h7
    generalize rfst u7 = f7 at *
    subst e
    go_simp
    exact Ext.refl _
  refine ⟨fun w1 hx hh => ?_, ?_⟩
  · have h8 : KnL h we u8 w1 := hh 9 _ List.mem_cons_self (by kernel_rfl)
    clear hh
    go_simp
    first | exact ⟨Ext.refl _, h8⟩ | exact Ext.refl _
  intro u10
  iterate 1 (refine ⟨fun w1 hx hh => ?_, ?_⟩; focus (clear hh; skip; go_simp; first | exact ⟨Ext.refl _, rfl⟩ | exact Ext.refl _))
  intro w5 hx5 hh
  have hK : KnL h we u10 w5 := hh 11 _ List.mem_cons_self
  clear hh
  replace rf : ∀ o, w5.frozen? ⟨w.heap.size + 1, o, none⟩ = false := fun o => by rw [hx5.frozen zq]; exact rf o
  replace p0 := hx5.cell p0
  replace p1 := hx5.cell p1
  replace p2 := hx5.cell p2
  replace p3 := hx5.cell p3
  replace p4 := hx5.cell p4
  replace q0 := hx5.cell q0
  replace q1 := hx5.cell q1
  replace x1 := x1.trans hx5
  replace zq : w.heap.size + 1 < w5.heap.size := cell_lt q0
  have z0 : w.heap.size < w5.heap.size := cell_lt p0
  clear hx5 HKN HID1
  go_simp
  obtain ⟨⟨a, nl, c, rfl⟩, hT⟩ := hK
  by_cases h0 : knErr h we = 0
  · obtain ⟨hV, hw1, hne, hns1, hns2⟩ := HGOOD.out h0
    have hL := hT h0
    have hgd : ∀ q ∈ truL h (outB 0), (∀ d : Int, 0 ≤ d → d < h.days → d.toNat < q.length) ∧ ∀ i, i < h.entries.length → RateIn h i q := fun q hq => ⟨fun d hd1 hd2 => by
      have h1 := levels_mem hV (Nat.le_refl _)
      rw [← ratesL_levels] at h1
      have h2 := h1 q (truL_sub hV hq)
      rw [h2.1]; omega, fun i hi => rateIn_of hV hq hi⟩
    have hmany := truL_many hV (outB 0)
    generalize truL h (outB 0) = T at *
    obtain ⟨t, T', rfl⟩ := List.exists_cons_of_ne_nil hne
    rw [numM_cons] at hns1 hns2
    simp only at hns1 hns2
    have hnn : nl = (t :: T').length := by
      obtain ⟨oa, oc, e, -⟩ := hL.shape
      cases e; rfl
    rw [← hnn] at hmany
    obtain ⟨ob, oo, rfl, s0, cs0, hs0⟩ := SliceAt.get (l := t :: T') (by have := hL; rw [hnn] at this; exact this) (show 0 < (t :: T').length by simp)
    simp only [Nat.zero_mul, Nat.add_zero] at cs0
    simp only [List.getElem_cons_zero] at hs0
    obtain ⟨sa0, sc0, rfl, -⟩ := hs0.shape
    have hgt := hgd t (by simp)
    have kN : (0 : Int) < (nl : Int) := by rw [hnn, List.length_cons]; omega
    have kN2 : 0 < nl := by omega
    have HN := Lib.hid hnn
    have HGD := Lib.hid hgd
    have HGT := Lib.hid hgt
    have HN1 := Lib.hid hns1.symm
    have HN2 := Lib.hid hns2.symm
    have H0 := Lib.hid h0
    have HL := Lib.hid hL
    have HV := Lib.hid hV
    have HW1 := Lib.hid hw1
    have HS0 := Lib.hid hs0
    rw [h0]
    clear hV hgd hgt hns1 hns2 hne hnn hL hT HBAD HGOOD h0 hw1 hs0
    go_wp2_with fail
    apply Facts.wp_region (.val _ :: .val _ :: .val _ :: .val _ :: .val _ :: .val (.int .i64 (f t)) :: .val (.int .i64 (f t)) :: []) (by kernel_rfl) (by kernel_rfl) trivial ?main
    case main =>
    iterate 5 (refine ⟨fun w1 hx hh => ?_, ?_⟩; focus (clear hh; have j0 := hx.cell p0; have j1 := hx.cell p1; have j2 := hx.cell p2; have j3 := hx.cell p3; have j4 := hx.cell p4; have j5 := hx.cell cs0; go_simp; first | exact ⟨Ext.refl _, rfl⟩ | exact Ext.refl _))
    refine ⟨fun w1 hx hh => ?_, ?_⟩
    · clear hh
      go_simp
      refine (refSum_any _ _ h HV.out who t HGT.out.1 HGT.out.2 HW1.out _ (hHH.out.ext (x1.trans hx)) (HS0.out.ext hx)).mono ?_
      rintro e w' ⟨rfl, hx2⟩
      exact ⟨_, rfl, hx2, by rw [HFR.out]⟩
    iterate 1 (refine ⟨fun w1 hx hh => ?_, ?_⟩; focus (clear hh; skip; go_simp; first | exact ⟨Ext.refl _, rfl⟩ | exact Ext.refl _))
    intro w6 hx1 hh
    clear hh
    replace rf : ∀ o, w6.frozen? ⟨w.heap.size + 1, o, none⟩ = false := fun o => by rw [hx1.frozen zq]; exact rf o
    replace q0 := hx1.cell q0
    replace q1 := hx1.cell q1
    replace p0 := hx1.cell p0
    replace p1 := hx1.cell p1
    replace p2 := hx1.cell p2
    replace p3 := hx1.cell p3
    replace p4 := hx1.cell p4
    have HL6 := Lib.hid (HL.out.ext hx1)
    replace x1 := x1.trans hx1
    clear hx1 cs0 zq HS0 HL
    go_simp
    obtain ⟨W5, hW5⟩ : ∃ W, W = w6.alloc (.cells #[.int .i64 (f t), .int .i64 (f t)] 35) := ⟨_, rfl⟩
    obtain ⟨B, hB⟩ : ∃ B, B = w6.heap.size := ⟨_, rfl⟩
    have xS : Ext w6 W5 := by rw [hW5]; exact ext_alloc _ _
    have r0 : W5.cell? ⟨B, 0, none⟩ = some (.int .i64 (f t)) := by rw [hW5, hB]; simp [go_sem]
    have r1 : W5.cell? ⟨B, 1, none⟩ = some (.int .i64 (f t)) := by rw [hW5, hB]; simp [go_sem]
    have gf2 : ∀ o, W5.frozen? ⟨B, o, none⟩ = false := fun o => by rw [hW5, hB]; simp [go_sem]
    have hB1 : w6.heap.size ≤ B := by omega
    have HW5 := Lib.hid hW5
    have HB := Lib.hid hB
    clear hW5 hB
    go_wp2
    rw [← HW5.out, ← HB.out]
    clear HW5 HB
    have hlo0 : (T'.take (1 - 1)).foldl (fun m r => min m (f r)) (f t) = f t := rfl
    have hhi0 : (T'.take (1 - 1)).foldl (fun m r => max m (f r)) (f t) = f t := rfl
    have HLO := Lib.hid hlo0
    have HHI := Lib.hid hhi0
    clear hlo0 hhi0
    go_loopw [10] (fun i wr => ∃ m : Nat, 1 ≤ m ∧ m ≤ nl ∧ i = .int .i64 m ∧ Ext w6 wr ∧ wr.cell? ⟨B, 0, none⟩ = some (.int .i64 ((T'.take (m - 1)).foldl (fun m r => min m (f r)) (f t))) ∧ wr.cell? ⟨B, 1, none⟩ = some (.int .i64 ((T'.take (m - 1)).foldl (fun m r => max m (f r)) (f t))) ∧ ∀ o, wr.frozen? ⟨B, o, none⟩ = false) (fun i _ => nl - (intOf i).toNat)
    case atStart => exact ⟨1, Nat.le_refl _, kN2, rfl, xS, by rw [HLO.out]; exact r0, by rw [HHI.out]; exact r1, gf2⟩
    case round =>
      clear r0 r1 xS gf2
      obtain ⟨m, hm1, hm, rfl, hx, r0, r1, gf2⟩ := hrel
      by_cases hmn : m < nl
      · have k1 : (m : Int) < (nl : Int) := by omega
        have hmT : m < (t :: T').length := by rw [← HN.out]; exact hmn
        have hlo := fold_take_next (fun m r => min m (f r)) t T' (f t) m hm1 hmT
        have hhi := fold_take_next (fun m r => max m (f r)) t T' (f t) m hm1 hmT
        have hgm := HGD.out (t :: T')[m] (List.getElem_mem hmT)
        obtain ⟨ob2, oo2, e2, s2, cs2, hs2⟩ := SliceAt.get (l := t :: T') (by have := HL6.out.ext hx; rw [HN.out] at this; exact this) hmT
        obtain ⟨rfl, rfl⟩ : ob = ob2 ∧ oo = oo2 := by cases e2; exact ⟨rfl, rfl⟩
        generalize (t :: T')[m] = q at *
        rw [Nat.mul_one] at cs2
        obtain ⟨sa2, sc2, rfl, -⟩ := hs2.shape
        obtain ⟨fq, hfq⟩ : ∃ fq, f q = fq := ⟨_, rfl⟩
        have hfq2 : paidM h who q = fq := by rw [HFR.out, hfq]
        rw [hfq] at hlo hhi
        have HWM := Lib.hid hfq2
        have HGM := Lib.hid hgm
        have HS2 := Lib.hid hs2
        generalize hlc : (T'.take (m - 1)).foldl (fun m r => min m (f r)) (f t) = lc at *
        generalize hhc : (T'.take (m - 1)).foldl (fun m r => max m (f r)) (f t) = hc at *
        have b0 := hx.cell p0
        have b1 := hx.cell p1
        have b2 := hx.cell p2
        have b3 := hx.cell p3
        have b4 := hx.cell p4
        have HL2 := Lib.hid hlo
        have HH2 := Lib.hid hhi
        have y2 := cell_lt r0
        have hxx := x1.trans hx
        clear hlo hhi hlc hhc e2 hgm hs2 hfq hfq2
        go_wp2_with fail
        apply Facts.Peel.wp_regionL two_ee 9 8 [.val (.agg #[.int .i64 lc, .int .i64 hc]), .val _, .val _, .val _, .val _, .val _, .val _, .val (.int .i64 fq), .val (.agg #[.int .i64 (min lc fq), .int .i64 (max hc fq)])] (by kernel_rfl) (by kernel_rfl) (by kernel_rfl) (by kernel_rfl) (by kernel_rfl) (by kernel_rfl) ?keep ?main
        case keep => exact trivial
        case main =>
          simp only [List.take_succ_cons, List.take_zero, List.getD_cons_succ, List.getD_cons_zero]
          iterate 7 (refine ⟨fun w1 hC hh => ?_, ?_⟩; focus (have hx := hC; clear hh hC; (have f0 := hx.cell r0; have f1 := hx.cell r1; have f2 := hx.cell b3; have f3 := hx.cell b0; have f4 := hx.cell b1; have f5 := hx.cell b2; have f6 := hx.cell cs2; have f7 := hx.cell b4); go_simp; first | exact ⟨Ext.refl _, rfl⟩ | exact Ext.refl _))
          refine ⟨fun w2 hC hh => ?_, ?_⟩
          · have hC2 := hC
            clear hh hC
            go_simp
            refine (refSum_any _ _ h HV.out who q HGM.out.1 HGM.out.2 HW1.out _ (hHH.out.ext (hxx.trans hC2)) (HS2.out.ext hC2)).mono ?_
            rintro e w' ⟨rfl, hx2⟩
            exact ⟨_, rfl, hx2, by rw [HWM.out]⟩
          refine ⟨fun w2 hC hh => ?_, ?_⟩
          · clear hh hC
            go_simp
            refine (refJoin_any _ _ _ _).mono ?_
            rintro e w' ⟨rfl, hx2⟩
            exact ⟨_, rfl, hx2, rfl⟩
          intro w7 hx6 hh
          clear hh
          have d0 := hx6.cell r0
          have d1 := hx6.cell r1
          have bf : ∀ o, w7.frozen? ⟨B, o, none⟩ = false := fun o => by rw [hx6.frozen y2]; exact gf2 o
          have n0 := set_other (set_cell d0 (.int .i64 (min lc fq))) (p := ⟨B, 1, none⟩) (.inr (by simp)) (.int .i64 (max hc fq))
          have n9 := set_cell (set_other d1 (p := ⟨B, 0, none⟩) (.inr (by simp)) (.int .i64 (min lc fq))) (.int .i64 (max hc fq))
          have xN : Ext w6 ((w7.setCell ⟨B, 0, none⟩ (.int .i64 (min lc fq))).setCell ⟨B, 1, none⟩ (.int .i64 (max hc fq))) := ((hx.trans hx6).setCell hB1 _).setCell hB1 _
          refine ⟨rfl, ?_⟩
          have fN : ∀ o, ((w7.setCell ⟨B, 0, none⟩ (.int .i64 (min lc fq))).setCell ⟨B, 1, none⟩ (.int .i64 (max hc fq))).frozen? ⟨B, o, none⟩ = false := fun o => by simpa [go_sem] using bf o
          generalize hmi : min lc fq = mi at *
          generalize hma : max hc fq = ma at *
          have HMI := Lib.hid hmi
          have HMA := Lib.hid hma
          clear hmi hma
          go_simp
          generalize ((w7.setCell ⟨B, 0, none⟩ (.int .i64 mi)).setCell ⟨B, 1, none⟩ (.int .i64 ma)) = W6 at *
          clear d0 d1 bf r0 r1 gf2 hx hx6 cs2 y2 b0 b1 b2 b3 b4 HS2 hxx
          go_wp2
          go_roundw
          case rel => exact ⟨m + 1, by omega, by omega, by go_num, xN, by rw [HL2.out]; exact n0, by rw [HH2.out]; exact n9, fN⟩
          case measure => simp [intOf]; omega
      · obtain rfl : m = nl := by omega
        have hlen : T'.take (m - 1) = T' := List.take_of_length_le (by have := HN.out; rw [List.length_cons] at this; omega)
        rw [hlen, HN1.out] at r0
        rw [hlen, HN2.out] at r1
        have e0 := hx.cell q0
        have e1 := hx.cell q1
        have zq : w.heap.size + 1 < w6.heap.size := cell_lt q0
        have ef : ∀ o, wr.frozen? ⟨w.heap.size + 1, o, none⟩ = false := fun o => by rw [hx.frozen zq]; exact rf o
        have x9 := x1.trans hx
        have z0 := set_other (set_cell e0 (.int .i64 n1)) (p := ⟨w.heap.size + 1, 1, none⟩) (.inr (by simp)) (.int .i64 n2)
        have z1 := set_cell (set_other e1 (p := ⟨w.heap.size + 1, 0, none⟩) (.inr (by simp)) (.int .i64 n1)) (.int .i64 n2)
        clear hlen
        go_wp2
        exact bodyPost_ret (v := .tuple #[.agg #[.int .i64 n1, .int .i64 n2], .int .i64 0]) (by simp [results, Try.results27, go_sem, z0, z1]) rfl ⟨by rw [H0.out], (x9.setCell (by simp) _).setCell (by simp) _⟩
  · obtain ⟨rfl, rfl⟩ := HBAD.out h0
    have h0' : (knErr h we != 0) = true := by simpa using h0
    clear hT h0 HBAD HGOOD
    go_wp2
    have r0 := set_other (set_cell q0 (.int .i64 0)) (p := ⟨w.heap.size + 1, 1, none⟩) (.inr (by simp)) (.int .i64 0)
    have r1 := set_cell (set_other q1 (p := ⟨w.heap.size + 1, 0, none⟩) (.inr (by simp)) (.int .i64 0)) (.int .i64 0)
    exact bodyPost_ret (v := .tuple #[.agg #[.int .i64 0, .int .i64 0], .int .i64 (knErr h we)]) (by simp [results, Try.results27, go_sem, r0, r1]) rfl ⟨rfl, (x1.setCell (by simp) _).setCell (by simp) _⟩
end Go.Proofs.Ytdadffmagfknoaa

namespace Go.Proofs.Ytdadffmagfknoaa
set_option linter.unusedSimpArgs false
set_option linter.unusedVariables false
open Go.RowKit
set_option linter.unusedVariables false
set_option maxRecDepth 100000

set_option maxHeartbeats 8000000 in
theorem worths8_any (hv : Value) (h : House) (a d n : Int) (ha : I64 a) (hd : I64 d) (hn : I64 n) (w : World) (hh : HouseAt w hv h) :
    Calls Try.prog 4 #[hv, .agg #[.int .i64 a, .int .i64 d, .int .i64 n]] w fun e w' => e = .returned (.bool true) ∧ Ext w w' := by
  have c1 := fun w1 (hx : Ext w w1) => worthPub_any hv h a d n ha hd hn w1 (hh.ext hx)
  have c2 := fun w1 (hx : Ext w w1) => refWorth_any hv h a d n ha hd hn w1 (hh.ext hx)
  have c3 := fun w1 (hx : Ext w w1) => paidPub_any hv h a ha w1 (hh.ext hx)
  have c4 := fun w1 (hx : Ext w w1) => refPaid_any hv h a ha w1 (hh.ext hx)
  have hf : worthF h a d n = fun r => payM (agtAt h a) n (r.getD d.toNat 0) := rfl
  have hg : worthArgs h a d n = [⟨a, agtsM h, 4⟩, ⟨d, daysM h, 4⟩, ⟨n, 99, 7⟩] := rfl
  rw [hf, hg] at c2
  unfold spanV at c1 c3
  generalize numSpan h [⟨a, agtsM h, 4⟩, ⟨d, daysM h, 4⟩, ⟨n, 99, 7⟩] (fun r => payM (agtAt h a) n (r.getD d.toNat 0)) = s1 at *
  generalize numErr h [⟨a, agtsM h, 4⟩, ⟨d, daysM h, 4⟩, ⟨n, 99, 7⟩] (fun r => payM (agtAt h a) n (r.getD d.toNat 0)) = e1 at *
  generalize numSpan h [⟨a, agtsM h, 4⟩] (fun r => paidM h a r) = s2 at *
  generalize numErr h [⟨a, agtsM h, 4⟩] (fun r => paidM h a r) = e2 at *
  obtain ⟨l1, g1⟩ := s1
  obtain ⟨l2, g2⟩ := s2
  simp only at c1 c2 c3 c4
  obtain ⟨ra, rc, aa, ac, ea, ec, rfl, -⟩ := hh
  clear hf hg
  have C1 := Lib.hid c1
  have C2 := Lib.hid c2
  have C3 := Lib.hid c3
  have C4 := Lib.hid c4
  clear c1 c2 c3 c4
  go_enter Try.func4, Try.ntmps4
  go_wp2_with fail
  refine (C1.out _ ((ext_alloc _ _).alloc _)).mono ?_
  rintro e w1 ⟨rfl, hx⟩
  have x1 : Ext w w1 := ((ext_alloc _ _).alloc _).trans hx
  have p0 : w1.cell? ⟨w.heap.size, 0, none⟩ = some (.int .i64 h.days) := hx.cell (by simp [go_sem])
  have p1 : w1.cell? ⟨w.heap.size, 1, none⟩ = some (.slice ra h.rates.length rc) := hx.cell (by simp [go_sem])
  have p2 : w1.cell? ⟨w.heap.size, 2, none⟩ = some (.int .i64 h.step) := hx.cell (by simp [go_sem])
  have p3 : w1.cell? ⟨w.heap.size, 3, none⟩ = some (.slice aa h.agents.length ac) := hx.cell (by simp [go_sem])
  have p4 : w1.cell? ⟨w.heap.size, 4, none⟩ = some (.slice ea h.entries.length ec) := hx.cell (by simp [go_sem])
  have r0 : w1.cell? ⟨w.heap.size + 1, 0, none⟩ = some (.int .i64 a) := hx.cell (by simp [go_sem])
  have r1 : w1.cell? ⟨w.heap.size + 1, 1, none⟩ = some (.int .i64 d) := hx.cell (by simp [go_sem])
  have r2 : w1.cell? ⟨w.heap.size + 1, 2, none⟩ = some (.int .i64 n) := hx.cell (by simp [go_sem])
  have z0 := cell_lt p0
  have z1 := cell_lt r0
  clear hx C1
  go_wp2_with fail
  obtain ⟨B, hB⟩ : ∃ B, B = w1.heap.size := ⟨_, rfl⟩
  obtain ⟨W1, hW1⟩ : ∃ W, W = w1.alloc (.cells #[.int .i64 l1, .int .i64 g1] 35) := ⟨_, rfl⟩
  have xa : Ext w1 W1 := by rw [hW1]; exact ext_alloc _ _
  have b0 : W1.cell? ⟨B, 0, none⟩ = some (.int .i64 l1) := by rw [hW1, hB]; simp [go_sem]
  have b1 : W1.cell? ⟨B, 1, none⟩ = some (.int .i64 g1) := by rw [hW1, hB]; simp [go_sem]
  have bf : ∀ o, W1.frozen? ⟨B, o, none⟩ = false := fun o => by rw [hW1, hB]; simp [go_sem]
  rw [← hW1, ← hB]
  have hBw : w.heap.size ≤ B := by omega
  have zBw : w.heap.size + 1 < B := by have : w.heap.size + 1 < w1.heap.size := z1; omega
  clear hW1 hB
  refine (C2.out _ (x1.trans xa)).mono ?_
  rintro e w2 ⟨rfl, hy⟩
  have zb : B < W1.heap.size := cell_lt b0
  replace b0 := hy.cell b0
  replace b1 := hy.cell b1
  replace bf : ∀ o, w2.frozen? ⟨B, o, none⟩ = false := fun o => by rw [hy.frozen zb]; exact bf o
  have hx := xa.trans hy
  have x2 := x1.trans hx
  replace p0 := hx.cell p0
  replace p1 := hx.cell p1
  replace p2 := hx.cell p2
  replace p3 := hx.cell p3
  replace p4 := hx.cell p4
  replace r0 := hx.cell r0
  replace r1 := hx.cell r1
  replace r2 := hx.cell r2
  have zb2 : B < w2.heap.size := cell_lt b0
  have zp2 : w.heap.size < w2.heap.size := cell_lt p0
  have zr2 : w.heap.size + 1 < w2.heap.size := cell_lt r0
  clear hx hy xa C2 x1
  go_wp2_with fail
  obtain ⟨W3, hW3⟩ : ∃ W, W = w2.alloc (.cells #[.int .i64 l1, .int .i64 g1] 35) := ⟨_, rfl⟩
  obtain ⟨D, hD⟩ : ∃ D, D = w2.heap.size := ⟨_, rfl⟩
  have hx : Ext w2 W3 := by rw [hW3]; exact ext_alloc _ _
  have d0 : W3.cell? ⟨D, 0, none⟩ = some (.int .i64 l1) := by rw [hW3, hD]; simp [go_sem]
  have d1 : W3.cell? ⟨D, 1, none⟩ = some (.int .i64 g1) := by rw [hW3, hD]; simp [go_sem]
  have df : ∀ o, W3.frozen? ⟨D, o, none⟩ = false := fun o => by rw [hW3, hD]; simp [go_sem]
  have hDw : w.heap.size ≤ D := by have : w.heap.size < w2.heap.size := cell_lt p0; omega
  have hBD : B < D := by have : B < w2.heap.size := cell_lt b0; omega
  have zb2 : B < w2.heap.size := cell_lt b0
  replace b0 := hx.cell b0
  replace b1 := hx.cell b1
  replace bf : ∀ o, W3.frozen? ⟨B, o, none⟩ = false := fun o => by rw [hx.frozen zb2]; exact bf o
  have x3 := x2.trans hx
  replace p0 := hx.cell p0
  replace p1 := hx.cell p1
  replace p2 := hx.cell p2
  replace p3 := hx.cell p3
  replace p4 := hx.cell p4
  replace r0 := hx.cell r0
  replace r1 := hx.cell r1
  replace r2 := hx.cell r2
  rw [← hW3, ← hD]
  clear hx hW3 hD zb zb2 x2 zp2 zr2
  refine (C3.out _ x3).mono ?_
  rintro e w4 ⟨rfl, hx⟩
  have x4 := x3.trans hx
  have zb3 : B < W3.heap.size := cell_lt b0
  have zd3 : D < W3.heap.size := cell_lt d0
  replace b0 := hx.cell b0
  replace b1 := hx.cell b1
  replace d0 := hx.cell d0
  replace d1 := hx.cell d1
  replace bf : ∀ o, w4.frozen? ⟨B, o, none⟩ = false := fun o => by rw [hx.frozen zb3]; exact bf o
  replace df : ∀ o, w4.frozen? ⟨D, o, none⟩ = false := fun o => by rw [hx.frozen zd3]; exact df o
  replace p0 := hx.cell p0
  replace p1 := hx.cell p1
  replace p2 := hx.cell p2
  replace p3 := hx.cell p3
  replace p4 := hx.cell p4
  replace r0 := hx.cell r0
  replace r1 := hx.cell r1
  replace r2 := hx.cell r2
  clear hx zb3 zd3 x3 C3
  go_wp2_with fail
  obtain ⟨W5, hW5⟩ : ∃ W, W = (w4.setCell ⟨B, 0, none⟩ (.int .i64 l2)).setCell ⟨B, 1, none⟩ (.int .i64 g2) := ⟨_, rfl⟩
  have x5 : Ext w W5 := by rw [hW5]; exact (x4.setCell hBw _).setCell hBw _
  have c0 : W5.cell? ⟨B, 0, none⟩ = some (.int .i64 l2) := by rw [hW5]; exact set_other (set_cell b0 _) (.inr (by simp)) _
  have c1 : W5.cell? ⟨B, 1, none⟩ = some (.int .i64 g2) := by rw [hW5]; exact set_cell (set_other b1 (.inr (by simp)) _) _
  have e0 : W5.cell? ⟨D, 0, none⟩ = some (.int .i64 l1) := by rw [hW5]; exact set_other (set_other d0 (.inl (by simp; omega)) _) (.inl (by simp; omega)) _
  have e1' : W5.cell? ⟨D, 1, none⟩ = some (.int .i64 g1) := by rw [hW5]; exact set_other (set_other d1 (.inl (by simp; omega)) _) (.inl (by simp; omega)) _
  have ef : ∀ o, W5.frozen? ⟨D, o, none⟩ = false := fun o => by rw [hW5]; simp [go_sem, df]
  rw [← hW5]
  clear hW5 b0 b1 d0 d1 bf df p0 p1 p2 p3 p4 r0 r1 r2
  refine (C4.out _ x5).mono ?_
  rintro e w6 ⟨rfl, hx⟩
  have x6 := x5.trans hx
  have zd : D < W5.heap.size := cell_lt e0
  replace c0 := hx.cell c0
  replace c1 := hx.cell c1
  replace e0 := hx.cell e0
  replace e1' := hx.cell e1'
  replace ef : ∀ o, w6.frozen? ⟨D, o, none⟩ = false := fun o => by rw [hx.frozen zd]; exact ef o
  have hne : B ≠ D := by omega
  have hne2 : D ≠ B := by omega
  clear hx zd C4 x5 x4
  go_wp2_with fail
  have x7 := (x6.setCell (p := ⟨D, 0, none⟩) hDw (.int .i64 l2)).setCell (p := ⟨D, 1, none⟩) hDw (.int .i64 g2)
  clear x6 c0 c1 e0 e1' ef
  (refine (awakeR_any _).mono ?_; rintro e w9 ⟨rfl, hx9⟩; have x9 := Ext.trans x7 hx9; clear hx9)
  go_wp2
  go_ret
  exact ⟨rfl, x9⟩
end Go.Proofs.Ytdadffmagfknoaa

namespace Go.Proofs.Ytdadffmagfknoaa
set_option linter.unusedSimpArgs false
set_option linter.unusedVariables false
open Go.ChangeShapes Go.WideShapes Go.RowKit
set_option maxRecDepth 100000
section
variable {H : Type} {enc : TypeId × Value → H} {w : World} {base : Nat} {sp : Nat → Bool} {held : Bool}
theorem ints3R_of {r : Reach} {b0 : Nat} {v : Value} {d : DataW H} {ps : List MemPlace} (hval : Value.okWide Try.prog w r b0 40 v) (hd : DataW.Trod enc Try.prog w base sp held 40 v d ps) :
    ∃ x y z : Int, v = .agg #[.int .i64 x, .int .i64 y, .int .i64 z] ∧ I64 x ∧ I64 y ∧ I64 z := by
  obtain ⟨l, rfl, hl, hw⟩ := arrayR_of Try.underlying40 Try.underlying3 cellsInt (by kernel_rfl) hval hd
  match l, hl with
  | [a, b, c], _ => exact ⟨a, b, c, rfl, wf_i64 (hw a (by simp)), wf_i64 (hw b (by simp)), wf_i64 (hw c (by simp))⟩
end
end Go.Proofs.Ytdadffmagfknoaa

namespace Go.Proofs.Ytdadffmagfknoaa
set_option linter.unusedSimpArgs false
set_option linter.unusedVariables false
open Go.RowKit
set_option linter.unusedVariables false

def leastR (l : List Nat) : Nat := match l.getLast? with | none => 0 | some z => z + 1
def chStepR (n : Nat) (l : List Nat) : List (List Nat) := (List.range' (leastR l) (n - leastR l)).map fun m => l ++ [m]
def chToR (n : Nat) : Nat → List (List Nat)
  | 0 => [[]]
  | k + 1 => (chToR n k).flatMap (chStepR n)
theorem chR_fine : ∀ n many : Fin 6, ∀ L ∈ chToR n.1 many.1, L.length = many.1 ∧ L.Pairwise (· < ·) ∧ ∀ x ∈ L, x < n.1 := by decide +kernel
theorem chR_few : ∀ n many : Fin 6, (chToR n.1 many.1).length ≤ 10 := by decide +kernel
theorem chR_comb : ∀ n many : Fin 6, chToR n.1 many.1 = combM many.1 (membersM (2 ^ n.1 - 1)) := by decide +kernel
end Go.Proofs.Ytdadffmagfknoaa

namespace Go.Proofs.Ytdadffmagfknoaa
set_option linter.unusedSimpArgs false
set_option linter.unusedVariables false
open Go.RowKit
set_option linter.unusedVariables false

theorem idx_ent (h : House) (d : Int) : idxErr h d h.entries.length = openR h [⟨d, entsM h, 4⟩] := by
  by_cases hv : raErr h = 0
  · have hV := validH_of hv
    rw [openR_one hv ⟨d, entsM h, 4⟩ (by show (4 : Int) ≠ 0; decide)]
    have hn : ¬ raErr h ≠ 0 := fun g => g hv
    unfold idxErr
    rw [if_neg hn]
    simp only
    rw [entsM_is hV]
  · rw [openR_bad hv]
    unfold idxErr
    rw [if_pos hv]
theorem how_settled {y n : Nat} (hn : n ≠ 0) : howM y n = (settledM y n, 0) := by
  unfold howM settledM
  rw [if_neg hn]
  by_cases h0 : y = 0
  · subst h0
    rw [if_pos rfl, if_neg (show ¬ ((0 : Nat) : Int) = (n : Int) by omega), if_pos (show ((0 : Nat) : Int) = 0 from rfl)]
  · rw [if_neg h0]
    by_cases h1 : y = n
    · rw [if_pos h1, if_pos (by omega)]
    · rw [if_neg h1, if_neg (by omega), if_neg (by omega)]
theorem foldl_bit : ∀ (l : List Nat) (s i : Nat), (l.foldl (fun s i => s ||| 2 ^ i) s).testBit i = (s.testBit i || decide (i ∈ l))
  | [], s, i => by simp
  | x :: l, s, i => by
    rw [List.foldl_cons, foldl_bit l, Nat.testBit_or, Nat.testBit_two_pow, Bool.or_assoc]
    congr 1
    rw [Bool.eq_iff_iff]
    simp only [Bool.or_eq_true, decide_eq_true_eq, List.mem_cons]
    exact or_congr_left eq_comm
theorem rbitsM_bit (l : List Nat) (i : Nat) : (bitsM l).testBit i = decide (i ∈ l) := by
  unfold bitsM
  rw [foldl_bit, Nat.zero_testBit, Bool.false_or]
theorem outL_bits (L : List Nat) : outL (ints L) = outB (bitsM L) := by
  funext i
  unfold outL outB
  rw [rbitsM_bit, decide_eq_decide]
  simp only [ints, List.mem_map]
  exact ⟨fun ⟨y, hy, e⟩ => by have : y = i := by omega
                              subst this; exact hy, fun h => ⟨i, h, rfl⟩⟩
theorem outL_one (i : Nat) : outL [(i : Int)] = outB (2 ^ i) := by
  have := outL_bits [i]
  rw [show bitsM [i] = 2 ^ i from by simp [bitsM]] at this
  exact this
theorem trueP_list (h : House) (L : List Nat) : trueP h (bitsM L) = !decide (truL h (outL (ints L)) = []) := by
  rw [outL_bits]; rfl
theorem parts_split {l : List Nat} {m : Nat} (h : m ≤ l.length) : ∃ r, partsM l = partsTo l m ++ (combM m l ++ r) := by
  obtain ⟨r, hr⟩ := partsTo_prefix l (k := m + 1) (m := l.length + 1) (by omega)
  exact ⟨r, by rw [partsM, ← hr, partsTo_succ, giveL_none, List.append_assoc]⟩
theorem mem_partsTo {l q : List Nat} {k : Nat} : q ∈ partsTo l k ↔ ∃ m, m < k ∧ q ∈ combM m l := by simp [partsTo, List.mem_flatMap]
theorem members_pow_len : ∀ n : Fin 6, (membersM (2 ^ n.1 - 1)).length = n.1 := by decide +kernel
/-- the first of the choices of which something is so -/
theorem few_hit {P : Nat → Bool} {n many i : Nat} (hn : n ≤ 5) (hm : many ≤ n) (hi : i < (chToR n many).length) (h1 : ∀ m, m < many → ∀ L ∈ chToR n m, P (bitsM L) = false) (h2 : ∀ i' (h : i' < i), P (bitsM ((chToR n many)[i']'(by omega))) = false)
    (hP : P (bitsM (chToR n many)[i]) = true) : fewTo P (2 ^ n) = some (chToR n many)[i] := by
  rw [← find_few P hn, List.find?_eq_some_iff_append]
  have hc := fun m (h : m ≤ n) => chR_comb ⟨n, by omega⟩ ⟨m, by omega⟩
  simp only at hc
  have hl := members_pow_len ⟨n, by omega⟩
  simp only at hl
  obtain ⟨r, hr⟩ := parts_split (l := membersM (2 ^ n - 1)) (m := many) (by omega)
  refine ⟨hP, partsTo (membersM (2 ^ n - 1)) many ++ (chToR n many).take i, (chToR n many).drop (i + 1) ++ r, ?_, fun q hq => ?_⟩
  · rw [hr, ← hc many hm, List.append_assoc]
    congr 1
    rw [← List.cons_append, ← List.append_assoc]
    congr 1
    rw [← List.drop_eq_getElem_cons hi, List.take_append_drop]
  · rcases List.mem_append.1 hq with hq | hq
    · obtain ⟨m, hm1, hm2⟩ := mem_partsTo.1 hq
      rw [← hc m (by omega)] at hm2
      rw [h1 m hm1 q hm2]; rfl
    · obtain ⟨j, hj, rfl⟩ := List.getElem_of_mem hq
      rw [List.length_take] at hj
      rw [List.getElem_take, h2 j (by omega)]; rfl
theorem few_miss {P : Nat → Bool} {n : Nat} (hn : n ≤ 5) (h1 : ∀ m, m ≤ n → ∀ L ∈ chToR n m, P (bitsM L) = false) : fewTo P (2 ^ n) = none := by
  rw [← find_few P hn, List.find?_eq_none]
  intro q hq
  have hl := members_pow_len ⟨n, by omega⟩
  simp only at hl
  obtain ⟨m, hm1, hm2⟩ := mem_partsTo.1 hq
  have hc := chR_comb ⟨n, by omega⟩ ⟨m, by omega⟩
  simp only at hc
  rw [← hc] at hm2
  rw [h1 m (by omega) q hm2]; decide
end Go.Proofs.Ytdadffmagfknoaa

namespace Go.Proofs.Ytdadffmagfknoaa
set_option linter.unusedSimpArgs false
set_option linter.unusedVariables false
open Go.RowKit
set_option linter.unusedVariables false
set_option maxRecDepth 100000
theorem agr_bad {h : House} {n : Int} (he : idxErr h n h.entries.length ≠ 0) : (agreeHow h [⟨n, entsM h, 4⟩] n.toNat) = 0 ∧ (agreeErr h [⟨n, entsM h, 4⟩] n.toNat) = idxErr h n h.entries.length := by
  rw [idx_ent] at he ⊢
  unfold agreeHow agreeErr
  rw [if_pos he, if_pos he]
  exact ⟨rfl, rfl⟩
theorem agr_ok {h : House} {n : Int} (he : idxErr h n h.entries.length = 0) : ValidH h ∧ 0 ≤ n ∧ n < h.entries.length ∧
    (toldE (entAt h n.toNat) = false → (agreeHow h [⟨n, entsM h, 4⟩] n.toNat) = 0 ∧ (agreeErr h [⟨n, entsM h, 4⟩] n.toNat) = 2) ∧ (toldE (entAt h n.toNat) = true → truL h (outL [n]) = [] → (agreeHow h [⟨n, entsM h, 4⟩] n.toNat) = 0 ∧ (agreeErr h [⟨n, entsM h, 4⟩] n.toNat) = 8) ∧
    (toldE (entAt h n.toNat) = true → truL h (outL [n]) ≠ [] → (agreeHow h [⟨n, entsM h, 4⟩] n.toNat) = settledM ((truL h (outL [n])).countP (fun r => agreesM h (entAt h n.toNat) r)) (truL h (outL [n])).length ∧ (agreeErr h [⟨n, entsM h, 4⟩] n.toNat) = 0) := by
  rw [idx_ent] at he
  obtain ⟨hV, ha⟩ := openR_ok he
  have a1 := ha ⟨n, entsM h, 4⟩ (by simp) (by show (4 : Int) ≠ 0; decide)
  simp only at a1
  rw [entsM_is hV] at a1
  have hn : outL [n] = outB (2 ^ n.toNat) := by
    have := outL_one n.toNat
    rwa [show ((n.toNat : Nat) : Int) = n by omega] at this
  have hno : ¬ openR h [⟨n, entsM h, 4⟩] ≠ 0 := fun g => g he
  unfold agreeHow agreeErr
  rw [if_neg hno, if_neg hno, hn]
  refine ⟨hV, a1.1, by omega, fun ht => ?_, fun ht hT => ?_, fun ht hT => ?_⟩
  · rw [if_pos ht, if_pos ht]; exact ⟨rfl, rfl⟩
  · rw [if_neg (by rw [ht]; decide), if_neg (by rw [ht]; decide), hT]; exact ⟨rfl, rfl⟩
  · rw [if_neg (by rw [ht]; decide), if_neg (by rw [ht]; decide), how_settled (fun e => hT (List.eq_nil_of_length_eq_zero e))]; exact ⟨rfl, rfl⟩
theorem truL_good {h : House} (hV : ValidH h) {out : Nat → Bool} {q : List Int} (hq : q ∈ truL h out) : q.length = h.days.toNat ∧ ∀ x ∈ q, 1 ≤ x ∧ x ≤ 20 := by
  have := truL_sub hV hq
  rw [ratesL_levels] at this
  exact levels_mem hV (Nat.le_refl _) _ this
set_option maxHeartbeats 8000000 in
theorem refAgree_any (hv : Value) (h : House) (n : Int) (hn64 : I64 n) (w : World) (hh : HouseAt w hv h) :
    Calls Try.prog 29 #[hv, .int .i64 n] w fun e w' => e = .returned (.tuple #[.int .i64 (agreeHow h [⟨n, entsM h, 4⟩] n.toNat), .int .i64 (agreeErr h [⟨n, entsM h, 4⟩] n.toNat)]) ∧ Ext w w' := by
  have hba : raErr h = 0 → 0 ≤ (h.entries.length : Int) ∧ (h.entries.length : Int) ≤ 100 := fun e => by have := (validH_of e).entries; omega
  have hid1 := fun w1 (hx : Ext w w1) => refIndex_any hv h n h.entries.length w1 (hh.ext hx) hba
  have hbad := agr_bad (h := h) (n := n)
  have hok := agr_ok (h := h) (n := n)
  have htr := fun hV bv w1 (hx : Ext w w1) hb => refTruths_any hv bv h hV [n] w1 (hh.ext hx) hb
  have hHH := Lib.hid hh
  obtain ⟨ra, rc, aa, ac, ea, ec, rfl, -, -, -, -, hent⟩ := hh
  generalize (agreeErr h [⟨n, entsM h, 4⟩] n.toNat) = ae at *
  generalize (agreeHow h [⟨n, entsM h, 4⟩] n.toNat) = ah at *
  generalize idxErr h n h.entries.length = ie at *
  have HBAD := Lib.hid hbad
  have HTR := Lib.hid htr
  have HE := Lib.hid hent
  clear hbad htr hba hent
  by_cases h0 : ie = 0
  rotate_left
  · have h0' : (ie == 0) = false := by simpa using h0
    have h1' : (ie != 0) = true := by simpa using h0
    obtain ⟨rfl, rfl⟩ := HBAD.out h0
    clear h0 hok HBAD
    go_enter Try.func29, Try.ntmps29
    go_wp2_with fail
    refine (hid1 _ (ext_alloc _ _)).mono ?_
    rintro e w1 ⟨rfl, hx⟩
    clear hid1
    go_wp2
    go_ret2
    exact ⟨rfl, hx.of_alloc⟩
  subst h0
  obtain ⟨hV, hn0, hn1, o1, o2, o3⟩ := hok rfl
  have O1 := Lib.hid o1
  have O2 := Lib.hid o2
  have O3 := Lib.hid o3
  obtain ⟨i, hi⟩ : ∃ i : Nat, n = i := ⟨n.toNat, by omega⟩
  have hit : n.toNat = i := by omega
  rw [hit] at O1 O2 O3
  have hil : i < h.entries.length := by omega
  subst hi
  have HV := Lib.hid hV
  have hgood := fun q (hq : q ∈ truL h (outL [(i : Int)])) => truL_good hV hq
  have hmany := truL_many hV (outL [(i : Int)])
  have htr2 := HTR.out hV
  have hent0 := hV.entries
  generalize truL h (outL [(i : Int)]) = T at *
  have Hgood := Lib.hid hgood
  have HT2 := Lib.hid htr2
  clear hok o1 o2 o3 hit hV hgood htr2 HTR HBAD
  go_enter Try.func29, Try.ntmps29
  go_wp2_with fail
  refine (hid1 _ (ext_alloc _ _)).mono ?_
  rintro e w1 ⟨rfl, hx⟩
  have x1 : Ext w w1 := hx.of_alloc
  have p0 : w1.cell? ⟨w.heap.size, 0, none⟩ = some (.int .i64 h.days) := hx.cell (by simp [go_sem])
  have p1 : w1.cell? ⟨w.heap.size, 1, none⟩ = some (.slice ra h.rates.length rc) := hx.cell (by simp [go_sem])
  have p2 : w1.cell? ⟨w.heap.size, 2, none⟩ = some (.int .i64 h.step) := hx.cell (by simp [go_sem])
  have p3 : w1.cell? ⟨w.heap.size, 3, none⟩ = some (.slice aa h.agents.length ac) := hx.cell (by simp [go_sem])
  have p4 : w1.cell? ⟨w.heap.size, 4, none⟩ = some (.slice ea h.entries.length ec) := hx.cell (by simp [go_sem])
  obtain ⟨eb, eo, rfl, d0, d1, d2, d3, g0, g1, g2, g3⟩ := SliceAt.get (HE.out.ext x1) hil
  have hem := entAt_get (h := h) hil
  rw [← hem] at d0 d1 d2 d3 g0 g1 g2 g3
  have hev := HV.out.entry _ (entAt_mem (h := h) hil)
  have htold : toldE (entAt h i) = !((entAt h i).far == -1) := rfl
  generalize entAt h i = x at *
  have k1 : (i : Int) < (h.entries.length : Int) := by omega
  have z0 := cell_lt p4
  have z2 := cell_lt d0
  clear hx hid1 hem
  by_cases hf : x.far = -1
  · have hto : toldE x = false := by rw [htold, hf]; rfl
    obtain ⟨rfl, rfl⟩ := O1.out hto
    clear hto htold
    have hfb : (x.far == -1) = true := by simpa using hf
    clear hf
    go_wp2
    go_ret2
    exact ⟨rfl, x1⟩
  have hfb : (x.far == -1) = false := by simpa using hf
  have hto : toldE x = true := by rw [htold, hfb]; rfl
  have o2 := O2.out hto
  have o3 := O3.out hto
  have hAg := fun xv rv r w0 hh0 hx0 hr0 ha0 hd0 hn0 hg0 => refAgrees_any (.agg #[.int .i64 h.days, .slice ra h.rates.length rc, .int .i64 h.step, .slice aa h.agents.length ac, .slice (some ⟨eb, eo, none⟩) h.entries.length ec]) xv rv h HV.out x r w0 hh0 hx0 hr0 ha0 hd0 hn0 hg0
  rw [hto] at hAg
  simp only [Bool.not_true, Bool.false_or] at hAg
  have HAG := Lib.hid hAg
  have htq := HT2.out (.slice (some ⟨w1.heap.size, 0, none⟩) 1 1) (w1.alloc (.cells #[.int .i64 (i : Int)] 3)) (x1.alloc _) ⟨some ⟨w1.heap.size, 0, none⟩, 1, rfl, Nat.le_refl _, by omega, fun j hj => by
    have hj0 : j = 0 := by simpa using hj
    subst hj0
    exact ⟨_, _, rfl, by simp [go_sem], hn64⟩⟩
  have Hev := Lib.hid hev
  have Hfar := Lib.hid hf
  have O2' := Lib.hid o2
  have O3' := Lib.hid o3
  have G0 := Lib.hid g0
  have G1 := Lib.hid g1
  have G2 := Lib.hid g2
  have G3 := Lib.hid g3
  clear hto htold hf o2 o3 hAg hev O1 O2 O3 g0 g1 g2 g3
  go_wp2_with fail
  refine htq.mono ?_
  rintro e w2 ⟨u, rfl, hu, hx2⟩
  have x12 : Ext w1 w2 := hx2.of_alloc
  have x2 := x1.trans x12
  replace p0 := x12.cell p0
  replace p1 := x12.cell p1
  replace p2 := x12.cell p2
  replace p3 := x12.cell p3
  replace p4 := x12.cell p4
  replace d0 := x12.cell d0
  replace d1 := x12.cell d1
  replace d2 := x12.cell d2
  replace d3 := x12.cell d3
  obtain ⟨a, c, rfl, -⟩ := hu.shape
  clear htq hx2 z0 z2 x1 x12
  by_cases hT : T = []
  · obtain ⟨rfl, rfl⟩ := O2'.out hT
    have hz : T.length = 0 := by rw [hT]; rfl
    rw [hz]
    clear hT hz hu
    go_wp2
    go_ret2
    exact ⟨rfl, x2⟩
  obtain ⟨e1, rfl⟩ := O3'.out hT
  obtain ⟨nT, hnT⟩ : ∃ nT, nT = T.length := ⟨_, rfl⟩
  rw [← hnT] at hu hmany e1 ⊢
  have hz : ((nT : Int) == 0) = false := by have := List.length_pos_iff.2 hT; rw [beq_eq_false_iff_ne]; omega
  have HnT := Lib.hid hnT
  have E1 := Lib.hid e1
  have HU := Lib.hid hu
  clear hT hnT e1 hu O2' O3'
  go_wp2
  go_loopw [8, 9] (fun y k wr => ∃ m : Nat, m ≤ nT ∧ k = .int .i64 m ∧ y = .int .i64 (((T.take m).countP (fun r => agreesM h x r) : Nat) : Int) ∧ Ext w2 wr) (fun _ k _ => nT - (intOf k).toNat)
  case atStart => exact ⟨0, Nat.zero_le _, rfl, rfl, Ext.refl _⟩
  case round =>
    obtain ⟨m, hm, rfl, rfl, hx⟩ := hrel
    by_cases hlt : m < nT
    · have k2 : (m : Int) < (nT : Int) := by omega
      obtain ⟨ob, oo, rfl, s, cs, hs⟩ := SliceAt.get HU.out (by rw [← HnT.out]; exact hlt)
      rw [Nat.mul_one] at cs
      have hcnt : (T.take (m + 1)).countP (fun r => agreesM h x r) = (T.take m).countP (fun r => agreesM h x r) + if agreesM h x (T[m]'(by rw [← HnT.out]; exact hlt)) = true then 1 else 0 := by
        rw [List.take_succ_eq_append_getElem (by rw [← HnT.out]; exact hlt), List.countP_append, List.countP_singleton]
      have hle : (T.take m).countP (fun r => agreesM h x r) ≤ m := Nat.le_trans List.countP_le_length (List.length_take_le _ _)
      have hLf := Hgood.out (T[m]'(by rw [← HnT.out]; exact hlt)) (List.getElem_mem _)
      generalize T[m]'(by rw [← HnT.out]; exact hlt) = L at *
      obtain ⟨cn, hcn⟩ : ∃ cn, (T.take m).countP (fun r => agreesM h x r) = cn := ⟨_, rfl⟩
      rw [hcn] at hcnt hle ⊢
      obtain ⟨ag, hag⟩ : ∃ ag, agreesM h x L = ag := ⟨_, rfl⟩
      rw [hag] at hcnt
      have Hcnt := Lib.hid hcnt
      have Hag := Lib.hid hag
      have HLf := Lib.hid hLf
      have q0 := hx.cell p0
      have q1 := hx.cell p1
      have q2 := hx.cell p2
      have q3 := hx.cell p3
      have q4 := hx.cell p4
      have f0 := hx.cell d0
      have f1 := hx.cell d1
      have f2 := hx.cell d2
      have f3 := hx.cell d3
      have c0 := hx.cell cs
      have hsr := hs.ext hx
      obtain ⟨sa, sc, rfl, -⟩ := hs.shape
      have HSR := Lib.hid hsr
      have z0 := cell_lt q4
      have z1 := cell_lt c0
      have z2 := cell_lt f0
      have wc : IntKind.i64.wrap ((cn : Int) + 1) = (cn : Int) + 1 := IntWalk.i64_in _ (by omega)
      clear hcnt hcn hag hLf hs hsr cs
      go_wp2_with fail
      apply Facts.wp_region [.val _, .val _, .val _, .val _, .val _, .val _, .val _, .val _, .val _, .val _, .val (.bool ag)] (by kernel_rfl) (by kernel_rfl) trivial ?main
      case main =>
      iterate 10 (refine ⟨fun w1 hx hh => ?_, ?_⟩; focus (clear hh; have j0 := hx.cell q0; have j1 := hx.cell q1; have j2 := hx.cell q2; have j3 := hx.cell q3; have j4 := hx.cell q4; have j5 := hx.cell f0; have j6 := hx.cell f1; have j7 := hx.cell f2; have j8 := hx.cell f3; have j9 := hx.cell c0; go_simp; first | exact ⟨Ext.refl _, rfl⟩ | exact Ext.refl _))
      refine ⟨fun w3 hx3 hh => ?_, ?_⟩
      · clear hh
        have hxA := x2.trans (hx.trans hx3)
        have hc := HAG.out (entV x) (.slice sa L.length sc) L w3 (hHH.out.ext hxA) ⟨rfl, G0.out, G1.out, G2.out, G3.out⟩ (HSR.out.ext hx3) Hev.out.1 (by have := HLf.out.1; have := Hev.out.2.1; have := HV.out.days; have := HV.out.many; omega) Hev.out.2.2.1 HLf.out.2
        unfold entV at hc
        go_simp
        refine hc.mono ?_
        rintro e w' ⟨rfl, hx2⟩
        rw [Hag.out]
        exact ⟨_, rfl, hx2, rfl⟩
      intro w5 hx5 hh
      clear hh
      have hx5r := hx.trans hx5
      go_simp
      clear q0 q1 q2 q3 q4 f0 f1 f2 f3 c0 z0 z1 z2
      cases ag
      · go_wp2
        go_roundw
        case rel => exact ⟨m + 1, by omega, by go_num, by rw [Hcnt.out]; rfl, hx5r⟩
        case measure => simp [intOf]; omega
      · go_wp2
        go_roundw
        case rel => exact ⟨m + 1, by omega, by go_num, by rw [Hcnt.out]; go_num, hx5r⟩
        case measure => simp [intOf]; omega
    · obtain rfl : m = nT := by omega
      have hfull : T.take m = T := by rw [HnT.out]; exact List.take_length
      rw [hfull]
      obtain ⟨cn, hcn⟩ : ∃ cn, T.countP (fun r => agreesM h x r) = cn := ⟨_, rfl⟩
      have e1 := E1.out
      rw [hcn] at e1 ⊢
      have xw := x2.trans hx
      have E1 := Lib.hid e1
      clear hcn e1 hfull
      go_wp2_with fail
      refine (settled_any _ _ _).mono ?_
      rintro e w' ⟨rfl, rfl⟩
      go_wp2
      go_ret2
      have e1 := E1.out
      subst e1
      exact ⟨rfl, xw⟩
end Go.Proofs.Ytdadffmagfknoaa

namespace Go.Proofs.Ytdadffmagfknoaa
set_option linter.unusedSimpArgs false
set_option linter.unusedVariables false
open Go.RowKit
set_option linter.unusedVariables false

/-- a list of lists -/
def listRL (w : World) (b o : Nat) (l : List Nat) : Prop := ∃ s, w.cell? ⟨b, o, none⟩ = some s ∧ IntsAt w s (ints l)
theorem listRL.keeps : Keeps listRL := fun _ _ _ _ _ hx ⟨s, h1, h2⟩ => ⟨s, hx.cell h1, h2.ext hx⟩
abbrev ListsAtL : World → Value → List (List Nat) → Prop := SliceAt 1 listRL
theorem ListsAtL.ext {w w' : World} {v : Value} {l : List (List Nat)} (h : ListsAtL w v l) (hx : Ext w w') : ListsAtL w' v l := SliceAt.ext listRL.keeps h hx
theorem IntsAt.nothingL (w : World) : IntsAt w (.slice none 0 0) [] := ⟨none, 0, rfl, Nat.le_refl _, by decide, fun i hi => absurd hi (Nat.not_lt_zero _)⟩
theorem IntsAt.grownByL {w w' : World} {row : Option Nat} {sa : Option Addr} {n sc : Nat} {l : List Int} (h : IntsAt w (.slice sa n sc) l) (hg : w.grownBy w' row) (hne : ∀ ad, sa = some ad → some ad.block ≠ row) : IntsAt w' (.slice sa n sc) l := by
  obtain ⟨a, cap, e, h2, h3, h4⟩ := h
  obtain ⟨rfl, rfl, rfl⟩ := Value.slice.inj e
  refine ⟨_, _, rfl, h2, h3, fun i hi => ?_⟩
  obtain ⟨b, o, rfl, r⟩ := h4 i hi
  exact ⟨b, o, rfl, hg.cell r.1 (show some b ≠ row from hne ⟨b, o, none⟩ rfl), r.2⟩
/-- one element: a slice with these numbers, not in the row's own block -/
def ElemAtL (w : World) (own : Option Nat) (x : Value) (L : List Nat) : Prop := ∃ sa sc, x = .slice sa L.length sc ∧ IntsAt w (.slice sa L.length sc) (ints L) ∧ ∀ ad, sa = some ad → ad.block < w.heap.size ∧ some ad.block ≠ own
/-- a row of lists of one's own -/
def ListsOwnL (w : World) (base : Nat) (v : Value) (LL : List (List Nat)) : Prop :=
  ∃ vs : List Value, w.ownsRow base 30 1 v LL.length vs ∧ ∀ (i : Nat) (x : Value) (L : List Nat), vs[i]? = some x → LL[i]? = some L → ElemAtL w v.ownBlock x L
theorem ListsOwnL.nil (w : World) (base : Nat) : ListsOwnL w base (.slice none 0 0) [] := ⟨[], World.ownsRow_nil _ _ _ _, fun i x L h => by simp at h⟩
theorem ListsOwnL.ext {w w' : World} {base : Nat} {v : Value} {LL : List (List Nat)} (h : ListsOwnL w base v LL) (hx : Ext w w') : ListsOwnL w' base v LL := by
  obtain ⟨vs, h1, h2⟩ := h
  refine ⟨vs, Ext.owns h1 hx, fun i x L hi hL => ?_⟩
  obtain ⟨sa, sc, rfl, h3, h4⟩ := h2 i x L hi hL
  exact ⟨sa, sc, rfl, h3.ext hx, fun ad e => ⟨Nat.lt_of_lt_of_le (h4 ad e).1 hx.size, (h4 ad e).2⟩⟩
theorem ListsOwnL.at_ {w : World} {base : Nat} {v : Value} {LL : List (List Nat)} (h : ListsOwnL w base v LL) : ListsAtL w v LL := by
  obtain ⟨vs, h1, h2⟩ := h
  have hlen : vs.length = LL.length := by have := h1.1; omega
  have hcells := fun g hg => h1.cells (g := g) hg
  rcases h1.2 with ⟨rfl, hn⟩ | ⟨g, cap, cur, rfl, hb, hg, hnc, hcm, hcs, htake⟩
  · have : LL = [] := List.eq_nil_of_length_eq_zero hn
    subst this; exact SliceAt.nil
  · refine ⟨_, _, rfl, hnc, by simpa [maxLen] using hcm, fun i hi => ⟨g, 0, rfl, ?_⟩⟩
    have hv : vs[i]? = some vs[i] := List.getElem?_eq_getElem (by omega)
    obtain ⟨sa, sc, e, h3, -⟩ := h2 i vs[i] LL[i] hv (List.getElem?_eq_getElem hi)
    have := hcells g rfl i vs[i] hv
    have ea : (⟨g, 0, none⟩ : Addr).add i = ⟨g, 0 + i * 1, none⟩ := by unfold Addr.add; split <;> simp_all
    rw [ea, e] at this
    exact ⟨_, this, h3⟩
/-- one more list at the end -/
theorem ListsOwnL.push {w wA w' : World} {base : Nat} {v v' x : Value} {LL : List (List Nat)} {L : List Nat} {vs : List Value} (h1 : w.ownsRow base 30 1 v LL.length vs) (h2 : ∀ (i : Nat) (x : Value) (L : List Nat), vs[i]? = some x → LL[i]? = some L → ElemAtL w v.ownBlock x L) (hx : Ext w wA) {t : TypeId}
    (hv : ∃ sa sc, x = .slice sa L.length sc ∧ IntsAt wA x (ints L) ∧ ∀ ad, sa = some ad → w.heap.size ≤ ad.block ∧ ad.block < wA.heap.size)
    (hown : w'.ownsRow base 30 1 v' (LL.length + 1) (vs ++ [x])) (hg : (wA.alloc (.cells #[x] t)).grownBy w' v.ownBlock) (hb : v'.ownBlock = v.ownBlock ∨ v'.ownBlock = some (wA.heap.size + 1)) :
    ListsOwnL w' base v' (LL ++ [L]) := by
  have hlt := fun k hk => h1.lt k hk
  have h2A : ∀ (i : Nat) (x : Value) (L : List Nat), vs[i]? = some x → LL[i]? = some L → ElemAtL wA v.ownBlock x L := fun i x L hi hL => by
    obtain ⟨sa, sc, rfl, h3, h4⟩ := h2 i x L hi hL
    exact ⟨sa, sc, rfl, h3.ext hx, fun ad e => ⟨Nat.lt_of_lt_of_le (h4 ad e).1 hx.size, (h4 ad e).2⟩⟩
  have hlen : vs.length = LL.length := by have := h1.1; omega
  have hg0 : wA.grownBy (wA.alloc (.cells #[x] t)) v.ownBlock := World.grownBy_alloc _ _ _
  have hsz : (wA.alloc (.cells #[x] t)).heap.size = wA.heap.size + 1 := by simp
  have hsz2 := hg.size
  have keep : ∀ (sa : Option Addr) (n sc : Nat) (l : List Int), IntsAt wA (.slice sa n sc) l → (∀ ad, sa = some ad → ad.block < wA.heap.size ∧ some ad.block ≠ v.ownBlock) → IntsAt w' (.slice sa n sc) l ∧ ∀ ad, sa = some ad → ad.block < w'.heap.size ∧ some ad.block ≠ v'.ownBlock := fun sa n sc l hi hne => by
    refine ⟨(hi.grownByL hg0 fun ad e => (hne ad e).2).grownByL hg fun ad e => (hne ad e).2, fun ad e => ⟨by have := (hne ad e).1; omega, ?_⟩⟩
    rcases hb with hb | hb
    · rw [hb]; exact (hne ad e).2
    · rw [hb]; intro e2; have := (hne ad e).1; have := Option.some.inj e2; omega
  refine ⟨vs ++ [x], by rw [List.length_append]; exact hown, fun i y M hi hM => ?_⟩
  rcases Nat.lt_or_ge i vs.length with h3 | h3
  · rw [List.getElem?_append_left h3] at hi
    rw [List.getElem?_append_left (by omega)] at hM
    obtain ⟨sa, sc, rfl, h4, h5⟩ := h2A i y M hi hM
    obtain ⟨k1, k2⟩ := keep sa _ sc _ h4 h5
    exact ⟨sa, sc, rfl, k1, k2⟩
  · rw [List.getElem?_append_right h3] at hi
    rw [List.getElem?_append_right (by omega)] at hM
    have hi0 : i - vs.length = 0 := by
      rcases Nat.eq_zero_or_pos (i - vs.length) with h6 | h6
      · exact h6
      · rw [List.getElem?_eq_none (by simp; omega)] at hi; cases hi
    rw [hi0] at hi
    rw [show i - LL.length = 0 from by omega] at hM
    obtain rfl : x = y := by simpa using hi
    obtain rfl : L = M := by simpa using hM
    obtain ⟨sa, sc, rfl, h4, h5⟩ := hv
    obtain ⟨k1, k2⟩ := keep sa _ sc _ h4 fun ad e => ⟨(h5 ad e).2, fun e2 => by have := (hlt ad.block e2.symm).2; have := (h5 ad e).1; omega⟩
    exact ⟨sa, sc, rfl, k1, k2⟩
theorem intsL_news {w : World} {ad : Addr} {n c : Nat} {l : List Int} (h : IntsAt w (.slice (some ad) n c) l) : ∀ j u, (l.map (Value.int .i64))[j]? = some u → w.cell? (ad.add j) = some u := by
  intro j u hu
  have hj : j < l.length := by
    rcases Nat.lt_or_ge j l.length with h1 | h1
    · exact h1
    · rw [List.getElem?_eq_none (by simpa using h1)] at hu; cases hu
  obtain ⟨a, cap, e, -, -, h4⟩ := h
  obtain ⟨b, o, e2, r⟩ := h4 j hj
  have e3 := (Value.slice.inj e).1
  rw [e2] at e3
  obtain rfl := Option.some.inj e3
  rw [List.getElem?_eq_getElem (by simpa using hj)] at hu
  obtain rfl := Option.some.inj hu
  have ea : (⟨b, o, none⟩ : Addr).add j = ⟨b, o + j * 1, none⟩ := by unfold Addr.add; split <;> simp_all
  rw [ea, List.getElem_map]
  exact r.1
theorem intsL_cells (l : List Int) : ∀ u ∈ l.map (Value.int .i64), u.oneCell' = true := fun u hu => by
  obtain ⟨x, -, rfl⟩ := List.mem_map.1 hu
  simp [Value.oneCell']
theorem infoIntsL : (Try.prog.info? 30).map (fun i => (i.zero, i.size, i.bytes)) = some (some (.slice none 0 0), 1, 24) := by kernel_rfl
/-- a list of lists where a list of nothing is nil -/
def listZL (w : World) (b o : Nat) (l : List Nat) : Prop := ∃ s, w.cell? ⟨b, o, none⟩ = some s ∧ IntsAt w s (ints l) ∧ (l = [] → s = .slice none 0 0)
theorem listZL.keeps : Keeps listZL := fun _ _ _ _ _ hx ⟨s, h1, h2, h3⟩ => ⟨s, hx.cell h1, h2.ext hx, h3⟩
abbrev ListsZL : World → Value → List (List Nat) → Prop := SliceAt 1 listZL
theorem ListsZL.ext {w w' : World} {v : Value} {l : List (List Nat)} (h : ListsZL w v l) (hx : Ext w w') : ListsZL w' v l := SliceAt.ext listZL.keeps h hx
theorem ListsZL.of {w : World} {v : Value} {l : List (List Nat)} (h : ListsAtL w v l) (hne : ∀ L ∈ l, L ≠ []) : ListsZL w v l := by
  obtain ⟨a, cap, e, h2, h3, h4⟩ := h
  refine ⟨a, cap, e, h2, h3, fun i hi => ?_⟩
  obtain ⟨b, o, e2, s, h5, h6⟩ := h4 i hi
  exact ⟨b, o, e2, s, h5, h6, fun e3 => absurd e3 (hne _ (List.getElem_mem hi))⟩
theorem ListsZL.at_ {w : World} {v : Value} {l : List (List Nat)} (h : ListsZL w v l) : ListsAtL w v l := by
  obtain ⟨a, cap, e, h2, h3, h4⟩ := h
  refine ⟨a, cap, e, h2, h3, fun i hi => ?_⟩
  obtain ⟨b, o, e2, s, h5, h6, -⟩ := h4 i hi
  exact ⟨b, o, e2, s, h5, h6⟩
end Go.Proofs.Ytdadffmagfknoaa
