/-
  RateRound: who rounds up pays no less than who rounds to the nearest, and this one no less than who rounds down; with a lesser Fee, or more pence, an agent pays no less.
  AN ARRAY OF FOUR BYTES that is handed in.
-/
import Derived.Test.YtdadffmagfknoaaBunAO
import Derived.Test.YtdadffmagfknoaaBunAN
import Derived.Test.YtdadffmagfknoaaBunAM
namespace Go.Proofs.Ytdadffmagfknoaa
set_option linter.unusedSimpArgs false
set_option linter.unusedVariables false
open Go.RowKit
set_option linter.unusedVariables false
set_option maxRecDepth 100000

set_option maxHeartbeats 20000000 in
theorem round8_any (hv : Value) (h : House) (c0 c1 c2 c3 : Nat) (hc0 : c0 < 256) (hc1 : c1 < 256) (hc2 : c2 < 256) (hc3 : c3 < 256) (w : World) (hh : HouseAt w hv h) :
    Calls Try.prog 12 #[hv, .agg #[.int .u8 c0, .int .u8 c1, .int .u8 c2, .int .u8 c3]] w fun e w' => e = .returned (.bool true) ∧ Ext w w' := by
  obtain ⟨ra, rc, aa, ac, ea, ec, rfl, hdi, hsi, hrt, -, -⟩ := hh
  have hR := Lib.hid hrt
  clear hrt
  obtain ⟨fee, hfee⟩ : ∃ fee : Int, (c0 : Int) % 21 = fee := ⟨_, rfl⟩
  obtain ⟨near, hnear⟩ : ∃ near : Int, (c1 : Int) % 100 = near := ⟨_, rfl⟩
  have hft : Int.tmod (c0 : Int) 21 = fee := by rw [Int.tmod_eq_emod_of_nonneg (by omega), hfee]
  have hnt : Int.tmod (c1 : Int) 100 = near := by rw [Int.tmod_eq_emod_of_nonneg (by omega), hnear]
  have wc0 : IntKind.i64.wrap (c0 : Int) = (c0 : Int) := IntWalk.i64_in _ (by omega)
  have wc1 : IntKind.i64.wrap (c1 : Int) = (c1 : Int) := IntWalk.i64_in _ (by omega)
  have hfr : 0 ≤ fee ∧ fee ≤ 20 := by omega
  have hnr : 0 ≤ near ∧ near ≤ 99 := by omega
  have hf64 : I64 fee := by unfold I64; omega
  have hn64 : I64 near := by unfold I64; omega
  have h064 : I64 0 := by unfold I64; omega
  go_enter Try.func12, Try.ntmps12
  go_wp2_with fail
  obtain ⟨W0, hW0⟩ : ∃ W, W = ((w.alloc (.cells #[.int .i64 h.days, .slice ra h.rates.length rc, .int .i64 h.step, .slice aa h.agents.length ac, .slice ea h.entries.length ec] 26)).alloc (.cells #[.int .u8 c0, .int .u8 c1, .int .u8 c2, .int .u8 c3] 74)) := ⟨_, rfl⟩
  have x0 : Ext w W0 := by rw [hW0]; exact (ext_alloc _ _).alloc _
  have p0 : W0.cell? ⟨w.heap.size, 0, none⟩ = some (.int .i64 h.days) := by rw [hW0]; simp [go_sem]
  have p1 : W0.cell? ⟨w.heap.size, 1, none⟩ = some (.slice ra h.rates.length rc) := by rw [hW0]; simp [go_sem]
  have p2 : W0.cell? ⟨w.heap.size, 2, none⟩ = some (.int .i64 h.step) := by rw [hW0]; simp [go_sem]
  have p3 : W0.cell? ⟨w.heap.size, 3, none⟩ = some (.slice aa h.agents.length ac) := by rw [hW0]; simp [go_sem]
  have p4 : W0.cell? ⟨w.heap.size, 4, none⟩ = some (.slice ea h.entries.length ec) := by rw [hW0]; simp [go_sem]
  have r0 : W0.cell? ⟨w.heap.size + 1, 0, none⟩ = some (.int .u8 c0) := by rw [hW0]; simp [go_sem]
  have r1 : W0.cell? ⟨w.heap.size + 1, 1, none⟩ = some (.int .u8 c1) := by rw [hW0]; simp [go_sem]
  have r2 : W0.cell? ⟨w.heap.size + 1, 2, none⟩ = some (.int .u8 c2) := by rw [hW0]; simp [go_sem]
  have r3 : W0.cell? ⟨w.heap.size + 1, 3, none⟩ = some (.int .u8 c3) := by rw [hW0]; simp [go_sem]
  have rf : ∀ o, W0.frozen? ⟨w.heap.size, o, none⟩ = false := fun o => by rw [hW0]; simp [go_sem]
  rw [← hW0]
  clear hW0
  apply Facts.wp_region (.val _ :: .val _ :: .val _ :: .val _ :: .val _ :: .val _ :: .val _ :: .val _ :: .val _ :: .val _ :: []) (by kernel_rfl) (by kernel_rfl) trivial ?main
  case main =>
  iterate 10 (refine ⟨fun w1 hx hh => ?_, ?_⟩; focus (clear hh; have j0 := hx.cell r0; have j1 := hx.cell r1; go_simp; first | exact ⟨Ext.refl _, rfl⟩ | exact Ext.refl _))
  intro w1 hx1 hh
  clear hh
  have z0 : w.heap.size < W0.heap.size := cell_lt p0
  replace rf : ∀ o, w1.frozen? ⟨w.heap.size, o, none⟩ = false := fun o => by rw [hx1.frozen z0]; exact rf o
  replace p0 := hx1.cell p0
  replace p1 := hx1.cell p1
  replace p2 := hx1.cell p2
  replace p3 := hx1.cell p3
  replace p4 := hx1.cell p4
  replace r0 := hx1.cell r0
  replace r1 := hx1.cell r1
  replace r2 := hx1.cell r2
  replace r3 := hx1.cell r3
  replace z0 : w.heap.size < w1.heap.size := cell_lt p0
  have x1 := x0.trans hx1
  clear x0 hx1
  go_simp
  go_wp2_with fail
  try rw [hft]
  refine (alike8_any h.days h.step ra aa ea _ rc _ ac _ ec fee 0 _).mono ?_
  rintro e w2 ⟨B, rfl, hB0, hB1, b0, b1, b2, hx2⟩
  replace rf : ∀ o, w2.frozen? ⟨w.heap.size, o, none⟩ = false := fun o => by rw [hx2.frozen z0]; exact rf o
  replace p0 := hx2.cell p0
  replace p1 := hx2.cell p1
  replace p2 := hx2.cell p2
  replace p3 := hx2.cell p3
  replace p4 := hx2.cell p4
  replace r0 := hx2.cell r0
  replace r1 := hx2.cell r1
  replace r2 := hx2.cell r2
  replace r3 := hx2.cell r3
  have hbB : w.heap.size ≠ B := by omega
  have x2 := x1.trans hx2
  clear hx2 hB0 hB1
  go_wp2_with fail
  have hB5 : BoxIs w2 w.heap.size [.int .i64 h.days, .slice ra h.rates.length rc, .int .i64 h.step, .slice aa h.agents.length ac, .slice ea h.entries.length ec] := fun j v hj => by
    match j, hj with
    | 0, hj => simp at hj; subst hj; exact p0
    | 1, hj => simp at hj; subst hj; exact p1
    | 2, hj => simp at hj; subst hj; exact p2
    | 3, hj => simp at hj; subst hj; exact p3
    | 4, hj => simp at hj; subst hj; exact p4
  replace hB5 := set5_box (x := .int .i64 h.days) (y := .slice ra h.rates.length rc) (z := .int .i64 h.step) (u := .slice (some ⟨B, 0, none⟩) 1 1) (v := .slice none 0 0) hB5
  have xW := set5_ext x2 (rb := w.heap.size) (Nat.le_refl _) (.int .i64 h.days) (.slice ra h.rates.length rc) (.int .i64 h.step) (.slice (some ⟨B, 0, none⟩) 1 1) (.slice none 0 0)
  have o := fun {b i t} (hc : w2.cell? ⟨b, i, none⟩ = some t) (hb : w.heap.size ≠ b) => set5_off hc hb (.int .i64 h.days) (.slice ra h.rates.length rc) (.int .i64 h.step) (.slice (some ⟨B, 0, none⟩) 1 1) (.slice none 0 0)
  replace r0 := o r0 (by omega)
  replace r1 := o r1 (by omega)
  replace r2 := o r2 (by omega)
  replace r3 := o r3 (by omega)
  replace b0 := o b0 hbB
  replace b1 := o b1 hbB
  replace b2 := o b2 hbB
  clear o p0 p1 p2 p3 p4 z0 x2 x1 rf
  generalize (((((w2.setCell ⟨w.heap.size, 0, none⟩ (.int .i64 h.days)).setCell ⟨w.heap.size, 1, none⟩ (.slice ra h.rates.length rc)).setCell ⟨w.heap.size, 2, none⟩ (.int .i64 h.step)).setCell ⟨w.heap.size, 3, none⟩ (.slice (some ⟨B, 0, none⟩) 1 1)).setCell ⟨w.heap.size, 4, none⟩ (.slice none 0 0)) = W at *
  have p0 : W.cell? ⟨w.heap.size, 0, none⟩ = some (.int .i64 h.days) := hB5 0 _ rfl
  have p1 : W.cell? ⟨w.heap.size, 1, none⟩ = some (.slice ra h.rates.length rc) := hB5 1 _ rfl
  have p2 : W.cell? ⟨w.heap.size, 2, none⟩ = some (.int .i64 h.step) := hB5 2 _ rfl
  have p3 : W.cell? ⟨w.heap.size, 3, none⟩ = some (.slice (some ⟨B, 0, none⟩) 1 1) := hB5 3 _ rfl
  have p4 : W.cell? ⟨w.heap.size, 4, none⟩ = some (.slice none 0 0) := hB5 4 _ rfl
  clear hB5 hbB
  have z0 : w.heap.size < W.heap.size := cell_lt p0
  have z1 : w.heap.size + 1 < W.heap.size := cell_lt r0
  have zb : B < W.heap.size := cell_lt b0
  have hH := fun W2 (hx : Ext W W2) => alikeAt hR.out (xW.trans hx) hdi hsi hf64 h064 (hx.cell b0) (hx.cell b1) (hx.cell b2)
  have HH := Lib.hid hH
  clear hH b0 b1 b2 zb
  have x1 := xW
  clear xW
  refine (some8_any _ (alikeH h fee 0) _ (HH.out _ (Ext.refl _))).mono ?_
  rintro e w3 ⟨rfl, hx3⟩
  replace p0 := hx3.cell p0
  replace p1 := hx3.cell p1
  replace p2 := hx3.cell p2
  replace p3 := hx3.cell p3
  replace p4 := hx3.cell p4
  replace r0 := hx3.cell r0
  replace r1 := hx3.cell r1
  replace r2 := hx3.cell r2
  replace r3 := hx3.cell r3
  replace z0 : w.heap.size < w3.heap.size := cell_lt p0
  replace z1 : w.heap.size + 1 < w3.heap.size := cell_lt r0
  replace x1 := x1.trans hx3
  have xx : Ext W w3 := hx3
  clear hx3
  cases hs : someM (alikeH h fee 0)
  · have hbad := solo_bad (h := h) hfr hnr (near := near) fun ⟨a, b⟩ => by rw [someM_iff.2 ⟨a, b⟩] at hs; cases hs
    have hw := worthPub_any _ (alikeH h fee 0) 0 0 near h064 h064 hn64 _ (HH.out _ xx)
    have e1 : numErr (alikeH h fee 0) [⟨0, agtsM (alikeH h fee 0), 4⟩, ⟨0, daysM (alikeH h fee 0), 4⟩, ⟨near, 99, 7⟩] (fun r => payM (agtAt (alikeH h fee 0) 0) near (r.getD (0 : Int).toNat 0)) = numErr (alikeH h fee 0) (worthArgs (alikeH h fee 0) 0 0 near) (worthF (alikeH h fee 0) 0 0 near) := rfl
    rw [e1] at hw
    clear e1
    generalize numErr (alikeH h fee 0) (worthArgs (alikeH h fee 0) 0 0 near) (worthF (alikeH h fee 0) 0 0 near) = ne at *
    generalize numSpan (alikeH h fee 0) [⟨0, agtsM (alikeH h fee 0), 4⟩, ⟨0, daysM (alikeH h fee 0), 4⟩, ⟨near, 99, 7⟩] (fun r => payM (agtAt (alikeH h fee 0) 0) near (r.getD (0 : Int).toNat 0)) = sp at *
    obtain ⟨v1, v2⟩ := sp
    unfold spanV at hw
    have k : (ne != 0) = true := by simpa using hbad
    clear hbad hs
    go_wp2_with fail
    refine hw.mono ?_
    rintro e w4 ⟨rfl, hx4⟩
    replace x1 := x1.trans hx4
    clear hx4 hw
    go_wp2_with fail
    (refine (awakeR_any _).mono ?_; rintro e w9 ⟨rfl, hx9⟩; have x9 := Ext.trans (x1.alloc _) hx9; clear hx9)
    go_wp2
    go_ret
    exact ⟨rfl, x9⟩
  obtain ⟨hv0, hne0⟩ := someM_iff.1 hs
  have hv : raErr (alikeH h 0 0) = 0 := by rw [← alike_err h hfr (round := 0) (by decide)]; exact hv0
  have hne : ratesL h ≠ [] := by rw [truL_alike] at hne0; exact hne0
  have hdays := (validH_of hv).days
  have hdays2 : 1 ≤ h.days ∧ h.days ≤ 3 := hdays
  obtain ⟨dn, hdn⟩ : ∃ dn : Nat, h.days = (dn : Int) := ⟨h.days.toNat, by omega⟩
  have hd : c2 % dn < dn := Nat.mod_lt _ (by omega)
  have hdi2 : (c2 : Int) % (dn : Int) = ((c2 % dn : Nat) : Int) := (Int.natCast_emod c2 dn).symm
  have hdt : Int.tmod (c2 : Int) (dn : Int) = ((c2 % dn : Nat) : Int) := by rw [Int.tmod_eq_emod_of_nonneg (by omega), hdi2]
  generalize c2 % dn = d at *
  have wc2 : IntKind.i64.wrap (c2 : Int) = (c2 : Int) := IntWalk.i64_in _ (by omega)
  have wc3 : IntKind.i64.wrap (c3 : Int) = (c3 : Int) := IntWalk.i64_in _ (by omega)
  have kdn : ((dn : Int) == 0) = false := by rw [beq_eq_false_iff_ne]; omega
  have kdn2 : ¬ dn = 0 := by omega
  have hd64 : I64 (d : Int) := by unfold I64; omega
  have hdd : 0 ≤ (d : Int) ∧ (d : Int) < h.days := by omega
  obtain ⟨t5, ht5⟩ : ∃ t5 : Int, (c3 : Int) % 5 = t5 := ⟨_, rfl⟩
  obtain ⟨t9, ht9⟩ : ∃ t9 : Int, (c3 : Int) % 9 = t9 := ⟨_, rfl⟩
  have htt5 : Int.tmod (c3 : Int) 5 = t5 := by rw [Int.tmod_eq_emod_of_nonneg (by omega), ht5]
  have htt9 : Int.tmod (c3 : Int) 9 = t9 := by rw [Int.tmod_eq_emod_of_nonneg (by omega), ht9]
  have w5 : IntKind.i64.wrap (fee - t5) = fee - t5 := IntWalk.i64_in _ (by omega)
  have w9 : IntKind.i64.wrap (near + t9) = near + t9 := IntWalk.i64_in _ (by omega)
  obtain ⟨fee2, hfee2⟩ : ∃ f : Int, max 0 (fee - t5) = f := ⟨_, rfl⟩
  obtain ⟨near2, hnear2⟩ : ∃ f : Int, min 99 (near + t9) = f := ⟨_, rfl⟩
  have hf2r : 0 ≤ fee2 ∧ fee2 ≤ fee := by omega
  have hn2r : near ≤ near2 ∧ near2 ≤ 99 := by omega
  have hf264 : I64 fee2 := by unfold I64; omega
  have hn264 : I64 near2 := by unfold I64; omega
  have hrel := solo_rel hv hne hfr hf2r hdd (near := near) (near' := near2) ⟨hnr.1, hn2r.1⟩ hn2r.2
  have okl := (solo_ok hv hne hfr (round := 0) (by decide) hdd hnr).1
  have inl := solo_in hv hne hfr (round := 0) (by decide) hdd hnr
  have cwl := fun v w hh => soloWorth_any v h (d : Int) near w hh hd64 hn64 okl
  clear okl
  have okm := (solo_ok hv hne hfr (round := 2) (by decide) hdd hnr).1
  have inm := solo_in hv hne hfr (round := 2) (by decide) hdd hnr
  have cwm := fun v w hh => soloWorth_any v h (d : Int) near w hh hd64 hn64 okm
  clear okm
  have okt := (solo_ok hv hne hfr (round := 1) (by decide) hdd hnr).1
  have int := solo_in hv hne hfr (round := 1) (by decide) hdd hnr
  have cwt := fun v w hh => soloWorth_any v h (d : Int) near w hh hd64 hn64 okt
  clear okt
  have oks := (solo_ok hv hne (show 0 ≤ fee2 ∧ fee2 ≤ 20 by omega) (round := 0) (by decide) hdd hnr).1
  have ins := solo_in hv hne (show 0 ≤ fee2 ∧ fee2 ≤ 20 by omega) (round := 0) (by decide) hdd hnr
  have cws := fun v w hh => soloWorth_any v h (d : Int) near w hh hd64 hn64 oks
  clear oks
  have okq := (solo_ok hv hne hfr (round := 0) (by decide) hdd (show 0 ≤ near2 ∧ near2 ≤ 99 by omega)).1
  have inq := solo_in hv hne hfr (round := 0) (by decide) hdd (show 0 ≤ near2 ∧ near2 ≤ 99 by omega)
  have cwq := fun v w hh => soloWorth_any v h (d : Int) near2 w hh hd64 hn264 okq
  clear okq
  generalize soloSpan h fee 0 (d : Int) near = Sl at *
  obtain ⟨l1, l2⟩ := Sl
  generalize soloSpan h fee 2 (d : Int) near = Sm at *
  obtain ⟨m1, m2⟩ := Sm
  generalize soloSpan h fee 1 (d : Int) near = St at *
  obtain ⟨t1, t2⟩ := St
  generalize soloSpan h fee2 0 (d : Int) near = Ss at *
  obtain ⟨s1, s2⟩ := Ss
  generalize soloSpan h fee 0 (d : Int) near2 = Sq at *
  obtain ⟨q1, q2⟩ := Sq
  simp only at hrel inl inm int ins inq
  obtain ⟨k1, k2, k3, k4, k5, k6, k7, k8, k9, k10⟩ := hrel
  have wl1 : IntKind.i64.wrap (l1 + 1) = l1 + 1 := IntWalk.i64_in _ (by omega)
  have wl2 : IntKind.i64.wrap (l2 + 1) = l2 + 1 := IntWalk.i64_in _ (by omega)
  have HFEE2 := Lib.hid hfee2
  have HNEAR2 := Lib.hid hnear2
  have Hdn := Lib.hid hdn
  have HFR := Lib.hid (And.intro hf2r hn2r)
  have hH2 := HH.out
  simp only [hdn] at hH2
  have HH2 := Lib.hid hH2
  have hal := fun W2 (hx : Ext w W2) (f rd : Int) (hf : I64 f) (hrd : I64 rd) (B2 : Nat) b0 b1 b2 => alikeAt (h := h) (fee := f) (rd := rd) (B := B2) hR.out hx hdi hsi hf hrd b0 b1 b2
  simp only [hdn] at hal
  have HAL := Lib.hid hal
  clear hH2 HH hal
  rw [hdn] at p0
  clear hs hv0 hne0 hv hne hdays hdays2 hdd inl inm int ins inq hft hnt hfee hnear wc0 wc1 hdn hf2r hn2r hc0 hc1 hc2 hc3
  go_wp2_with fail
  refine (cwl _ _ (HH2.out _ xx)).mono ?_
  rintro e w4 ⟨rfl, hx⟩
  replace p0 := hx.cell p0
  replace p1 := hx.cell p1
  replace p2 := hx.cell p2
  replace p3 := hx.cell p3
  replace p4 := hx.cell p4
  replace r0 := hx.cell r0
  replace r1 := hx.cell r1
  replace r2 := hx.cell r2
  replace r3 := hx.cell r3
  replace z0 : w.heap.size < w4.heap.size := cell_lt p0
  replace z1 : w.heap.size + 1 < w4.heap.size := cell_lt r0
  replace x1 := x1.trans hx
  replace xx := xx.trans hx
  clear hx
  clear cwl
  go_wp2_with fail
  refine (alike8_any _ _ ra _ _ _ rc _ _ _ _ fee 2 _).mono ?_
  rintro e w5 ⟨B2, rfl, -, hB2, b20, b21, b22, hx'⟩
  have hx := hx'.of_alloc
  have lc0 : w5.cell? ⟨w4.heap.size, 0, none⟩ = some (.int .i64 l1) := hx'.cell (by simp [go_sem])
  have lc1 : w5.cell? ⟨w4.heap.size, 1, none⟩ = some (.int .i64 l2) := hx'.cell (by simp [go_sem])
  clear hx'
  replace p0 := hx.cell p0
  replace p1 := hx.cell p1
  replace p2 := hx.cell p2
  replace p3 := hx.cell p3
  replace p4 := hx.cell p4
  replace r0 := hx.cell r0
  replace r1 := hx.cell r1
  replace r2 := hx.cell r2
  replace r3 := hx.cell r3
  replace z0 : w.heap.size < w5.heap.size := cell_lt p0
  replace z1 : w.heap.size + 1 < w5.heap.size := cell_lt r0
  replace x1 := x1.trans hx
  replace xx := xx.trans hx
  obtain ⟨lb, hlb⟩ : ∃ b, b = w4.heap.size := ⟨_, rfl⟩
  rw [← hlb] at lc0 lc1 ⊢
  clear hlb
  have zl : lb < w5.heap.size := cell_lt lc0
  clear hx
  have zB2 : B2 < w5.heap.size := hB2
  clear hB2
  go_wp2_with fail
  refine (cwm _ _ (HAL.out _ x1 fee 2 hf64 (by unfold I64; omega) B2 b20 b21 b22)).mono ?_
  rintro e w6 ⟨rfl, hx⟩
  replace p0 := hx.cell p0
  replace p1 := hx.cell p1
  replace p2 := hx.cell p2
  replace p3 := hx.cell p3
  replace p4 := hx.cell p4
  replace r0 := hx.cell r0
  replace r1 := hx.cell r1
  replace r2 := hx.cell r2
  replace r3 := hx.cell r3
  replace lc0 := hx.cell lc0
  replace lc1 := hx.cell lc1
  replace z0 : w.heap.size < w6.heap.size := cell_lt p0
  replace z1 : w.heap.size + 1 < w6.heap.size := cell_lt r0
  replace zl : lb < w6.heap.size := cell_lt lc0
  replace x1 := x1.trans hx
  replace xx := xx.trans hx
  clear hx
  clear cwm b20 b21 b22 zB2
  go_wp2_with fail
  refine (alike8_any _ _ ra _ _ _ rc _ _ _ _ fee 1 _).mono ?_
  rintro e w7 ⟨B3, rfl, -, hB3, b30, b31, b32, hx'⟩
  have hx := hx'.of_alloc
  have mc0 : w7.cell? ⟨w6.heap.size, 0, none⟩ = some (.int .i64 m1) := hx'.cell (by simp [go_sem])
  have mc1 : w7.cell? ⟨w6.heap.size, 1, none⟩ = some (.int .i64 m2) := hx'.cell (by simp [go_sem])
  clear hx'
  replace p0 := hx.cell p0
  replace p1 := hx.cell p1
  replace p2 := hx.cell p2
  replace p3 := hx.cell p3
  replace p4 := hx.cell p4
  replace r0 := hx.cell r0
  replace r1 := hx.cell r1
  replace r2 := hx.cell r2
  replace r3 := hx.cell r3
  replace lc0 := hx.cell lc0
  replace lc1 := hx.cell lc1
  replace z0 : w.heap.size < w7.heap.size := cell_lt p0
  replace z1 : w.heap.size + 1 < w7.heap.size := cell_lt r0
  replace zl : lb < w7.heap.size := cell_lt lc0
  replace x1 := x1.trans hx
  replace xx := xx.trans hx
  obtain ⟨mb, hmb⟩ : ∃ b, b = w6.heap.size := ⟨_, rfl⟩
  rw [← hmb] at mc0 mc1 ⊢
  clear hmb
  have zm : mb < w7.heap.size := cell_lt mc0
  clear hx
  have zB3 : B3 < w7.heap.size := hB3
  clear hB3
  go_wp2_with fail
  refine (cwt _ _ (HAL.out _ x1 fee 1 hf64 (by unfold I64; omega) B3 b30 b31 b32)).mono ?_
  rintro e w8 ⟨rfl, hx⟩
  replace p0 := hx.cell p0
  replace p1 := hx.cell p1
  replace p2 := hx.cell p2
  replace p3 := hx.cell p3
  replace p4 := hx.cell p4
  replace r0 := hx.cell r0
  replace r1 := hx.cell r1
  replace r2 := hx.cell r2
  replace r3 := hx.cell r3
  replace lc0 := hx.cell lc0
  replace lc1 := hx.cell lc1
  replace mc0 := hx.cell mc0
  replace mc1 := hx.cell mc1
  replace z0 : w.heap.size < w8.heap.size := cell_lt p0
  replace z1 : w.heap.size + 1 < w8.heap.size := cell_lt r0
  replace zl : lb < w8.heap.size := cell_lt lc0
  replace zm : mb < w8.heap.size := cell_lt mc0
  replace x1 := x1.trans hx
  replace xx := xx.trans hx
  clear hx
  clear cwt b30 b31 b32 zB3
  rcases (show t5 < fee ∨ fee ≤ t5 from by omega) with hA | hA
  · obtain rfl : fee2 = fee - t5 := by have := HFEE2.out; omega
    have hA2 : ¬ fee ≤ t5 := by omega
    clear HFEE2
    go_wp2_with fail
    refine (alike8_any _ _ ra _ _ _ rc _ _ _ _ (fee - t5) 0 _).mono ?_
    rintro e w9 ⟨B4, rfl, -, hB4, b40, b41, b42, hx'⟩
    have hx := hx'.of_alloc
    have tc0 : w9.cell? ⟨w8.heap.size, 0, none⟩ = some (.int .i64 t1) := hx'.cell (by simp [go_sem])
    have tc1 : w9.cell? ⟨w8.heap.size, 1, none⟩ = some (.int .i64 t2) := hx'.cell (by simp [go_sem])
    clear hx'
    replace p0 := hx.cell p0
    replace p1 := hx.cell p1
    replace p2 := hx.cell p2
    replace p3 := hx.cell p3
    replace p4 := hx.cell p4
    replace r0 := hx.cell r0
    replace r1 := hx.cell r1
    replace r2 := hx.cell r2
    replace r3 := hx.cell r3
    replace lc0 := hx.cell lc0
    replace lc1 := hx.cell lc1
    replace mc0 := hx.cell mc0
    replace mc1 := hx.cell mc1
    replace z0 : w.heap.size < w9.heap.size := cell_lt p0
    replace z1 : w.heap.size + 1 < w9.heap.size := cell_lt r0
    replace zl : lb < w9.heap.size := cell_lt lc0
    replace zm : mb < w9.heap.size := cell_lt mc0
    replace x1 := x1.trans hx
    replace xx := xx.trans hx
    obtain ⟨tb, htb⟩ : ∃ b, b = w8.heap.size := ⟨_, rfl⟩
    rw [← htb] at tc0 tc1 ⊢
    clear htb
    have zt : tb < w9.heap.size := cell_lt tc0
    clear hx
    have zB4 : B4 < w9.heap.size := hB4
    clear hB4
    go_wp2_with fail
    refine (cws _ _ (HAL.out _ x1 (fee - t5) 0 hf264 h064 B4 b40 b41 b42)).mono ?_
    rintro e w10 ⟨rfl, hx⟩
    replace p0 := hx.cell p0
    replace p1 := hx.cell p1
    replace p2 := hx.cell p2
    replace p3 := hx.cell p3
    replace p4 := hx.cell p4
    replace r0 := hx.cell r0
    replace r1 := hx.cell r1
    replace r2 := hx.cell r2
    replace r3 := hx.cell r3
    replace lc0 := hx.cell lc0
    replace lc1 := hx.cell lc1
    replace mc0 := hx.cell mc0
    replace mc1 := hx.cell mc1
    replace tc0 := hx.cell tc0
    replace tc1 := hx.cell tc1
    replace z0 : w.heap.size < w10.heap.size := cell_lt p0
    replace z1 : w.heap.size + 1 < w10.heap.size := cell_lt r0
    replace zl : lb < w10.heap.size := cell_lt lc0
    replace zm : mb < w10.heap.size := cell_lt mc0
    replace zt : tb < w10.heap.size := cell_lt tc0
    replace x1 := x1.trans hx
    replace xx := xx.trans hx
    clear hx
    clear cws b40 b41 b42 zB4
    rcases (show near + t9 < 99 ∨ 99 ≤ near + t9 from by omega) with hN | hN
    · obtain rfl : near2 = near + t9 := by have := HNEAR2.out; omega
      clear HNEAR2
      go_wp2_with fail
      refine (cwq _ _ (HH2.out _ (xx.trans (ext_alloc _ _)))).mono ?_
      rintro e w11 ⟨rfl, hx'⟩
      have hx := hx'.of_alloc
      have sc0 : w11.cell? ⟨w10.heap.size, 0, none⟩ = some (.int .i64 s1) := hx'.cell (by simp [go_sem])
      have sc1 : w11.cell? ⟨w10.heap.size, 1, none⟩ = some (.int .i64 s2) := hx'.cell (by simp [go_sem])
      clear hx'
      replace p0 := hx.cell p0
      replace p1 := hx.cell p1
      replace p2 := hx.cell p2
      replace p3 := hx.cell p3
      replace p4 := hx.cell p4
      replace r0 := hx.cell r0
      replace r1 := hx.cell r1
      replace r2 := hx.cell r2
      replace r3 := hx.cell r3
      replace lc0 := hx.cell lc0
      replace lc1 := hx.cell lc1
      replace mc0 := hx.cell mc0
      replace mc1 := hx.cell mc1
      replace tc0 := hx.cell tc0
      replace tc1 := hx.cell tc1
      replace z0 : w.heap.size < w11.heap.size := cell_lt p0
      replace z1 : w.heap.size + 1 < w11.heap.size := cell_lt r0
      replace zl : lb < w11.heap.size := cell_lt lc0
      replace zm : mb < w11.heap.size := cell_lt mc0
      replace zt : tb < w11.heap.size := cell_lt tc0
      replace x1 := x1.trans hx
      replace xx := xx.trans hx
      obtain ⟨sb, hsb⟩ : ∃ b, b = w10.heap.size := ⟨_, rfl⟩
      rw [← hsb] at sc0 sc1 ⊢
      clear hsb
      have zs : sb < w11.heap.size := cell_lt sc0
      clear hx
      clear cwq
      go_wp2_with fail
      (refine (awakeR_any _).mono ?_; rintro e w9 ⟨rfl, hx9⟩; have x9 := Ext.trans (x1.alloc _) hx9; clear hx9)
      go_wp2
      go_ret
      exact ⟨rfl, x9⟩
    · obtain rfl : near2 = 99 := by have := HNEAR2.out; omega
      clear HNEAR2
      go_wp2_with fail
      refine (cwq _ _ (HH2.out _ (xx.trans (ext_alloc _ _)))).mono ?_
      rintro e w11 ⟨rfl, hx'⟩
      have hx := hx'.of_alloc
      have sc0 : w11.cell? ⟨w10.heap.size, 0, none⟩ = some (.int .i64 s1) := hx'.cell (by simp [go_sem])
      have sc1 : w11.cell? ⟨w10.heap.size, 1, none⟩ = some (.int .i64 s2) := hx'.cell (by simp [go_sem])
      clear hx'
      replace p0 := hx.cell p0
      replace p1 := hx.cell p1
      replace p2 := hx.cell p2
      replace p3 := hx.cell p3
      replace p4 := hx.cell p4
      replace r0 := hx.cell r0
      replace r1 := hx.cell r1
      replace r2 := hx.cell r2
      replace r3 := hx.cell r3
      replace lc0 := hx.cell lc0
      replace lc1 := hx.cell lc1
      replace mc0 := hx.cell mc0
      replace mc1 := hx.cell mc1
      replace tc0 := hx.cell tc0
      replace tc1 := hx.cell tc1
      replace z0 : w.heap.size < w11.heap.size := cell_lt p0
      replace z1 : w.heap.size + 1 < w11.heap.size := cell_lt r0
      replace zl : lb < w11.heap.size := cell_lt lc0
      replace zm : mb < w11.heap.size := cell_lt mc0
      replace zt : tb < w11.heap.size := cell_lt tc0
      replace x1 := x1.trans hx
      replace xx := xx.trans hx
      obtain ⟨sb, hsb⟩ : ∃ b, b = w10.heap.size := ⟨_, rfl⟩
      rw [← hsb] at sc0 sc1 ⊢
      clear hsb
      have zs : sb < w11.heap.size := cell_lt sc0
      clear hx
      clear cwq
      go_wp2_with fail
      (refine (awakeR_any _).mono ?_; rintro e w9 ⟨rfl, hx9⟩; have x9 := Ext.trans (x1.alloc _) hx9; clear hx9)
      go_wp2
      go_ret
      exact ⟨rfl, x9⟩
  · obtain rfl : fee2 = 0 := by have := HFEE2.out; omega
    have hA2 : fee ≤ t5 := hA
    clear HFEE2
    go_wp2_with fail
    refine (alike8_any _ _ ra _ _ _ rc _ _ _ _ 0 0 _).mono ?_
    rintro e w9 ⟨B4, rfl, -, hB4, b40, b41, b42, hx'⟩
    have hx := hx'.of_alloc
    have tc0 : w9.cell? ⟨w8.heap.size, 0, none⟩ = some (.int .i64 t1) := hx'.cell (by simp [go_sem])
    have tc1 : w9.cell? ⟨w8.heap.size, 1, none⟩ = some (.int .i64 t2) := hx'.cell (by simp [go_sem])
    clear hx'
    replace p0 := hx.cell p0
    replace p1 := hx.cell p1
    replace p2 := hx.cell p2
    replace p3 := hx.cell p3
    replace p4 := hx.cell p4
    replace r0 := hx.cell r0
    replace r1 := hx.cell r1
    replace r2 := hx.cell r2
    replace r3 := hx.cell r3
    replace lc0 := hx.cell lc0
    replace lc1 := hx.cell lc1
    replace mc0 := hx.cell mc0
    replace mc1 := hx.cell mc1
    replace z0 : w.heap.size < w9.heap.size := cell_lt p0
    replace z1 : w.heap.size + 1 < w9.heap.size := cell_lt r0
    replace zl : lb < w9.heap.size := cell_lt lc0
    replace zm : mb < w9.heap.size := cell_lt mc0
    replace x1 := x1.trans hx
    replace xx := xx.trans hx
    obtain ⟨tb, htb⟩ : ∃ b, b = w8.heap.size := ⟨_, rfl⟩
    rw [← htb] at tc0 tc1 ⊢
    clear htb
    have zt : tb < w9.heap.size := cell_lt tc0
    clear hx
    have zB4 : B4 < w9.heap.size := hB4
    clear hB4
    go_wp2_with fail
    refine (cws _ _ (HAL.out _ x1 0 0 hf264 h064 B4 b40 b41 b42)).mono ?_
    rintro e w10 ⟨rfl, hx⟩
    replace p0 := hx.cell p0
    replace p1 := hx.cell p1
    replace p2 := hx.cell p2
    replace p3 := hx.cell p3
    replace p4 := hx.cell p4
    replace r0 := hx.cell r0
    replace r1 := hx.cell r1
    replace r2 := hx.cell r2
    replace r3 := hx.cell r3
    replace lc0 := hx.cell lc0
    replace lc1 := hx.cell lc1
    replace mc0 := hx.cell mc0
    replace mc1 := hx.cell mc1
    replace tc0 := hx.cell tc0
    replace tc1 := hx.cell tc1
    replace z0 : w.heap.size < w10.heap.size := cell_lt p0
    replace z1 : w.heap.size + 1 < w10.heap.size := cell_lt r0
    replace zl : lb < w10.heap.size := cell_lt lc0
    replace zm : mb < w10.heap.size := cell_lt mc0
    replace zt : tb < w10.heap.size := cell_lt tc0
    replace x1 := x1.trans hx
    replace xx := xx.trans hx
    clear hx
    clear cws b40 b41 b42 zB4
    rcases (show near + t9 < 99 ∨ 99 ≤ near + t9 from by omega) with hN | hN
    · obtain rfl : near2 = near + t9 := by have := HNEAR2.out; omega
      clear HNEAR2
      go_wp2_with fail
      refine (cwq _ _ (HH2.out _ (xx.trans (ext_alloc _ _)))).mono ?_
      rintro e w11 ⟨rfl, hx'⟩
      have hx := hx'.of_alloc
      have sc0 : w11.cell? ⟨w10.heap.size, 0, none⟩ = some (.int .i64 s1) := hx'.cell (by simp [go_sem])
      have sc1 : w11.cell? ⟨w10.heap.size, 1, none⟩ = some (.int .i64 s2) := hx'.cell (by simp [go_sem])
      clear hx'
      replace p0 := hx.cell p0
      replace p1 := hx.cell p1
      replace p2 := hx.cell p2
      replace p3 := hx.cell p3
      replace p4 := hx.cell p4
      replace r0 := hx.cell r0
      replace r1 := hx.cell r1
      replace r2 := hx.cell r2
      replace r3 := hx.cell r3
      replace lc0 := hx.cell lc0
      replace lc1 := hx.cell lc1
      replace mc0 := hx.cell mc0
      replace mc1 := hx.cell mc1
      replace tc0 := hx.cell tc0
      replace tc1 := hx.cell tc1
      replace z0 : w.heap.size < w11.heap.size := cell_lt p0
      replace z1 : w.heap.size + 1 < w11.heap.size := cell_lt r0
      replace zl : lb < w11.heap.size := cell_lt lc0
      replace zm : mb < w11.heap.size := cell_lt mc0
      replace zt : tb < w11.heap.size := cell_lt tc0
      replace x1 := x1.trans hx
      replace xx := xx.trans hx
      obtain ⟨sb, hsb⟩ : ∃ b, b = w10.heap.size := ⟨_, rfl⟩
      rw [← hsb] at sc0 sc1 ⊢
      clear hsb
      have zs : sb < w11.heap.size := cell_lt sc0
      clear hx
      clear cwq
      go_wp2_with fail
      (refine (awakeR_any _).mono ?_; rintro e w9 ⟨rfl, hx9⟩; have x9 := Ext.trans (x1.alloc _) hx9; clear hx9)
      go_wp2
      go_ret
      exact ⟨rfl, x9⟩
    · obtain rfl : near2 = 99 := by have := HNEAR2.out; omega
      clear HNEAR2
      go_wp2_with fail
      refine (cwq _ _ (HH2.out _ (xx.trans (ext_alloc _ _)))).mono ?_
      rintro e w11 ⟨rfl, hx'⟩
      have hx := hx'.of_alloc
      have sc0 : w11.cell? ⟨w10.heap.size, 0, none⟩ = some (.int .i64 s1) := hx'.cell (by simp [go_sem])
      have sc1 : w11.cell? ⟨w10.heap.size, 1, none⟩ = some (.int .i64 s2) := hx'.cell (by simp [go_sem])
      clear hx'
      replace p0 := hx.cell p0
      replace p1 := hx.cell p1
      replace p2 := hx.cell p2
      replace p3 := hx.cell p3
      replace p4 := hx.cell p4
      replace r0 := hx.cell r0
      replace r1 := hx.cell r1
      replace r2 := hx.cell r2
      replace r3 := hx.cell r3
      replace lc0 := hx.cell lc0
      replace lc1 := hx.cell lc1
      replace mc0 := hx.cell mc0
      replace mc1 := hx.cell mc1
      replace tc0 := hx.cell tc0
      replace tc1 := hx.cell tc1
      replace z0 : w.heap.size < w11.heap.size := cell_lt p0
      replace z1 : w.heap.size + 1 < w11.heap.size := cell_lt r0
      replace zl : lb < w11.heap.size := cell_lt lc0
      replace zm : mb < w11.heap.size := cell_lt mc0
      replace zt : tb < w11.heap.size := cell_lt tc0
      replace x1 := x1.trans hx
      replace xx := xx.trans hx
      obtain ⟨sb, hsb⟩ : ∃ b, b = w10.heap.size := ⟨_, rfl⟩
      rw [← hsb] at sc0 sc1 ⊢
      clear hsb
      have zs : sb < w11.heap.size := cell_lt sc0
      clear hx
      clear cwq
      go_wp2_with fail
      (refine (awakeR_any _).mono ?_; rintro e w9 ⟨rfl, hx9⟩; have x9 := Ext.trans (x1.alloc _) hx9; clear hx9)
      go_wp2
      go_ret
      exact ⟨rfl, x9⟩
end Go.Proofs.Ytdadffmagfknoaa

namespace Go.Proofs.Ytdadffmagfknoaa
set_option linter.unusedSimpArgs false
set_option linter.unusedVariables false
open Go.ChangeShapes Go.WideShapes Go.RowKit
set_option maxRecDepth 100000
section
variable {H : Type} {enc : TypeId × Value → H} {w : World} {base : Nat} {sp : Nat → Bool} {held : Bool}
theorem bytes4R_of {r : Reach} {b0 : Nat} {v : Value} {d : DataW H} {ps : List MemPlace} (hval : Value.okWide Try.prog w r b0 74 v) (hd : DataW.Trod enc Try.prog w base sp held 74 v d ps) :
    ∃ x y z u : Nat, v = .agg #[.int .u8 x, .int .u8 y, .int .u8 z, .int .u8 u] ∧ x ≤ 255 ∧ y ≤ 255 ∧ z ≤ 255 ∧ u ≤ 255 := by
  obtain ⟨l, rfl, hl, hw⟩ := arrayR_of Try.underlying74 Try.underlying5 cellsU8R (by kernel_rfl) hval hd
  match l, hl with
  | [a, b, c, e], _ =>
    have ha := wf_u8 (hw a (by simp))
    have hb := wf_u8 (hw b (by simp))
    have hc := wf_u8 (hw c (by simp))
    have he := wf_u8 (hw e (by simp))
    unfold U8 at ha hb hc he
    refine ⟨a.toNat, b.toNat, c.toNat, e.toNat, ?_, by omega, by omega, by omega, by omega⟩
    rw [show ((a.toNat : Nat) : Int) = a from by omega, show ((b.toNat : Nat) : Int) = b from by omega, show ((c.toNat : Nat) : Int) = c from by omega, show ((e.toNat : Nat) : Int) = e from by omega]
    rfl
end
end Go.Proofs.Ytdadffmagfknoaa
