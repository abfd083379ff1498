/-
  WHAT Worth RETURNS, for any house, agent, day and pence: of the program.
  WHAT Send RETURNS, for any house, day and pence: of the program.
  THE HOUSE OF THE EXAMPLES: House and span of the statements.
  THE ANSWERS OF THE EXAMPLES: plain.
  WHETHER TWO SPANS ARE THE SAME, as the program compares them.
  WHAT THE SMALL FUNCTIONS OF THE REFERENCE RETURN: whether a list comes before another one, whether two lists are the same, what is settled.
  WHAT THE SMALL FUNCTIONS OF THE REFERENCE RETURN: whether two lists are the same, whether one has fewer, whether a list has a number, ascending numbers, bits.
  WHAT THE CALLS OF Awake RETURN at the houses of the examples.
-/
import Derived.Test.YtdadffmagfknoaaBunAK
import Derived.Test.YtdadffmagfknoaaBunAA
namespace Go.Proofs.Ytdadffmagfknoaa
set_option linter.unusedSimpArgs false
set_option linter.unusedVariables false
open Go.RowKit
set_option linter.unusedVariables false
set_option maxRecDepth 100000
set_option maxHeartbeats 8000000 in
theorem worthPub_any (hv : Value) (H : House) (a d n : Int) (ha64 : I64 a) (hd64 : I64 d) (hn64 : I64 n) (w : World) (hh : HouseAt w hv H) :
    Calls Try.prog 24 #[hv, .int .i64 a, .int .i64 d, .int .i64 n] w fun e w' => e = .returned (.tuple #[spanV (numSpan H [⟨a, agtsM H, 4⟩, ⟨d, daysM H, 4⟩, ⟨n, 99, 7⟩] (fun r => payM (agtAt H a) n (r.getD d.toNat 0))).1 (numSpan H [⟨a, agtsM H, 4⟩, ⟨d, daysM H, 4⟩, ⟨n, 99, 7⟩] (fun r => payM (agtAt H a) n (r.getD d.toNat 0))).2, .int .i64 (numErr H [⟨a, agtsM H, 4⟩, ⟨d, daysM H, 4⟩, ⟨n, 99, 7⟩] (fun r => payM (agtAt H a) n (r.getD d.toNat 0)))]) ∧ Ext w w' := by
  have hgm : IntKind.i64.wrap ((H.agents.length : Int) - 1) = agtsM H := rfl
  have hdm : IntKind.i64.wrap (H.days - 1) = daysM H := rfl
  generalize agtsM H = gm at *
  generalize daysM H = dm at *
  have hne : numErr H [⟨a, gm, 4⟩, ⟨d, dm, 4⟩, ⟨n, 99, 7⟩] (fun r => payM (agtAt H a) n (r.getD d.toNat 0)) = if openR H [⟨a, gm, 4⟩, ⟨d, dm, 4⟩, ⟨n, 99, 7⟩] ≠ 0 then openR H [⟨a, gm, 4⟩, ⟨d, dm, 4⟩, ⟨n, 99, 7⟩] else (numM (fun r => payM (agtAt H a) n (r.getD d.toNat 0)) (truL H (outB 0))).2 := rfl
  have hns : numSpan H [⟨a, gm, 4⟩, ⟨d, dm, 4⟩, ⟨n, 99, 7⟩] (fun r => payM (agtAt H a) n (r.getD d.toNat 0)) = if openR H [⟨a, gm, 4⟩, ⟨d, dm, 4⟩, ⟨n, 99, 7⟩] ≠ 0 then (0, 0) else (numM (fun r => payM (agtAt H a) n (r.getD d.toNat 0)) (truL H (outB 0))).1 := rfl
  generalize numErr H [⟨a, gm, 4⟩, ⟨d, dm, 4⟩, ⟨n, 99, 7⟩] (fun r => payM (agtAt H a) n (r.getD d.toNat 0)) = ne at *
  generalize numSpan H [⟨a, gm, 4⟩, ⟨d, dm, 4⟩, ⟨n, 99, 7⟩] (fun r => payM (agtAt H a) n (r.getD d.toNat 0)) = ns at *
  obtain ⟨nm, hnm⟩ : ∃ nm, numM (fun r => payM (agtAt H a) n (r.getD d.toNat 0)) (truL H (outB 0)) = nm := ⟨_, rfl⟩
  rw [hnm] at hne hns
  have HNM := Lib.hid hnm
  clear hnm
  have hop := fun w' hx av ha => openR_any hv av H [⟨a, gm, 4⟩, ⟨d, dm, 4⟩, ⟨n, 99, 7⟩] w w' hh hx ha
  have hok : openR H [⟨a, gm, 4⟩, ⟨d, dm, 4⟩, ⟨n, 99, 7⟩] = 0 → ValidH H ∧ (0 ≤ a ∧ a ≤ gm) ∧ (0 ≤ d ∧ d ≤ dm) ∧ (0 ≤ n ∧ n ≤ 99) := fun e => by
    obtain ⟨h1, h2⟩ := openR_ok e
    exact ⟨h1, h2 _ List.mem_cons_self (by show (4 : Int) ≠ 0; decide), h2 _ (List.mem_cons_of_mem _ List.mem_cons_self) (by show (4 : Int) ≠ 0; decide), h2 _ (List.mem_cons_of_mem _ (List.mem_cons_of_mem _ List.mem_cons_self)) (by show (7 : Int) ≠ 0; decide)⟩
  generalize openR H [⟨a, gm, 4⟩, ⟨d, dm, 4⟩, ⟨n, 99, 7⟩] = er at *
  have HNE := Lib.hid hne
  have HNS := Lib.hid hns
  have HOK := Lib.hid hok
  have HGM := Lib.hid hgm
  have HDM := Lib.hid hdm
  clear hne hns hok hgm hdm
  obtain ⟨ra, rc, aa, ac, ea, ec, rfl, hdi, hsi, -, -, -⟩ := hh
  obtain ⟨W, hW⟩ : ∃ W, W = ((w.alloc (.cells #[.int .i64 H.days, .slice ra H.rates.length rc, .int .i64 H.step, .slice aa H.agents.length ac, .slice ea H.entries.length ec] 26)).alloc (.cells #[.int .i64 d] 3)).alloc (.cells #[.int .i64 0, .int .i64 0] 35) := ⟨_, rfl⟩
  have xW : Ext w W := by rw [hW]; exact ((ext_alloc _ _).alloc _).alloc _
  have q0 : BoxIs W w.heap.size [.int .i64 H.days, .slice ra H.rates.length rc, .int .i64 H.step, .slice aa H.agents.length ac, .slice ea H.entries.length ec] := fun j v hj => by
    rw [hW]
    match j, hj with
    | 0, hj => simp at hj; subst hj; simp [go_sem]
    | 1, hj => simp at hj; subst hj; simp [go_sem]
    | 2, hj => simp at hj; subst hj; simp [go_sem]
    | 3, hj => simp at hj; subst hj; simp [go_sem]
    | 4, hj => simp at hj; subst hj; simp [go_sem]
  have cd : W.cell? ⟨w.heap.size + 1, 0, none⟩ = some (.int .i64 d) := by rw [hW]; simp [go_sem]
  have r0 : W.cell? ⟨w.heap.size + 2, 0, none⟩ = some (.int .i64 0) := by rw [hW]; simp [go_sem]
  have r1 : W.cell? ⟨w.heap.size + 2, 1, none⟩ = some (.int .i64 0) := by rw [hW]; simp [go_sem]
  have rf : ∀ o, W.frozen? ⟨w.heap.size + 2, o, none⟩ = false := fun o => by rw [hW]; simp [go_sem]
  have i0 := q0 0 _ rfl
  have i1 := q0 1 _ rfl
  have i2 := q0 2 _ rfl
  have i3 := q0 3 _ rfl
  have i4 := q0 4 _ rfl
  have HW := Lib.hid hW
  clear hW q0
  go_enter Try.func24, Try.ntmps24
  go_wp2_with fail
  rw [← HW.out]
  apply Facts.Peel.wp_regionL (two_chs W.heap.size) 19 18 [.val (.agg #[.int .i64 H.days, .slice ra H.rates.length rc, .int .i64 H.step, .slice aa H.agents.length ac, .slice ea H.entries.length ec]), .val (.int .i64 a), .val _, .val (.slice aa H.agents.length ac), .val (.int .i64 (H.agents.length : Nat)), .val (argV ⟨a, gm, 4⟩), .val (.int .i64 d), .val _, .val (.int .i64 H.days), .val (argV ⟨d, dm, 4⟩), .val (.int .i64 n), .val (argV ⟨n, 99, 7⟩), .fact (NewArgs W.heap.size [⟨a, gm, 4⟩, ⟨d, dm, 4⟩, ⟨n, 99, 7⟩]), .fact (OpenT W.heap.size w H er), .on [13] (fun l u _ => l = [u]), .on [13] (fun l u _ => l = [.tuple #[u, .int .i64 er]]), .val (.int .i64 er), .fact (NewH W.heap.size), .on [17, 13] (fun l _ W' => StoredH W.heap.size er l W')] (by kernel_rfl) (by kernel_rfl) (by kernel_rfl) (by kernel_rfl) (by kernel_rfl) (by kernel_rfl) ?keep ?main
  case keep => exact ⟨fun u a c hx h => h.ext hx, fun _ _ u a c hx h => h.chs hx, fun u a c hx h => h.ext hx, fun _ _ u a c hx h => h.chs hx, fun _ _ _ _ _ h => h, fun _ _ _ _ _ _ _ h => h, fun _ _ _ _ _ h => h, fun _ _ _ _ _ _ _ h => h, fun u a c hx h => h.ext hx, fun _ _ u a c hx h => h.chs hx, fun l u a c hx h => h.ext hx, fun h => absurd rfl h, trivial⟩
  case main =>
    simp only [List.take_succ_cons, List.take_zero, List.getD_cons_succ, List.getD_cons_zero]
    iterate 5 (refine ⟨fun w1 hx hh => ?_, ?_⟩; focus (clear hh; (have hx2 : Ext W w1 := (hx (Nat.le_refl _)).1; have f0 := hx2.cell i0; have f1 := hx2.cell i1; have f2 := hx2.cell i2; have f3 := hx2.cell i3; have f4 := hx2.cell i4; have f5 := hx2.cell cd); go_simp; first | exact ⟨Ext.refl _, rfl⟩ | exact Ext.refl _))
    refine ⟨fun w1 hx hh => ?_, ?_⟩
    · clear hh
      go_simp
      refine (indexR_any a (H.agents.length : Nat) w1).mono ?_
      rintro e w' ⟨rfl, hx9⟩
      rw [HGM.out]
      exact ⟨_, rfl, hx9, rfl⟩
    iterate 3 (refine ⟨fun w1 hx hh => ?_, ?_⟩; focus (clear hh; (have hx2 : Ext W w1 := (hx (Nat.le_refl _)).1; have f0 := hx2.cell i0; have f1 := hx2.cell i1; have f2 := hx2.cell i2; have f3 := hx2.cell i3; have f4 := hx2.cell i4; have f5 := hx2.cell cd); go_simp; first | exact ⟨Ext.refl _, rfl⟩ | exact Ext.refl _))
    refine ⟨fun w1 hx hh => ?_, ?_⟩
    · clear hh
      go_simp
      refine (indexR_any d H.days w1).mono ?_
      rintro e w' ⟨rfl, hx9⟩
      rw [HDM.out]
      exact ⟨_, rfl, hx9, rfl⟩
    iterate 1 (refine ⟨fun w1 hx hh => ?_, ?_⟩; focus (clear hh; (have hx2 : Ext W w1 := (hx (Nat.le_refl _)).1; have f0 := hx2.cell i0; have f1 := hx2.cell i1; have f2 := hx2.cell i2; have f3 := hx2.cell i3; have f4 := hx2.cell i4; have f5 := hx2.cell cd); go_simp; first | exact ⟨Ext.refl _, rfl⟩ | exact Ext.refl _))
    refine ⟨fun w1 hx hh => ?_, ?_⟩
    · clear hh
      go_simp
      refine (penceR_any n 99 w1).mono ?_
      rintro e w' ⟨rfl, hx9⟩
      exact ⟨_, rfl, hx9, rfl⟩
    refine ⟨fun w1 hx hh => ?_, ?_⟩
    · clear hh
      unfold argV
      have hn := (hx (Nat.le_refl _)).2.1
      go_simp
      exact ⟨ext_alloc _ _, Nat.le_trans hn (by simp), w1.heap.size, rfl, heap_alloc_new w1 _⟩
    intro u12
    refine ⟨fun w1 hx hh => ?_, ?_⟩
    · have h5 := hh 12 _ List.mem_cons_self (by kernel_rfl)
      have hx2 : Ext W w1 := (hx (Nat.le_refl _)).1
      have hA := NewArgs.at h5 (by simp) (by simp; exact ⟨ha64, hd64, hn64⟩)
      have hz := (hx (Nat.le_refl _)).2.1
      clear hh
      go_simp
      refine (hop w1 (xW.trans hx2) u12 hA).mono ?_
      rintro e w' ⟨v, rfl, hG, hx9⟩
      exact ⟨_, rfl, hx9, Nat.le_trans hz hx9.size, v, rfl, hG⟩
    intro u13
    refine ⟨fun w1 hx hh => ?_, ?_⟩
    · clear hh
      go_simp
      first | exact ⟨Ext.refl _, rfl⟩ | exact Ext.refl _
    intro u14
    refine ⟨fun w1 hx hh => ?_, ?_⟩
    · have h7 := hh 14 _ List.mem_cons_self (by kernel_rfl)
      have h6 : OpenT W.heap.size w H er u13 w1 := hh 13 _ (List.mem_cons_of_mem _ List.mem_cons_self) (by kernel_rfl)
      have e7 : u13 = u14 := (List.cons.inj h7).1
      have e6 := OpenT.eq h6
      generalize OpenT.p h6 = p at *
      clear hh h7
      subst e7
      subst e6
      go_simp
      exact ⟨Ext.refl _, rfl⟩
    intro u15
    refine ⟨fun w1 hx hh => ?_, ?_⟩
    · have h7 := hh 14 _ (List.mem_cons_of_mem _ List.mem_cons_self) (by kernel_rfl)
      have h6 : OpenT W.heap.size w H er u13 w1 := hh 13 _ (List.mem_cons_of_mem _ (List.mem_cons_of_mem _ List.mem_cons_self)) (by kernel_rfl)
      have e7 : u13 = u14 := (List.cons.inj h7).1
      have e6 := OpenT.eq h6
      generalize OpenT.p h6 = p at *
      clear hh h7
      subst e7
      subst e6
      go_simp
      first | exact ⟨Ext.refl _, rfl⟩ | exact Ext.refl _
    refine ⟨fun w1 hx hh => ?_, ?_⟩
    · clear hh
      have hz := (hx (Nat.le_refl _)).2.1
      go_simp
      exact ⟨ext_alloc _ _, Nat.le_trans hz (by simp), w1.heap.size, _, rfl, hz, heap_alloc_new w1 _, rfl⟩
    intro u17
    refine ⟨fun w1 hx hh => ?_, ?_⟩
    · have h10 : NewH W.heap.size u17 w1 := hh 17 _ List.mem_cons_self (by kernel_rfl)
      have h8 := hh 15 _ (List.mem_cons_of_mem _ List.mem_cons_self) (by kernel_rfl)
      have h6 : OpenT W.heap.size w H er u13 w1 := hh 13 _ (List.mem_cons_of_mem _ (List.mem_cons_of_mem _ (List.mem_cons_of_mem _ List.mem_cons_self))) (by kernel_rfl)
      have e8 : u13 = .tuple #[u15, .int .i64 er] := (List.cons.inj h8).1
      have e6 := OpenT.eq h6
      have e9 : u15 = .agg #[.int .i64 (OpenT.p h6).d, .slice (OpenT.p h6).ra (OpenT.p h6).rn (OpenT.p h6).rc, .int .i64 (OpenT.p h6).s, .slice (OpenT.p h6).aa (OpenT.p h6).an (OpenT.p h6).ac, .slice (OpenT.p h6).ea (OpenT.p h6).en (OpenT.p h6).ec, .map (OpenT.p h6).m] := by
        rw [e6] at e8
        simp only [Value.tuple.injEq, Array.mk.injEq, List.cons.injEq, and_true] at e8
        exact e8.symm
      have e10 := NewH.ptr h10
      have hb := NewH.le h10
      have hcs := NewH.heap h10
      have h66 := NewH.six h10
      have c0 := NewH.c h10 0 (by omega)
      have c1 := NewH.c h10 1 (by omega)
      have c2 := NewH.c h10 2 (by omega)
      have c3 := NewH.c h10 3 (by omega)
      have c4 := NewH.c h10 4 (by omega)
      have c5 := NewH.c h10 5 (by omega)
      have hfz := NewH.free h10
      generalize NewH.b h10 = b at *
      generalize NewH.cs h10 = cs at *
      generalize OpenT.p h6 = p at *
      have hC := chs_set6 hb hcs (.int .i64 p.d) (.slice p.ra p.rn p.rc) (.int .i64 p.s) (.slice p.aa p.an p.ac) (.slice p.ea p.en p.ec) (.map p.m)
      have hB := box_of_cells hcs h66 (.int .i64 p.d) (.slice p.ra p.rn p.rc) (.int .i64 p.s) (.slice p.aa p.an p.ac) (.slice p.ea p.en p.ec) (.map p.m)
      have HC := Lib.hid hC
      have HB := Lib.hid hB
      clear hh hC hB h10 h8 h6 hcs e8
      subst e9
      subst e6
      subst e10
      go_simp
      exact ⟨HC.out, b, p, rfl, hb, HB.out⟩
    intro u12x
    intro w1 hx hh
    have h11 : StoredH W.heap.size er [u17, u13] w1 := hh 18 _ List.mem_cons_self
    have h8 := hh 15 _ (List.mem_cons_of_mem _ (List.mem_cons_of_mem _ List.mem_cons_self))
    have h7 := hh 14 _ (List.mem_cons_of_mem _ (List.mem_cons_of_mem _ (List.mem_cons_of_mem _ List.mem_cons_self)))
    have h6 : OpenT W.heap.size w H er u13 w1 := hh 13 _ (List.mem_cons_of_mem _ (List.mem_cons_of_mem _ (List.mem_cons_of_mem _ (List.mem_cons_of_mem _ List.mem_cons_self))))
    have e7 : u13 = u14 := (List.cons.inj h7).1
    have e8 : u13 = .tuple #[u15, .int .i64 er] := (List.cons.inj h8).1
    have hQ := soQ_is h11 h6
    generalize soQ h11 h6 = q at *
    have e10 := hQ.1
    have e6 := hQ.2.1
    have hxW : Ext W w1 := (hx (Nat.le_refl _)).1
    have hb := hQ.2.2.1
    have hbox := hQ.2.2.2.1
    have hG := hQ.2.2.2.2
    have e9 : u15 = q.2.v := by
      rw [e6] at e8
      have := Value.tuple.inj e8
      simp only [Array.mk.injEq, List.cons.injEq, and_true] at this
      exact this.symm
    clear hh h11 h8 h7 h6 hQ e8 hx
    subst e7
    subst e9
    subst e6
    subst e10
    have x1 := xW.trans hxW
    have zW : w.heap.size + 2 < W.heap.size := cell_lt r0
    replace rf : ∀ o, w1.frozen? ⟨w.heap.size + 2, o, none⟩ = false := fun o => by rw [hxW.frozen zW]; exact rf o
    replace r0 := hxW.cell r0
    replace r1 := hxW.cell r1
    have zr : w.heap.size + 2 < w1.heap.size := cell_lt r0
    have HG := Lib.hid hG
    have HB := Lib.hid hbox
    clear hG hbox i0 i1 i2 i3 i4
    refine ⟨rfl, ?_⟩
    go_simp
    have j0 := HB.out 0 _ rfl
    have j1 := HB.out 1 _ rfl
    have j2 := HB.out 2 _ rfl
    have j3 := HB.out 3 _ rfl
    have j4 := HB.out 4 _ rfl
    have j5 := HB.out 5 _ rfl
    have zb : q.1 < w1.heap.size := cell_lt j0
    by_cases h0 : er = 0
    rotate_left
    · have k0 : (er != 0) = true := by simpa using h0
      have hns := HNS.out
      have hne := HNE.out
      rw [if_pos h0] at hns hne
      subst hns
      subst hne
      have s0 := set_other (set_cell r0 (.int .i64 0)) (p := ⟨w.heap.size + 2, 1, none⟩) (.inr (by simp)) (.int .i64 0)
      have s1 := set_cell (set_other r1 (p := ⟨w.heap.size + 2, 0, none⟩) (.inr (by simp)) (.int .i64 0)) (.int .i64 0)
      have xS : Ext w ((w1.setCell ⟨w.heap.size + 2, 0, none⟩ (.int .i64 0)).setCell ⟨w.heap.size + 2, 1, none⟩ (.int .i64 0)) := (x1.setCell (by simp) _).setCell (by simp) _
      have HS := Lib.hid xS
      clear xS x1 h0 hop HNS HNE
      go_wp2
      refine bodyPost_ret (v := .tuple #[.agg #[.int .i64 0, .int .i64 0], .int .i64 ne]) (by simp [results, Try.results24, go_sem, s0, s1]) rfl ⟨rfl, HS.out⟩
    subst h0
    have hL := HG.out.look x1 rfl
    obtain ⟨hV, ⟨ha0, ha1⟩, ⟨hd0, hd1⟩, hn99⟩ := HOK.out rfl
    have hdy := hV.days
    have hag := hV.agents
    have hdm := HDM.out
    have hgm := HGM.out
    rw [IntWalk.i64_in _ (by omega)] at hdm hgm
    have hns := HNS.out
    have hne := HNE.out
    rw [if_neg (by simp)] at hns hne
    obtain ⟨⟨al, ah⟩, ae⟩ := nm
    subst hns
    subst hne
    have hwc := hxW.cell cd
    have zc : w.heap.size + 1 < w1.heap.size := cell_lt hwc
    have hai : a.toNat < H.agents.length := by omega
    have hag2 : H.agents[a.toNat] = agtAt H a := by unfold agtAt; rw [List.getD_eq_getElem?_getD, List.getElem?_eq_getElem hai]; rfl
    have hgd := hV.agent _ (agtAt_mem ha0 (by omega : a < H.agents.length))
    have hent : ∀ w', Ext w1 w' → Calls Try.prog 71 #[q.2.v, .agg #[.int .i64 a, .int .i64 d, .int .i64 n, .int .i64 0]] w' fun r w'' => r = .returned (entryV ⟨a, d, n, 0⟩ (agtAt H a)) ∧ Ext w' w'' := fun w' hx => by
      have hL' := hL.ext hx
      obtain ⟨ra2, rc2, aa2, ac2, ea2, ec2, B2, M2, e2, -, hA2, -, -, -⟩ := hL'
      rw [e2]
      exact entry_any H ra2 aa2 ea2 rc2 ac2 ec2 (.map (some B2)) ⟨a, d, n, 0⟩ (agtAt H a) w' hA2 a.toNat hai (by show a = _; omega) hag2 hgd.2
    have hwo := fun (fb db : Nat) r hr w hf hc => worthOf_any fb db d.toNat (by omega) ⟨a, d, n, 0⟩ (agtAt H a) hgd.1 hgd.2 hn99 r hr w hf hc
    rw [show ((d.toNat : Nat) : Int) = d by omega] at hwo
    have hrr : ∀ r ∈ truL H (outB 0), 0 ≤ r.getD d.toNat 0 ∧ r.getD d.toNat 0 ≤ 20 := fun r hr => by
      have := ratesL_good hV (truL_sub hV hr) (j := d.toNat) (by omega)
      omega
    have htr := fun w hl => truths_any q.2.v H hV 0 (by omega) w hl
    obtain ⟨ev, hev⟩ : ∃ ev, entryV ⟨a, d, n, 0⟩ (agtAt H a) = ev := ⟨_, rfl⟩
    simp only [hev] at hent hwo
    have HL := Lib.hid hL
    clear hL hop HNS HNE HOK HDM HGM hdm hgm hev hag2 hai hgd
    unfold H6.v at htr hent HL
    go_wp2_with fail
    refine (hent _ (Ext.refl _)).mono ?_
    rintro e w2 ⟨rfl, hx2⟩
    have x2 := x1.trans hx2
    replace hwc := hx2.cell hwc
    replace j0 := hx2.cell j0
    replace j1 := hx2.cell j1
    replace j2 := hx2.cell j2
    replace j3 := hx2.cell j3
    replace j4 := hx2.cell j4
    replace j5 := hx2.cell j5
    replace r0 := hx2.cell r0
    replace r1 := hx2.cell r1
    replace rf : ∀ o, w2.frozen? ⟨w.heap.size + 2, o, none⟩ = false := fun o => (hx2.frozen (p := ⟨w.heap.size + 2, o, none⟩) zr).trans (rf o)
    have zr2 : w.heap.size + 2 < w2.heap.size := cell_lt r0
    have zb2 : q.1 < w2.heap.size := cell_lt j0
    have zc2 : w.heap.size + 1 < w2.heap.size := cell_lt hwc
    have HL2 := Lib.hid (HL.out.ext hx2)
    clear hx2 hent x1 zr zb zc HL
    go_wp2_with fail
    refine (htr _ (HL2.out.ext ((by first | (with_reducible exact Ext.refl _) | (with_reducible assumption) | (show Below _ _ _; go_grown; done))))).mono ?_
    rintro e w3 ⟨v, rfl, hT, hx3⟩
    obtain ⟨lb, rfl, hsq⟩ := hT.seq hV
    have x3 : Ext w w3 := x2.trans hx3.of_alloc
    have hfc : w3.cell? ⟨w2.heap.size, 0, none⟩ = some (.func (.func 72) #[ev] #[]) := hx3.cell (by simp [go_sem])
    have hdc := hx3.of_alloc.cell hwc
    have hnu := number_worth lb (truL H (outB 0)) w2.heap.size (w.heap.size + 1) (fun r => payM (agtAt H a) n (r.getD d.toNat 0)) w3 hsq (fun r hr w' hx => hwo w2.heap.size (w.heap.size + 1) r (hrr r hr) w' (hx.cell hfc) (hx.cell hdc))
    rw [HNM.out] at hnu
    unfold spanV at hnu
    replace r0 := hx3.of_alloc.cell r0
    replace r1 := hx3.of_alloc.cell r1
    replace rf : ∀ o, w3.frozen? ⟨w.heap.size + 2, o, none⟩ = false := fun o => (hx3.of_alloc.frozen (p := ⟨w.heap.size + 2, o, none⟩) zr2).trans (rf o)
    have zr3 : w.heap.size + 2 < w3.heap.size := cell_lt r0
    clear hT hsq htr hfc hdc HNM hrr hx3 hwo
    go_wp2_with fail
    refine hnu.mono ?_
    rintro e w4 ⟨rfl, hx4⟩
    have x4 := x3.trans hx4
    have q0 := hx4.cell r0
    have q1 := hx4.cell r1
    have zq : w.heap.size + 2 < w4.heap.size := cell_lt q0
    have qf : ∀ o, w4.frozen? ⟨w.heap.size + 2, o, none⟩ = false := fun o => (hx4.frozen (p := ⟨w.heap.size + 2, o, none⟩) zr3).trans (rf o)
    have s0 := set_other (set_cell q0 (.int .i64 al)) (p := ⟨w.heap.size + 2, 1, none⟩) (.inr (by simp)) (.int .i64 ah)
    have s1 := set_cell (set_other q1 (p := ⟨w.heap.size + 2, 0, none⟩) (.inr (by simp)) (.int .i64 al)) (.int .i64 ah)
    have xS : Ext w ((w4.setCell ⟨w.heap.size + 2, 0, none⟩ (.int .i64 al)).setCell ⟨w.heap.size + 2, 1, none⟩ (.int .i64 ah)) := (x4.setCell (by simp) _).setCell (by simp) _
    have HS := Lib.hid xS
    clear hx4 hnu xS x4 x3 x2 r0 r1 rf
    go_wp2
    refine bodyPost_ret (v := .tuple #[.agg #[.int .i64 al, .int .i64 ah], .int .i64 ne]) (by simp [results, Try.results24, go_sem, s0, s1]) rfl ⟨rfl, HS.out⟩
end Go.Proofs.Ytdadffmagfknoaa

namespace Go.Proofs.Ytdadffmagfknoaa
set_option linter.unusedSimpArgs false
set_option linter.unusedVariables false
open Go.RowKit
set_option linter.unusedVariables false
set_option maxRecDepth 100000
theorem ov_in (a b : Int) : ∀ (l : List (Int × Int)) (st : (Int × Int) × Int), (∀ s ∈ l, a ≤ s.1 ∧ s.1 ≤ b) → (st.2 = 0 → a ≤ st.1.1 ∧ st.1.1 ≤ b) → (l.foldl ovStep st).2 = 0 → a ≤ (l.foldl ovStep st).1.1 ∧ (l.foldl ovStep st).1.1 ≤ b
  | [], st, _, h, e => h e
  | s :: l, st, hl, h, e => by
    refine ov_in a b l (ovStep st s) (fun x hx => hl x (List.mem_cons_of_mem _ hx)) (fun _ => ?_) e
    have hs := hl s List.mem_cons_self
    unfold ovStep
    by_cases h0 : st.2 = 0
    · have := h h0
      simp only [h0, ne_eq, not_true_eq_false, if_false]
      omega
    · simp only [ne_eq, h0, not_false_eq_true, if_true]
      omega
theorem numM_in {f : List Int → Int} {l : List (List Int)} {a b : Int} (h : ∀ r ∈ l, a ≤ f r ∧ f r ≤ b) (e : (numM f l).2 = 0) : a ≤ (numM f l).1.1 ∧ (numM f l).1.1 ≤ b := by
  refine ov_in a b _ ((0, 0), 8) ?_ (fun e => by cases e) e
  intro s hs
  obtain ⟨r, hr, rfl⟩ := List.mem_map.1 hs
  exact h r hr
/-- the first agent who pays enough for the fewest pence, or none -/
def SendIs (h : House) (lo far a n e : Int) : Prop :=
  (e = 0 ∧ ∃ an nn : Nat, a = an ∧ n = nn ∧ nn < 100 ∧ an < h.agents.length ∧ far ≤ payM (agtAt h an) nn lo ∧ (∀ n' : Nat, n' < nn → ∀ a' : Nat, a' < h.agents.length → payM (agtAt h a') n' lo < far) ∧ ∀ a' : Nat, a' < an → payM (agtAt h a') nn lo < far) ∨
  (e = 9 ∧ a = 0 ∧ n = 0 ∧ ∀ n' : Nat, n' < 100 → ∀ a' : Nat, a' < h.agents.length → payM (agtAt h a') n' lo < far)
def SendR (h : House) (l : List ArgR) (d far a n e : Int) : Prop :=
  (openR h l ≠ 0 ∧ a = 0 ∧ n = 0 ∧ e = openR h l) ∨ (openR h l = 0 ∧ (numM (fun r => r.getD d.toNat 0) (truL h (outB 0))).2 ≠ 0 ∧ a = 0 ∧ n = 0 ∧ e = (numM (fun r => r.getD d.toNat 0) (truL h (outB 0))).2) ∨
  (openR h l = 0 ∧ (numM (fun r => r.getD d.toNat 0) (truL h (outB 0))).2 = 0 ∧ SendIs h (numM (fun r => r.getD d.toNat 0) (truL h (outB 0))).1.1 far a n e)
set_option maxHeartbeats 8000000 in
theorem sendQ_any (hv : Value) (H : House) (d n : Int) (hd64 : I64 d) (hn64 : I64 n) (w : World) (hh : HouseAt w hv H) (dm : Int) (hdm : IntKind.i64.wrap (H.days - 1) = dm) (nm : (Int × Int) × Int) (hnm : numM (fun r => r.getD d.toNat 0) (truL H (outB 0)) = nm)
    (Q : Int → Int → Int → Prop) (hq1 : openR H [⟨d, dm, 4⟩, ⟨n, 198, 7⟩] ≠ 0 → Q 0 0 (openR H [⟨d, dm, 4⟩, ⟨n, 198, 7⟩])) (hq2 : openR H [⟨d, dm, 4⟩, ⟨n, 198, 7⟩] = 0 → nm.2 ≠ 0 → Q 0 0 nm.2) (hq3 : openR H [⟨d, dm, 4⟩, ⟨n, 198, 7⟩] = 0 → nm.2 = 0 → ∀ sa sn se, SendIs H nm.1.1 n sa sn se → Q sa sn se) :
    Calls Try.prog 32 #[hv, .int .i64 d, .int .i64 n] w fun e w' => ∃ sa sn se, e = .returned (.tuple #[.int .i64 sa, .int .i64 sn, .int .i64 se]) ∧ Q sa sn se ∧ Ext w w' := by
  have hop := fun w' hx av ha => openR_any hv av H [⟨d, dm, 4⟩, ⟨n, 198, 7⟩] w w' hh hx ha
  have hok : openR H [⟨d, dm, 4⟩, ⟨n, 198, 7⟩] = 0 → ValidH H ∧ (0 ≤ d ∧ d ≤ dm) ∧ (0 ≤ n ∧ n ≤ 198) := fun e => by
    obtain ⟨h1, h2⟩ := openR_ok e
    exact ⟨h1, h2 _ List.mem_cons_self (by show (4 : Int) ≠ 0; decide), h2 _ (List.mem_cons_of_mem _ List.mem_cons_self) (by show (7 : Int) ≠ 0; decide)⟩
  generalize openR H [⟨d, dm, 4⟩, ⟨n, 198, 7⟩] = er at *
  have HQ1 := Lib.hid hq1
  have HQ2 := Lib.hid hq2
  have HQ3 := Lib.hid hq3
  have HNM := Lib.hid hnm
  have HOK := Lib.hid hok
  have HDM := Lib.hid hdm
  clear hq1 hq2 hq3 hnm hok hdm
  obtain ⟨ra, rc, aa, ac, ea, ec, rfl, hdi, hsi, -, -, -⟩ := hh
  obtain ⟨W, hW⟩ : ∃ W, W = w.alloc (.cells #[.int .i64 H.days, .slice ra H.rates.length rc, .int .i64 H.step, .slice aa H.agents.length ac, .slice ea H.entries.length ec] 26) := ⟨_, rfl⟩
  have xW : Ext w W := by rw [hW]; exact ext_alloc _ _
  have q0 : BoxIs W w.heap.size [.int .i64 H.days, .slice ra H.rates.length rc, .int .i64 H.step, .slice aa H.agents.length ac, .slice ea H.entries.length ec] := fun j v hj => by
    rw [hW]
    match j, hj with
    | 0, hj => simp at hj; subst hj; simp [go_sem]
    | 1, hj => simp at hj; subst hj; simp [go_sem]
    | 2, hj => simp at hj; subst hj; simp [go_sem]
    | 3, hj => simp at hj; subst hj; simp [go_sem]
    | 4, hj => simp at hj; subst hj; simp [go_sem]
  have i0 := q0 0 _ rfl
  have i1 := q0 1 _ rfl
  have i2 := q0 2 _ rfl
  have i3 := q0 3 _ rfl
  have i4 := q0 4 _ rfl
  have HW := Lib.hid hW
  clear hW q0
  go_enter Try.func32, Try.ntmps32
  go_wp2_with fail
  rw [← HW.out]
  apply Facts.Peel.wp_regionL (two_chs W.heap.size) 14 13 [.val (.agg #[.int .i64 H.days, .slice ra H.rates.length rc, .int .i64 H.step, .slice aa H.agents.length ac, .slice ea H.entries.length ec]), .val (.int .i64 d), .val _, .val (.int .i64 H.days), .val (argV ⟨d, dm, 4⟩), .val (.int .i64 n), .val (argV ⟨n, 198, 7⟩), .fact (NewArgs W.heap.size [⟨d, dm, 4⟩, ⟨n, 198, 7⟩]), .fact (OpenT W.heap.size w H er), .on [8] (fun l u _ => l = [u]), .on [8] (fun l u _ => l = [.tuple #[u, .int .i64 er]]), .val (.int .i64 er), .fact (NewH W.heap.size), .on [12, 8] (fun l _ W' => StoredH W.heap.size er l W')] (by kernel_rfl) (by kernel_rfl) (by kernel_rfl) (by kernel_rfl) (by kernel_rfl) (by kernel_rfl) ?keep ?main
  case keep => exact ⟨fun u a c hx h => h.ext hx, fun _ _ u a c hx h => h.chs hx, fun u a c hx h => h.ext hx, fun _ _ u a c hx h => h.chs hx, fun _ _ _ _ _ h => h, fun _ _ _ _ _ _ _ h => h, fun _ _ _ _ _ h => h, fun _ _ _ _ _ _ _ h => h, fun u a c hx h => h.ext hx, fun _ _ u a c hx h => h.chs hx, fun l u a c hx h => h.ext hx, fun h => absurd rfl h, trivial⟩
  case main =>
    simp only [List.take_succ_cons, List.take_zero, List.getD_cons_succ, List.getD_cons_zero]
    iterate 4 (refine ⟨fun w1 hx hh => ?_, ?_⟩; focus (clear hh; (have hx2 : Ext W w1 := (hx (Nat.le_refl _)).1; have f0 := hx2.cell i0; have f1 := hx2.cell i1; have f2 := hx2.cell i2; have f3 := hx2.cell i3; have f4 := hx2.cell i4); go_simp; first | exact ⟨Ext.refl _, rfl⟩ | exact Ext.refl _))
    refine ⟨fun w1 hx hh => ?_, ?_⟩
    · clear hh
      go_simp
      refine (indexR_any d H.days w1).mono ?_
      rintro e w' ⟨rfl, hx9⟩
      rw [HDM.out]
      exact ⟨_, rfl, hx9, rfl⟩
    iterate 1 (refine ⟨fun w1 hx hh => ?_, ?_⟩; focus (clear hh; (have hx2 : Ext W w1 := (hx (Nat.le_refl _)).1; have f0 := hx2.cell i0; have f1 := hx2.cell i1; have f2 := hx2.cell i2; have f3 := hx2.cell i3; have f4 := hx2.cell i4); go_simp; first | exact ⟨Ext.refl _, rfl⟩ | exact Ext.refl _))
    refine ⟨fun w1 hx hh => ?_, ?_⟩
    · clear hh
      go_simp
      refine (penceR_any n 198 w1).mono ?_
      rintro e w' ⟨rfl, hx9⟩
      exact ⟨_, rfl, hx9, rfl⟩
    refine ⟨fun w1 hx hh => ?_, ?_⟩
    · clear hh
      unfold argV
      have hn := (hx (Nat.le_refl _)).2.1
      go_simp
      exact ⟨ext_alloc _ _, Nat.le_trans hn (by simp), w1.heap.size, rfl, heap_alloc_new w1 _⟩
    intro u7
    refine ⟨fun w1 hx hh => ?_, ?_⟩
    · have h5 := hh 7 _ List.mem_cons_self (by kernel_rfl)
      have hx2 : Ext W w1 := (hx (Nat.le_refl _)).1
      have hA := NewArgs.at h5 (by simp) (by simp; exact ⟨hd64, hn64⟩)
      have hz := (hx (Nat.le_refl _)).2.1
      clear hh
      go_simp
      refine (hop w1 (xW.trans hx2) u7 hA).mono ?_
      rintro e w' ⟨v, rfl, hG, hx9⟩
      exact ⟨_, rfl, hx9, Nat.le_trans hz hx9.size, v, rfl, hG⟩
    intro u8
    refine ⟨fun w1 hx hh => ?_, ?_⟩
    · clear hh
      go_simp
      first | exact ⟨Ext.refl _, rfl⟩ | exact Ext.refl _
    intro u9
    refine ⟨fun w1 hx hh => ?_, ?_⟩
    · have h7 := hh 9 _ List.mem_cons_self (by kernel_rfl)
      have h6 : OpenT W.heap.size w H er u8 w1 := hh 8 _ (List.mem_cons_of_mem _ List.mem_cons_self) (by kernel_rfl)
      have e7 : u8 = u9 := (List.cons.inj h7).1
      have e6 := OpenT.eq h6
      generalize OpenT.p h6 = p at *
      clear hh h7
      subst e7
      subst e6
      go_simp
      exact ⟨Ext.refl _, rfl⟩
    intro u10
    refine ⟨fun w1 hx hh => ?_, ?_⟩
    · have h7 := hh 9 _ (List.mem_cons_of_mem _ List.mem_cons_self) (by kernel_rfl)
      have h6 : OpenT W.heap.size w H er u8 w1 := hh 8 _ (List.mem_cons_of_mem _ (List.mem_cons_of_mem _ List.mem_cons_self)) (by kernel_rfl)
      have e7 : u8 = u9 := (List.cons.inj h7).1
      have e6 := OpenT.eq h6
      generalize OpenT.p h6 = p at *
      clear hh h7
      subst e7
      subst e6
      go_simp
      first | exact ⟨Ext.refl _, rfl⟩ | exact Ext.refl _
    refine ⟨fun w1 hx hh => ?_, ?_⟩
    · clear hh
      have hz := (hx (Nat.le_refl _)).2.1
      go_simp
      exact ⟨ext_alloc _ _, Nat.le_trans hz (by simp), w1.heap.size, _, rfl, hz, heap_alloc_new w1 _, rfl⟩
    intro u12
    refine ⟨fun w1 hx hh => ?_, ?_⟩
    · have h10 : NewH W.heap.size u12 w1 := hh 12 _ List.mem_cons_self (by kernel_rfl)
      have h8 := hh 10 _ (List.mem_cons_of_mem _ List.mem_cons_self) (by kernel_rfl)
      have h6 : OpenT W.heap.size w H er u8 w1 := hh 8 _ (List.mem_cons_of_mem _ (List.mem_cons_of_mem _ (List.mem_cons_of_mem _ List.mem_cons_self))) (by kernel_rfl)
      have e8 : u8 = .tuple #[u10, .int .i64 er] := (List.cons.inj h8).1
      have e6 := OpenT.eq h6
      have e9 : u10 = .agg #[.int .i64 (OpenT.p h6).d, .slice (OpenT.p h6).ra (OpenT.p h6).rn (OpenT.p h6).rc, .int .i64 (OpenT.p h6).s, .slice (OpenT.p h6).aa (OpenT.p h6).an (OpenT.p h6).ac, .slice (OpenT.p h6).ea (OpenT.p h6).en (OpenT.p h6).ec, .map (OpenT.p h6).m] := by
        rw [e6] at e8
        simp only [Value.tuple.injEq, Array.mk.injEq, List.cons.injEq, and_true] at e8
        exact e8.symm
      have e10 := NewH.ptr h10
      have hb := NewH.le h10
      have hcs := NewH.heap h10
      have h66 := NewH.six h10
      have c0 := NewH.c h10 0 (by omega)
      have c1 := NewH.c h10 1 (by omega)
      have c2 := NewH.c h10 2 (by omega)
      have c3 := NewH.c h10 3 (by omega)
      have c4 := NewH.c h10 4 (by omega)
      have c5 := NewH.c h10 5 (by omega)
      have hfz := NewH.free h10
      generalize NewH.b h10 = b at *
      generalize NewH.cs h10 = cs at *
      generalize OpenT.p h6 = p at *
      have hC := chs_set6 hb hcs (.int .i64 p.d) (.slice p.ra p.rn p.rc) (.int .i64 p.s) (.slice p.aa p.an p.ac) (.slice p.ea p.en p.ec) (.map p.m)
      have hB := box_of_cells hcs h66 (.int .i64 p.d) (.slice p.ra p.rn p.rc) (.int .i64 p.s) (.slice p.aa p.an p.ac) (.slice p.ea p.en p.ec) (.map p.m)
      have HC := Lib.hid hC
      have HB := Lib.hid hB
      clear hh hC hB h10 h8 h6 hcs e8
      subst e9
      subst e6
      subst e10
      go_simp
      exact ⟨HC.out, b, p, rfl, hb, HB.out⟩
    intro u12x
    intro w1 hx hh
    have h11 : StoredH W.heap.size er [u12, u8] w1 := hh 13 _ List.mem_cons_self
    have h8 := hh 10 _ (List.mem_cons_of_mem _ (List.mem_cons_of_mem _ List.mem_cons_self))
    have h7 := hh 9 _ (List.mem_cons_of_mem _ (List.mem_cons_of_mem _ (List.mem_cons_of_mem _ List.mem_cons_self)))
    have h6 : OpenT W.heap.size w H er u8 w1 := hh 8 _ (List.mem_cons_of_mem _ (List.mem_cons_of_mem _ (List.mem_cons_of_mem _ (List.mem_cons_of_mem _ List.mem_cons_self))))
    have e7 : u8 = u9 := (List.cons.inj h7).1
    have e8 : u8 = .tuple #[u10, .int .i64 er] := (List.cons.inj h8).1
    have hQ := soQ_is h11 h6
    generalize soQ h11 h6 = q at *
    have e10 := hQ.1
    have e6 := hQ.2.1
    have hxW : Ext W w1 := (hx (Nat.le_refl _)).1
    have hb := hQ.2.2.1
    have hbox := hQ.2.2.2.1
    have hG := hQ.2.2.2.2
    have e9 : u10 = q.2.v := by
      rw [e6] at e8
      have := Value.tuple.inj e8
      simp only [Array.mk.injEq, List.cons.injEq, and_true] at this
      exact this.symm
    clear hh h11 h8 h7 h6 hQ e8 hx
    subst e7
    subst e9
    subst e6
    subst e10
    have x1 := xW.trans hxW
    have HG := Lib.hid hG
    have HB := Lib.hid hbox
    clear hG hbox i0 i1 i2 i3 i4
    refine ⟨rfl, ?_⟩
    go_simp
    have j0 := HB.out 0 _ rfl
    have j1 := HB.out 1 _ rfl
    have j2 := HB.out 2 _ rfl
    have j3 := HB.out 3 _ rfl
    have j4 := HB.out 4 _ rfl
    have j5 := HB.out 5 _ rfl
    have zb : q.1 < w1.heap.size := cell_lt j0
    by_cases h0 : er = 0
    rotate_left
    · have k0 : (er != 0) = true := by simpa using h0
      have hq := HQ1.out h0
      have HQ := Lib.hid hq
      clear h0 hq hop HQ1
      go_wp2
      go_ret3
      exact ⟨_, _, _, rfl, HQ.out, x1⟩
    subst h0
    have hL := HG.out.look x1 rfl
    obtain ⟨hV, ⟨hd0, hd1⟩, hn99⟩ := HOK.out rfl
    have hdy := hV.days
    have hdm := HDM.out
    rw [IntWalk.i64_in _ (by omega)] at hdm
    have hdl : d.toNat < H.days.toNat := by omega
    have hrt := fun w hl => rate_any q.2.v H hV d.toNat hdl w hl
    rw [show ((d.toNat : Nat) : Int) = d by omega] at hrt
    simp only [HNM.out] at hrt
    obtain ⟨⟨al, ah⟩, ae⟩ := nm
    have hal : ae = 0 → 0 ≤ al ∧ al ≤ 20 := fun e => by
      have h1 := numM_in (f := fun r => r.getD d.toNat 0) (l := truL H (outB 0)) (a := 0) (b := 20) (fun r hr => by
        have := ratesL_good hV (truL_sub hV hr) hdl
        omega) (by rw [HNM.out]; exact e)
      rw [HNM.out] at h1
      exact h1
    have hpin := fun (a : Nat) (ha : a < H.agents.length) => hV.agent _ (agtAt_mem (i := (a : Int)) (by omega) (by omega : (a : Int) < H.agents.length))
    have hag := hV.agents
    obtain ⟨pay, hpay⟩ : ∃ pay : Nat → Nat → Int, pay = fun (n' a' : Nat) => payM (agtAt H (a' : Int)) (n' : Int) al := ⟨_, rfl⟩
    have hL0 := hL
    obtain ⟨ra2, rc2, aa2, ac2, ea2, ec2, B2, M2, e2, -, -, -, -, -⟩ := hL0
    have ql : q.2.l = [.int .i64 H.days, .slice ra2 H.rates.length rc2, .int .i64 H.step, .slice aa2 H.agents.length ac2, .slice ea2 H.entries.length ec2, .map (some B2)] := by
      rw [H6.v_l] at e2
      have := Value.agg.inj (e2.trans (show houseV H ra2 aa2 ea2 rc2 ac2 ec2 (.map (some B2)) = .agg [.int .i64 H.days, .slice ra2 H.rates.length rc2, .int .i64 H.step, .slice aa2 H.agents.length ac2, .slice ea2 H.entries.length ec2, .map (some B2)].toArray from rfl))
      simpa using congrArg Array.toList this
    have hbq := HB.out
    rw [ql] at hbq
    rw [e2] at hL hrt
    have i0' := hbq 0 _ rfl
    have i1' := hbq 1 _ rfl
    have i2' := hbq 2 _ rfl
    have i3' := hbq 3 _ rfl
    have i4' := hbq 4 _ rfl
    have i5' := hbq 5 _ rfl
    have HQ2b := HQ2
    have HQ3b := HQ3
    have hag3 : ∀ w', Ext w1 w' → ∀ (j k : Nat), j < H.agents.length → Calls Try.prog 71 #[houseV H ra2 aa2 ea2 rc2 ac2 ec2 (.map (some B2)), .agg #[.int .i64 j, .int .i64 d, .int .i64 k, .int .i64 0]] w' fun r w'' => r = .returned (entryV ⟨j, d, k, 0⟩ (agtAt H j)) ∧ Ext w' w'' := fun w' hx j k hj => by
      have hL' := hL.ext hx
      obtain ⟨ra3, rc3, aa3, ac3, ea3, ec3, B3, M3, e3, -, hA3, -, -, -⟩ := hL'
      rw [e3]
      exact entry_any H ra3 aa3 ea3 rc3 ac3 ec3 (.map (some B3)) ⟨j, d, k, 0⟩ (agtAt H j) w' hA3 j hj rfl (by unfold agtAt; rw [List.getD_eq_getElem?_getD, Int.toNat_natCast, List.getElem?_eq_getElem hj]; rfl) (hpin j hj).2
    have hpy : ae = 0 → ∀ w' (j k : Nat), j < H.agents.length → k < 100 → Calls Try.prog 72 #[entryV ⟨j, d, k, 0⟩ (agtAt H j), .int .i64 al] w' fun r w'' => r = .returned (.int .i64 (pay k j)) ∧ Ext w' w'' := fun e w' j k hj hk => by
      rw [hpay]
      exact pays_any ⟨j, d, k, 0⟩ (agtAt H j) al (hpin j hj).1 (hpin j hj).2 ⟨by show (0 : Int) ≤ (k : Int); omega, by show (k : Int) ≤ 99; omega⟩ (hal e) w'
    have hpi : ae = 0 → ∀ (j k : Nat), j < H.agents.length → k < 100 → 0 ≤ pay k j ∧ pay k j ≤ 199 := fun e j k hj hk => by
      rw [hpay]
      exact payM_in (hpin j hj).1 ⟨by show (0 : Int) ≤ (k : Int); omega, by show (k : Int) ≤ 99; omega⟩ (hal e)
    have HL := Lib.hid hL
    have HPAY := Lib.hid hpay
    clear hL hop HOK HDM HNM hdm hbq ql e2 HQ1 HB HG j0 j1 j2 j3 j4 j5 hpin hal hpay hd0 hd1 hdl
    simp only at HQ2 HQ3
    unfold houseV at hrt HL hag3
    unfold spanV at hrt
    have zb1 : q.1 < w1.heap.size := cell_lt i0'
    go_wp2_with fail
    refine (hrt _ HL.out).mono ?_
    rintro e w2 ⟨rfl, hx2⟩
    have x2 := x1.trans hx2
    clear hrt
    by_cases h0 : ae = 0
    rotate_left
    · have k0 : (ae != 0) = true := by simpa using h0
      have hq := HQ2.out (by simp) h0
      have HQ := Lib.hid hq
      clear h0 hq
      go_wp2
      go_ret3
      exact ⟨_, _, _, rfl, HQ.out, x2.alloc _⟩
    subst h0
    obtain ⟨W2, hW2⟩ : ∃ W2, W2 = w2.alloc (.cells #[.int .i64 al, .int .i64 ah] 35) := ⟨_, rfl⟩
    have xW2 : Ext w2 W2 := by rw [hW2]; exact ext_alloc _ _
    have b0 : W2.cell? ⟨w2.heap.size, 0, none⟩ = some (.int .i64 al) := by rw [hW2]; simp [go_sem]
    have x12 := hx2.trans xW2
    replace i0' := x12.cell i0'
    replace i1' := x12.cell i1'
    replace i2' := x12.cell i2'
    replace i3' := x12.cell i3'
    replace i4' := x12.cell i4'
    replace i5' := x12.cell i5'
    have xWW : Ext w W2 := x1.trans x12
    replace hpy := hpy rfl
    replace hpi := hpi rfl
    have HW2 := Lib.hid hW2
    have X12 := Lib.hid x12
    clear hW2 x12 xW2 hx2 x2 x1
    go_wp2_with fail
    rw [← HW2.out]
    go_loopw [37] (fun kv wr => ∃ k : Nat, k ≤ 100 ∧ kv = .int .i64 k ∧ (∀ n' : Nat, n' < k → ∀ a' : Nat, a' < H.agents.length → pay n' a' < n) ∧ Ext W2 wr) (fun kv _ => 100 - (intOf kv).toNat)
    case atStart => exact ⟨0, Nat.zero_le _, rfl, fun n' h => absurd h (Nat.not_lt_zero _), Ext.refl _⟩
    case round =>
      obtain ⟨k, hk, rfl, hlow, hx⟩ := hrel
      have HLOW := Lib.hid hlow
      clear hlow
      by_cases hlt : k < 100
      · have k1 : (k : Int) < 100 := by omega
        have c0 := hx.cell i0'
        have c3 := hx.cell i3'
        have zq1 := cell_lt c0
        go_wp2_with fail
        go_loopw [44] (fun jv wr' => ∃ j : Nat, j ≤ H.agents.length ∧ jv = .int .i64 j ∧ (∀ a' : Nat, a' < j → pay k a' < n) ∧ Ext W2 wr') (fun jv _ => H.agents.length - (intOf jv).toNat)
        case atStart => exact ⟨0, Nat.zero_le _, rfl, fun n' h => absurd h (Nat.not_lt_zero _), hx⟩
        case round =>
          obtain ⟨j, hj, rfl, hlowj, hxj⟩ := hrel
          have HLOWJ := Lib.hid hlowj
          clear hlowj
          by_cases hltj : j < H.agents.length
          · have k2 : (j : Int) < (H.agents.length : Int) := by omega
            have hcE := fun w' (hx' : Ext W2 w') => hag3 w' (X12.out.trans hx') j k hltj
            have hcP := fun w' => hpy w' j k hltj hlt
            have hpb := hpi j k hltj hlt
            obtain ⟨p, hp⟩ : ∃ p, pay k j = p := ⟨_, rfl⟩
            simp only [hp] at hcP hpb
            have HP := Lib.hid hp
            obtain ⟨ev, hev⟩ : ∃ ev, entryV ⟨j, d, k, 0⟩ (agtAt H j) = ev := ⟨_, rfl⟩
            simp only [hev] at hcE hcP
            clear hev hp
            go_wp2_with fail
            apply Facts.wp_region [.val (.agg #[.int .i64 H.days, .slice ra2 H.rates.length rc2, .int .i64 H.step, .slice aa2 H.agents.length ac2, .slice ea2 H.entries.length ec2, .map (some B2)]), .val (.int .i64 j), .val (.int .i64 d), .val (.int .i64 k), .val (.agg #[.int .i64 j, .int .i64 d, .int .i64 k, .int .i64 0]), .val ev, .val _, .val (.int .i64 al), .val (.int .i64 p), .val (.int .i64 n), .val (.bool (decide (n ≤ p)))] (by kernel_rfl) (by kernel_rfl) trivial ?main13
            case main13 =>
              iterate 5 (refine ⟨fun w1 hx hh => ?_, ?_⟩; focus (clear hh; (have hx2 : Ext W2 w1 := hxj.trans hx; have f0 := hx2.cell i0'; have f1 := hx2.cell i1'; have f2 := hx2.cell i2'; have f3 := hx2.cell i3'; have f4 := hx2.cell i4'; have f5 := hx2.cell i5'; have f6 := hx2.cell b0); go_simp; first | exact ⟨Ext.refl _, rfl⟩ | exact Ext.refl _))
              refine ⟨fun w9 hx9 hh => ?_, ?_⟩
              · clear hh
                go_simp
                refine (hcE w9 (hxj.trans hx9)).mono ?_
                rintro e w' ⟨rfl, hx8⟩
                exact ⟨_, rfl, hx8, rfl⟩
              iterate 2 (refine ⟨fun w1 hx hh => ?_, ?_⟩; focus (clear hh; (have hx2 : Ext W2 w1 := hxj.trans hx; have f6 := hx2.cell b0); go_simp; first | exact ⟨Ext.refl _, rfl⟩ | exact Ext.refl _))
              refine ⟨fun w9 hx9 hh => ?_, ?_⟩
              · clear hh
                go_simp
                refine (hcP w9).mono ?_
                rintro e w' ⟨rfl, hx8⟩
                exact ⟨_, rfl, hx8, rfl⟩
              iterate 2 (refine ⟨fun w1 hx hh => ?_, ?_⟩; focus (clear hh; skip; go_simp; first | exact ⟨Ext.refl _, rfl⟩ | exact Ext.refl _))
              intro w9 hx9 hh
              clear hh
              have x9 := hxj.trans hx9
              go_simp
              by_cases hge : n ≤ p
              · have hs : SendIs H al n j k 0 := .inl ⟨rfl, j, k, rfl, rfl, hlt, hltj, by have := HP.out; rw [HPAY.out] at this; simp only at this; rw [this]; exact hge, fun n' hn' a' ha' => by have := HLOW.out n' hn' a' ha'; rw [HPAY.out] at this; exact this, fun a' ha' => by have := HLOWJ.out a' ha'; rw [HPAY.out] at this; exact this⟩
                have hq := HQ3.out (by simp) (by simp) _ _ _ hs
                have HQ := Lib.hid hq
                have XF := Lib.hid (xWW.trans x9)
                clear hs hq
                go_wp2
                go_ret3
                exact ⟨_, _, _, rfl, HQ.out, XF.out⟩
              · have hlt' : p < n := by omega
                have HLT := Lib.hid hlt'
                clear hlt'
                go_wp2
                go_roundw
                case rel => exact ⟨j + 1, by omega, by go_num, fun a' ha' => by
                  rcases Nat.lt_succ_iff_lt_or_eq.1 ha' with h1 | rfl
                  · exact HLOWJ.out a' h1
                  · rw [HP.out]; exact HLT.out, x9⟩
                case measure => simp [intOf]; omega
          · have hje : j = H.agents.length := by omega
            subst hje
            go_wp2
            go_roundw
            case rel => exact ⟨k + 1, by omega, by go_num, fun n' hn' a' ha' => by
              rcases Nat.lt_succ_iff_lt_or_eq.1 hn' with h1 | rfl
              · exact HLOW.out n' h1 a' ha'
              · exact HLOWJ.out a' ha', hxj⟩
            case measure => simp [intOf]; omega
      · have hke : k = 100 := by omega
        subst hke
        have hs : SendIs H al n 0 0 9 := .inr ⟨rfl, rfl, rfl, fun n' hn' a' ha' => by have := HLOW.out n' hn' a' ha'; rw [HPAY.out] at this; exact this⟩
        have hq := HQ3.out (by simp) (by simp) _ _ _ hs
        have HQ := Lib.hid hq
        have XF := Lib.hid (xWW.trans hx)
        clear hs hq
        go_wp2
        go_ret3
        exact ⟨_, _, _, rfl, HQ.out, XF.out⟩
theorem sendPub_any (hv : Value) (H : House) (d n : Int) (hd64 : I64 d) (hn64 : I64 n) (w : World) (hh : HouseAt w hv H) :
    Calls Try.prog 32 #[hv, .int .i64 d, .int .i64 n] w fun e w' => ∃ sa sn se, e = .returned (.tuple #[.int .i64 sa, .int .i64 sn, .int .i64 se]) ∧ SendR H [⟨d, daysM H, 4⟩, ⟨n, 198, 7⟩] d n sa sn se ∧ Ext w w' :=
  sendQ_any hv H d n hd64 hn64 w hh (daysM H) rfl _ rfl (SendR H [⟨d, daysM H, 4⟩, ⟨n, 198, 7⟩] d n) (fun h => .inl ⟨h, rfl, rfl, rfl⟩) (fun h h2 => .inr (.inl ⟨h, h2, rfl, rfl, rfl⟩)) (fun h h2 _ _ _ hs => .inr (.inr ⟨h, h2, hs⟩))
end Go.Proofs.Ytdadffmagfknoaa

namespace Go.Proofs.Ytdadffmagfknoaa
set_option linter.unusedSimpArgs false
set_option linter.unusedVariables false
open Go.RowKit
set_option linter.unusedVariables false
set_option maxRecDepth 100000
def exHouse (far : Int) : House := ⟨2, [(10, 14), (8, 16)], 2, [⟨⟨#[108, 105, 109, 97]⟩, 1, 0⟩, ⟨⟨#[99, 97, 100, 105, 122]⟩, 3, 1⟩], [⟨0, 0, 26, 30⟩, ⟨1, 1, 18, far⟩]⟩
theorem lawSpan_any (a b : Int) (w : World) : Calls Try.prog 35 #[.int .i64 a, .int .i64 b] w fun e w' => e = .returned (.agg #[.int .i64 a, .int .i64 b]) ∧ Ext w w' := by
  go_enter Try.func35, Try.ntmps35
  go_wp2
  refine bodyPost_ret (v := .agg #[.int .i64 a, .int .i64 b]) (by simp [results, Try.results35, go_sem]) rfl ⟨rfl, (by first | (with_reducible exact Ext.refl _) | (with_reducible assumption) | (show Below _ _ _; go_grown; done))⟩
theorem set5_box {W : World} {rb : Nat} {a b c d e x y z u v : Value} (h : BoxIs W rb [a, b, c, d, e]) : BoxIs (((((W.setCell ⟨rb, 0, none⟩ x).setCell ⟨rb, 1, none⟩ y).setCell ⟨rb, 2, none⟩ z).setCell ⟨rb, 3, none⟩ u).setCell ⟨rb, 4, none⟩ v) rb [x, y, z, u, v] := by
  have h1 := h.set 0 (by simp) x
  have h2 := h1.set 1 (by simp) y
  have h3 := h2.set 2 (by simp) z
  have h4 := h3.set 3 (by simp) u
  have h5 := h4.set 4 (by simp) v
  simpa using h5
theorem set5_ext {w W : World} {rb : Nat} (h : Ext w W) (hb : w.heap.size ≤ rb) (x y z u v : Value) : Ext w (((((W.setCell ⟨rb, 0, none⟩ x).setCell ⟨rb, 1, none⟩ y).setCell ⟨rb, 2, none⟩ z).setCell ⟨rb, 3, none⟩ u).setCell ⟨rb, 4, none⟩ v) :=
  ((((h.setCell (p := ⟨rb, 0, none⟩) hb _).setCell (p := ⟨rb, 1, none⟩) hb _).setCell (p := ⟨rb, 2, none⟩) hb _).setCell (p := ⟨rb, 3, none⟩) hb _).setCell (p := ⟨rb, 4, none⟩) hb _
theorem set5_off {W : World} {rb b i : Nat} {t : Value} (h : W.cell? ⟨b, i, none⟩ = some t) (hb : rb ≠ b) (x y z u v : Value) : (((((W.setCell ⟨rb, 0, none⟩ x).setCell ⟨rb, 1, none⟩ y).setCell ⟨rb, 2, none⟩ z).setCell ⟨rb, 3, none⟩ u).setCell ⟨rb, 4, none⟩ v).cell? ⟨b, i, none⟩ = some t :=
  set_other (set_other (set_other (set_other (set_other h (.inl hb) _) (.inl hb) _) (.inl hb) _) (.inl hb) _) (.inl hb) _
theorem house_tail (far : Int) (hf : -1 ≤ far ∧ far ≤ 1000) (w w2 : World) (x2 : Ext w w2) (zz : w.heap.size < w2.heap.size) (hb2 : BoxIs w2 w.heap.size [.int .i64 0, .slice none 0 0, .int .i64 0, .slice none 0 0, .slice none 0 0]) :
    BoxIs ((((((((w2.alloc (.cells #[.int .i64 10, .int .i64 14, .int .i64 8, .int .i64 16] 35)).alloc (.cells #[.string ⟨#[108, 105, 109, 97]⟩, .int .i64 1, .int .i64 0, .string ⟨#[99, 97, 100, 105, 122]⟩, .int .i64 3, .int .i64 1] 72)).alloc (.cells #[.int .i64 0, .int .i64 0, .int .i64 26, .int .i64 30, .int .i64 1, .int .i64 1, .int .i64 18, .int .i64 far] 58)).setCell ⟨w.heap.size, 0, none⟩ (.int .i64 2)).setCell ⟨w.heap.size, 1, none⟩ (.slice (some ⟨w2.heap.size, 0, none⟩) 2 2)).setCell ⟨w.heap.size, 2, none⟩ (.int .i64 2)).setCell ⟨w.heap.size, 3, none⟩ (.slice (some ⟨w2.heap.size + 1, 0, none⟩) 2 2)).setCell ⟨w.heap.size, 4, none⟩ (.slice (some ⟨w2.heap.size + 1 + 1, 0, none⟩) 2 2)) w.heap.size [.int .i64 2, .slice (some ⟨w2.heap.size, 0, none⟩) 2 2, .int .i64 2, .slice (some ⟨w2.heap.size + 1, 0, none⟩) 2 2, .slice (some ⟨w2.heap.size + 1 + 1, 0, none⟩) 2 2] ∧ Ext w ((((((((w2.alloc (.cells #[.int .i64 10, .int .i64 14, .int .i64 8, .int .i64 16] 35)).alloc (.cells #[.string ⟨#[108, 105, 109, 97]⟩, .int .i64 1, .int .i64 0, .string ⟨#[99, 97, 100, 105, 122]⟩, .int .i64 3, .int .i64 1] 72)).alloc (.cells #[.int .i64 0, .int .i64 0, .int .i64 26, .int .i64 30, .int .i64 1, .int .i64 1, .int .i64 18, .int .i64 far] 58)).setCell ⟨w.heap.size, 0, none⟩ (.int .i64 2)).setCell ⟨w.heap.size, 1, none⟩ (.slice (some ⟨w2.heap.size, 0, none⟩) 2 2)).setCell ⟨w.heap.size, 2, none⟩ (.int .i64 2)).setCell ⟨w.heap.size, 3, none⟩ (.slice (some ⟨w2.heap.size + 1, 0, none⟩) 2 2)).setCell ⟨w.heap.size, 4, none⟩ (.slice (some ⟨w2.heap.size + 1 + 1, 0, none⟩) 2 2)) ∧ HouseAt ((((((((w2.alloc (.cells #[.int .i64 10, .int .i64 14, .int .i64 8, .int .i64 16] 35)).alloc (.cells #[.string ⟨#[108, 105, 109, 97]⟩, .int .i64 1, .int .i64 0, .string ⟨#[99, 97, 100, 105, 122]⟩, .int .i64 3, .int .i64 1] 72)).alloc (.cells #[.int .i64 0, .int .i64 0, .int .i64 26, .int .i64 30, .int .i64 1, .int .i64 1, .int .i64 18, .int .i64 far] 58)).setCell ⟨w.heap.size, 0, none⟩ (.int .i64 2)).setCell ⟨w.heap.size, 1, none⟩ (.slice (some ⟨w2.heap.size, 0, none⟩) 2 2)).setCell ⟨w.heap.size, 2, none⟩ (.int .i64 2)).setCell ⟨w.heap.size, 3, none⟩ (.slice (some ⟨w2.heap.size + 1, 0, none⟩) 2 2)).setCell ⟨w.heap.size, 4, none⟩ (.slice (some ⟨w2.heap.size + 1 + 1, 0, none⟩) 2 2)) (.agg #[.int .i64 2, .slice (some ⟨w2.heap.size, 0, none⟩) 2 2, .int .i64 2, .slice (some ⟨w2.heap.size + 1, 0, none⟩) 2 2, .slice (some ⟨w2.heap.size + 1 + 1, 0, none⟩) 2 2]) (exHouse far) := by
  obtain ⟨WA, hWA⟩ : ∃ WA, WA = ((w2.alloc (.cells #[.int .i64 10, .int .i64 14, .int .i64 8, .int .i64 16] 35)).alloc (.cells #[.string ⟨#[108, 105, 109, 97]⟩, .int .i64 1, .int .i64 0, .string ⟨#[99, 97, 100, 105, 122]⟩, .int .i64 3, .int .i64 1] 72)).alloc (.cells #[.int .i64 0, .int .i64 0, .int .i64 26, .int .i64 30, .int .i64 1, .int .i64 1, .int .i64 18, .int .i64 far] 58) := ⟨_, rfl⟩
  rw [← hWA]
  have xA : Ext w WA := by rw [hWA]; exact ((x2.alloc _).alloc _).alloc _
  have hB : BoxIs WA w.heap.size [.int .i64 0, .slice none 0 0, .int .i64 0, .slice none 0 0, .slice none 0 0] := by rw [hWA]; exact hb2.ext (((ext_alloc _ _).alloc _).alloc _)
  have hc1 : ∀ i t, (#[Value.int .i64 10, .int .i64 14, .int .i64 8, .int .i64 16] : Array Value)[i]? = some t → WA.cell? ⟨w2.heap.size, i, none⟩ = some t := fun i t ht => by rw [hWA]; simp [go_sem, ht]
  have hc2 : ∀ i t, (#[Value.string ⟨#[108, 105, 109, 97]⟩, .int .i64 1, .int .i64 0, .string ⟨#[99, 97, 100, 105, 122]⟩, .int .i64 3, .int .i64 1] : Array Value)[i]? = some t → WA.cell? ⟨w2.heap.size + 1, i, none⟩ = some t := fun i t ht => by rw [hWA]; simp [go_sem, ht]
  have hc3 : ∀ i t, (#[Value.int .i64 0, .int .i64 0, .int .i64 26, .int .i64 30, .int .i64 1, .int .i64 1, .int .i64 18, .int .i64 far] : Array Value)[i]? = some t → WA.cell? ⟨w2.heap.size + 1 + 1, i, none⟩ = some t := fun i t ht => by rw [hWA]; simp [go_sem, ht]
  clear hWA
  have hB5 := set5_box (x := .int .i64 2) (y := .slice (some ⟨w2.heap.size, 0, none⟩) 2 2) (z := .int .i64 2) (u := .slice (some ⟨w2.heap.size + 1, 0, none⟩) 2 2) (v := .slice (some ⟨w2.heap.size + 1 + 1, 0, none⟩) 2 2) hB
  have x5 := set5_ext xA (rb := w.heap.size) (Nat.le_refl _) (.int .i64 2) (.slice (some ⟨w2.heap.size, 0, none⟩) 2 2) (.int .i64 2) (.slice (some ⟨w2.heap.size + 1, 0, none⟩) 2 2) (.slice (some ⟨w2.heap.size + 1 + 1, 0, none⟩) 2 2)
  have o1 := fun i t ht => set5_off (hc1 i t ht) (rb := w.heap.size) (by omega) (.int .i64 2) (.slice (some ⟨w2.heap.size, 0, none⟩) 2 2) (.int .i64 2) (.slice (some ⟨w2.heap.size + 1, 0, none⟩) 2 2) (.slice (some ⟨w2.heap.size + 1 + 1, 0, none⟩) 2 2)
  have o2 := fun i t ht => set5_off (hc2 i t ht) (rb := w.heap.size) (by omega) (.int .i64 2) (.slice (some ⟨w2.heap.size, 0, none⟩) 2 2) (.int .i64 2) (.slice (some ⟨w2.heap.size + 1, 0, none⟩) 2 2) (.slice (some ⟨w2.heap.size + 1 + 1, 0, none⟩) 2 2)
  have o3 := fun i t ht => set5_off (hc3 i t ht) (rb := w.heap.size) (by omega) (.int .i64 2) (.slice (some ⟨w2.heap.size, 0, none⟩) 2 2) (.int .i64 2) (.slice (some ⟨w2.heap.size + 1, 0, none⟩) 2 2) (.slice (some ⟨w2.heap.size + 1 + 1, 0, none⟩) 2 2)
  generalize (((((WA.setCell ⟨w.heap.size, 0, none⟩ (.int .i64 2)).setCell ⟨w.heap.size, 1, none⟩ (.slice (some ⟨w2.heap.size, 0, none⟩) 2 2)).setCell ⟨w.heap.size, 2, none⟩ (.int .i64 2)).setCell ⟨w.heap.size, 3, none⟩ (.slice (some ⟨w2.heap.size + 1, 0, none⟩) 2 2)).setCell ⟨w.heap.size, 4, none⟩ (.slice (some ⟨w2.heap.size + 1 + 1, 0, none⟩) 2 2)) = Wf at *
  refine ⟨hB5, x5, ?_⟩
  refine ⟨some ⟨w2.heap.size, 0, none⟩, 2, some ⟨w2.heap.size + 1, 0, none⟩, 2, some ⟨w2.heap.size + 1 + 1, 0, none⟩, 2, rfl, by simp [I64, exHouse], by simp [I64, exHouse], ⟨_, _, rfl, by simp [exHouse], by decide, fun i hi => ⟨w2.heap.size, 0, rfl, ?_⟩⟩, ⟨_, _, rfl, by simp [exHouse], by decide, fun i hi => ⟨w2.heap.size + 1, 0, rfl, ?_⟩⟩, ⟨_, _, rfl, by simp [exHouse], by decide, fun i hi => ⟨w2.heap.size + 1 + 1, 0, rfl, ?_⟩⟩⟩
  · match i, hi with
    | 0, _ => exact ⟨o1 0 _ rfl, o1 1 _ rfl, by simp [I64, exHouse], by simp [I64, exHouse]⟩
    | 1, _ => exact ⟨o1 2 _ rfl, o1 3 _ rfl, by simp [I64, exHouse], by simp [I64, exHouse]⟩
  · match i, hi with
    | 0, _ => exact ⟨o2 0 _ rfl, o2 1 _ rfl, o2 2 _ rfl, by simp [exHouse, ByteArray.size], by simp [I64, exHouse], by simp [I64, exHouse]⟩
    | 1, _ => exact ⟨o2 3 _ rfl, o2 4 _ rfl, o2 5 _ rfl, by simp [exHouse, ByteArray.size], by simp [I64, exHouse], by simp [I64, exHouse]⟩
  · match i, hi with
    | 0, _ => exact ⟨o3 0 _ rfl, o3 1 _ rfl, o3 2 _ rfl, o3 3 _ rfl, by simp [I64, exHouse]⟩
    | 1, _ => exact ⟨o3 4 _ rfl, o3 5 _ rfl, o3 6 _ rfl, o3 7 _ rfl, by simp [I64, exHouse]; omega⟩
set_option maxHeartbeats 1000000 in
theorem lawHouse_any (far : Int) (hf : -1 ≤ far ∧ far ≤ 1000) (w : World) : Calls Try.prog 34 #[.int .i64 far] w fun e w' => ∃ v, e = .returned v ∧ HouseAt w' v (exHouse far) ∧ Ext w w' := by
  go_enter Try.func34, Try.ntmps34
  go_wp2_with fail
  refine (lawSpan_any 10 14 _).mono ?_
  rintro e w1 ⟨rfl, hx1⟩
  have x1 : Ext w w1 := hx1.of_alloc
  go_wp2_with fail
  refine (lawSpan_any 8 16 _).mono ?_
  rintro e w2 ⟨rfl, hx2⟩
  have x2 : Ext w w2 := x1.trans hx2
  have hb : BoxIs w2 w.heap.size [.int .i64 0, .slice none 0 0, .int .i64 0, .slice none 0 0, .slice none 0 0] := BoxIs.ext (fun j v hj => by
    match j, hj with
    | 0, hj => simp at hj; subst hj; simp [go_sem]
    | 1, hj => simp at hj; subst hj; simp [go_sem]
    | 2, hj => simp at hj; subst hj; simp [go_sem]
    | 3, hj => simp at hj; subst hj; simp [go_sem]
    | 4, hj => simp at hj; subst hj; simp [go_sem]) (hx1.trans hx2)
  have rf : ∀ o, w2.frozen? ⟨w.heap.size, o, none⟩ = false := fun o => by rw [(hx1.trans hx2).frozen (by simp)]; simp [go_sem]
  have j0 := hb 0 _ rfl
  have j1 := hb 1 _ rfl
  have j2 := hb 2 _ rfl
  have j3 := hb 3 _ rfl
  have j4 := hb 4 _ rfl
  have zz : w.heap.size < w2.heap.size := cell_lt j0
  have rf3 : ∀ o1 o2 o3 o, (((w2.alloc o1).alloc o2).alloc o3).frozen? ⟨w.heap.size, o, none⟩ = false := fun o1 o2 o3 o => by
    rw [Ext.frozen (((ext_alloc w2 o1).alloc o2).alloc o3) zz]; exact rf o
  have c3 : ∀ o1 o2 o3 j v, w2.cell? ⟨w.heap.size, j, none⟩ = some v → (((w2.alloc o1).alloc o2).alloc o3).cell? ⟨w.heap.size, j, none⟩ = some v := fun o1 o2 o3 j v hc => (((ext_alloc w2 o1).alloc o2).alloc o3).cell hc
  have d0 := fun o1 o2 o3 => c3 o1 o2 o3 0 _ j0
  have d1 := fun o1 o2 o3 => c3 o1 o2 o3 1 _ j1
  have d2 := fun o1 o2 o3 => c3 o1 o2 o3 2 _ j2
  have d3 := fun o1 o2 o3 => c3 o1 o2 o3 3 _ j3
  have d4 := fun o1 o2 o3 => c3 o1 o2 o3 4 _ j4
  have HT := Lib.hid (house_tail far hf w w2 x2 zz hb)
  clear hx1 hx2 hb x1 c3 rf j0 j1 j2 j3 j4
  by_cases hm : -1 < far
  rotate_left
  · have hfe : far = -1 := by omega
    subst hfe
    go_wp2
    obtain ⟨hB5, x5, hH⟩ := HT.out
    generalize ((((((((w2.alloc (.cells #[.int .i64 10, .int .i64 14, .int .i64 8, .int .i64 16] 35)).alloc (.cells #[.string ⟨#[108, 105, 109, 97]⟩, .int .i64 1, .int .i64 0, .string ⟨#[99, 97, 100, 105, 122]⟩, .int .i64 3, .int .i64 1] 72)).alloc (.cells #[.int .i64 0, .int .i64 0, .int .i64 26, .int .i64 30, .int .i64 1, .int .i64 1, .int .i64 18, .int .i64 (-1)] 58)).setCell ⟨w.heap.size, 0, none⟩ (.int .i64 2)).setCell ⟨w.heap.size, 1, none⟩ (.slice (some ⟨w2.heap.size, 0, none⟩) 2 2)).setCell ⟨w.heap.size, 2, none⟩ (.int .i64 2)).setCell ⟨w.heap.size, 3, none⟩ (.slice (some ⟨w2.heap.size + 1, 0, none⟩) 2 2)).setCell ⟨w.heap.size, 4, none⟩ (.slice (some ⟨w2.heap.size + 1 + 1, 0, none⟩) 2 2)) = Wf at *
    have s0 := hB5 0 _ rfl
    have s1 := hB5 1 _ rfl
    have s2 := hB5 2 _ rfl
    have s3 := hB5 3 _ rfl
    have s4 := hB5 4 _ rfl
    exact bodyPost_ret (v := .agg #[.int .i64 2, .slice (some ⟨w2.heap.size, 0, none⟩) 2 2, .int .i64 2, .slice (some ⟨w2.heap.size + 1, 0, none⟩) 2 2, .slice (some ⟨w2.heap.size + 1 + 1, 0, none⟩) 2 2]) (by simp [results, Try.results34, go_sem, s0, s1, s2, s3, s4]) rfl ⟨_, rfl, hH, x5⟩
  go_wp2
  obtain ⟨hB5, x5, hH⟩ := HT.out
  generalize ((((((((w2.alloc (.cells #[.int .i64 10, .int .i64 14, .int .i64 8, .int .i64 16] 35)).alloc (.cells #[.string ⟨#[108, 105, 109, 97]⟩, .int .i64 1, .int .i64 0, .string ⟨#[99, 97, 100, 105, 122]⟩, .int .i64 3, .int .i64 1] 72)).alloc (.cells #[.int .i64 0, .int .i64 0, .int .i64 26, .int .i64 30, .int .i64 1, .int .i64 1, .int .i64 18, .int .i64 far] 58)).setCell ⟨w.heap.size, 0, none⟩ (.int .i64 2)).setCell ⟨w.heap.size, 1, none⟩ (.slice (some ⟨w2.heap.size, 0, none⟩) 2 2)).setCell ⟨w.heap.size, 2, none⟩ (.int .i64 2)).setCell ⟨w.heap.size, 3, none⟩ (.slice (some ⟨w2.heap.size + 1, 0, none⟩) 2 2)).setCell ⟨w.heap.size, 4, none⟩ (.slice (some ⟨w2.heap.size + 1 + 1, 0, none⟩) 2 2)) = Wf at *
  have s0 := hB5 0 _ rfl
  have s1 := hB5 1 _ rfl
  have s2 := hB5 2 _ rfl
  have s3 := hB5 3 _ rfl
  have s4 := hB5 4 _ rfl
  exact bodyPost_ret (v := .agg #[.int .i64 2, .slice (some ⟨w2.heap.size, 0, none⟩) 2 2, .int .i64 2, .slice (some ⟨w2.heap.size + 1, 0, none⟩) 2 2, .slice (some ⟨w2.heap.size + 1 + 1, 0, none⟩) 2 2]) (by simp [results, Try.results34, go_sem, s0, s1, s2, s3, s4]) rfl ⟨_, rfl, hH, x5⟩
end Go.Proofs.Ytdadffmagfknoaa

namespace Go.Proofs.Ytdadffmagfknoaa
set_option linter.unusedSimpArgs false
set_option linter.unusedVariables false
open Go.RowKit
set_option linter.unusedVariables false
set_option maxRecDepth 100000
theorem ex_h0 : raErr (exHouse (-1)) = 0 := by decide +kernel
theorem ex_h : truL (exHouse (-1)) (outB 0) = [[12, 10], [12, 11], [12, 12], [12, 13], [12, 14]] := by decide +kernel
theorem ex_j : truL (exHouse 17) (outB 0) = [[12, 11]] := by decide +kernel
theorem ex_v : truL (exHouse 24) (outB 0) = [] := by decide +kernel
theorem ex_first : firstErrM (exHouse (-1)) = 0 ∧ firstLM (exHouse (-1)) = [12, 10] ∧ firstNM (exHouse (-1)) = 5 := by decide +kernel
theorem ex_rate : numErr (exHouse (-1)) [⟨1, daysM (exHouse (-1)), 4⟩] (fun r => r.getD 1 0) = 0 ∧ numSpan (exHouse (-1)) [⟨1, daysM (exHouse (-1)), 4⟩] (fun r => r.getD 1 0) = (10, 14) := by decide +kernel
theorem ex_worth : numErr (exHouse (-1)) [⟨0, agtsM (exHouse (-1)), 4⟩, ⟨1, daysM (exHouse (-1)), 4⟩, ⟨21, 99, 7⟩] (fun r => payM (agtAt (exHouse (-1)) 0) 21 (r.getD 1 0)) = 0 ∧ numSpan (exHouse (-1)) [⟨0, agtsM (exHouse (-1)), 4⟩, ⟨1, daysM (exHouse (-1)), 4⟩, ⟨21, 99, 7⟩] (fun r => payM (agtAt (exHouse (-1)) 0) 21 (r.getD 1 0)) = (20, 28) := by decide +kernel
theorem ex_may : agreeErr (exHouse 17) [⟨1, entsM (exHouse 17), 4⟩] 1 = 0 ∧ agreeHow (exHouse 17) [⟨1, entsM (exHouse 17), 4⟩] 1 = 0 := by decide +kernel
theorem ex_never : agreeErr (exHouse 24) [⟨1, entsM (exHouse 24), 4⟩] 1 = 0 ∧ agreeHow (exHouse 24) [⟨1, entsM (exHouse 24), 4⟩] 1 = 2 := by decide +kernel
theorem ex_wrong : wrongErr (exHouse 24) = 0 ∧ wrongL (exHouse 24) = [0] := by decide +kernel
theorem ex_none : wrongErr (exHouse 17) = 0 ∧ wrongL (exHouse 17) = [] := by decide +kernel
theorem ex_paid : numErr (exHouse (-1)) [⟨1, agtsM (exHouse (-1)), 4⟩] (fun r => paidM (exHouse (-1)) 1 r) = 0 ∧ numSpan (exHouse (-1)) [⟨1, agtsM (exHouse (-1)), 4⟩] (fun r => paidM (exHouse (-1)) 1 r) = (15, 21) := by decide +kernel
theorem ex_zero : numErr (exHouse 24) [⟨0, daysM (exHouse 24), 4⟩] (fun r => r.getD 0 0) = 8 := by decide +kernel
theorem ex_arg : agreeErr (exHouse (-1)) [⟨1, entsM (exHouse (-1)), 4⟩] 1 = 2 := by decide +kernel
theorem sendIs_at {h : House} {lo far : Int} {N A : Nat} (hN : N < 100) (hA : A < h.agents.length) (h1 : far ≤ payM (agtAt h (A : Int)) (N : Int) lo) (h2 : ∀ n' : Nat, n' < N → ∀ a' : Nat, a' < h.agents.length → payM (agtAt h (a' : Int)) (n' : Int) lo < far) (h3 : ∀ a' : Nat, a' < A → payM (agtAt h (a' : Int)) (N : Int) lo < far)
    {a n e : Int} (hs : SendIs h lo far a n e) : a = A ∧ n = N ∧ e = 0 := by
  rcases hs with ⟨rfl, an, nn, rfl, rfl, hn, ha, g1, g2, g3⟩ | ⟨rfl, rfl, rfl, g⟩
  · have e1 : nn = N := by
      rcases Nat.lt_trichotomy nn N with h | h | h
      · have := h2 nn h an ha; omega
      · exact h
      · have := g2 N h A hA; omega
    subst e1
    have e2 : an = A := by
      rcases Nat.lt_trichotomy an A with h | h | h
      · have := h3 an h; omega
      · exact h
      · have := g3 A h; omega
    subst e2
    exact ⟨rfl, rfl, rfl⟩
  · have := g N hN A hA; omega
theorem ex_send {a n e : Int} (hs : SendR (exHouse (-1)) [⟨0, daysM (exHouse (-1)), 4⟩, ⟨30, 198, 7⟩] 0 30 a n e) : a = 0 ∧ n = 26 ∧ e = 0 := by
  have h1 : openR (exHouse (-1)) [⟨0, daysM (exHouse (-1)), 4⟩, ⟨30, 198, 7⟩] = 0 := by decide +kernel
  have h2 : numM (fun r => r.getD (0 : Int).toNat 0) (truL (exHouse (-1)) (outB 0)) = ((12, 12), 0) := by decide +kernel
  rcases hs with ⟨h, -⟩ | ⟨-, h, -⟩ | ⟨-, -, h⟩
  · exact absurd h1 h
  · rw [h2] at h; exact absurd rfl h
  · rw [h2] at h
    exact sendIs_at (N := 26) (A := 0) (by decide) (by decide) (by decide +kernel) (by decide +kernel) (fun a' h => absurd h (Nat.not_lt_zero _)) h
theorem ex2_first : firstErrM (exHouse 17) = 0 ∧ firstLM (exHouse 17) = [12, 11] ∧ firstNM (exHouse 17) = 1 := by decide +kernel
theorem ex2_rate : numErr (exHouse (-1)) [⟨0, daysM (exHouse (-1)), 4⟩] (fun r => r.getD 0 0) = 0 ∧ numSpan (exHouse (-1)) [⟨0, daysM (exHouse (-1)), 4⟩] (fun r => r.getD 0 0) = (12, 12) := by decide +kernel
theorem ex2_cadiz : numErr (exHouse (-1)) [⟨1, agtsM (exHouse (-1)), 4⟩, ⟨1, daysM (exHouse (-1)), 4⟩, ⟨18, 99, 7⟩] (fun r => payM (agtAt (exHouse (-1)) 1) 18 (r.getD 1 0)) = 0 ∧ numSpan (exHouse (-1)) [⟨1, agtsM (exHouse (-1)), 4⟩, ⟨1, daysM (exHouse (-1)), 4⟩, ⟨18, 99, 7⟩] (fun r => payM (agtAt (exHouse (-1)) 1) 18 (r.getD 1 0)) = (15, 21) := by decide +kernel
theorem ex2_nothing : numErr (exHouse (-1)) [⟨1, agtsM (exHouse (-1)), 4⟩, ⟨0, daysM (exHouse (-1)), 4⟩, ⟨3, 99, 7⟩] (fun r => payM (agtAt (exHouse (-1)) 1) 3 (r.getD 0 0)) = 0 ∧ numSpan (exHouse (-1)) [⟨1, agtsM (exHouse (-1)), 4⟩, ⟨0, daysM (exHouse (-1)), 4⟩, ⟨3, 99, 7⟩] (fun r => payM (agtAt (exHouse (-1)) 1) 3 (r.getD 0 0)) = (0, 0) := by decide +kernel
theorem ex2_may : agreeErr (exHouse 17) [⟨0, entsM (exHouse 17), 4⟩] 0 = 0 ∧ agreeHow (exHouse 17) [⟨0, entsM (exHouse 17), 4⟩] 0 = 0 := by decide +kernel
theorem ex2_wrong : wrongErr (exHouse 25) = 0 ∧ wrongL (exHouse 25) = [1] := by decide +kernel
theorem ex2_paid : numErr (exHouse (-1)) [⟨0, agtsM (exHouse (-1)), 4⟩] (fun r => paidM (exHouse (-1)) 0 r) = 0 ∧ numSpan (exHouse (-1)) [⟨0, agtsM (exHouse (-1)), 4⟩] (fun r => paidM (exHouse (-1)) 0 r) = (30, 30) := by decide +kernel
theorem ex2_send {a n e : Int} (hs : SendR (exHouse (-1)) [⟨1, daysM (exHouse (-1)), 4⟩, ⟨15, 198, 7⟩] 1 15 a n e) : a = 0 ∧ n = 16 ∧ e = 0 := by
  have h1 : openR (exHouse (-1)) [⟨1, daysM (exHouse (-1)), 4⟩, ⟨15, 198, 7⟩] = 0 := by decide +kernel
  have h2 : numM (fun r => r.getD (1 : Int).toNat 0) (truL (exHouse (-1)) (outB 0)) = ((10, 14), 0) := by decide +kernel
  rcases hs with ⟨h, -⟩ | ⟨-, h, -⟩ | ⟨-, -, h⟩
  · exact absurd h1 h
  · rw [h2] at h; exact absurd rfl h
  · rw [h2] at h
    exact sendIs_at (N := 16) (A := 0) (by decide) (by decide) (by decide +kernel) (by decide +kernel) (fun a' h => absurd h (Nat.not_lt_zero _)) h
end Go.Proofs.Ytdadffmagfknoaa

namespace Go.Proofs.Ytdadffmagfknoaa
set_option linter.unusedSimpArgs false
set_option linter.unusedVariables false
open Go.RowKit
set_option linter.unusedVariables false

theorem spanE_fields : ∃ f g, (Try.prog.fieldsOf 35).toList = [f, g] ∧ f.type = 3 ∧ f.offset = 0 ∧ g.type = 3 ∧ g.offset = 1 ∧ f.name = "Lo" ∧ g.name = "Hi" := by
  have hf : ((Try.prog.fieldsOf 35).toList.map fun f => (f.name, f.type, f.offset)) = [("Lo", 3, 0), ("Hi", 3, 1)] := by kernel_rfl
  generalize (Try.prog.fieldsOf 35).toList = fs at *
  obtain ⟨f, g, rfl⟩ : ∃ f g, fs = [f, g] := by
    rcases fs with _ | ⟨f, _ | ⟨g, _ | ⟨h, r⟩⟩⟩
    · simp at hf
    · simp at hf
    · exact ⟨f, g, rfl⟩
    · simp at hf
  simp only [List.map_cons, List.map_nil, List.cons.injEq, Prod.mk.injEq, and_true] at hf
  obtain ⟨⟨h1, h2, h3⟩, h4, h5, h6⟩ := hf
  exact ⟨f, g, rfl, h2, h3, h5, h6, h1, h4⟩
theorem equalE_span (a b c d : Int) (w : World) : (Op.equal 35 (.agg #[.int .i64 a, .int .i64 b]) (.agg #[.int .i64 c, .int .i64 d])).run Try.prog w = .ok (decide (a = c ∧ b = d)) w := by
  have hop : ∀ x y : Value, Op.equal 35 x y = Op.equalIn Op.maxDepth 35 x y := fun _ _ => rfl
  obtain ⟨m0, hd⟩ : ∃ m0, Op.maxDepth = m0 + 2 := ⟨9998, by decide⟩
  have ha : ∀ w, (isAgg 3).run Try.prog w = .ok false w := fun _ => by kernel_rfl
  rw [hop, hd]
  rw [run_equalIn_struct _ _ _ _ _ (by kernel_rfl) (by kernel_rfl)]
  obtain ⟨f, g, hfs, h2, h3, h5, h6, n1, n2⟩ := spanE_fields
  rw [hfs]
  simp [Op.eqFields, h2, h3, h5, h6, n1, n2, part, ha, go_sem]
  by_cases e1 : a = c <;> by_cases e2 : b = d <;> simp [e1, e2]
theorem equalInE_span (a b c d : Int) (w : World) : (Op.equalIn 10000 35 (.agg #[.int .i64 a, .int .i64 b]) (.agg #[.int .i64 c, .int .i64 d])).run Try.prog w = .ok (decide (a = c ∧ b = d)) w := equalE_span a b c d w
theorem eqlE_span (a b c d : Int) (w : World) : (binOp .eql 35 (.agg #[.int .i64 a, .int .i64 b]) (.agg #[.int .i64 c, .int .i64 d])).run Try.prog w = .ok (.bool (decide (a = c ∧ b = d))) w := by
  have h := equalE_span a b c d w
  have hop : Op.equal 35 (.agg #[.int .i64 a, .int .i64 b]) (.agg #[.int .i64 c, .int .i64 d]) = Op.equalIn 10000 35 (.agg #[.int .i64 a, .int .i64 b]) (.agg #[.int .i64 c, .int .i64 d]) := rfl
  rw [hop] at h
  rw [run_eql_struct, h]
  rfl
theorem neqE_span (a b c d : Int) (w : World) : (binOp .neq 35 (.agg #[.int .i64 a, .int .i64 b]) (.agg #[.int .i64 c, .int .i64 d])).run Try.prog w = .ok (.bool (!decide (a = c ∧ b = d))) w := by
  have h := equalE_span a b c d w
  have hop : Op.equal 35 (.agg #[.int .i64 a, .int .i64 b]) (.agg #[.int .i64 c, .int .i64 d]) = Op.equalIn 10000 35 (.agg #[.int .i64 a, .int .i64 b]) (.agg #[.int .i64 c, .int .i64 d]) := rfl
  rw [hop] at h
  rw [run_neq_struct, h]
  rfl
end Go.Proofs.Ytdadffmagfknoaa

namespace Go.Proofs.Ytdadffmagfknoaa
set_option linter.unusedSimpArgs false
set_option linter.unusedVariables false
open Go.RowKit

def settledM (some all : Int) : Int := if some = all then 1 else if some = 0 then 2 else 0
theorem settled_any (x y : Int) (w : World) : Calls Try.prog 85 #[.int .i64 x, .int .i64 y] w fun e w' => e = .returned (.int .i64 (settledM x y)) ∧ w = w' := by
  by_cases h : (x == y) = true
  · go_enter Try.func85, Try.ntmps85
    go_wp2
    go_ret
    exact ⟨ret_int (by rw [settledM, if_pos (by simpa using h)]), rfl⟩
  · have h' : (x == y) = false := by simpa using h
    clear h
    by_cases h2 : (x == 0) = true
    · go_enter Try.func85, Try.ntmps85
      go_wp2
      go_ret
      exact ⟨ret_int (by rw [settledM, if_neg (by simpa using h'), if_pos (by simpa using h2)]), rfl⟩
    · have h2' : (x == 0) = false := by simpa using h2
      clear h2
      go_enter Try.func85, Try.ntmps85
      go_wp2
      go_ret
      exact ⟨ret_int (by rw [settledM, if_neg (by simpa using h'), if_neg (by simpa using h2')]), rfl⟩

def lessM : List Int → List Int → Bool
  | _, [] => false
  | [], _ :: _ => true
  | x :: l, y :: m => if x = y then lessM l m else decide (x < y)
theorem lessM_step (l m : List Int) (k : Nat) (h1 : k < l.length) (h2 : k < m.length) : lessM (l.drop k) (m.drop k) = if l[k] = m[k] then lessM (l.drop (k + 1)) (m.drop (k + 1)) else decide (l[k] < m[k]) := by
  rw [List.drop_eq_getElem_cons h1, List.drop_eq_getElem_cons h2, lessM]

set_option maxHeartbeats 1000000 in
set_option maxRecDepth 100000 in
theorem less_any (v u : Value) (l m : List Int) (w : World) (hl : IntsAt w v l) (hm : IntsAt w u m) :
    Calls Try.prog 65 #[v, u] w fun r w' => r = .returned (.bool (lessM l m)) ∧ Ext w w' := by
  obtain ⟨a, cap, rfl, hlc, hcm⟩ := hl.shape
  obtain ⟨a', cap', rfl, hlc', hcm'⟩ := hm.shape
  go_enter Try.func65, Try.ntmps65
  go_wp2
  go_loopw [5] (fun i wr => ∃ k : Nat, k ≤ l.length ∧ k ≤ m.length ∧ i = .int .i64 k ∧ Ext w wr ∧ lessM (l.drop k) (m.drop k) = lessM l m) (fun i _ => l.length - (intOf i).toNat)
  case atStart => exact ⟨0, Nat.zero_le _, Nat.zero_le _, rfl, Ext.refl _, rfl⟩
  case round =>
    obtain ⟨k, hk, hk', rfl, hx, hd⟩ := hrel
    have Hd := Lib.hid hd; clear hd
    by_cases h1 : k < l.length
    · have k1 : (k : Int) < (l.length : Int) := by omega
      by_cases h2 : k < m.length
      · have k2 : (k : Int) < (m.length : Int) := by omega
        have n1 : ((k : Int) == (l.length : Int)) = false := by simp; omega
        have n2 : ((k : Int) == (m.length : Int)) = false := by simp; omega
        obtain ⟨_, _, he, -, -, hh⟩ := hl.ext hx
        obtain ⟨b, off, rfl, c0, -⟩ := hh k h1
        cases he
        clear hh
        obtain ⟨_, _, he, -, -, hh⟩ := hm.ext hx
        obtain ⟨b', off', rfl, c1, -⟩ := hh k h2
        cases he
        clear hh
        have hst := lessM_step l m k h1 h2
        generalize hx' : l[k] = x at *
        generalize hy : m[k] = y at *
        have Hst := Lib.hid hst
        clear hx' hy hst
        simp only [Nat.mul_one] at c0 c1
        by_cases h0 : x = y
        · subst h0
          have h0' : (x == x) = true := by simp
          go_wp2_with fail
          apply Facts.wp_region [.val _, .val _, .val _, .val _, .val _, .val _, .val _, .val _, .val _, .val _, .val _, .val _, .val _, .val _, .val _, .val _, .val _, .val _, .val _, .val _, .val _] (by kernel_rfl) (by kernel_rfl) trivial ?main
          case main =>
            iterate 21 (refine ⟨fun w1 hx hh => ?_, ?_⟩; focus (clear hh; have e0 := hx.cell c0; have e1 := hx.cell c1; go_simp; exact ⟨Ext.refl _, rfl⟩))
            intro w1 hx1 hh
            have hx3 := hx.trans hx1
            clear hh c0 c1
            go_simp
            go_wp2
            go_roundw
            case rel => exact ⟨k + 1, by omega, by omega, by go_num, hx3, by rw [← Hd.out, Hst.out]; simp⟩
            case measure => simp [intOf]; omega
        · have h0' : (x == y) = false := by simpa using h0
          have H0 := Lib.hid h0
          clear h0
          go_wp2_with fail
          apply Facts.wp_region [.val _, .val _, .val _, .val _, .val _, .val _, .val _, .val _, .val _, .val _, .val _, .val _, .val _, .val _, .val _, .val _, .val _, .val _, .val _, .val _, .val _] (by kernel_rfl) (by kernel_rfl) trivial ?main
          case main =>
            iterate 21 (refine ⟨fun w1 hx hh => ?_, ?_⟩; focus (clear hh; have e0 := hx.cell c0; have e1 := hx.cell c1; go_simp; exact ⟨Ext.refl _, rfl⟩))
            intro w1 hx1 hh
            have hx3 := hx.trans hx1
            have c2 := hx1.cell c0
            have c3 := hx1.cell c1
            clear hh c0 c1
            go_simp
            go_wp2_with fail
            apply Facts.wp_region [.val _, .val _, .val _, .val _, .val _, .val _, .val _, .val _, .val _, .val _, .val _, .val _, .val _, .val _, .val _, .val _] (by kernel_rfl) (by kernel_rfl) trivial ?main
            case main =>
              iterate 16 (refine ⟨fun w1 hx hh => ?_, ?_⟩; focus (clear hh; have e0 := hx.cell c2; have e1 := hx.cell c3; go_simp; exact ⟨Ext.refl _, rfl⟩))
              intro w2 hx2 hh
              have hx4 := hx3.trans hx2
              clear hh c2 c3
              go_simp
              go_wp2
              go_ret
              exact ⟨ret_bool (by rw [← Hd.out, Hst.out, if_neg H0.out]), hx4⟩
      · obtain rfl : k = m.length := by omega
        have k2 : ¬ (m.length : Int) < (m.length : Int) := by omega
        go_wp2_with fail
        apply Facts.wp_region [.val _, .val _, .val _, .val _, .val _, .val _, .val _, .val _, .val _, .val _, .val _, .val _, .val _, .val _, .val _, .val _, .val _, .val _, .val _, .val _, .val _] (by kernel_rfl) (by kernel_rfl) trivial ?main
        case main =>
          iterate 21 (refine ⟨fun w1 hx hh => ?_, ?_⟩; focus (clear hh; skip; go_simp; exact ⟨Ext.refl _, rfl⟩))
          intro w1 hx1 hh
          have hx3 := hx.trans hx1
          clear hh
          go_simp
          go_wp2
          go_ret
          exact ⟨ret_bool (by rw [← Hd.out, List.drop_eq_getElem_cons h1, List.drop_eq_nil_of_le (Nat.le_refl _)]; rfl), hx3⟩
    · obtain rfl : k = l.length := by omega
      have k1 : ¬ (l.length : Int) < (l.length : Int) := by omega
      by_cases h2 : ((l.length : Int) == (m.length : Int)) = true
      · go_wp2_with fail
        apply Facts.wp_region [.val _, .val _, .val _, .val _, .val _, .val _, .val _, .val _, .val _, .val _, .val _, .val _, .val _, .val _, .val _, .val _, .val _, .val _, .val _, .val _, .val _] (by kernel_rfl) (by kernel_rfl) trivial ?main
        case main =>
          iterate 21 (refine ⟨fun w1 hx hh => ?_, ?_⟩; focus (clear hh; skip; go_simp; exact ⟨Ext.refl _, rfl⟩))
          intro w1 hx1 hh
          have hx3 := hx.trans hx1
          clear hh
          go_simp
          go_wp2
          go_ret
          exact ⟨ret_bool (by rw [← Hd.out, List.drop_eq_nil_of_le (Nat.le_refl _), List.drop_eq_nil_of_le (by simp at h2; omega)]; rfl), hx3⟩
      · have h2' : ((l.length : Int) == (m.length : Int)) = false := by simpa using h2
        have h3 : l.length < m.length := by simp at h2; omega
        clear h2
        go_wp2_with fail
        apply Facts.wp_region [.val _, .val _, .val _, .val _, .val _, .val _, .val _, .val _, .val _, .val _, .val _, .val _, .val _, .val _, .val _, .val _, .val _, .val _, .val _, .val _, .val _] (by kernel_rfl) (by kernel_rfl) trivial ?main
        case main =>
          iterate 21 (refine ⟨fun w1 hx hh => ?_, ?_⟩; focus (clear hh; skip; go_simp; exact ⟨Ext.refl _, rfl⟩))
          intro w1 hx1 hh
          have hx3 := hx.trans hx1
          clear hh
          go_simp
          go_wp2_with fail
          apply Facts.wp_region [.val _, .val _, .val _, .val _, .val _, .val _, .val _, .val _, .val _, .val _, .val _, .val _, .val _, .val _, .val _, .val _] (by kernel_rfl) (by kernel_rfl) trivial ?main
          case main =>
            iterate 16 (refine ⟨fun w1 hx hh => ?_, ?_⟩; focus (clear hh; skip; go_simp; exact ⟨Ext.refl _, rfl⟩))
            intro w2 hx2 hh
            have hx4 := hx3.trans hx2
            clear hh
            go_simp
            go_wp2
            go_ret
            exact ⟨ret_bool (by rw [← Hd.out, List.drop_eq_nil_of_le (Nat.le_refl _), List.drop_eq_getElem_cons h3]; rfl), hx4⟩
end Go.Proofs.Ytdadffmagfknoaa

namespace Go.Proofs.Ytdadffmagfknoaa
set_option linter.unusedSimpArgs false
set_option linter.unusedVariables false
open Go.RowKit

theorem lessM_self (l : List Int) : lessM l l = false := by
  induction l with
  | nil => rfl
  | cons x l ih => simp [lessM, ih]
theorem lessM_total : ∀ l m : List Int, lessM l m = false → lessM m l = false → l = m
  | [], [] => fun _ _ => rfl
  | [], _ :: _ => fun h _ => by simp [lessM] at h
  | _ :: _, [] => fun _ h => by simp [lessM] at h
  | x :: l, y :: m => fun h h' => by
    by_cases e : x = y
    · subst e
      simp only [lessM, if_true] at h h'
      rw [lessM_total l m h h']
    · simp only [lessM, e, Ne.symm e, if_false, decide_eq_false_iff_not] at h h'
      omega
set_option maxHeartbeats 1000000 in
set_option maxRecDepth 100000 in
theorem ints_any (v u : Value) (l m : List Int) (w : World) (hl : IntsAt w v l) (hm : IntsAt w u m) :
    Calls Try.prog 20 #[v, u] w fun r w' => r = .returned (.bool (decide (l = m))) ∧ Ext w w' := by
  have hsl := hl.shape
  have hsm := hm.shape
  obtain ⟨a, cap, rfl, hlc, hcm⟩ := hsl
  obtain ⟨a', cap', rfl, hlc', hcm'⟩ := hsm
  by_cases h : ((l.length : Int) == (m.length : Int)) = true
  · go_enter Try.func20, Try.ntmps20
    go_wp2_with fail
    refine (less_any _ _ l m w hl hm).mono ?_
    rintro e w1 ⟨rfl, hx1⟩
    cases h1 : lessM l m
    · have H1 := Lib.hid h1; clear h1
      go_wp2_with fail
      refine (less_any _ _ m l w1 (hm.ext hx1) (hl.ext hx1)).mono ?_
      rintro e w2 ⟨rfl, hx2⟩
      have hx3 := hx1.trans hx2
      cases h2 : lessM m l
      all_goals
        have H2 := Lib.hid h2; clear h2
        go_wp2
        go_ret
        first
          | exact ⟨ret_bool (by rw [decide_eq_true (lessM_total l m H1.out H2.out)]), hx3⟩
          | exact ⟨ret_bool (by rw [eq_comm, decide_eq_false_iff_not]; intro e; subst e; have := H2.out; rw [lessM_self] at this; cases this), hx3⟩
    · have H1 := Lib.hid h1; clear h1
      go_wp2
      go_ret
      exact ⟨ret_bool (by rw [eq_comm, decide_eq_false_iff_not]; intro e; subst e; have := H1.out; rw [lessM_self] at this; cases this), hx1⟩
  · have h' : ((l.length : Int) == (m.length : Int)) = false := by simpa using h
    have hn : ¬ l = m := fun e => by subst e; simp at h'
    have Hn := Lib.hid hn
    clear h hn
    go_enter Try.func20, Try.ntmps20
    go_wp2
    go_ret
    exact ⟨ret_bool (by rw [decide_eq_false Hn.out]), Ext.refl _⟩

def fewerM (l m : List Int) : Bool := if l.length = m.length then lessM l m else decide (l.length < m.length)
theorem fewer_any (v u : Value) (l m : List Int) (w : World) (hl : IntsAt w v l) (hm : IntsAt w u m) :
    Calls Try.prog 42 #[v, u] w fun r w' => r = .returned (.bool (fewerM l m)) ∧ Ext w w' := by
  have hsl := hl.shape
  have hsm := hm.shape
  obtain ⟨a, cap, rfl, hlc, hcm⟩ := hsl
  obtain ⟨a', cap', rfl, hlc', hcm'⟩ := hsm
  by_cases h : ((l.length : Int) != (m.length : Int)) = true
  · go_enter Try.func42, Try.ntmps42
    go_wp2
    go_ret
    exact ⟨ret_bool (by rw [fewerM, if_neg (by simp at h; omega)]), Ext.refl _⟩
  · have h' : ((l.length : Int) != (m.length : Int)) = false := by simpa using h
    go_enter Try.func42, Try.ntmps42
    go_wp2_with fail
    refine (less_any _ _ l m w hl hm).mono ?_
    rintro e w' ⟨rfl, hx2⟩
    go_wp2
    go_ret
    exact ⟨ret_bool (by rw [fewerM, if_pos (by simp at h; omega)]), hx2⟩
end Go.Proofs.Ytdadffmagfknoaa

namespace Go.Proofs.Ytdadffmagfknoaa
set_option linter.unusedSimpArgs false
set_option linter.unusedVariables false
open Go.RowKit
set_option linter.unusedVariables false
set_option maxRecDepth 100000

theorem HouseAt.form5 {w : World} {v : Value} {h : House} (hh : HouseAt w v h) : ∃ (a : Int) (ra : Option Addr) (n rc : Nat) (s : Int) (aa : Option Addr) (m ac : Nat) (ea : Option Addr) (k ec : Nat), v = .agg #[.int .i64 a, .slice ra n rc, .int .i64 s, .slice aa m ac, .slice ea k ec] := by
  obtain ⟨ra, rc, aa, ac, ea, ec, rfl, -⟩ := hh
  exact ⟨_, _, _, _, _, _, _, _, _, _, _, rfl⟩
theorem ret_spE {s t : Int × Int} {e f : Int} (hs : s = t) (he : e = f) : Ending.returned (.tuple #[spanV s.1 s.2, .int .i64 e]) = .returned (.tuple #[.agg #[.int .i64 t.1, .int .i64 t.2], .int .i64 f]) := by subst hs he; rfl
theorem ret_inE {s t e f : Int} (hs : s = t) (he : e = f) : Ending.returned (.tuple #[.int .i64 s, .int .i64 e]) = .returned (.tuple #[.int .i64 t, .int .i64 f]) := by subst hs he; rfl
theorem I64.lit {n : Int} (h : -1000 ≤ n ∧ n ≤ 1000) : I64 n := by unfold I64; omega
theorem IntsAt.emptyAt {w : World} {t : TypeId} {B : Nat} (hB : w.heap.size = B) : IntsAt w (.slice (some ⟨B, 0, none⟩) 0 0) [] := ⟨_, _, rfl, Nat.le_refl _, by omega, fun i hi => absurd hi (Nat.not_lt_zero _)⟩
theorem aw_first (vv : Value) (w : World) (h : HouseAt w vv (exHouse (-1))) : Calls Try.prog 18 #[vv] w fun e w' => ∃ v, e = .returned (.tuple #[v, .int .i64 5, .int .i64 0]) ∧ IntsAt w' v [12, 10] ∧ Ext w w' := by
  refine (firstPub_any vv _ w h).mono ?_
  rintro e w' ⟨v, rfl, hv, hx⟩
  rw [ex_first.2.1] at hv
  rw [ex_first.1, ex_first.2.2]
  exact ⟨v, rfl, hv, hx⟩
theorem aw_rate (vv : Value) (w : World) (h : HouseAt w vv (exHouse (-1))) : Calls Try.prog 21 #[vv, .int .i64 1] w fun e w' => e = .returned (.tuple #[.agg #[.int .i64 10, .int .i64 14], .int .i64 0]) ∧ Ext w w' := by
  refine (ratePub_any vv _ 1 (I64.lit (by decide)) w h).mono ?_
  rintro e w' ⟨rfl, hx⟩
  exact ⟨ret_spE ex_rate.2 ex_rate.1, hx⟩
theorem aw_worth (vv : Value) (w : World) (h : HouseAt w vv (exHouse (-1))) : Calls Try.prog 24 #[vv, .int .i64 0, .int .i64 1, .int .i64 21] w fun e w' => e = .returned (.tuple #[.agg #[.int .i64 20, .int .i64 28], .int .i64 0]) ∧ Ext w w' := by
  refine (worthPub_any vv _ 0 1 21 (I64.lit (by decide)) (I64.lit (by decide)) (I64.lit (by decide)) w h).mono ?_
  rintro e w' ⟨rfl, hx⟩
  exact ⟨ret_spE ex_worth.2 ex_worth.1, hx⟩
theorem aw_may (vv : Value) (w : World) (h : HouseAt w vv (exHouse (17))) : Calls Try.prog 28 #[vv, .int .i64 1] w fun e w' => e = .returned (.tuple #[.int .i64 0, .int .i64 0]) ∧ Ext w w' := by
  refine (agreePub_any vv _ 1 (I64.lit (by decide)) w h).mono ?_
  rintro e w' ⟨rfl, hx⟩
  exact ⟨ret_inE ex_may.2 ex_may.1, hx⟩
theorem aw_never (vv : Value) (w : World) (h : HouseAt w vv (exHouse (24))) : Calls Try.prog 28 #[vv, .int .i64 1] w fun e w' => e = .returned (.tuple #[.int .i64 2, .int .i64 0]) ∧ Ext w w' := by
  refine (agreePub_any vv _ 1 (I64.lit (by decide)) w h).mono ?_
  rintro e w' ⟨rfl, hx⟩
  exact ⟨ret_inE ex_never.2 ex_never.1, hx⟩
theorem aw_wrong (vv : Value) (w : World) (h : HouseAt w vv (exHouse (24))) : Calls Try.prog 30 #[vv] w fun e w' => ∃ v, e = .returned (.tuple #[v, .int .i64 0]) ∧ IntsAt w' v [0] ∧ Ext w w' := by
  refine (wrong_any vv _ w h).mono ?_
  rintro e w' ⟨v, rfl, hv, hx⟩
  rw [ex_wrong.2] at hv
  rw [ex_wrong.1]
  exact ⟨v, rfl, hv, hx⟩
theorem aw_none (vv : Value) (w : World) (h : HouseAt w vv (exHouse (17))) : Calls Try.prog 30 #[vv] w fun e w' => ∃ v, e = .returned (.tuple #[v, .int .i64 0]) ∧ IntsAt w' v [] ∧ Ext w w' := by
  refine (wrong_any vv _ w h).mono ?_
  rintro e w' ⟨v, rfl, hv, hx⟩
  rw [ex_none.2] at hv
  rw [ex_none.1]
  exact ⟨v, rfl, hv, hx⟩
theorem aw_paid (vv : Value) (w : World) (h : HouseAt w vv (exHouse (-1))) : Calls Try.prog 26 #[vv, .int .i64 1] w fun e w' => e = .returned (.tuple #[.agg #[.int .i64 15, .int .i64 21], .int .i64 0]) ∧ Ext w w' := by
  refine (paidPub_any vv _ 1 (I64.lit (by decide)) w h).mono ?_
  rintro e w' ⟨rfl, hx⟩
  exact ⟨ret_spE ex_paid.2 ex_paid.1, hx⟩
theorem aw_send (vv : Value) (w : World) (h : HouseAt w vv (exHouse (-1))) : Calls Try.prog 32 #[vv, .int .i64 0, .int .i64 30] w fun e w' => e = .returned (.tuple #[.int .i64 0, .int .i64 26, .int .i64 0]) ∧ Ext w w' := by
  refine (sendPub_any vv _ 0 30 (I64.lit (by decide)) (I64.lit (by decide)) w h).mono ?_
  rintro e w' ⟨sa, sn, se, rfl, hs, hx⟩
  obtain ⟨rfl, rfl, rfl⟩ := ex_send hs
  exact ⟨rfl, hx⟩
theorem aw_zero (vv : Value) (w : World) (h : HouseAt w vv (exHouse 24)) : Calls Try.prog 21 #[vv, .int .i64 0] w fun e w' => ∃ x y : Int, e = .returned (.tuple #[.agg #[.int .i64 x, .int .i64 y], .int .i64 8]) ∧ Ext w w' := by
  refine (ratePub_any vv _ 0 (I64.lit (by decide)) w h).mono ?_
  rintro e w' ⟨rfl, hx⟩
  exact ⟨_, _, ret_spE rfl ex_zero, hx⟩
theorem aw_arg (vv : Value) (w : World) (h : HouseAt w vv (exHouse (-1))) : Calls Try.prog 28 #[vv, .int .i64 1] w fun e w' => ∃ x : Int, e = .returned (.tuple #[.int .i64 x, .int .i64 2]) ∧ Ext w w' := by
  refine (agreePub_any vv _ 1 (I64.lit (by decide)) w h).mono ?_
  rintro e w' ⟨rfl, hx⟩
  exact ⟨_, ret_inE rfl ex_arg, hx⟩
end Go.Proofs.Ytdadffmagfknoaa
