/-
  WHAT AN AGENT PAYS IN SOME TRUTHS, at least and at most: Within of the reference.
  WHAT Send OF THE REFERENCE RETURNS: what that of rate does; and there is just one such answer.
  RateSends: Send returns what the reference does.
  AN ARRAY OF TWO NUMBERS that is handed in.
-/
import Derived.Test.YtdadffmagfknoaaBunAQ
import Derived.Test.YtdadffmagfknoaaBunAN
import Derived.Test.YtdadffmagfknoaaBunAO
import Derived.Test.YtdadffmagfknoaaBunAM
namespace Go.Proofs.Ytdadffmagfknoaa
set_option linter.unusedSimpArgs false
set_option linter.unusedVariables false
open Go.RowKit
set_option linter.unusedVariables false
set_option maxRecDepth 100000

set_option maxHeartbeats 16000000 in
theorem refWithin_any (hv lv : Value) (h : House) (hV : ValidH h) (T : List (List Int)) (hne : T ≠ []) (who day near : Int) (hgd : ∀ q ∈ T, day.toNat < q.length ∧ ∀ x ∈ q, 1 ≤ x ∧ x ≤ 20) (hmany : T.length ≤ 8000) (hw : 0 ≤ who ∧ who < h.agents.length) (hd : 0 ≤ day) (hn : 0 ≤ near ∧ near ≤ 99) (w : World) (hh : HouseAt w hv h) (hl : ListsAtI w lv T) :
    Calls Try.prog 76 #[hv, lv, .int .i64 who, .int .i64 day, .int .i64 near] w fun e w' => e = .returned (.agg #[.int .i64 (numM (worthF h who day near) T).1.1, .int .i64 (numM (worthF h who day near) T).1.2]) ∧ Ext w w' := by
  obtain ⟨ra, rc, aa, ac, ea, ec, rfl, hdi, hsi, -, hag, -⟩ := hh
  obtain ⟨i, rfl⟩ : ∃ i : Nat, who = i := ⟨who.toNat, by omega⟩
  obtain ⟨j, rfl⟩ : ∃ j : Nat, day = j := ⟨day.toNat, by omega⟩
  have hwf : ∀ r, worthF h (i : Int) (j : Int) near r = payM (agtAt h (i : Int)) near (r.getD j 0) := fun r => by unfold worthF; rw [Int.toNat_natCast]
  have hagv := hV.agent _ (agtAt_mem (h := h) (i := (i : Int)) hw.1 hw.2)
  have hil : i < h.agents.length := by omega
  have hag1 : h.agents[i] = agtAt h (i : Int) := by unfold agtAt; rw [Int.toNat_natCast, List.getD_eq_getElem?_getD, List.getElem?_eq_getElem hil]; rfl
  generalize worthF h (i : Int) (j : Int) near = f at *
  obtain ⟨t, T', rfl⟩ := List.exists_cons_of_ne_nil hne
  rw [numM_cons]
  obtain ⟨n1, hn1⟩ : ∃ x, T'.foldl (fun m r => min m (f r)) (f t) = x := ⟨_, rfl⟩
  obtain ⟨n2, hn2⟩ : ∃ x, T'.foldl (fun m r => max m (f r)) (f t) = x := ⟨_, rfl⟩
  simp only
  rw [hn1, hn2]
  simp only [Int.toNat_natCast] at hgd
  have HN1 := Lib.hid hn1
  have HN2 := Lib.hid hn2
  obtain ⟨oa, oc, rfl, -⟩ := hl.shape
  obtain ⟨n, hnn⟩ : ∃ n, n = (t :: T').length := ⟨_, rfl⟩
  rw [← hnn] at hmany ⊢
  have hL := hl
  rw [← hnn] at hL
  have hgt := hgd t (by simp)
  obtain ⟨ob, oo, rfl, s0, cs0, hs0⟩ := SliceAt.get hl (show 0 < (t :: T').length by simp)
  simp only [Nat.zero_mul, Nat.add_zero] at cs0
  simp only [List.getElem_cons_zero] at hs0
  obtain ⟨sa0, sc0, rfl, -⟩ := hs0.shape
  obtain ⟨sb, so, rfl, sv, -⟩ := SliceAt.get hs0 hgt.1
  rw [Nat.mul_one] at sv
  obtain ⟨ab, ao, rfl, a0, a1, a2, gs, gf, gr⟩ := SliceAt.get hag hil
  rw [hag1] at a0 a1 a2 gs gf gr
  have htj : t.getD j 0 = t[j]'hgt.1 := by rw [List.getD_eq_getElem?_getD, List.getElem?_eq_getElem hgt.1]; rfl
  have htg := hgt.2 _ (List.getElem_mem hgt.1)
  have hft : f t = payM (agtAt h (i : Int)) near (t[j]'hgt.1) := by rw [hwf, htj]
  have hjt := hgt.1
  have kj : (j : Int) < (t.length : Int) := by omega
  have ki : (i : Int) < (h.agents.length : Int) := by omega
  have kN : (0 : Int) < (n : Int) := by rw [hnn, List.length_cons]; omega
  have kN2 : 0 < n := by omega
  have HN := Lib.hid hnn
  have HGD := Lib.hid hgd
  have HWF := Lib.hid hwf
  have HFT := Lib.hid hft
  have HAG := Lib.hid hagv
  have HL := Lib.hid hL
  generalize t[j]'hgt.1 = t0 at *
  generalize agtAt h (i : Int) = ag at *
  clear hnn hgd htj hgt hs0 hwf hft hagv hl hL hn1 hn2 hag hag1 hV hne hw
  go_enter Try.func76, Try.ntmps76
  go_wp2_with fail
  obtain ⟨W0, hW0⟩ : ∃ W, W = ((w.alloc (.cells #[.int .i64 h.days, .slice ra h.rates.length rc, .int .i64 h.step, .slice (some ⟨ab, ao, none⟩) h.agents.length ac, .slice ea h.entries.length ec] 26)).alloc (.cells #[.int .i64 0, .int .i64 0] 35)) := ⟨_, rfl⟩
  have x0 : Ext w W0 := by rw [hW0]; exact (ext_alloc _ _).alloc _
  have p3 : W0.cell? ⟨w.heap.size, 3, none⟩ = some (.slice (some ⟨ab, ao, none⟩) h.agents.length ac) := by rw [hW0]; simp [go_sem]
  have q0 : W0.cell? ⟨w.heap.size + 1, 0, none⟩ = some (.int .i64 0) := by rw [hW0]; simp [go_sem]
  have q1 : W0.cell? ⟨w.heap.size + 1, 1, none⟩ = some (.int .i64 0) := by rw [hW0]; simp [go_sem]
  have rf : ∀ o, W0.frozen? ⟨w.heap.size + 1, o, none⟩ = false := fun o => by rw [hW0]; simp [go_sem]
  rw [← hW0]
  clear hW0
  replace a0 := x0.cell a0
  replace a1 := x0.cell a1
  replace a2 := x0.cell a2
  replace cs0 := x0.cell cs0
  replace sv := x0.cell sv
  apply Facts.wp_region (.val _ :: .val _ :: .val _ :: .val _ :: .val _ :: .val _ :: .val _ :: .val _ :: .val _ :: .val _ :: .val _ :: .val _ :: .val _ :: .val _ :: []) (by kernel_rfl) (by kernel_rfl) trivial ?main
  case main =>
  iterate 12 (refine ⟨fun w1 hx hh => ?_, ?_⟩; focus (clear hh; have j0 := hx.cell p3; have j1 := hx.cell a0; have j2 := hx.cell a1; have j3 := hx.cell a2; have j4 := hx.cell cs0; have j5 := hx.cell sv; go_simp; first | exact ⟨Ext.refl _, rfl⟩ | exact Ext.refl _))
  refine ⟨fun w1 hx hh => ?_, ?_⟩
  · clear hh
    go_simp
    refine (refPays_any _ ag near t0 ⟨rfl, gs, gf, gr⟩ HAG.out.1 HAG.out.2 hn (by omega) _).mono ?_
    rintro e w' ⟨rfl, hx2⟩
    exact ⟨_, rfl, hx2, rfl⟩
  iterate 1 (refine ⟨fun w1 hx hh => ?_, ?_⟩; focus (clear hh; skip; go_simp; first | exact ⟨Ext.refl _, rfl⟩ | exact Ext.refl _))
  intro w1 hx1 hh
  clear hh
  have zq : w.heap.size + 1 < W0.heap.size := cell_lt q0
  replace rf : ∀ o, w1.frozen? ⟨w.heap.size + 1, o, none⟩ = false := fun o => by rw [hx1.frozen zq]; exact rf o
  replace q0 := hx1.cell q0
  replace q1 := hx1.cell q1
  replace p3 := hx1.cell p3
  replace a0 := hx1.cell a0
  replace a1 := hx1.cell a1
  replace a2 := hx1.cell a2
  have x1 := x0.trans hx1
  clear hx1 x0 cs0 sv zq
  go_simp
  rw [← HFT.out]
  obtain ⟨W5, hW5⟩ : ∃ W, W = w1.alloc (.cells #[.int .i64 (f t), .int .i64 (f t)] 35) := ⟨_, rfl⟩
  obtain ⟨B, hB⟩ : ∃ B, B = w1.heap.size := ⟨_, rfl⟩
  have xS : Ext w1 W5 := by rw [hW5]; exact ext_alloc _ _
  have r0 : W5.cell? ⟨B, 0, none⟩ = some (.int .i64 (f t)) := by rw [hW5, hB]; simp [go_sem]
  have r1 : W5.cell? ⟨B, 1, none⟩ = some (.int .i64 (f t)) := by rw [hW5, hB]; simp [go_sem]
  have gf2 : ∀ o, W5.frozen? ⟨B, o, none⟩ = false := fun o => by rw [hW5, hB]; simp [go_sem]
  have hB1 : w1.heap.size ≤ B := by omega
  have HW5 := Lib.hid hW5
  have HB := Lib.hid hB
  clear hW5 hB
  go_wp2
  rw [← HW5.out, ← HB.out]
  clear HW5 HB
  have hlo0 : (T'.take (1 - 1)).foldl (fun m r => min m (f r)) (f t) = f t := rfl
  have hhi0 : (T'.take (1 - 1)).foldl (fun m r => max m (f r)) (f t) = f t := rfl
  have HLO := Lib.hid hlo0
  have HHI := Lib.hid hhi0
  clear hlo0 hhi0
  go_loopw [13] (fun i wr => ∃ m : Nat, 1 ≤ m ∧ m ≤ n ∧ i = .int .i64 m ∧ Ext w1 wr ∧ wr.cell? ⟨B, 0, none⟩ = some (.int .i64 ((T'.take (m - 1)).foldl (fun m r => min m (f r)) (f t))) ∧ wr.cell? ⟨B, 1, none⟩ = some (.int .i64 ((T'.take (m - 1)).foldl (fun m r => max m (f r)) (f t))) ∧ ∀ o, wr.frozen? ⟨B, o, none⟩ = false) (fun i _ => n - (intOf i).toNat)
  case atStart => exact ⟨1, Nat.le_refl _, kN2, rfl, xS, by rw [HLO.out]; exact r0, by rw [HHI.out]; exact r1, gf2⟩
  case round =>
    clear r0 r1 xS gf2
    obtain ⟨m, hm1, hm, rfl, hx, r0, r1, gf2⟩ := hrel
    by_cases hmn : m < n
    · have k1 : (m : Int) < (n : Int) := by omega
      have hmT : m < (t :: T').length := by rw [← HN.out]; exact hmn
      have hlo := fold_take_next (fun m r => min m (f r)) t T' (f t) m hm1 hmT
      have hhi := fold_take_next (fun m r => max m (f r)) t T' (f t) m hm1 hmT
      have hgm := HGD.out (t :: T')[m] (List.getElem_mem hmT)
      have hwm := HWF.out (t :: T')[m]
      have HLT := HL.out.ext (x1.trans hx)
      obtain ⟨ob2, oo2, e2, s2, cs2, hs2⟩ := SliceAt.get (l := t :: T') (by have := HLT; rw [HN.out] at this; exact this) hmT
      obtain ⟨rfl, rfl⟩ : ob = ob2 ∧ oo = oo2 := by cases e2; exact ⟨rfl, rfl⟩
      generalize (t :: T')[m] = q at *
      rw [Nat.mul_one] at cs2
      obtain ⟨sa2, sc2, rfl, -⟩ := hs2.shape
      obtain ⟨sb2, so2, rfl, sv2, -⟩ := SliceAt.get hs2 hgm.1
      rw [Nat.mul_one] at sv2
      have hqj : q.getD j 0 = q[j]'hgm.1 := by rw [List.getD_eq_getElem?_getD, List.getElem?_eq_getElem hgm.1]; rfl
      rw [hqj] at hwm
      have hxg := hgm.2 _ (List.getElem_mem hgm.1)
      have hjq := hgm.1
      have kq : (j : Int) < (q.length : Int) := by omega
      generalize q[j]'hgm.1 = x at *
      have hx20 : 0 ≤ x ∧ x ≤ 20 := by omega
      obtain ⟨fq, hfq⟩ : ∃ fq, f q = fq := ⟨_, rfl⟩
      rw [hfq] at hlo hhi hwm
      have HWM := Lib.hid hwm
      generalize hlc : (T'.take (m - 1)).foldl (fun m r => min m (f r)) (f t) = lc at *
      generalize hhc : (T'.take (m - 1)).foldl (fun m r => max m (f r)) (f t) = hc at *
      have b3 := hx.cell p3
      have b0 := hx.cell a0
      have b1 := hx.cell a1
      have b2 := hx.cell a2
      have HL2 := Lib.hid hlo
      have HH2 := Lib.hid hhi
      have y0 := cell_lt cs2
      have y1 := cell_lt sv2
      have y2 := cell_lt r0
      clear hlo hhi hqj hlc hhc e2 hgm hs2 hwm hfq HLT
      go_wp2_with fail
      apply Facts.Peel.wp_regionL two_ee 16 15 [.val (.agg #[.int .i64 lc, .int .i64 hc]), .val _, .val _, .val _, .val _, .val _, .val _, .val _, .val _, .val _, .val _, .val _, .val _, .val (.int .i64 x), .val (.int .i64 fq), .val (.agg #[.int .i64 (min lc fq), .int .i64 (max hc fq)])] (by kernel_rfl) (by kernel_rfl) (by kernel_rfl) (by kernel_rfl) (by kernel_rfl) (by kernel_rfl) ?keep ?main
      case keep => exact trivial
      case main =>
        simp only [List.take_succ_cons, List.take_zero, List.getD_cons_succ, List.getD_cons_zero]
        iterate 14 (refine ⟨fun w1 hC hh => ?_, ?_⟩; focus (have hx := hC; clear hh hC; (have f0 := hx.cell r0; have f1 := hx.cell r1; have f2 := hx.cell b3; have f3 := hx.cell b0; have f4 := hx.cell b1; have f5 := hx.cell b2; have f6 := hx.cell cs2; have f7 := hx.cell sv2); go_simp; first | exact ⟨Ext.refl _, rfl⟩ | exact Ext.refl _))
        refine ⟨fun w2 hC hh => ?_, ?_⟩
        · clear hh hC
          go_simp
          refine (refPays_any _ ag near x ⟨rfl, gs, gf, gr⟩ HAG.out.1 HAG.out.2 hn hx20 _).mono ?_
          rintro e w' ⟨rfl, hx2⟩
          exact ⟨_, rfl, hx2, by rw [HWM.out]⟩
        refine ⟨fun w2 hC hh => ?_, ?_⟩
        · clear hh hC
          go_simp
          refine (refJoin_any _ _ _ _).mono ?_
          rintro e w' ⟨rfl, hx2⟩
          exact ⟨_, rfl, hx2, rfl⟩
        intro w6 hx6 hh
        clear hh
        have d0 := hx6.cell r0
        have d1 := hx6.cell r1
        have bf : ∀ o, w6.frozen? ⟨B, o, none⟩ = false := fun o => by rw [hx6.frozen y2]; exact gf2 o
        have n0 := set_other (set_cell d0 (.int .i64 (min lc fq))) (p := ⟨B, 1, none⟩) (.inr (by simp)) (.int .i64 (max hc fq))
        have n9 := set_cell (set_other d1 (p := ⟨B, 0, none⟩) (.inr (by simp)) (.int .i64 (min lc fq))) (.int .i64 (max hc fq))
        have xN : Ext w1 ((w6.setCell ⟨B, 0, none⟩ (.int .i64 (min lc fq))).setCell ⟨B, 1, none⟩ (.int .i64 (max hc fq))) := ((hx.trans hx6).setCell hB1 _).setCell hB1 _
        refine ⟨rfl, ?_⟩
        have fN : ∀ o, ((w6.setCell ⟨B, 0, none⟩ (.int .i64 (min lc fq))).setCell ⟨B, 1, none⟩ (.int .i64 (max hc fq))).frozen? ⟨B, o, none⟩ = false := fun o => by simpa [go_sem] using bf o
        generalize hmi : min lc fq = mi at *
        generalize hma : max hc fq = ma at *
        have HMI := Lib.hid hmi
        have HMA := Lib.hid hma
        clear hmi hma
        go_simp
        generalize ((w6.setCell ⟨B, 0, none⟩ (.int .i64 mi)).setCell ⟨B, 1, none⟩ (.int .i64 ma)) = W6 at *
        clear d0 d1 bf r0 r1 gf2 hx hx6 cs2 sv2 y0 y1 y2 b0 b1 b2 b3
        go_wp2
        go_roundw
        case rel => exact ⟨m + 1, by omega, by omega, by go_num, xN, by rw [HL2.out]; exact n0, by rw [HH2.out]; exact n9, fN⟩
        case measure => simp [intOf]; omega
    · obtain rfl : m = n := by omega
      have hlen : T'.take (m - 1) = T' := List.take_of_length_le (by have := HN.out; rw [List.length_cons] at this; omega)
      rw [hlen, HN1.out] at r0
      rw [hlen, HN2.out] at r1
      have e0 := hx.cell q0
      have e1 := hx.cell q1
      have zq : w.heap.size + 1 < w1.heap.size := cell_lt q0
      have ef : ∀ o, wr.frozen? ⟨w.heap.size + 1, o, none⟩ = false := fun o => by rw [hx.frozen zq]; exact rf o
      have x9 := x1.trans hx
      have z0 := set_other (set_cell e0 (.int .i64 n1)) (p := ⟨w.heap.size + 1, 1, none⟩) (.inr (by simp)) (.int .i64 n2)
      have z1 := set_cell (set_other e1 (p := ⟨w.heap.size + 1, 0, none⟩) (.inr (by simp)) (.int .i64 n1)) (.int .i64 n2)
      clear hlen
      go_wp2
      exact bodyPost_ret (v := .agg #[.int .i64 n1, .int .i64 n2]) (by simp [results, Try.results76, go_sem, z0, z1]) rfl ⟨rfl, (x9.setCell (by simp) _).setCell (by simp) _⟩
end Go.Proofs.Ytdadffmagfknoaa

namespace Go.Proofs.Ytdadffmagfknoaa
set_option linter.unusedSimpArgs false
set_option linter.unusedVariables false
open Go.RowKit
set_option linter.unusedVariables false
set_option maxRecDepth 100000

def pncErr (n most e : Int) : Int := if e ≠ 0 then e else if inM n 0 most = false then 7 else 0
theorem refPence_any (n most e : Int) (w : World) : Calls Try.prog 75 #[.int .i64 n, .int .i64 most, .int .i64 e] w fun r w' => r = .returned (.int .i64 (pncErr n most e)) ∧ Ext w w' := by
  have hp : pncErr n most e = if e ≠ 0 then e else if inM n 0 most = false then 7 else 0 := rfl
  generalize pncErr n most e = pe at *
  have HP := Lib.hid hp
  clear hp
  by_cases h0 : e = 0
  · subst h0
    go_enter Try.func75, Try.ntmps75
    go_wp2_with fail
    (refine (In_any _ _ _ _).mono ?_; rintro e w' ⟨rfl, rfl⟩)
    cases hq : inM n 0 most
    · have HQ := Lib.hid hq
      clear hq
      go_wp2
      go_ret
      exact ⟨ret_int (by rw [HP.out, if_neg (by decide), if_pos HQ.out]), (by first | (with_reducible exact Ext.refl _) | (with_reducible assumption) | (show Below _ _ _; go_grown; done))⟩
    · have HQ := Lib.hid hq
      clear hq
      go_wp2
      go_ret
      exact ⟨ret_int (by rw [HP.out, if_neg (by decide), HQ.out]; rfl), (by first | (with_reducible exact Ext.refl _) | (with_reducible assumption) | (show Below _ _ _; go_grown; done))⟩
  · have h0' : (e == 0) = false := by simpa using h0
    have H0 := Lib.hid h0
    clear h0
    go_enter Try.func75, Try.ntmps75
    go_wp2
    go_ret
    exact ⟨ret_int (by rw [HP.out, if_pos H0.out]), (by first | (with_reducible exact Ext.refl _) | (with_reducible assumption) | (show Below _ _ _; go_grown; done))⟩
theorem pnc_open (h : House) (d far : Int) : pncErr far 198 (idxErr h d h.days) = openR h [⟨d, daysM h, 4⟩, ⟨far, 198, 7⟩] := by
  rw [idx_open]
  unfold openR pncErr
  by_cases hv : raErr h = 0
  · have hn : ¬ raErr h ≠ 0 := fun g => g hv
    rw [if_neg hn, if_neg hn]
    unfold firstErr firstErrFrom argE argErrM
    simp only
    cases inM d 0 (daysM h)
    · rfl
    · unfold firstErrFrom
      simp only
      cases inM far 0 198 <;> rfl
  · rw [if_pos hv, if_pos hv, if_pos hv]
theorem worth_lo {h : House} (hne : truL h (outB 0) ≠ []) (who day near : Int) : (numM (worthF h who day near) (truL h (outB 0))).1.1 = payM (agtAt h who) near (dayLo h day) := by
  obtain ⟨-, hn⟩ := numM_is (worthF h who day near) hne
  obtain ⟨h1, r, hr, e⟩ := dayLo_is hne day
  have a1 := (hn.all r hr).1
  obtain ⟨q, hq, e2⟩ := hn.least
  have a2 := payM_mono (agtAt h who) near (h1 q hq)
  have b1 : worthF h who day near r = payM (agtAt h who) near (dayLo h day) := by unfold worthF; rw [e]
  have b2 : worthF h who day near q = payM (agtAt h who) near (q.getD day.toNat 0) := rfl
  omega
/-- there is one answer -/
theorem sendIs_one {h : House} {lo far a n e a' n' e' : Int} (hs : SendIs h lo far a n e) (hs' : SendIs h lo far a' n' e') : a = a' ∧ n = n' ∧ e = e' := by
  rcases hs with ⟨rfl, an, nn, rfl, rfl, h1, h2, h3, h4, h5⟩ | ⟨rfl, rfl, rfl, hg⟩
  · rcases hs' with ⟨rfl, an', nn', rfl, rfl, k1, k2, k3, k4, k5⟩ | ⟨rfl, rfl, rfl, kg⟩
    · have hn : nn = nn' := by
        rcases Nat.lt_trichotomy nn nn' with g | g | g
        · have := k4 nn g an h2; omega
        · exact g
        · have := h4 nn' g an' k2; omega
      subst hn
      have ha : an = an' := by
        rcases Nat.lt_trichotomy an an' with g | g | g
        · have := k5 an g; omega
        · exact g
        · have := h5 an' g; omega
      subst ha
      exact ⟨rfl, rfl, rfl⟩
    · have := kg nn h1 an h2; omega
  · rcases hs' with ⟨rfl, an', nn', rfl, rfl, k1, k2, k3, k4, k5⟩ | ⟨rfl, rfl, rfl, kg⟩
    · have := hg nn' k1 an' k2; omega
    · exact ⟨rfl, rfl, rfl⟩
theorem sendR_one {h : House} {l : List ArgR} {d far a n e a' n' e' : Int} (hs : SendR h l d far a n e) (hs' : SendR h l d far a' n' e') : a = a' ∧ n = n' ∧ e = e' := by
  rcases hs with ⟨g1, rfl, rfl, rfl⟩ | ⟨g1, g2, rfl, rfl, rfl⟩ | ⟨g1, g2, g3⟩
  · rcases hs' with ⟨k1, rfl, rfl, rfl⟩ | ⟨k1, -⟩ | ⟨k1, -⟩
    · exact ⟨rfl, rfl, rfl⟩
    · exact absurd k1 g1
    · exact absurd k1 g1
  · rcases hs' with ⟨k1, -⟩ | ⟨k1, k2, rfl, rfl, rfl⟩ | ⟨k1, k2, -⟩
    · exact absurd g1 k1
    · exact ⟨rfl, rfl, rfl⟩
    · exact absurd k2 g2
  · rcases hs' with ⟨k1, -⟩ | ⟨k1, k2, -⟩ | ⟨k1, k2, k3⟩
    · exact absurd g1 k1
    · exact absurd g2 k2
    · exact sendIs_one g3 k3
theorem field_lo (x y : Value) (w : World) : (Instr.field 35 (.agg #[x, y]) 0).run Try.prog w = .ok x w := by first | rfl | kernel_rfl | simp [Instr.field, go_sem]
set_option maxHeartbeats 16000000 in
theorem refSend_any (hv : Value) (h : House) (d far : Int) (hd : I64 d) (hf : I64 far) (w : World) (hh : HouseAt w hv h) :
    Calls Try.prog 33 #[hv, .int .i64 d, .int .i64 far] w fun e w' => ∃ sa sn se, e = .returned (.tuple #[.int .i64 sa, .int .i64 sn, .int .i64 se]) ∧ SendR h [⟨d, daysM h, 4⟩, ⟨far, 198, 7⟩] d far sa sn se ∧ Ext w w' := by
  have hSR : ∀ a n e, SendR h [⟨d, daysM h, 4⟩, ⟨far, 198, 7⟩] d far a n e = SendR h [⟨d, daysM h, 4⟩, ⟨far, 198, 7⟩] d far a n e := fun _ _ _ => rfl
  clear hSR
  have hpo := pnc_open h d far
  have hbad : knErr h (pncErr far 198 (idxErr h d h.days)) ≠ 0 → SendR h [⟨d, daysM h, 4⟩, ⟨far, 198, 7⟩] d far 0 0 (knErr h (pncErr far 198 (idxErr h d h.days))) := fun he => by
    unfold knErr at he ⊢
    by_cases hp : pncErr far 198 (idxErr h d h.days) ≠ 0
    · rw [if_pos hp]
      exact .inl ⟨by rw [← hpo]; exact hp, rfl, rfl, by rw [← hpo]⟩
    · rw [if_neg hp] at he ⊢
      have hT : truL h (outB 0) = [] := Decidable.byContradiction fun g => by rw [if_neg g] at he; exact he rfl
      rw [if_pos hT]
      have h2 : (numM (fun r => r.getD d.toNat 0) (truL h (outB 0))).2 = 8 := by rw [numM_err, if_pos hT]
      exact .inr (.inl ⟨by rw [← hpo]; exact Decidable.byContradiction fun g => hp g, by rw [h2]; decide, rfl, rfl, h2.symm⟩)
  have hgood : knErr h (pncErr far 198 (idxErr h d h.days)) = 0 → ValidH h ∧ (0 ≤ d ∧ d < h.days) ∧ truL h (outB 0) ≠ [] ∧ ∀ a n e, SendIs h (dayLo h d) far a n e → SendR h [⟨d, daysM h, 4⟩, ⟨far, 198, 7⟩] d far a n e := fun he => by
    have hp : pncErr far 198 (idxErr h d h.days) = 0 := Decidable.byContradiction fun g => by unfold knErr at he; rw [if_pos g] at he; exact g he
    have hi : idxErr h d h.days = 0 := Decidable.byContradiction fun g => by unfold pncErr at hp; rw [if_pos g] at hp; exact g hp
    rw [hp] at he
    obtain ⟨h1, h2, h3, -⟩ := rate_good h d (by rw [hi]; exact he)
    refine ⟨h1, h2, h3, fun a n e hs => .inr (.inr ⟨by rw [← hpo]; exact hp, (numM_is _ h3).1, hs⟩)⟩
  have hiv : pncErr far 198 (idxErr h d h.days) = 0 → ValidH h := fun hp => by
    have hi : idxErr h d h.days = 0 := Decidable.byContradiction fun g => by unfold pncErr at hp; rw [if_pos g] at hp; exact g hp
    refine validH_of (Decidable.byContradiction fun g => ?_)
    unfold idxErr at hi
    rw [if_pos g] at hi
    exact g hi
  have hbd : raErr h = 0 → 0 ≤ h.days ∧ h.days ≤ 100 := fun e => by have := (validH_of e).days; omega
  have hidx := fun w1 (hx : Ext w w1) => refIndex_any hv h d h.days w1 (hh.ext hx) hbd
  have hkn := fun w1 (hx : Ext w w1) => refKnown_any hv h (pncErr far 198 (idxErr h d h.days)) w1 (hh.ext hx) hiv
  have hpn := fun w1 => refPence_any far 198 (idxErr h d h.days) w1
  have hHH := Lib.hid hh
  have hfl := field_lo
  generalize SendR h [⟨d, daysM h, 4⟩, ⟨far, 198, 7⟩] d far = SR at *
  generalize pncErr far 198 (idxErr h d h.days) = pe at *
  generalize idxErr h d h.days = ie at *
  obtain ⟨ra, rc, aa, ac, ea, ec, rfl, -⟩ := hh
  have HBAD := Lib.hid hbad
  have HGOOD := Lib.hid hgood
  have HIDX := Lib.hid hidx
  have HKN := Lib.hid hkn
  have HPN := Lib.hid hpn
  clear hbad hgood hiv hbd hidx hkn hpn hpo
  go_enter Try.func33, Try.ntmps33
  go_wp2_with fail
  obtain ⟨W0, hW0⟩ : ∃ W, W = (w.alloc (.cells #[.int .i64 h.days, .slice ra h.rates.length rc, .int .i64 h.step, .slice aa h.agents.length ac, .slice ea h.entries.length ec] 26)) := ⟨_, rfl⟩
  have x0 : Ext w W0 := by rw [hW0]; exact ext_alloc _ _
  have p0 : W0.cell? ⟨w.heap.size, 0, none⟩ = some (.int .i64 h.days) := by rw [hW0]; simp [go_sem]
  have p1 : W0.cell? ⟨w.heap.size, 1, none⟩ = some (.slice ra h.rates.length rc) := by rw [hW0]; simp [go_sem]
  have p2 : W0.cell? ⟨w.heap.size, 2, none⟩ = some (.int .i64 h.step) := by rw [hW0]; simp [go_sem]
  have p3 : W0.cell? ⟨w.heap.size, 3, none⟩ = some (.slice aa h.agents.length ac) := by rw [hW0]; simp [go_sem]
  have p4 : W0.cell? ⟨w.heap.size, 4, none⟩ = some (.slice ea h.entries.length ec) := by rw [hW0]; simp [go_sem]
  rw [← hW0]
  clear hW0
  apply Facts.wp_region [.val _, .val _, .val _, .val _, .val _, .val _, .val (.int .i64 ie), .val (.int .i64 pe), .fact (KnT h pe), .fact (KnT h pe), .fact (KnL h pe), .val (.int .i64 (knErr h pe)), .fact (KnL h pe), .val (.int .i64 (knErr h pe))] (by kernel_rfl) (by kernel_rfl) ⟨fun u a c hx h => KnT.ext h hx, fun u a c hx h => KnT.ext h hx, fun u a c hx h => KnL.ext h hx, fun u a c hx h => KnL.ext h hx, trivial⟩ ?main
  case main =>
  iterate 6 (refine ⟨fun w1 hx hh => ?_, ?_⟩; focus (clear hh; have j0 := hx.cell p0; have j1 := hx.cell p1; have j2 := hx.cell p2; have j3 := hx.cell p3; have j4 := hx.cell p4; go_simp; first | exact ⟨Ext.refl _, rfl⟩ | exact Ext.refl _))
  refine ⟨fun w1 hx hh => ?_, ?_⟩
  · clear hh
    go_simp
    refine (HIDX.out _ (x0.trans hx)).mono ?_
    rintro e w' ⟨rfl, hx2⟩
    exact ⟨_, rfl, hx2, rfl⟩
  refine ⟨fun w1 hx hh => ?_, ?_⟩
  · clear hh
    go_simp
    refine (HPN.out _).mono ?_
    rintro e w' ⟨rfl, hx2⟩
    exact ⟨_, rfl, hx2, rfl⟩
  refine ⟨fun w1 hx hh => ?_, ?_⟩
  · clear hh
    go_simp
    refine (HKN.out _ (x0.trans hx)).mono ?_
    rintro e w' ⟨u, rfl, hk, hx2⟩
    exact ⟨_, rfl, hx2, KnT.of hk⟩
  intro u6
  refine ⟨fun w1 hx hh => ?_, ?_⟩
  · have h6 : KnT h pe u6 w1 := hh 8 _ List.mem_cons_self (by kernel_rfl)
    clear hh
    go_simp
    first | exact ⟨Ext.refl _, h6⟩ | exact Ext.refl _
  intro u7
  refine ⟨fun w1 hx hh => ?_, ?_⟩
  · have h7 : KnT h pe u7 w1 := hh 9 _ List.mem_cons_self (by kernel_rfl)
    have e := h7.1
    have hs := h7.2
    clear hh h7
    generalize rfst u7 = f7 at *
    subst e
    go_simp
    first | exact ⟨Ext.refl _, hs⟩ | exact Ext.refl _
  intro u8
  refine ⟨fun w1 hx hh => ?_, ?_⟩
  · have h7 : KnT h pe u7 w1 := hh 9 _ (List.mem_cons_of_mem _ List.mem_cons_self) (by kernel_rfl)
    have e := h7.1
    clear hh h7
    generalize rfst u7 = f7 at *
    subst e
    go_simp
    exact Ext.refl _
  refine ⟨fun w1 hx hh => ?_, ?_⟩
  · have h8 : KnL h pe u8 w1 := hh 10 _ List.mem_cons_self (by kernel_rfl)
    clear hh
    go_simp
    first | exact ⟨Ext.refl _, h8⟩ | exact Ext.refl _
  intro u10
  iterate 1 (refine ⟨fun w1 hx hh => ?_, ?_⟩; focus (clear hh; skip; go_simp; first | exact ⟨Ext.refl _, rfl⟩ | exact Ext.refl _))
  intro w1 hx1 hh
  have hK : KnL h pe u10 w1 := hh 12 _ List.mem_cons_self
  clear hh
  replace p0 := hx1.cell p0
  replace p1 := hx1.cell p1
  replace p2 := hx1.cell p2
  replace p3 := hx1.cell p3
  replace p4 := hx1.cell p4
  have x1 := x0.trans hx1
  clear hx1 x0 HIDX HKN HPN
  go_simp
  obtain ⟨⟨a, n, c, rfl⟩, hT⟩ := hK
  by_cases h0 : knErr h pe = 0
  · obtain ⟨hV, hdr, hne, hsr⟩ := HGOOD.out h0
    have hL := hT h0
    have hgd : ∀ q ∈ truL h (outB 0), d.toNat < q.length ∧ ∀ x ∈ q, 1 ≤ x ∧ x ≤ 20 := fun q hq => by
      have h1 := levels_mem hV (Nat.le_refl _)
      rw [← ratesL_levels] at h1
      have h2 := h1 q (truL_sub hV hq)
      exact ⟨by rw [h2.1]; omega, h2.2⟩
    have hmany := truL_many hV (outB 0)
    have hwl := fun (who near : Int) => worth_lo hne who d near
    obtain ⟨pf, hpf⟩ : ∃ pf : Nat → Nat → Int, ∀ k m, pf k m = payM (agtAt h (k : Int)) (m : Int) (dayLo h d) := ⟨fun k m => payM (agtAt h (k : Int)) (m : Int) (dayLo h d), fun _ _ => rfl⟩
    have hwit : ∀ (k m : Nat), k < h.agents.length → m < 100 → ∀ w2, Ext w1 w2 → Calls Try.prog 76 #[.agg #[.int .i64 h.days, .slice ra h.rates.length rc, .int .i64 h.step, .slice aa h.agents.length ac, .slice ea h.entries.length ec], .slice a n c, .int .i64 k, .int .i64 d, .int .i64 m] w2 fun e w' => ∃ hi : Int, e = .returned (.agg #[.int .i64 (pf k m), .int .i64 hi]) ∧ Ext w2 w' := fun k m hk hm w2 hx => (refWithin_any _ (.slice a n c) h hV _ hne (k : Int) d (m : Int) hgd hmany ⟨by omega, by omega⟩ hdr.1 ⟨by omega, by omega⟩ w2 (hHH.out.ext (x1.trans hx)) (hL.ext hx)).mono (fun e w' ⟨he, hx2⟩ => ⟨(numM (worthF h (k : Int) d (m : Int)) (truL h (outB 0))).1.2, by rw [he, hwl, hpf], hx2⟩)
    have hyes : ∀ q m : Nat, m < 100 → q < h.agents.length → far ≤ pf q m → (∀ m' < m, ∀ k' < h.agents.length, pf k' m' < far) → (∀ k' < q, pf k' m < far) → SR q m 0 := fun q m hm hq hge h1 h2 => hsr _ _ _ (.inl ⟨rfl, q, m, rfl, rfl, hm, hq, by rw [← hpf]; exact hge, fun n' hn a' ha => by rw [← hpf]; exact h1 n' hn a' ha, fun a' ha => by rw [← hpf]; exact h2 a' ha⟩)
    have hno : (∀ m' < 100, ∀ k' < h.agents.length, pf k' m' < far) → SR 0 0 9 := fun h1 => hsr _ _ _ (.inr ⟨rfl, rfl, rfl, fun n' hn a' ha => by rw [← hpf]; exact h1 n' hn a' ha⟩)
    have hag3 := hV.agents
    rw [h0]
    obtain ⟨N, hN⟩ : ∃ N, h.agents.length = N := ⟨_, rfl⟩
    simp only [hN] at hwit hyes hno
    rw [hN] at p3 hag3 ⊢
    have HWIT := Lib.hid hwit
    have HYES := Lib.hid hyes
    have HNO := Lib.hid hno
    clear hwl hpf hwit hyes hno hsr hgd hL hne hV hT HBAD HGOOD hN
    go_wp2
    go_loopw [11, 12] (fun i k wr => ∃ m : Nat, m ≤ 100 ∧ i = .int .i64 m ∧ Ext w1 wr ∧ Hid (∀ m' < m, ∀ k' < N, pf k' m' < far)) (fun i _ _ => 100 - (intOf i).toNat)
    case atStart => exact ⟨0, by omega, rfl, Ext.refl _, Lib.hid fun m' hm' => absurd hm' (Nat.not_lt_zero _)⟩
    case round =>
      obtain ⟨m, hm, rfl, hx, hP⟩ := hrel
      by_cases hmt : m < 100
      · have k1 : (m : Int) ≤ 99 := by omega
        go_wp2
        go_loopw [12] (fun k wr => ∃ q : Nat, q ≤ N ∧ k = .int .i64 q ∧ Ext w1 wr ∧ Hid (∀ k' < q, pf k' m < far)) (fun k _ => N - (intOf k).toNat)
        case atStart => exact ⟨0, Nat.zero_le _, rfl, hx, Lib.hid fun k' hk' => absurd hk' (Nat.not_lt_zero _)⟩
        case round =>
          clear hx
          obtain ⟨q, hq, rfl, hx, hQ⟩ := hrel
          have b0 := hx.cell p0
          have b1 := hx.cell p1
          have b2 := hx.cell p2
          have b3 := hx.cell p3
          have b4 := hx.cell p4
          have y0 := cell_lt b0
          by_cases hqt : q < N
          · have k2 : (q : Int) < (N : Int) := by omega
            go_wp2_with fail
            refine (HWIT.out q m hqt hmt _ hx).mono ?_
            rintro e w2 ⟨hi, rfl, hx2⟩
            have x2 := hx.trans hx2
            by_cases hge : far ≤ pf q m
            · have hS := Lib.hid (HYES.out q m hmt hqt hge hP.out hQ.out)
              clear hx2 b0 b1 b2 b3 b4 y0
              go_wp2
              go_ret3
              exact ⟨_, _, _, rfl, hS.out, x1.trans x2⟩
            · have hlt : pf q m < far := by omega
              have hQ2 : Hid (∀ k' < q + 1, pf k' m < far) := Lib.hid fun k' hk' => by
                rcases Nat.lt_or_ge k' q with g | g
                · exact hQ.out k' g
                · obtain rfl : k' = q := by omega
                  exact hlt
              clear hx2 b0 b1 b2 b3 b4 y0 hlt
              go_wp2
              go_roundw
              case rel => exact ⟨q + 1, by omega, by go_num, x2, hQ2⟩
              case measure => simp [intOf]; omega
          · obtain rfl : q = N := by omega
            have hP2 : Hid (∀ m' < m + 1, ∀ k' < q, pf k' m' < far) := Lib.hid fun m' hm' k' hk' => by
              rcases Nat.lt_or_ge m' m with g | g
              · exact hP.out m' g k' hk'
              · obtain rfl : m' = m := by omega
                exact hQ.out k' hk'
            go_wp2
            go_roundw
            case rel => exact ⟨m + 1, by omega, by go_num, hx, hP2⟩
            case measure => simp [intOf]; omega
      · obtain rfl : m = 100 := by omega
        have hS := Lib.hid (HNO.out hP.out)
        have k1 : ¬ (((100 : Nat) : Int) ≤ 99) := by omega
        go_wp2
        go_ret3
        exact ⟨_, _, _, rfl, hS.out, x1.trans hx⟩
  · have hs := HBAD.out h0
    have h0' : (knErr h pe != 0) = true := by simpa using h0
    have HS := Lib.hid hs
    clear hT h0 HBAD HGOOD hs
    go_wp2
    go_ret3
    exact ⟨_, _, _, rfl, HS.out, x1⟩
end Go.Proofs.Ytdadffmagfknoaa

namespace Go.Proofs.Ytdadffmagfknoaa
set_option linter.unusedSimpArgs false
set_option linter.unusedVariables false
open Go.RowKit
set_option linter.unusedVariables false
set_option maxRecDepth 100000

set_option maxHeartbeats 8000000 in
theorem sends8_any (hv : Value) (h : House) (d far : Int) (hd : I64 d) (hf : I64 far) (w : World) (hh : HouseAt w hv h) :
    Calls Try.prog 6 #[hv, .agg #[.int .i64 d, .int .i64 far]] w fun e w' => e = .returned (.bool true) ∧ Ext w w' := by
  have c1 := fun w1 (hx : Ext w w1) => sendPub_any hv h d far hd hf w1 (hh.ext hx)
  have c2 := fun w1 (hx : Ext w w1) => refSend_any hv h d far hd hf w1 (hh.ext hx)
  have hone := fun {a n e a' n' e' : Int} => sendR_one (h := h) (l := [⟨d, daysM h, 4⟩, ⟨far, 198, 7⟩]) (d := d) (far := far) (a := a) (n := n) (e := e) (a' := a') (n' := n') (e' := e')
  obtain ⟨ra, rc, aa, ac, ea, ec, rfl, -⟩ := hh
  generalize SendR h [⟨d, daysM h, 4⟩, ⟨far, 198, 7⟩] d far = SR at *
  have HONE : Hid (∀ a n e a' n' e' : Int, SR a n e → SR a' n' e' → a = a' ∧ n = n' ∧ e = e') := Lib.hid fun a n e a' n' e' h1 h2 => hone h1 h2
  clear hone
  go_enter Try.func6, Try.ntmps6
  go_wp2_with fail
  refine (c1 _ ((ext_alloc _ _).alloc _)).mono ?_
  rintro e w1 ⟨sa, sn, se, rfl, hr1, hx⟩
  have x1 : Ext w w1 := ((ext_alloc _ _).alloc _).trans hx
  have p0 : w1.cell? ⟨w.heap.size, 0, none⟩ = some (.int .i64 h.days) := hx.cell (by simp [go_sem])
  have p1 : w1.cell? ⟨w.heap.size, 1, none⟩ = some (.slice ra h.rates.length rc) := hx.cell (by simp [go_sem])
  have p2 : w1.cell? ⟨w.heap.size, 2, none⟩ = some (.int .i64 h.step) := hx.cell (by simp [go_sem])
  have p3 : w1.cell? ⟨w.heap.size, 3, none⟩ = some (.slice aa h.agents.length ac) := hx.cell (by simp [go_sem])
  have p4 : w1.cell? ⟨w.heap.size, 4, none⟩ = some (.slice ea h.entries.length ec) := hx.cell (by simp [go_sem])
  have r0 : w1.cell? ⟨w.heap.size + 1, 0, none⟩ = some (.int .i64 d) := hx.cell (by simp [go_sem])
  have r1 : w1.cell? ⟨w.heap.size + 1, 1, none⟩ = some (.int .i64 far) := hx.cell (by simp [go_sem])
  have z0 := cell_lt p0
  have z1 := cell_lt r0
  have HR := Lib.hid hr1
  clear hx c1 hr1
  go_wp2_with fail
  refine (c2 _ x1).mono ?_
  rintro e w2 ⟨sa2, sn2, se2, rfl, hr2, hx⟩
  have x2 := x1.trans hx
  obtain ⟨rfl, rfl, rfl⟩ := HONE.out _ _ _ _ _ _ HR.out hr2
  clear hx c2 hr2 HR HONE p0 p1 p2 p3 p4 r0 r1 z0 z1
  go_wp2_with fail
  (refine (awakeR_any _).mono ?_; rintro e w9 ⟨rfl, hx9⟩; have x9 := Ext.trans x2 hx9; clear hx9)
  go_wp2
  go_ret
  exact ⟨rfl, x9⟩
end Go.Proofs.Ytdadffmagfknoaa

namespace Go.Proofs.Ytdadffmagfknoaa
set_option linter.unusedSimpArgs false
set_option linter.unusedVariables false
open Go.ChangeShapes Go.WideShapes Go.RowKit
set_option maxRecDepth 100000
section
variable {H : Type} {enc : TypeId × Value → H} {w : World} {base : Nat} {sp : Nat → Bool} {held : Bool}
theorem ints2R_of {r : Reach} {b0 : Nat} {v : Value} {d : DataW H} {ps : List MemPlace} (hval : Value.okWide Try.prog w r b0 47 v) (hd : DataW.Trod enc Try.prog w base sp held 47 v d ps) :
    ∃ x y : Int, v = .agg #[.int .i64 x, .int .i64 y] ∧ I64 x ∧ I64 y := by
  obtain ⟨l, rfl, hl, hw⟩ := arrayR_of Try.underlying47 Try.underlying3 cellsInt (by kernel_rfl) hval hd
  match l, hl with
  | [a, b], _ => exact ⟨a, b, rfl, wf_i64 (hw a (by simp)), wf_i64 (hw b (by simp))⟩
end
end Go.Proofs.Ytdadffmagfknoaa
