/-
  WHAT But OF THE REFERENCE RETURNS: a house without some entries.
  RateFewest: without the entries of Wrong there is a truth; without any fewer there is none.
-/
import Derived.Test.YtdadffmagfknoaaBunAU
import Derived.Test.YtdadffmagfknoaaBunAN
import Derived.Test.YtdadffmagfknoaaBunAJ
import Derived.Test.YtdadffmagfknoaaBunAK
import Derived.Test.YtdadffmagfknoaaBunAM
namespace Go.Proofs.Ytdadffmagfknoaa
set_option linter.unusedSimpArgs false
set_option linter.unusedVariables false
open Go.RowKit
set_option linter.unusedVariables false
set_option maxRecDepth 100000
set_option maxHeartbeats 8000000 in
theorem refBut_any (hv bv : Value) (h : House) (hV : ValidH h) (but : List Int) (w : World) (hh : HouseAt w hv h) (hb : IntsAt w bv but) :
    Calls Try.prog 40 #[hv, bv] w fun e w' => ∃ v, e = .returned v ∧ HouseAt w' v (withE h (butL h but)) ∧ Ext w w' := by
  have hHH := Lib.hid hh
  obtain ⟨ra, rc, aa, ac, ea, ec, rfl, hdi, hsi, hra, haa, hent⟩ := hh
  have HE := Lib.hid hent
  have HV := Lib.hid hV
  have HB := Lib.hid hb
  have HRA := Lib.hid hra
  have HAA := Lib.hid haa
  have hen := hV.entries
  have hsucc := butTo_succ h but
  have hblen := butTo_len h but
  have Hsucc := Lib.hid hsucc
  obtain ⟨i0, hi, hz0, hz1, hz2⟩ := info_parts infoEnt
  obtain ⟨ba, bc, rfl, -⟩ := hb.shape
  clear hent hV hb hra haa hsucc
  go_enter Try.func40, Try.ntmps40
  go_wp2_with fail
  obtain ⟨W, hW⟩ : ∃ W, W = ((w.alloc (.cells #[.int .i64 h.days, .slice ra h.rates.length rc, .int .i64 h.step, .slice aa h.agents.length ac, .slice ea h.entries.length ec] 26)).alloc (.cells #[.int .i64 0, .slice none 0 0, .int .i64 0, .slice none 0 0, .slice none 0 0] 26)) := ⟨_, rfl⟩
  have x1 : Ext w W := by rw [hW]; exact (ext_alloc _ _).alloc _
  have p0 : W.cell? ⟨w.heap.size, 0, none⟩ = some (.int .i64 h.days) := by rw [hW]; simp [go_sem]
  have p1 : W.cell? ⟨w.heap.size, 1, none⟩ = some (.slice ra h.rates.length rc) := by rw [hW]; simp [go_sem]
  have p2 : W.cell? ⟨w.heap.size, 2, none⟩ = some (.int .i64 h.step) := by rw [hW]; simp [go_sem]
  have p3 : W.cell? ⟨w.heap.size, 3, none⟩ = some (.slice aa h.agents.length ac) := by rw [hW]; simp [go_sem]
  have p4 : W.cell? ⟨w.heap.size, 4, none⟩ = some (.slice ea h.entries.length ec) := by rw [hW]; simp [go_sem]
  have pf : ∀ o, W.frozen? ⟨w.heap.size, o, none⟩ = false := fun o => by rw [hW]; simp [go_sem]
  have rb : BoxIs W (w.heap.size + 1) [.int .i64 0, .slice none 0 0, .int .i64 0, .slice none 0 0, .slice none 0 0] := by
    rw [hW]
    intro j v hj
    match j, hj with
    | 0, hj => simp at hj; subst hj; simp [go_sem]
    | 1, hj => simp at hj; subst hj; simp [go_sem]
    | 2, hj => simp at hj; subst hj; simp [go_sem]
    | 3, hj => simp at hj; subst hj; simp [go_sem]
    | 4, hj => simp at hj; subst hj; simp [go_sem]
  have rf : ∀ o, W.frozen? ⟨w.heap.size + 1, o, none⟩ = false := fun o => by rw [hW]; simp [go_sem]
  have zW : W.heap.size = w.heap.size + 2 := by rw [hW]; simp
  rw [← hW]
  clear hW
  go_wp2
  go_loopw [5, 6] (fun v i wr => ∃ k : Nat, k ≤ h.entries.length ∧ i = .int .i64 k ∧ Ext W wr ∧ RowN W.heap.size (butTo h but k) v wr) (fun _ i _ => h.entries.length - (intOf i).toNat)
  case atStart => exact ⟨0, Nat.zero_le _, rfl, Ext.refl _, RowN.nil⟩
  case round =>
    obtain ⟨k, hk, rfl, hx, hrow⟩ := hrel
    have q4 := hx.cell p4
    have z0 := cell_lt q4
    by_cases hlt : k < h.entries.length
    · have k1 : (k : Int) < (h.entries.length : Int) := by omega
      have hst := Hsucc.out k
      have hbl := hblen k
      obtain ⟨y, hy⟩ : ∃ y, decide ((k : Int) ∈ but) = y := ⟨_, rfl⟩
      rw [hy] at hst
      have HY := Lib.hid hy
      generalize butTo h but k = pre at *
      have hhas := has_any (.slice ba but.length bc) k but wr (HB.out.ext (x1.trans hx))
      clear hy
      go_wp2_with fail
      refine hhas.mono ?_
      rintro e w2 ⟨rfl, hx2⟩
      rw [HY.out]
      have x2 := hx.trans hx2
      have hrow2 := hrow.ext hx2
      have hsz2 := x2.size
      clear hhas q4 z0 hrow hx hx2
      cases y
      · obtain ⟨eb, eo, rfl, d0, d1, d2, d3, g0, g1, g2, g3⟩ := SliceAt.get (HE.out.ext (x1.trans x2)) hlt
        have hem := entAt_get (h := h) hlt
        rw [← hem] at d0 d1 d2 d3 g0 g1 g2 g3
        generalize entAt h k = x at *
        have q4 := x2.cell p4
        have z0 := cell_lt q4
        have z2 := cell_lt d0
        have hst' : butTo h but (k + 1) = pre ++ [x] := by rw [hst]; rfl
        have Hst := Lib.hid hst'
        have hrl := hrow2.1
        have Hrow := Lib.hid hrow2
        clear hst hst' hem hrow2
        go_wp2_with (at_builtin; refine wpList_append_own _ rfl _ _ 24 rfl W.heap.size 58 i0 (.agg #[.int .i64 0, .int .i64 0, .int .i64 0, .int .i64 0]) 4 32 Try.underlying24 hi hz0 hz1 hz2 rfl (by decide) _ _ _ rfl (Hrow.out.alloc _) ⟨w2.heap.size, 0, none⟩ 1 1 [.int .i64 x.agent, .int .i64 x.day, .int .i64 x.near, .int .i64 x.far] rfl rfl (four_new _ _ _ _ _ _) (by simp [Value.oneCell']) (by unfold maxLen; omega) (by omega) (by simp; omega) ?_; intro v' w3 hown' hgrow _)
        have x3 : Ext W w3 := Ext.grown (x2.alloc _) hgrow fun k hk => (Hrow.out.lt k hk).1
        have hnew : RowN W.heap.size (pre ++ [x]) v' w3 := RowN.snoc hown'
        go_roundw
        case rel => exact ⟨k + 1, by omega, by go_num, x3, by rw [Hst.out]; exact hnew⟩
        case measure => simp [intOf]; omega
      · have hst' : butTo h but (k + 1) = pre := by rw [hst]; simp
        have Hst := Lib.hid hst'
        clear hst hst'
        go_wp2
        go_roundw
        case rel => exact ⟨k + 1, by omega, by go_num, x2, by rw [Hst.out]; exact hrow2⟩
        case measure => simp [intOf]; omega
    · obtain rfl : k = h.entries.length := by omega
      have hES := hrow.at_ (fun e he => EntOk.i HV.out ((but_ok HV.out but).2 e he))
      obtain ⟨va, vc, rfl, -⟩ := hES.shape
      have q0 := hx.cell p0
      have q1 := hx.cell p1
      have q2 := hx.cell p2
      have q3 := hx.cell p3
      have qf : ∀ o, wr.frozen? ⟨w.heap.size, o, none⟩ = false := fun o => (hx.frozen (p := ⟨w.heap.size, o, none⟩) (show w.heap.size < W.heap.size by omega)).trans (pf o)
      have hbr := rb.ext hx
      have gf : ∀ o, wr.frozen? ⟨w.heap.size + 1, o, none⟩ = false := fun o => (hx.frozen (p := ⟨w.heap.size + 1, o, none⟩) (show w.heap.size + 1 < W.heap.size by omega)).trans (rf o)
      have hxw := x1.trans hx
      have zr1 : w.heap.size + 1 < wr.heap.size := cell_lt (hbr 0 _ rfl)
      have j0 := hbr 0 _ rfl
      have j1 := hbr 1 _ rfl
      have j2 := hbr 2 _ rfl
      have j3 := hbr 3 _ rfl
      have j4 := hbr 4 _ rfl
      obtain ⟨Wf, hWf⟩ : ∃ Wf, Wf = ((((((wr.setCell ⟨w.heap.size, 4, none⟩ (.slice va (butTo h but h.entries.length).length vc)).setCell ⟨w.heap.size + 1, 0, none⟩ (.int .i64 h.days)).setCell ⟨w.heap.size + 1, 1, none⟩ (.slice ra h.rates.length rc)).setCell ⟨w.heap.size + 1, 2, none⟩ (.int .i64 h.step)).setCell ⟨w.heap.size + 1, 3, none⟩ (.slice aa h.agents.length ac)).setCell ⟨w.heap.size + 1, 4, none⟩ (.slice va (butTo h but h.entries.length).length vc)) := ⟨_, rfl⟩
      have hb6 : BoxIs Wf (w.heap.size + 1) [.int .i64 h.days, .slice ra h.rates.length rc, .int .i64 h.step, .slice aa h.agents.length ac, .slice va (butTo h but h.entries.length).length vc] := by
        rw [hWf]
        have := (((((hbr.other (p := ⟨w.heap.size, 4, none⟩) (by simp) (.slice va (butTo h but h.entries.length).length vc)).set 0 (by simp) (.int .i64 h.days)).set 1 (by simp) (.slice ra h.rates.length rc)).set 2 (by simp) (.int .i64 h.step)).set 3 (by simp) (.slice aa h.agents.length ac)).set 4 (by simp) (.slice va (butTo h but h.entries.length).length vc)
        simpa using this
      have xf : Ext w Wf := by
        rw [hWf]
        exact (((((hxw.setCell (p := ⟨w.heap.size, 4, none⟩) (by simp) _).setCell (p := ⟨w.heap.size + 1, 0, none⟩) (by simp) _).setCell (p := ⟨w.heap.size + 1, 1, none⟩) (by simp) _).setCell (p := ⟨w.heap.size + 1, 2, none⟩) (by simp) _).setCell (p := ⟨w.heap.size + 1, 3, none⟩) (by simp) _).setCell (p := ⟨w.heap.size + 1, 4, none⟩) (by simp) _
      have hent : EntriesAt Wf (.slice va (butTo h but h.entries.length).length vc) (butL h but) := by
        rw [hWf]
        have hr6 := (((((hrow.set (p := ⟨w.heap.size, 4, none⟩) (by simp; omega) (.slice va (butTo h but h.entries.length).length vc)).set (p := ⟨w.heap.size + 1, 0, none⟩) (by simp; omega) (.int .i64 h.days)).set (p := ⟨w.heap.size + 1, 1, none⟩) (by simp; omega) (.slice ra h.rates.length rc)).set (p := ⟨w.heap.size + 1, 2, none⟩) (by simp; omega) (.int .i64 h.step)).set (p := ⟨w.heap.size + 1, 3, none⟩) (by simp; omega) (.slice aa h.agents.length ac)).set (p := ⟨w.heap.size + 1, 4, none⟩) (by simp; omega) (.slice va (butTo h but h.entries.length).length vc)
        have := hr6.at_ (fun e he => EntOk.i HV.out ((but_ok HV.out but).2 e he))
        exact this
      have hH : HouseAt Wf (.agg #[.int .i64 h.days, .slice ra h.rates.length rc, .int .i64 h.step, .slice aa h.agents.length ac, .slice va (butTo h but h.entries.length).length vc]) (withE h (butL h but)) :=
        ⟨ra, rc, aa, ac, va, vc, rfl, hdi, hsi, HRA.out.ext xf, HAA.out.ext xf, hent⟩
      have s0 := hb6 0 _ rfl
      have s1 := hb6 1 _ rfl
      have s2 := hb6 2 _ rfl
      have s3 := hb6 3 _ rfl
      have s4 := hb6 4 _ rfl
      have HH2 := Lib.hid hH
      have HX2 := Lib.hid xf
      have S0 := Lib.hid s0
      have S1 := Lib.hid s1
      have S2 := Lib.hid s2
      have S3 := Lib.hid s3
      have S4 := Lib.hid s4
      have HW2 := Lib.hid hWf
      clear hH xf s0 s1 s2 s3 s4 hWf hb6 hent hrow hES hbr hxw
      go_wp2
      rw [← HW2.out]
      have s0 := S0.out
      have s1 := S1.out
      have s2 := S2.out
      have s3 := S3.out
      have s4 := S4.out
      exact bodyPost_ret (v := .agg #[.int .i64 h.days, .slice ra h.rates.length rc, .int .i64 h.step, .slice aa h.agents.length ac, .slice va (butTo h but h.entries.length).length vc]) (by simp [results, Try.results40, go_sem, s0, s1, s2, s3, s4]) rfl ⟨_, rfl, HH2.out, HX2.out⟩
end Go.Proofs.Ytdadffmagfknoaa

namespace Go.Proofs.Ytdadffmagfknoaa
set_option linter.unusedSimpArgs false
set_option linter.unusedVariables false
open Go.RowKit
set_option linter.unusedVariables false
set_option maxRecDepth 100000

theorem tm_bit : ∀ (b : Fin 256) (k : Fin 5), ((b.1 : Int) / 2 ^ k.1).tmod 2 = if b.1.testBit k.1 = true then 1 else 0 := by decide +kernel
theorem membersTo_pow : ∀ (b : Fin 256) (n : Fin 6), membersTo b.1 n.1 = membersM (b.1 % 2 ^ n.1) := by decide +kernel
set_option maxHeartbeats 8000000 in
theorem fewest8_any (hv : Value) (h : House) (bts : Nat) (hbt : bts ≤ 255) (w : World) (hh : HouseAt w hv h) :
    Calls Try.prog 9 #[hv, .int .u8 bts] w fun e w' => e = .returned (.bool true) ∧ Ext w w' := by
  have c1 := fun w1 (hx : Ext w w1) => wrong_any hv h w1 (hh.ext hx)
  have c2 := fun w1 (hx : Ext w w1) => valid8_any hv h w1 (hh.ext hx)
  have c3 := fun (hV : ValidH h) bv but w1 (hx : Ext w w1) hb => refBut_any hv bv h hV but w1 (hh.ext hx) hb
  have c4 := fun v but w1 hh => firstPub_any v (withE h (butL h but)) w1 hh
  obtain ⟨ra, rc, aa, ac, ea, ec, rfl, -⟩ := hh
  by_cases h0 : raErr h = 0
  rotate_left
  · obtain ⟨e1, e2⟩ := wrong_bad h0
    rw [e1, e2] at c1
    have k0 : (raErr h == 0) = false := by simpa using h0
    have k1 : (raErr h != 0) = true := by simpa using h0
    rw [k0] at c2
    generalize raErr h = er at *
    clear h0 e1 e2 c3 c4 k0
    go_enter Try.func9, Try.ntmps9
    go_wp2_with fail
    refine (c1 _ (ext_alloc _ _)).mono ?_
    rintro e w1 ⟨u, rfl, hu, hx⟩
    obtain ⟨ua, uc, rfl, -⟩ := hu.shape
    have x1 : Ext w w1 := hx.of_alloc
    have p0 : w1.cell? ⟨w.heap.size, 0, none⟩ = some (.int .i64 h.days) := hx.cell (by simp [go_sem])
    have p1 : w1.cell? ⟨w.heap.size, 1, none⟩ = some (.slice ra h.rates.length rc) := hx.cell (by simp [go_sem])
    have p2 : w1.cell? ⟨w.heap.size, 2, none⟩ = some (.int .i64 h.step) := hx.cell (by simp [go_sem])
    have p3 : w1.cell? ⟨w.heap.size, 3, none⟩ = some (.slice aa h.agents.length ac) := hx.cell (by simp [go_sem])
    have p4 : w1.cell? ⟨w.heap.size, 4, none⟩ = some (.slice ea h.entries.length ec) := hx.cell (by simp [go_sem])
    have z0 := cell_lt p0
    simp only [ints, List.map_nil, List.length_nil] at hu ⊢
    clear hx c1 hu
    go_wp2_with fail
    refine (c2 _ x1).mono ?_
    rintro e w2 ⟨rfl, hx⟩
    (replace p0 := Ext.cell hx p0; replace p1 := Ext.cell hx p1; replace p2 := Ext.cell hx p2; replace p3 := Ext.cell hx p3; replace p4 := Ext.cell hx p4; replace z0 := cell_lt p0; replace x1 := Ext.trans x1 hx)
    clear hx c2
    go_wp2_with fail
    (refine (awakeR_any _).mono ?_; rintro e w9 ⟨rfl, hx9⟩; have x9 := Ext.trans x1 hx9; clear hx9)
    go_wp2
    go_ret
    exact ⟨rfl, x9⟩
  have hV := validH_of h0
  have hn5 := hV.entries
  have c3' := c3 hV
  have k0 : (raErr h == 0) = true := by simpa using h0
  rw [k0] at c2
  have hfst := fun hw => wrong_first h0 hw
  have hoth := fun s hs => wrong_others (s := s) h0 hs
  have hmt := membersTo_pow ⟨bts, by omega⟩ ⟨h.entries.length, by omega⟩
  simp only at hmt
  obtain ⟨hs1, hs2, hs3⟩ := hoth (bts % 2 ^ h.entries.length) (Nat.mod_lt _ (Nat.two_pow_pos _))
  rw [← hmt] at hs1 hs2
  generalize trueP h (bts % 2 ^ h.entries.length) = tp at *
  obtain ⟨f1, hf1⟩ : ∃ f1 : Int, f1 = if tp = true then 0 else 8 := ⟨_, rfl⟩
  rw [← hf1] at hs1
  have HF1 := Lib.hid hf1
  clear hf1
  have HFST := Lib.hid hfst
  have HS1 := Lib.hid hs1
  have HS2 := Lib.hid hs2
  have HS3 := Lib.hid hs3
  have C3 := Lib.hid c3'
  have C4 := Lib.hid c4
  clear hfst hoth hmt hs1 hs2 hs3 c3' c4 c3 hV h0 k0
  generalize wrongErr h = we at *
  generalize wrongL h = wl at *
  obtain ⟨i0, hi, hz0, hz1, hz2⟩ := info_parts infoInt
  have wb : IntKind.i64.wrap (bts : Int) = bts := IntWalk.i64_in _ (by omega)
  go_enter Try.func9, Try.ntmps9
  go_wp2_with fail
  refine (c1 _ (ext_alloc _ _)).mono ?_
  rintro e w1 ⟨u, rfl, hu, hx⟩
  obtain ⟨ua, uc, rfl, -⟩ := hu.shape
  have x1 : Ext w w1 := hx.of_alloc
  have p0 : w1.cell? ⟨w.heap.size, 0, none⟩ = some (.int .i64 h.days) := hx.cell (by simp [go_sem])
  have p1 : w1.cell? ⟨w.heap.size, 1, none⟩ = some (.slice ra h.rates.length rc) := hx.cell (by simp [go_sem])
  have p2 : w1.cell? ⟨w.heap.size, 2, none⟩ = some (.int .i64 h.step) := hx.cell (by simp [go_sem])
  have p3 : w1.cell? ⟨w.heap.size, 3, none⟩ = some (.slice aa h.agents.length ac) := hx.cell (by simp [go_sem])
  have p4 : w1.cell? ⟨w.heap.size, 4, none⟩ = some (.slice ea h.entries.length ec) := hx.cell (by simp [go_sem])
  have z0 := cell_lt p0
  clear hx c1
  go_wp2_with fail
  refine (c2 _ x1).mono ?_
  rintro e w2 ⟨rfl, hx⟩
  (replace p0 := Ext.cell hx p0; replace p1 := Ext.cell hx p1; replace p2 := Ext.cell hx p2; replace p3 := Ext.cell hx p3; replace p4 := Ext.cell hx p4; replace z0 := cell_lt p0; replace x1 := Ext.trans x1 hx)
  replace hu := hu.ext hx
  clear hx c2
  go_wp2
  go_loopw [7, 8] (fun v i wr => ∃ k : Nat, k ≤ h.entries.length ∧ i = .int .i64 k ∧ Ext w2 wr ∧ wr.ownsRow w2.heap.size 3 1 v (ints (membersTo bts k)).length ((ints (membersTo bts k)).map (Value.int .i64))) (fun _ i _ => h.entries.length - (intOf i).toNat)
  case atStart => exact ⟨0, Nat.zero_le _, rfl, Ext.refl _, World.ownsRow_nil _ _ _ _⟩
  case round =>
    obtain ⟨k, hk, rfl, hxr, hown⟩ := hrel
    have q4 := hxr.cell p4
    have y0 := cell_lt q4
    by_cases hlt : k < h.entries.length
    · have k1 : (k : Int) < (h.entries.length : Int) := by omega
      have hbit := tm_bit ⟨bts, by omega⟩ ⟨k, by omega⟩
      simp only at hbit
      have hst := membersTo_succ bts k
      have hml : (ints (membersTo bts k)).length ≤ 5 := by have := membersTo_len bts k; simp only [ints, List.length_map]; omega
      have hsz := hxr.size
      cases hb : bts.testBit k
      · rw [hb] at hbit hst
        simp only [Bool.false_eq_true, if_false, List.append_nil] at hbit hst
        have Hst := Lib.hid hst
        clear hb hst
        go_wp2
        go_roundw
        case rel => exact ⟨k + 1, by omega, by go_num, hxr, by rw [Hst.out]; exact hown⟩
        case measure => simp [intOf]; omega
      · rw [hb] at hbit hst
        simp only [if_true] at hbit hst
        have Hst := Lib.hid hst
        clear hb hst
        go_wp2_with (at_builtin; refine wpList_append_own _ rfl _ _ 30 rfl w2.heap.size 3 i0 (.int .i64 0) 1 8 Try.underlying30 hi hz0 hz1 hz2 rfl (by decide) _ _ _ rfl (hown.alloc _) ⟨wr.heap.size, 0, none⟩ 1 1 [.int .i64 k] rfl rfl (cell_one_new _ _ _) (by simp [Value.oneCell']) (by unfold maxLen; omega) (by omega) (by simp; omega) ?_; intro v' w3 hown' hgrow _)
        have hx3 : Ext w2 w3 := Ext.grown (hxr.alloc _) hgrow fun k hk => (hown.lt k hk).1
        go_roundw
        case rel => exact ⟨k + 1, by omega, by go_num, hx3, own_snoc rfl Hst.out hown'⟩
        case measure => simp [intOf]; omega
    · obtain rfl : k = h.entries.length := by omega
      have hov : IntsAt wr _ (ints (membersTo bts h.entries.length)) := IntsAt.of_own hown (fun x hx => by
        simp only [ints, membersTo, List.mem_map, List.mem_filter, List.mem_range] at hx
        obtain ⟨y, ⟨hy, -⟩, rfl⟩ := hx
        unfold I64; omega)
      generalize ints (membersTo bts h.entries.length) = o at *
      obtain ⟨oa, oc, rfl, -⟩ := hov.shape
      replace hu := hu.ext hxr
      have x3 := x1.trans hxr
      have q0 := hxr.cell p0
      have q1 := hxr.cell p1
      have q2 := hxr.cell p2
      have q3 := hxr.cell p3
      clear hown hxr p0 p1 p2 p3 p4 z0
      go_wp2_with fail
      refine (C3.out _ o _ x3 hov).mono ?_
      rintro e w4 ⟨bv, rfl, hbv, hx⟩
      replace q0 := hx.cell q0
      replace q1 := hx.cell q1
      replace q2 := hx.cell q2
      replace q3 := hx.cell q3
      replace q4 := hx.cell q4
      replace y0 := cell_lt q4
      replace hu := hu.ext hx
      replace hov := hov.ext hx
      replace x3 := x3.trans hx
      have hc4 := C4.out bv o w4 hbv
      rw [HS1.out] at hc4
      clear hx hbv
      go_wp2_with fail
      refine hc4.mono ?_
      rintro e w5 ⟨fv, rfl, hfv, hx⟩
      obtain ⟨fa, fc, rfl, -⟩ := hfv.shape
      replace q0 := hx.cell q0
      replace q1 := hx.cell q1
      replace q2 := hx.cell q2
      replace q3 := hx.cell q3
      replace q4 := hx.cell q4
      replace y0 := cell_lt q4
      replace hu := hu.ext hx
      replace hov := hov.ext hx
      replace x3 := x3.trans hx
      generalize firstNM (withE h (butL h o)) = fn1 at *
      generalize (firstLM (withE h (butL h o))).length = fl1 at *
      clear hx hfv hc4
      by_cases hw : we = 0
      rotate_left
      · obtain ⟨rfl, rfl, rfl⟩ := HS3.out hw
        obtain rfl : f1 = 8 := HF1.out
        simp only [ints, List.map_nil, List.length_nil]
        clear hw hu hov q0 q1 q2 q3 q4 y0
        go_wp2_with fail
        (refine (awakeR_any _).mono ?_; rintro e w9 ⟨rfl, hx9⟩; have x9 := Ext.trans x3 hx9; clear hx9)
        go_wp2
        go_ret
        exact ⟨rfl, x9⟩
      subst hw
      have hc3 := C3.out (.slice ua (ints wl).length uc) (ints wl) w5 x3 hu
      obtain ⟨hf0, hris⟩ := HFST.out rfl
      have HRIS := Lib.hid hris
      have HF0 := Lib.hid hf0
      clear hris hf0
      go_wp2_with fail
      refine hc3.mono ?_
      rintro e w6 ⟨bv2, rfl, hbv2, hx⟩
      replace q0 := hx.cell q0
      replace q1 := hx.cell q1
      replace q2 := hx.cell q2
      replace q3 := hx.cell q3
      replace q4 := hx.cell q4
      replace y0 := cell_lt q4
      replace hu := hu.ext hx
      replace hov := hov.ext hx
      replace x3 := x3.trans hx
      have hc4 := C4.out bv2 (ints wl) w6 hbv2
      rw [HF0.out] at hc4
      clear hx hbv2 hc3
      go_wp2_with fail
      refine hc4.mono ?_
      rintro e w7 ⟨gv, rfl, hgv, hx⟩
      obtain ⟨ga, gc, rfl, -⟩ := hgv.shape
      replace q4 := hx.cell q4
      replace y0 := cell_lt q4
      replace hu := hu.ext hx
      replace hov := hov.ext hx
      replace x3 := x3.trans hx
      generalize firstNM (withE h (butL h (ints wl))) = fn2 at *
      generalize (firstLM (withE h (butL h (ints wl)))).length = fl2 at *
      clear hx hgv hc4 q0 q1 q2 q3
      go_wp2_with fail
      refine (rising_any _ _ (ints wl) w7 hu).mono ?_
      rintro e w8 ⟨rfl, hx⟩
      rw [HRIS.out]
      replace hu := hu.ext hx
      replace hov := hov.ext hx
      replace x3 := x3.trans hx
      clear hx q4 y0
      cases tp
      · obtain rfl : f1 = 8 := HF1.out
        clear hu hov
        go_wp2_with fail
        (refine (awakeR_any _).mono ?_; rintro e w9 ⟨rfl, hx9⟩; have x9 := Ext.trans x3 hx9; clear hx9)
        go_wp2
        go_ret
        exact ⟨rfl, x9⟩
      · have hfw := HS2.out (by trivial) (by trivial)
        have hfe := fewer_any _ _ o (ints wl) w8 hov hu
        rw [hfw] at hfe
        obtain rfl : f1 = 0 := HF1.out
        clear hu hov hfw
        go_wp2_with fail
        refine hfe.mono ?_
        rintro e wa ⟨rfl, hx⟩
        replace x3 := x3.trans hx
        clear hx hfe
        go_wp2_with fail
        (refine (awakeR_any _).mono ?_; rintro e w9 ⟨rfl, hx9⟩; have x9 := Ext.trans x3 hx9; clear hx9)
        go_wp2
        go_ret
        exact ⟨rfl, x9⟩
end Go.Proofs.Ytdadffmagfknoaa
