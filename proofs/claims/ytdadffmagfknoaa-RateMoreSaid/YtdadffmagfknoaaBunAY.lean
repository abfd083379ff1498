/-
  A HOUSE WITH ONE MORE ENTRY, plain: its truths are some of those of the house; no rate is known worse; no fewer entries are wrong.
  RateMore: with one more entry no rate is known worse, there are no more truths, and no fewer entries are false.
  HOW MANY ENTRIES A HOUSE THAT IS HANDED IN CAN HAVE: by the form's own reach.
-/
import Derived.Test.YtdadffmagfknoaaBunAU
import Derived.Test.YtdadffmagfknoaaBunAX
import Derived.Test.YtdadffmagfknoaaBunAN
import Derived.Test.YtdadffmagfknoaaBunAJ
import Derived.Test.YtdadffmagfknoaaBunAK
import Derived.Test.YtdadffmagfknoaaBunAM
import Derived.Deep.CutBlock
import Derived.Outline
import Derived.Deep.DeepCutAuto
import Derived.Test.YtdadffmagfknoaaBunAO
import Derived.SizedLaws
namespace Go.Proofs.Ytdadffmagfknoaa
set_option linter.unusedSimpArgs false
set_option linter.unusedVariables false
open Go.RowKit
set_option linter.unusedVariables false
theorem mem_low : ∀ (s : Fin 32) (n : Fin 6), (membersM (s.1 % 2 ^ n.1)).length ≤ (membersM s.1).length := by decide +kernel
def moreH (h : House) (x : Ent) : House := withE h (h.entries ++ [x])
theorem entAt_more {h : House} {x : Ent} {i : Nat} (hi : i < h.entries.length) : entAt (moreH h x) i = entAt h i := by
  unfold entAt moreH withE
  simp only [List.getD_eq_getElem?_getD]
  rw [List.getElem?_append_left hi]
theorem more_sub {h : House} {x : Ent} (hV : ValidH h) (hM : ValidH (moreH h x)) (s : Nat) {r : List Int} (hr : r ∈ truL (moreH h x) (outB s)) : r ∈ truL h (outB (s % 2 ^ h.entries.length)) := by
  obtain ⟨h1, h2⟩ := (mem_truL hM).1 hr
  have e1 : ratesL (moreH h x) = ratesL h := ratesL_withE h _
  rw [e1] at h1
  refine (mem_truL hV).2 ⟨h1, fun i hi ho ht => ?_⟩
  have hlen : (moreH h x).entries.length = h.entries.length + 1 := by unfold moreH withE; simp
  have := h2 i (by omega) (by
    unfold outB at ho ⊢
    rw [Nat.testBit_mod_two_pow] at ho
    simpa [hi] using ho)
  rw [entAt_more hi] at this
  exact this ht
theorem more_sub0 {h : House} {x : Ent} (hV : ValidH h) (hM : ValidH (moreH h x)) {r : List Int} (hr : r ∈ truL (moreH h x) (outB 0)) : r ∈ truL h (outB 0) := by
  have := more_sub hV hM 0 hr
  rwa [Nat.zero_mod] at this
theorem more_many {h : House} {x : Ent} (hV : ValidH h) (hM : ValidH (moreH h x)) : (truL (moreH h x) (outB 0)).length ≤ (truL h (outB 0)).length := by
  have e1 : truL (moreH h x) (outB 0) = (ratesL h).filter fun q => okAll (moreH h x) (outB 0) q := by rw [truL_all hM]; unfold moreH; rw [ratesL_withE]
  have e2 : truL h (outB 0) = (ratesL h).filter fun q => okAll h (outB 0) q := truL_all hV _
  have e3 : truL (moreH h x) (outB 0) = (truL h (outB 0)).filter fun q => okAll (moreH h x) (outB 0) q := by
    rw [e1, e2, List.filter_filter]
    refine List.filter_congr fun q hq => ?_
    rw [Bool.eq_iff_iff, Bool.and_eq_true]
    refine ⟨fun k => ⟨k, ?_⟩, fun k => k.1⟩
    have : q ∈ truL (moreH h x) (outB 0) := by rw [e1]; exact List.mem_filter.2 ⟨hq, k⟩
    have := more_sub0 hV hM this
    rw [e2] at this
    exact (List.mem_filter.1 this).2
  rw [e3]
  exact List.length_filter_le _ _
structure MoreIs (h m : House) : Prop where
  err : wrongErr m = wrongErr h
  len : (wrongL h).length ≤ (wrongL m).length
  many : firstNM m ≤ firstNM h
  first : firstErrM h ≠ 0 → firstErrM m = firstErrM h
  zero : firstErrM m ≠ 0 → firstErrM m = 8
  rate : firstErrM m = 0 → ∀ d : Nat, (d : Int) < h.days → ∀ f : List Int → Int, numErr h [⟨(d : Int), daysM h, 4⟩] f = 0 ∧ numErr m [⟨(d : Int), daysM m, 4⟩] f = 0 ∧ (numSpan h [⟨(d : Int), daysM h, 4⟩] f).1 ≤ (numSpan m [⟨(d : Int), daysM m, 4⟩] f).1 ∧ (numSpan m [⟨(d : Int), daysM m, 4⟩] f).2 ≤ (numSpan h [⟨(d : Int), daysM h, 4⟩] f).2
theorem more_is {h : House} {x : Ent} (he : raErr h = 0) (hm : raErr (moreH h x) = 0) : MoreIs h (moreH h x) := by
  have hV := validH_of he
  have hM := validH_of hm
  have hlen : (moreH h x).entries.length = h.entries.length + 1 := by unfold moreH withE; simp
  have hR : ratesL (moreH h x) = ratesL h := ratesL_withE h _
  have h5 := hM.entries
  obtain ⟨f1, -, f3⟩ := first_none he
  obtain ⟨g1, -, g3⟩ := first_none hm
  have hiff : wrongErr (moreH h x) = 0 ↔ wrongErr h = 0 := by rw [wrong_err_iff hm hM, wrong_err_iff he hV, hR]
  refine ⟨?_, ?_, ?_, ?_, ?_, ?_⟩
  · rcases wrongErr_cases he with e | e
    · rw [e, hiff.2 e]
    · rcases wrongErr_cases hm with e2 | e2
      · rw [hiff.1 e2] at e; cases e
      · rw [e, e2]
  · by_cases e : wrongErr h = 0
    · obtain ⟨⟨s, s1, s2, s3⟩, -⟩ := wrong_ok hm (hiff.2 e)
      obtain ⟨-, k⟩ := wrong_ok he e
      obtain ⟨r, hr⟩ := trueP_iff.1 s2
      have hk := rcmpFew_len (k (s % 2 ^ h.entries.length) (Nat.mod_lt _ (Nat.two_pow_pos _)) (trueP_iff.2 ⟨r, more_sub hV hM s hr⟩))
      have h32 := two_pow_lt32 h5
      have := mem_low ⟨s, by omega⟩ ⟨h.entries.length, by omega⟩
      simp only at this
      rw [← s3]
      omega
    · rw [(wrong_none he e).2.1]; simp
  · rw [f3, g3]; exact more_many hV hM
  · intro e
    rw [f1] at e ⊢
    rw [g1]
    split at e
    · rename_i e0
      have := more_many (x := x) hV hM
      rw [e0] at this
      rw [if_pos e0, if_pos (List.eq_nil_of_length_eq_zero (by simpa using this))]
    · exact absurd rfl e
  · intro e
    rw [g1] at e ⊢
    split at e
    · rename_i e0; rw [if_pos e0]
    · exact absurd rfl e
  · intro e d hd f
    have hne : truL (moreH h x) (outB 0) ≠ [] := fun e0 => by rw [g1, if_pos e0] at e; cases e
    have hne0 : truL h (outB 0) ≠ [] := fun e0 => by
      have := more_many (x := x) hV hM
      rw [e0] at this
      exact hne (List.eq_nil_of_length_eq_zero (by simpa using this))
    obtain ⟨a1, a2⟩ := rate_ok he hne0 (d := (d : Int)) ⟨by omega, hd⟩ f
    obtain ⟨b1, b2⟩ := rate_ok hm hne (d := (d : Int)) ⟨by omega, hd⟩ f
    have := b2.sub a2 (fun r hr => ⟨r, more_sub0 hV hM hr, rfl⟩)
    exact ⟨a1, b1, this.1, this.2⟩
end Go.Proofs.Ytdadffmagfknoaa

namespace Go.Proofs.Ytdadffmagfknoaa
set_option linter.unusedSimpArgs false
set_option linter.unusedVariables false
open Go.RowKit
set_option linter.unusedVariables false
set_option linter.unusedSimpArgs false
set_option maxRecDepth 100000
theorem lawWithin_any (a b c d : Int) (w : World) : Calls Try.prog 43 #[spanV a b, spanV c d] w fun e w' => e = .returned (.bool (decide (c ≤ a) && decide (b ≤ d))) ∧ Ext w w' := by
  unfold spanV
  go_enter Try.func43, Try.ntmps43
  by_cases h1 : c ≤ a
  · by_cases h2 : b ≤ d
    · go_wp2
      go_ret
      refine ⟨by simp [h1, h2], ?_⟩
      exact (by first | (with_reducible exact Ext.refl _) | (with_reducible assumption) | (show Below _ _ _; go_grown; done))
    · go_wp2
      go_ret
      refine ⟨by simp [h1, h2], ?_⟩
      exact (by first | (with_reducible exact Ext.refl _) | (with_reducible assumption) | (show Below _ _ _; go_grown; done))
  · go_wp2
    go_ret
    refine ⟨by simp; intro h; omega, ?_⟩
    exact (by first | (with_reducible exact Ext.refl _) | (with_reducible assumption) | (show Below _ _ _; go_grown; done))
theorem entries_i {w : World} {v : Value} {l : List Ent} (h : EntriesAt w v l) : ∀ e ∈ l, EntI e := by
  intro e he
  obtain ⟨i, hi, rfl⟩ := List.getElem_of_mem he
  obtain ⟨va, vc, rfl, -⟩ := h.shape
  obtain ⟨_, _, _, -, -, -, -, r4⟩ := SliceAt.get h hi
  exact r4
set_option maxHeartbeats 8000000 in
theorem more8_any (hv xv : Value) (h : House) (x : Ent) (w : World) (hh : HouseAt w hv h) (hx : EntV xv x) (hb : (h.entries.length + 1) * 32 ≤ 140737488355328) :
    Calls Try.prog 10 #[hv, xv] w fun e w' => e = .returned (.bool true) ∧ Ext w w' := by
  have c1 := fun w1 (hx : Ext w w1) => valid8_any hv h w1 (hh.ext hx)
  have c2 := fun w1 (hx : Ext w w1) => firstPub_any hv h w1 (hh.ext hx)
  have c3 := fun w1 (hx : Ext w w1) => wrong_any hv h w1 (hh.ext hx)
  have c4 := fun d hd w1 (hx : Ext w w1) => ratePub_any hv h d hd w1 (hh.ext hx)
  have HH := Lib.hid hh
  obtain ⟨ra, rc, aa, ac, ea, ec, rfl, hdi, hsi, hsp, hag, hen⟩ := hh
  obtain ⟨rfl, hxi⟩ := hx
  obtain ⟨n, hn⟩ : ∃ n, n = h.entries.length := ⟨_, rfl⟩
  rw [← hn] at hb
  simp only [← hn] at c1 c2 c3 c4 hen
  have C1 := Lib.hid c1
  have C2 := Lib.hid c2
  have C3 := Lib.hid c3
  have C4 := Lib.hid c4
  have HXI := Lib.hid hxi
  have HSP := Lib.hid hsp
  have HAG := Lib.hid hag
  have HEN := Lib.hid hen
  have HN := Lib.hid hn
  rw [← hn] at HH ⊢
  clear c1 c2 c3 c4 hxi hsp hag hen hn
  unfold entV
  go_enter Try.func10, Try.ntmps10
  go_upto_region 2 with fail
  obtain ⟨R, hR⟩ : ∃ R, R = (((w.alloc (.cells #[.int .i64 h.days, .slice ra h.rates.length rc, .int .i64 h.step, .slice aa h.agents.length ac, .slice ea n ec] 26)).alloc (.cells #[.int .i64 x.agent, .int .i64 x.day, .int .i64 x.near, .int .i64 x.far] 58)).alloc (.cells #[.int .i64 h.days, .slice ra h.rates.length rc, .int .i64 h.step, .slice aa h.agents.length ac, .slice ea n ec] 26)) := ⟨_, rfl⟩
  rw [← hR]
  have xR : Ext w R := by rw [hR]; exact ((ext_alloc _ _).alloc _).alloc _
  have p0 : R.cell? ⟨w.heap.size, 0, none⟩ = some (.int .i64 h.days) := by rw [hR]; simp [go_sem]
  have p1 : R.cell? ⟨w.heap.size, 1, none⟩ = some (.slice ra h.rates.length rc) := by rw [hR]; simp [go_sem]
  have p2 : R.cell? ⟨w.heap.size, 2, none⟩ = some (.int .i64 h.step) := by rw [hR]; simp [go_sem]
  have p3 : R.cell? ⟨w.heap.size, 3, none⟩ = some (.slice aa h.agents.length ac) := by rw [hR]; simp [go_sem]
  have p4 : R.cell? ⟨w.heap.size, 4, none⟩ = some (.slice ea n ec) := by rw [hR]; simp [go_sem]
  have e0 : R.cell? ⟨w.heap.size + 1, 0, none⟩ = some (.int .i64 x.agent) := by rw [hR]; simp [go_sem]
  have e1 : R.cell? ⟨w.heap.size + 1, 1, none⟩ = some (.int .i64 x.day) := by rw [hR]; simp [go_sem]
  have e2 : R.cell? ⟨w.heap.size + 1, 2, none⟩ = some (.int .i64 x.near) := by rw [hR]; simp [go_sem]
  have e3 : R.cell? ⟨w.heap.size + 1, 3, none⟩ = some (.int .i64 x.far) := by rw [hR]; simp [go_sem]
  have q0 : R.cell? ⟨w.heap.size + 1 + 1, 0, none⟩ = some (.int .i64 h.days) := by rw [hR]; simp [go_sem]
  have q1 : R.cell? ⟨w.heap.size + 1 + 1, 1, none⟩ = some (.slice ra h.rates.length rc) := by rw [hR]; simp [go_sem]
  have q2 : R.cell? ⟨w.heap.size + 1 + 1, 2, none⟩ = some (.int .i64 h.step) := by rw [hR]; simp [go_sem]
  have q3 : R.cell? ⟨w.heap.size + 1 + 1, 3, none⟩ = some (.slice aa h.agents.length ac) := by rw [hR]; simp [go_sem]
  have q4 : R.cell? ⟨w.heap.size + 1 + 1, 4, none⟩ = some (.slice ea n ec) := by rw [hR]; simp [go_sem]
  have mf : R.frozen? ⟨w.heap.size + 1 + 1, 4, none⟩ = false := by rw [hR]; simp [go_sem]
  obtain ⟨H, hH⟩ : ∃ H, H = w.heap.size := ⟨_, rfl⟩
  rw [← hH] at p0 p1 p2 p3 p4 e0 e1 e2 e3 q0 q1 q2 q3 q4 mf ⊢
  clear hR
  refine more_r2 (R := R) p4 (HEN.out.ext xR) hb e0 e1 e2 e3 q4 mf _ ?_
  intro v22 v23 v24 v25 v26 v27 v28 v29 v' wc hxc hrow
  have zH : H + 1 + 1 < R.heap.size := cell_lt q4
  have hI : ∀ e ∈ h.entries ++ [x], EntI e := fun e he => by
    rcases List.mem_append.1 he with h1 | h1
    · exact entries_i HEN.out e h1
    · rw [List.mem_singleton.1 h1]; exact HXI.out
  have hent := (hrow.set (p := ⟨H + 1 + 1, 4, none⟩) zH v').at_ hI
  obtain ⟨va, vc, rfl, -⟩ := hent.shape
  have hln : (h.entries ++ [x]).length = n + 1 := by rw [HN.out]; simp
  rw [hln] at hent ⊢
  obtain ⟨Wm, hWm⟩ : ∃ Wm, Wm = wc.setCell ⟨H + 1 + 1, 4, none⟩ (.slice va (n + 1) vc) := ⟨_, rfl⟩
  rw [← hWm] at hent ⊢
  have x1 : Ext w Wm := by rw [hWm]; exact (xR.trans hxc).setCell (p := ⟨H + 1 + 1, 4, none⟩) (by simp [hH]; omega) _
  replace p0 : Wm.cell? ⟨H, 0, none⟩ = some (.int .i64 h.days) := by rw [hWm]; exact set_other (hxc.cell p0) (.inl (show H + 1 + 1 ≠ H by omega)) _
  replace p1 : Wm.cell? ⟨H, 1, none⟩ = some (.slice ra h.rates.length rc) := by rw [hWm]; exact set_other (hxc.cell p1) (.inl (show H + 1 + 1 ≠ H by omega)) _
  replace p2 : Wm.cell? ⟨H, 2, none⟩ = some (.int .i64 h.step) := by rw [hWm]; exact set_other (hxc.cell p2) (.inl (show H + 1 + 1 ≠ H by omega)) _
  replace p3 : Wm.cell? ⟨H, 3, none⟩ = some (.slice aa h.agents.length ac) := by rw [hWm]; exact set_other (hxc.cell p3) (.inl (show H + 1 + 1 ≠ H by omega)) _
  replace p4 : Wm.cell? ⟨H, 4, none⟩ = some (.slice ea n ec) := by rw [hWm]; exact set_other (hxc.cell p4) (.inl (show H + 1 + 1 ≠ H by omega)) _
  have q4' : Wm.cell? ⟨H + 1 + 1, 4, none⟩ = some (.slice va (n + 1) vc) := by rw [hWm]; exact set_cell (hxc.cell q4) _
  replace q0 : Wm.cell? ⟨H + 1 + 1, 0, none⟩ = some (.int .i64 h.days) := by rw [hWm]; exact set_other (hxc.cell q0) (.inr (by simp)) _
  replace q1 : Wm.cell? ⟨H + 1 + 1, 1, none⟩ = some (.slice ra h.rates.length rc) := by rw [hWm]; exact set_other (hxc.cell q1) (.inr (by simp)) _
  replace q2 : Wm.cell? ⟨H + 1 + 1, 2, none⟩ = some (.int .i64 h.step) := by rw [hWm]; exact set_other (hxc.cell q2) (.inr (by simp)) _
  replace q3 : Wm.cell? ⟨H + 1 + 1, 3, none⟩ = some (.slice aa h.agents.length ac) := by rw [hWm]; exact set_other (hxc.cell q3) (.inr (by simp)) _
  replace q4 := q4'
  have hM : HouseAt Wm (.agg #[.int .i64 h.days, .slice ra h.rates.length rc, .int .i64 h.step, .slice aa h.agents.length ac, .slice va (n + 1) vc]) (moreH h x) := by
    rw [← hln] at hent ⊢
    exact ⟨ra, rc, aa, ac, va, vc, rfl, hdi, hsi, HSP.out.ext x1, HAG.out.ext x1, hent⟩
  have d1 := fun w1 (hx : Ext Wm w1) => valid8_any _ _ w1 (hM.ext hx)
  have d2 := fun w1 (hx : Ext Wm w1) => firstPub_any _ _ w1 (hM.ext hx)
  have d3 := fun w1 (hx : Ext Wm w1) => wrong_any _ _ w1 (hM.ext hx)
  have d4 := fun d hd w1 (hx : Ext Wm w1) => ratePub_any _ _ d hd w1 (hM.ext hx)
  have D1 := Lib.hid d1
  have D2 := Lib.hid d2
  have D3 := Lib.hid d3
  have D4 := Lib.hid d4
  have z0 := cell_lt p0
  have y0 := cell_lt q0
  clear d1 d2 d3 d4 hM q4' hent hrow hI hWm hxc xR e0 e1 e2 e3 mf hln zH hb hH
  have c1 := C1.out
  by_cases h0 : raErr h = 0
  rotate_left
  · have k0 : (raErr h == 0) = false := by simpa using h0
    rw [k0] at c1
    clear h0 k0
    go_wp2_with fail
    refine (c1 _ x1).mono ?_
    rintro e w1 ⟨rfl, hx⟩
    (replace p0 := Ext.cell hx p0; replace p1 := Ext.cell hx p1; replace p2 := Ext.cell hx p2; replace p3 := Ext.cell hx p3; replace p4 := Ext.cell hx p4; replace q0 := Ext.cell hx q0; replace q1 := Ext.cell hx q1; replace q2 := Ext.cell hx q2; replace q3 := Ext.cell hx q3; replace q4 := Ext.cell hx q4; replace z0 := cell_lt p0; replace y0 := cell_lt q0; replace x1 := Ext.trans x1 hx)
    clear hx c1
    go_wp2_with fail
    (refine (awakeR_any _).mono ?_; rintro e w9 ⟨rfl, hx9⟩; have x9 := Ext.trans x1 hx9; clear hx9)
    go_wp2
    go_ret
    exact ⟨rfl, x9⟩
  have k0 : (raErr h == 0) = true := by simpa using h0
  rw [k0] at c1
  clear k0
  have d1 := D1.out
  by_cases m0 : raErr (moreH h x) = 0
  rotate_left
  · have k1 : (raErr (moreH h x) == 0) = false := by simpa using m0
    rw [k1] at d1
    clear h0 m0 k1
    go_wp2_with fail
    refine (c1 _ x1).mono ?_
    rintro e w1 ⟨rfl, hx⟩
    have xm := hx
    (replace p0 := Ext.cell hx p0; replace p1 := Ext.cell hx p1; replace p2 := Ext.cell hx p2; replace p3 := Ext.cell hx p3; replace p4 := Ext.cell hx p4; replace q0 := Ext.cell hx q0; replace q1 := Ext.cell hx q1; replace q2 := Ext.cell hx q2; replace q3 := Ext.cell hx q3; replace q4 := Ext.cell hx q4; replace z0 := cell_lt p0; replace y0 := cell_lt q0; replace x1 := Ext.trans x1 hx)
    clear hx c1
    go_wp2_with fail
    refine (d1 _ xm).mono ?_
    rintro e w2 ⟨rfl, hx⟩
    (replace p0 := Ext.cell hx p0; replace p1 := Ext.cell hx p1; replace p2 := Ext.cell hx p2; replace p3 := Ext.cell hx p3; replace p4 := Ext.cell hx p4; replace q0 := Ext.cell hx q0; replace q1 := Ext.cell hx q1; replace q2 := Ext.cell hx q2; replace q3 := Ext.cell hx q3; replace q4 := Ext.cell hx q4; replace z0 := cell_lt p0; replace y0 := cell_lt q0; replace x1 := Ext.trans x1 hx)
    clear hx d1 xm
    go_wp2_with fail
    (refine (awakeR_any _).mono ?_; rintro e w9 ⟨rfl, hx9⟩; have x9 := Ext.trans x1 hx9; clear hx9)
    go_wp2
    go_ret
    exact ⟨rfl, x9⟩
  have k1 : (raErr (moreH h x) == 0) = true := by simpa using m0
  rw [k1] at d1
  clear k1
  have hMI := more_is h0 m0
  have hdz := (validH_of h0).days
  have HMI := Lib.hid hMI
  clear h0 m0 hMI
  go_wp2_with fail
  refine (c1 _ x1).mono ?_
  rintro e w1 ⟨rfl, hx⟩
  have xm := hx
  (replace p0 := Ext.cell hx p0; replace p1 := Ext.cell hx p1; replace p2 := Ext.cell hx p2; replace p3 := Ext.cell hx p3; replace p4 := Ext.cell hx p4; replace q0 := Ext.cell hx q0; replace q1 := Ext.cell hx q1; replace q2 := Ext.cell hx q2; replace q3 := Ext.cell hx q3; replace q4 := Ext.cell hx q4; replace z0 := cell_lt p0; replace y0 := cell_lt q0; replace x1 := Ext.trans x1 hx)
  clear hx c1
  go_wp2_with fail
  refine (d1 _ xm).mono ?_
  rintro e w2 ⟨rfl, hx⟩
  replace xm := xm.trans hx
  (replace p0 := Ext.cell hx p0; replace p1 := Ext.cell hx p1; replace p2 := Ext.cell hx p2; replace p3 := Ext.cell hx p3; replace p4 := Ext.cell hx p4; replace q0 := Ext.cell hx q0; replace q1 := Ext.cell hx q1; replace q2 := Ext.cell hx q2; replace q3 := Ext.cell hx q3; replace q4 := Ext.cell hx q4; replace z0 := cell_lt p0; replace y0 := cell_lt q0; replace x1 := Ext.trans x1 hx)
  clear hx d1
  have c2 := C2.out w2 x1
  have mi := HMI.out
  go_wp2_with fail
  refine c2.mono ?_
  rintro e w3 ⟨u, rfl, hu, hx⟩
  obtain ⟨ua, uc, rfl, -⟩ := hu.shape
  replace xm := xm.trans hx
  (replace p0 := Ext.cell hx p0; replace p1 := Ext.cell hx p1; replace p2 := Ext.cell hx p2; replace p3 := Ext.cell hx p3; replace p4 := Ext.cell hx p4; replace q0 := Ext.cell hx q0; replace q1 := Ext.cell hx q1; replace q2 := Ext.cell hx q2; replace q3 := Ext.cell hx q3; replace q4 := Ext.cell hx q4; replace z0 := cell_lt p0; replace y0 := cell_lt q0; replace x1 := Ext.trans x1 hx)
  clear hx c2 hu
  have d2 := D2.out w3 xm
  go_wp2_with fail
  refine d2.mono ?_
  rintro e w4 ⟨u, rfl, hu, hx⟩
  obtain ⟨va', vc', rfl, -⟩ := hu.shape
  replace xm := xm.trans hx
  (replace p0 := Ext.cell hx p0; replace p1 := Ext.cell hx p1; replace p2 := Ext.cell hx p2; replace p3 := Ext.cell hx p3; replace p4 := Ext.cell hx p4; replace q0 := Ext.cell hx q0; replace q1 := Ext.cell hx q1; replace q2 := Ext.cell hx q2; replace q3 := Ext.cell hx q3; replace q4 := Ext.cell hx q4; replace z0 := cell_lt p0; replace y0 := cell_lt q0; replace x1 := Ext.trans x1 hx)
  clear hx d2 hu
  have c3 := C3.out w4 x1
  go_wp2_with fail
  refine c3.mono ?_
  rintro e w5 ⟨u, rfl, hu, hx⟩
  obtain ⟨wa, wc', rfl, -⟩ := hu.shape
  replace xm := xm.trans hx
  (replace p0 := Ext.cell hx p0; replace p1 := Ext.cell hx p1; replace p2 := Ext.cell hx p2; replace p3 := Ext.cell hx p3; replace p4 := Ext.cell hx p4; replace q0 := Ext.cell hx q0; replace q1 := Ext.cell hx q1; replace q2 := Ext.cell hx q2; replace q3 := Ext.cell hx q3; replace q4 := Ext.cell hx q4; replace z0 := cell_lt p0; replace y0 := cell_lt q0; replace x1 := Ext.trans x1 hx)
  clear hx c3 hu
  have d3 := D3.out w5 xm
  rw [mi.err] at d3
  go_wp2_with fail
  refine d3.mono ?_
  rintro e w6 ⟨u, rfl, hu, hx⟩
  obtain ⟨wa2, wc2, rfl, -⟩ := hu.shape
  replace xm := xm.trans hx
  (replace p0 := Ext.cell hx p0; replace p1 := Ext.cell hx p1; replace p2 := Ext.cell hx p2; replace p3 := Ext.cell hx p3; replace p4 := Ext.cell hx p4; replace q0 := Ext.cell hx q0; replace q1 := Ext.cell hx q1; replace q2 := Ext.cell hx q2; replace q3 := Ext.cell hx q3; replace q4 := Ext.cell hx q4; replace z0 := cell_lt p0; replace y0 := cell_lt q0; replace x1 := Ext.trans x1 hx)
  clear hx d3 hu
  have k3 : ¬ ((ints (wrongL (moreH h x))).length : Int) < ((ints (wrongL h)).length : Int) := by have := mi.len; simp only [ints, List.length_map]; omega
  have k4 : ¬ (firstNM h : Int) < (firstNM (moreH h x) : Int) := by have := mi.many; omega
  have k5 : ¬ (ints (wrongL (moreH h x))).length < (ints (wrongL h)).length := by have := mi.len; simp only [ints, List.length_map]; omega
  have k6 : ¬ firstNM h < firstNM (moreH h x) := by have := mi.many; omega
  have hF := mi.first
  have hZ := mi.zero
  have hR := mi.rate
  generalize (ints (wrongL (moreH h x))).length = lm at *
  generalize (ints (wrongL h)).length = lh at *
  generalize firstNM h = fh at *
  generalize firstNM (moreH h x) = fm at *
  generalize wrongErr h = we at *
  generalize firstLM h = flh at *
  generalize firstLM (moreH h x) = flm at *
  generalize firstErrM h = ee at *
  generalize firstErrM (moreH h x) = ff at *
  clear mi HMI
  have hcs : (ff = 8 ∧ (ee = 8 ∨ ee = 0)) ∨ (ff = 0 ∧ ee = 0) := by
    by_cases e1 : ff = 0
    · refine .inr ⟨e1, Decidable.byContradiction fun e2 => ?_⟩
      have := hF e2
      omega
    · have e8 := hZ e1
      refine .inl ⟨e8, ?_⟩
      by_cases e2 : ee = 0
      · exact .inr e2
      · exact .inl (by have := hF e2; omega)
  clear hF hZ
  rcases hcs with ⟨rfl, rfl | rfl⟩ | ⟨rfl, rfl⟩
  · clear hR C4 D4
    go_wp2_with fail
    (refine (awakeR_any _).mono ?_; rintro e w9 ⟨rfl, hx9⟩; have x9 := Ext.trans x1 hx9; clear hx9)
    go_wp2
    go_ret
    exact ⟨rfl, x9⟩
  · clear hR C4 D4
    go_wp2_with fail
    (refine (awakeR_any _).mono ?_; rintro e w9 ⟨rfl, hx9⟩; have x9 := Ext.trans x1 hx9; clear hx9)
    go_wp2
    go_ret
    exact ⟨rfl, x9⟩
  have HR := Lib.hid hR
  clear hR
  go_wp2
  obtain ⟨Wl, hWl⟩ : ∃ W : World, W = w6 := ⟨_, rfl⟩
  subst hWl
  go_loopw [16] (fun i wr => ∃ k : Nat, (k : Int) ≤ h.days ∧ i = .int .i64 k ∧ Ext Wl wr) (fun i _ => h.days.toNat - (intOf i).toNat)
  case atStart => exact ⟨0, by omega, rfl, Ext.refl _⟩
  case round =>
    obtain ⟨k, hk, rfl, hx⟩ := hrel
    replace xm := xm.trans hx
    (replace p0 := Ext.cell hx p0; replace p1 := Ext.cell hx p1; replace p2 := Ext.cell hx p2; replace p3 := Ext.cell hx p3; replace p4 := Ext.cell hx p4; replace q0 := Ext.cell hx q0; replace q1 := Ext.cell hx q1; replace q2 := Ext.cell hx q2; replace q3 := Ext.cell hx q3; replace q4 := Ext.cell hx q4; replace z0 := cell_lt p0; replace y0 := cell_lt q0; replace x1 := Ext.trans x1 hx)
    by_cases hlt : (k : Int) < h.days
    · have t3 := C4.out (k : Int) (by unfold I64; omega) wr x1
      have t4 := fun w7 (hx : Ext wr w7) => D4.out (k : Int) (by unfold I64; omega) w7 (xm.trans hx)
      obtain ⟨r1, r2, r3, r4⟩ := HR.out trivial k hlt (fun r => r.getD (k : Int).toNat 0)
      rw [r1] at t3
      rw [r2] at t4
      generalize numSpan h [⟨(k : Int), daysM h, 4⟩] (fun r => r.getD (k : Int).toNat 0) = s1 at *
      generalize numSpan (moreH h x) [⟨(k : Int), daysM (moreH h x), 4⟩] (fun r => r.getD (k : Int).toNat 0) = s2 at *
      obtain ⟨a1, b1⟩ := s1
      obtain ⟨a2, b2⟩ := s2
      simp only at t3 t4 r3 r4
      have t5 := fun w7 => lawWithin_any a2 b2 a1 b1 w7
      rw [decide_eq_true r3, decide_eq_true r4] at t5
      unfold spanV at t3 t4 t5
      have T4 := Lib.hid t4
      have T5 := Lib.hid t5
      clear r1 r2 r3 r4 t4 t5
      go_wp2_with fail
      refine t3.mono ?_
      rintro e w7 ⟨rfl, hx7⟩
      have hxx := hx.trans hx7
      have xm7 := hx7
      (replace p0 := Ext.cell hx7 p0; replace p1 := Ext.cell hx7 p1; replace p2 := Ext.cell hx7 p2; replace p3 := Ext.cell hx7 p3; replace p4 := Ext.cell hx7 p4; replace q0 := Ext.cell hx7 q0; replace q1 := Ext.cell hx7 q1; replace q2 := Ext.cell hx7 q2; replace q3 := Ext.cell hx7 q3; replace q4 := Ext.cell hx7 q4; replace z0 := cell_lt p0; replace y0 := cell_lt q0; replace x1 := Ext.trans x1 hx7)
      clear t3 hx7 hx xm
      go_wp2_with fail
      obtain ⟨R1, hR1⟩ : ∃ R, R = w7.alloc (.cells #[.int .i64 a1, .int .i64 b1] 35) := ⟨_, rfl⟩
      obtain ⟨E, hE⟩ : ∃ E, E = w7.heap.size := ⟨_, rfl⟩
      have xR : Ext w7 R1 := by rw [hR1]; exact ext_alloc _ _
      have e0 : R1.cell? ⟨E, 0, none⟩ = some (.int .i64 a1) := by rw [hR1, hE]; simp [go_sem]
      have e1 : R1.cell? ⟨E, 1, none⟩ = some (.int .i64 b1) := by rw [hR1, hE]; simp [go_sem]
      rw [← hR1, ← hE]
      clear hR1 hE
      refine (T4.out R1 (xm7.trans xR)).mono ?_
      rintro e w8 ⟨rfl, hx8⟩
      replace e0 := hx8.cell e0
      replace e1 := hx8.cell e1
      have hxw := (hxx.trans xR).trans hx8
      have ze := cell_lt e0
      clear hxx xR hx8 xm7 x1 p0 p1 p2 p3 p4 q0 q1 q2 q3 q4 z0 y0
      go_wp2_with fail
      refine (T5.out _).mono ?_
      rintro e w9 ⟨rfl, hx9⟩
      have hxz := (hxw.alloc _).trans hx9
      clear hxw hx9 e0 e1 ze
      go_wp2
      go_roundw
      case rel => exact ⟨k + 1, by omega, by go_num, hxz⟩
      case measure => simp [intOf]; omega
    · clear hx
      go_wp2_with fail
      (refine (awakeR_any _).mono ?_; rintro e w9 ⟨rfl, hx9⟩; have x9 := Ext.trans x1 hx9; clear hx9)
      go_wp2
      go_ret
      exact ⟨rfl, x9⟩
end Go.Proofs.Ytdadffmagfknoaa

namespace Go.Proofs.Ytdadffmagfknoaa
set_option linter.unusedSimpArgs false
set_option linter.unusedVariables false
open Go.ChangeShapes Go.WideShapes Go.RowKit
section
variable {H : Type} {enc : TypeId × Value → H} {w : World} {base : Nat} {sp : Nat → Bool} {held : Bool}
theorem bytesEntry : Try.prog.bytesOf 58 = 32 := by kernel_rfl
theorem entries_reach {fuel : Nat} {v : Value} {x : DataW H × List MemPlace} {l : List Ent} (h : DataW.trod enc Try.prog w base sp held fuel 24 [v] = some x) (hl : EntriesAt w v l)
    (hz : ∀ n ∈ x.1.weights Try.prog 24, n ≤ reachBytes) : l.length * 32 ≤ 140737488351232 := by
  obtain ⟨a0, c0, rfl, -⟩ := hl.shape
  rcases Deep.open_slice Try.underlying24 h with ⟨h1, _⟩ | ⟨a, len, cap, m, n, D, Pl, hcs, _, hle, hm, hmm, rfl, _⟩
  · simp only [List.cons.injEq, Value.slice.injEq, and_true] at h1
    omega
  · simp only [List.cons.injEq, Value.slice.injEq, and_true] at hcs
    have := hz ((len + (m - len)) * Try.prog.bytesOf 58) (by simp [DataW.weights, Try.underlying24])
    rw [bytesEntry] at this
    simp only [reachBytes] at this
    have := hcs.2.1
    omega
set_option maxRecDepth 100000 in
theorem house_reach {v : Value} {d : DataW H} {ps : List MemPlace} {h : House} {ts : List TypeId} {ds : List (DataW H)} (hd : DataW.Trod enc Try.prog w base sp held 26 v d ps) (hh : HouseAt w v h)
    (hsz : (DataW.weightsEach Try.prog (26 :: ts) (d :: ds)).all (· ≤ reachBytes) = true) : h.entries.length * 32 ≤ 140737488351232 := by
  obtain ⟨ra, rc, aa, ac, ea, ec, rfl, -, -, -, -, hen⟩ := hh
  obtain ⟨fuel, hd⟩ := hd
  simp only [Value.cells] at hd
  obtain ⟨xs, n, -, hx, -, hlen, hf⟩ := DataW.trod_struct Try.underlying26 hd
  simp only [Prod.mk.injEq] at hx
  obtain ⟨rfl, -⟩ := hx
  match xs, hlen with
  | [y0, y1, y2, y3, y4], _ =>
    have h4 : DataW.trod enc Try.prog w base sp held n 24 (List.take (Try.prog.cellsOf 24) (List.drop 4 [.int .i64 h.days, .slice ra h.rates.length rc, .int .i64 h.step, .slice aa h.agents.length ac, .slice ea h.entries.length ec])) = some y4 := hf 4 _ rfl
    rw [cellsEntries] at h4
    refine entries_reach (x := y4) h4 hen fun n hn => ?_
    refine of_decide_eq_true (List.all_eq_true.1 hsz n ?_)
    simp [DataW.weightsEach, DataW.weights, Try.underlying26, hn]
end
end Go.Proofs.Ytdadffmagfknoaa
