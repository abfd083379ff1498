/-
  WHETHER AN ENTRY AGREES WITH RATES, by the reference.
  WHAT THE SMALL FUNCTIONS OF THE REFERENCE RETURN: whether a list has a number, ascending numbers, the bits of so many sounds.
  WHAT Truths OF THE REFERENCE RETURNS: all truths of a house, in order, if some entries were not there.
  WHAT THE SMALL FUNCTIONS OF THE REFERENCE RETURN: a bit of some bits; the first index of a string; whether a string is a name; whether a name is fresh.
  WHAT Name AND Fresh OF THE REFERENCE RETURN, for any string: the same as that of ear.
  THE ERRORS OF A SPAN AND OF AN AGENT, by the reference.
  WHAT Check OF RATE'S REFERENCE RETURNS: the same as that of rate. For any house.
  WHAT THE LAWS WANT OF RATES, plain: least and greatest numbers over truths; which rates are truths; errors of arguments; the fewest wrong entries.
  WHETHER A HOUSE IS VALID, AND WHETHER IT HAS A TRUTH: valid and some of the statements.
-/
import Derived.Test.YtdadffmagfknoaaBunAM
import Derived.RegionTactic
import Derived.BigRegion
import Derived.Test.YtdadffmagfknoaaBunAL
import Derived.Test.YtdadffmagfknoaaBunAB
import Derived.Test.YtdadffmagfknoaaBunAD
import Derived.Test.YtdadffmagfknoaaBunAJ
namespace Go.Proofs.Ytdadffmagfknoaa
set_option linter.unusedSimpArgs false
set_option linter.unusedVariables false
open Go.RowKit
set_option linter.unusedVariables false
set_option maxRecDepth 100000

set_option maxHeartbeats 4000000 in
theorem refAgrees_any (hv xv rv : Value) (h : House) (hV : ValidH h) (x : Ent) (r : List Int) (w : World) (hh : HouseAt w hv h) (hx : EntV xv x) (hr : IntsAt w rv r)
    (ha : 0 ≤ x.agent ∧ x.agent < h.agents.length) (hd : 0 ≤ x.day ∧ x.day < r.length) (hn : 0 ≤ x.near ∧ x.near ≤ 99) (hg : ∀ y ∈ r, 1 ≤ y ∧ y ≤ 20) :
    Calls Try.prog 84 #[hv, xv, rv] w fun e w' => e = .returned (.bool (!toldE x || agreesM h x r)) ∧ Ext w w' := by
  obtain ⟨ra, rc, aa, ac, ea, ec, rfl, hdi, hsi, -, hag, -⟩ := hh
  obtain ⟨rfl, -, -, -, -⟩ := hx
  obtain ⟨i, hi⟩ : ∃ i : Nat, x.agent = i := ⟨x.agent.toNat, by omega⟩
  obtain ⟨j, hj⟩ : ∃ j : Nat, x.day = j := ⟨x.day.toNat, by omega⟩
  unfold entV
  rw [hi, hj]
  have hil : i < h.agents.length := by omega
  have hjl : j < r.length := by omega
  have xB : Ext w ((w.alloc (.cells #[.int .i64 h.days, .slice ra h.rates.length rc, .int .i64 h.step, .slice (aa) h.agents.length ac, .slice ea h.entries.length ec] 26)).alloc (.cells #[.int .i64 i, .int .i64 j, .int .i64 x.near, .int .i64 x.far] 58)) := (ext_alloc _ _).alloc _
  have hagr := hV.agent _ (agtAt_mem (h := h) (i := x.agent) ha.1 ha.2)
  have hag1 : h.agents[i] = agtAt h x.agent := by unfold agtAt; rw [hi, Int.toNat_natCast, List.getD_eq_getElem?_getD, List.getElem?_eq_getElem hil]; rfl
  have hrj : r.getD x.day.toNat 0 = r[j] := by rw [hj, Int.toNat_natCast, List.getD_eq_getElem?_getD, List.getElem?_eq_getElem hjl]; rfl
  have hgj := hg _ (List.getElem_mem hjl)
  have hagree : agreesM h x r = (payM (agtAt h x.agent) x.near r[j] == x.far) := by unfold agreesM entPay; rw [hrj]
  obtain ⟨ab, ao, rfl, a0, a1, a2, gs, gf, gr⟩ := SliceAt.get (hag.ext xB) hil
  obtain ⟨sa0, sc, rfl, hsc1, hsc2⟩ := hr.shape
  obtain ⟨sb, so, rfl, sv, -⟩ := SliceAt.get (hr.ext xB) hjl
  rw [hag1] at a0 a1 a2 gs gf gr
  generalize agtAt h x.agent = a at *
  generalize r[j] = p at *
  have b0 : (((w.alloc (.cells #[.int .i64 h.days, .slice ra h.rates.length rc, .int .i64 h.step, .slice (some ⟨ab, ao, none⟩) h.agents.length ac, .slice ea h.entries.length ec] 26)).alloc (.cells #[.int .i64 i, .int .i64 j, .int .i64 x.near, .int .i64 x.far] 58))).cell? ⟨w.heap.size, 3, none⟩ = some (.slice (some ⟨ab, ao, none⟩) h.agents.length ac) := by simp [go_sem]
  have b1 : (((w.alloc (.cells #[.int .i64 h.days, .slice ra h.rates.length rc, .int .i64 h.step, .slice (some ⟨ab, ao, none⟩) h.agents.length ac, .slice ea h.entries.length ec] 26)).alloc (.cells #[.int .i64 i, .int .i64 j, .int .i64 x.near, .int .i64 x.far] 58))).cell? ⟨w.heap.size + 1, 0, none⟩ = some (.int .i64 i) := by simp [go_sem]
  have b2 : (((w.alloc (.cells #[.int .i64 h.days, .slice ra h.rates.length rc, .int .i64 h.step, .slice (some ⟨ab, ao, none⟩) h.agents.length ac, .slice ea h.entries.length ec] 26)).alloc (.cells #[.int .i64 i, .int .i64 j, .int .i64 x.near, .int .i64 x.far] 58))).cell? ⟨w.heap.size + 1, 1, none⟩ = some (.int .i64 j) := by simp [go_sem]
  have b3 : (((w.alloc (.cells #[.int .i64 h.days, .slice ra h.rates.length rc, .int .i64 h.step, .slice (some ⟨ab, ao, none⟩) h.agents.length ac, .slice ea h.entries.length ec] 26)).alloc (.cells #[.int .i64 i, .int .i64 j, .int .i64 x.near, .int .i64 x.far] 58))).cell? ⟨w.heap.size + 1, 2, none⟩ = some (.int .i64 x.near) := by simp [go_sem]
  have b4 : (((w.alloc (.cells #[.int .i64 h.days, .slice ra h.rates.length rc, .int .i64 h.step, .slice (some ⟨ab, ao, none⟩) h.agents.length ac, .slice ea h.entries.length ec] 26)).alloc (.cells #[.int .i64 i, .int .i64 j, .int .i64 x.near, .int .i64 x.far] 58))).cell? ⟨w.heap.size + 1, 3, none⟩ = some (.int .i64 x.far) := by simp [go_sem]
  rw [Nat.mul_one] at sv
  have B0 := Lib.hid b0
  have B1 := Lib.hid b1
  have B2 := Lib.hid b2
  have B3 := Lib.hid b3
  have B4 := Lib.hid b4
  have A0 := Lib.hid a0
  have A1 := Lib.hid a1
  have A2 := Lib.hid a2
  have SV := Lib.hid sv
  have XB := Lib.hid xB
  have ki : (i : Int) < (h.agents.length : Int) := by omega
  have kj : (j : Int) < (r.length : Int) := by omega
  have HA := Lib.hid hagree
  have Hagr := Lib.hid hagr
  have Hgj := Lib.hid hgj
  have Hn := Lib.hid hn
  clear b0 b1 b2 b3 b4 a0 a1 a2 sv xB hagree hagr hgj hag1 hrj hag hr hV hg hi hj ha hd hn hsc1 hsc2
  obtain ⟨t, ht⟩ : ∃ t, (x.far == -1) = t := ⟨_, rfl⟩
  have htold : toldE x = !t := by unfold toldE; rw [← ht]; rfl
  rw [htold]
  clear htold
  go_enter Try.func84, Try.ntmps84
  go_wp2_with fail
  obtain ⟨W, hW⟩ : ∃ W, W = ((w.alloc (.cells #[.int .i64 h.days, .slice ra h.rates.length rc, .int .i64 h.step, .slice (some ⟨ab, ao, none⟩) h.agents.length ac, .slice ea h.entries.length ec] 26)).alloc (.cells #[.int .i64 i, .int .i64 j, .int .i64 x.near, .int .i64 x.far] 58)) := ⟨_, rfl⟩
  rw [← hW]
  have b0 := B0.out
  have b1 := B1.out
  have b2 := B2.out
  have b3 := B3.out
  have b4 := B4.out
  have a0 := A0.out
  have a1 := A1.out
  have a2 := A2.out
  have sv := SV.out
  have xB := XB.out
  rw [← hW] at b0 b1 b2 b3 b4 a0 a1 a2 sv xB
  clear B0 B1 B2 B3 B4 A0 A1 A2 SV XB hW
  cases t
  · apply Facts.wp_region (.val _ :: .val _ :: .val _ :: .val _ :: .val _ :: .val _ :: .val _ :: .val _ :: .val _ :: .val _ :: .val _ :: .val _ :: .val _ :: .val _ :: .val _ :: .val _ :: .val _ :: .val _ :: .val _ :: .val _ :: .val _ :: .val _ :: .val _ :: []) (by kernel_rfl) (by kernel_rfl) trivial ?main
    case main =>
      iterate 17 (refine ⟨fun w1 hx hh => ?_, ?_⟩; focus (clear hh; have j0 := hx.cell b0; have j1 := hx.cell b1; have j2 := hx.cell b2; have j3 := hx.cell b3; have j4 := hx.cell b4; have j5 := hx.cell a0; have j6 := hx.cell a1; have j7 := hx.cell a2; have j8 := hx.cell sv; go_simp; first | exact ⟨Ext.refl _, rfl⟩ | exact Ext.refl _))
      refine ⟨fun w1 hx hh => ?_, ?_⟩
      · clear hh
        go_simp
        refine (refPays_any _ a x.near p ⟨rfl, gs, gf, gr⟩ Hagr.out.1 Hagr.out.2 Hn.out ⟨by have := Hgj.out; omega, Hgj.out.2⟩ _).mono ?_
        rintro e w' ⟨rfl, hx2⟩
        exact ⟨_, rfl, hx2, rfl⟩
      iterate 2 (refine ⟨fun w1 hx hh => ?_, ?_⟩; focus (clear hh; have j4 := hx.cell b4; go_simp; first | exact ⟨Ext.refl _, rfl⟩ | exact Ext.refl _))
      iterate 1 (refine ⟨fun w1 hx hh => ?_, ?_⟩; focus (clear hh; skip; go_simp; first | exact ⟨Ext.refl _, rfl⟩ | exact Ext.refl _))
      iterate 2 (refine ⟨fun w1 hx hh => ?_, ?_⟩; focus (clear hh; skip; go_simp; first | exact ⟨Ext.refl _, rfl⟩ | exact Ext.refl _))
      intro w5 hx5 hh
      clear hh
      go_simp
      go_wp2
      go_ret
      exact ⟨ret_bool (by rw [HA.out]; rfl), xB.trans hx5⟩
  · apply Facts.wp_region (.val _ :: .val _ :: .val _ :: .val _ :: .val _ :: .val _ :: .val _ :: .val _ :: .val _ :: .val _ :: .val _ :: .val _ :: .val _ :: .val _ :: .val _ :: .val _ :: .val _ :: .val _ :: .val _ :: .val _ :: .val _ :: .val _ :: .val _ :: []) (by kernel_rfl) (by kernel_rfl) trivial ?main
    case main =>
      iterate 23 (refine ⟨fun w1 hx hh => ?_, ?_⟩; focus (clear hh; have j4 := hx.cell b4; go_simp; first | exact ⟨Ext.refl _, rfl⟩ | exact Ext.refl _))
      intro w5 hx5 hh
      clear hh
      go_simp
      go_wp2
      go_ret
      exact ⟨rfl, xB.trans hx5⟩
end Go.Proofs.Ytdadffmagfknoaa

namespace Go.Proofs.Ytdadffmagfknoaa
set_option linter.unusedSimpArgs false
set_option linter.unusedVariables false
open Go.RowKit

theorem mem_take_step (l : List Int) (k : Nat) (n x : Int) (h : k < l.length) (hx : l[k] = x) : decide (n ∈ l.take (k + 1)) = (decide (n ∈ l.take k) || (x == n)) := by
  rw [List.take_succ_eq_append_getElem h, hx]
  by_cases h1 : n ∈ l.take k <;> by_cases h2 : x = n
  · simp [h1, h2]
  · simp [h1]
  · simp [h1, h2]
  · simp [h1, h2, Ne.symm h2]
set_option maxHeartbeats 1000000 in
set_option maxRecDepth 100000 in
theorem has_any (v : Value) (n : Int) (l : List Int) (w : World) (hl : IntsAt w v l) :
    Calls Try.prog 90 #[v, .int .i64 n] w fun r w' => r = .returned (.bool (decide (n ∈ l))) ∧ Ext w w' := by
  obtain ⟨a, cap, rfl, hlc, hcm⟩ := hl.shape
  go_enter Try.func90, Try.ntmps90
  go_wp2
  go_loopw [5, 6] (fun m i wr => ∃ k : Nat, ∃ met : Bool, k ≤ l.length ∧ m = .bool met ∧ i = .int .i64 k ∧ Ext w wr ∧ decide (n ∈ l.take k) = met) (fun _ i _ => l.length - (intOf i).toNat)
  case atStart => exact ⟨0, false, Nat.zero_le _, rfl, rfl, Ext.refl _, by simp⟩
  case round =>
    obtain ⟨k, met, hk, rfl, rfl, hx, hd⟩ := hrel
    have Hd := Lib.hid hd; clear hd
    by_cases h1 : k < l.length
    · have k1 : (k : Int) < (l.length : Int) := by omega
      obtain ⟨_, _, he, -, -, hh⟩ := hl.ext hx
      obtain ⟨b, off, rfl, c0, -⟩ := hh k h1
      cases he
      clear hh
      generalize hx' : l[k] = x at *
      have hst := mem_take_step l k n x h1 hx'
      have Hst := Lib.hid hst
      clear hx' hst
      simp only [Nat.mul_one] at c0
      cases met
      · cases h0 : x == n
        all_goals
          have H0 := Lib.hid h0
          go_wp2
          go_roundw
          case rel => exact ⟨k + 1, _, by omega, rfl, by go_num, hx, by rw [Hst.out, Hd.out, H0.out]; rfl⟩
          case measure => simp [intOf]; omega
      · go_wp2
        go_roundw
        case rel => exact ⟨k + 1, true, by omega, rfl, by go_num, hx, by rw [Hst.out, Hd.out]; rfl⟩
        case measure => simp [intOf]; omega
    · go_wp2
      go_ret
      have := Hd.out
      rw [List.take_of_length_le (by omega)] at this
      exact ⟨ret_bool this.symm, hx⟩

def risingM (below : Int) : Int → List Int → Bool
  | _, [] => true
  | last, x :: l => decide (last < x) && decide (x < below) && risingM below x l
set_option maxHeartbeats 1000000 in
set_option maxRecDepth 100000 in
theorem rising_any (v : Value) (below : Int) (l : List Int) (w : World) (hl : IntsAt w v l) :
    Calls Try.prog 41 #[v, .int .i64 below] w fun r w' => r = .returned (.bool (risingM below (-1) l)) ∧ Ext w w' := by
  obtain ⟨a, cap, rfl, hlc, hcm⟩ := hl.shape
  go_enter Try.func41, Try.ntmps41
  go_wp2
  go_loopw [5, 6] (fun m i wr => ∃ k : Nat, ∃ last : Int, k ≤ l.length ∧ m = .int .i64 last ∧ i = .int .i64 k ∧ Ext w wr ∧ risingM below last (l.drop k) = risingM below (-1) l) (fun _ i _ => l.length - (intOf i).toNat)
  case atStart => exact ⟨0, -1, Nat.zero_le _, rfl, rfl, Ext.refl _, rfl⟩
  case round =>
    obtain ⟨k, last, hk, rfl, rfl, hx, hd⟩ := hrel
    have Hd := Lib.hid hd; clear hd
    by_cases h1 : k < l.length
    · have k1 : (k : Int) < (l.length : Int) := by omega
      obtain ⟨_, _, he, -, -, hh⟩ := hl.ext hx
      obtain ⟨b, off, rfl, c0, -⟩ := hh k h1
      cases he
      clear hh
      have hst : risingM below last (l.drop k) = (decide (last < l[k]) && decide (l[k] < below) && risingM below l[k] (l.drop (k + 1))) := by rw [List.drop_eq_getElem_cons h1, risingM]
      generalize hx' : l[k] = x at *
      have Hst := Lib.hid hst
      clear hx' hst
      simp only [Nat.mul_one] at c0
      by_cases h2 : x ≤ last
      · go_wp2
        go_ret
        exact ⟨ret_bool (by rw [← Hd.out, Hst.out, decide_eq_false (show ¬ last < x by omega)]; rfl), hx⟩
      · by_cases h3 : below ≤ x
        · go_wp2
          go_ret
          exact ⟨ret_bool (by rw [← Hd.out, Hst.out, decide_eq_false (show ¬ x < below by omega)]; simp), hx⟩
        · go_wp2
          go_roundw
          case rel => exact ⟨k + 1, x, by omega, rfl, by go_num, hx, by rw [← Hd.out, Hst.out, decide_eq_true (show last < x by omega), decide_eq_true (show x < below by omega)]; rfl⟩
          case measure => simp [intOf]; omega
    · go_wp2
      go_ret
      have := Hd.out
      rw [List.drop_eq_nil_of_le (by omega)] at this
      exact ⟨ret_bool this, hx⟩

end Go.Proofs.Ytdadffmagfknoaa

namespace Go.Proofs.Ytdadffmagfknoaa
set_option linter.unusedSimpArgs false
set_option linter.unusedVariables false
open Go.RowKit
set_option linter.unusedVariables false
set_option linter.unusedSimpArgs false
set_option maxRecDepth 100000

/-- one more list at the end, that was there before -/
theorem ListsOwnI.pushO {w wA w' : World} {base : Nat} {v v' x : Value} {LL : List (List Int)} {L : List Int} {vs : List Value} (h1 : w.ownsRow base 30 1 v LL.length vs) (h2 : ∀ (i : Nat) (x : Value) (L : List Int), vs[i]? = some x → LL[i]? = some L → ElemAtI w v.ownBlock x L) (hx : Ext w wA) {t : TypeId}
    (hv : ∃ sa sc, x = .slice sa L.length sc ∧ IntsAt wA x L ∧ ∀ ad, sa = some ad → ad.block < wA.heap.size ∧ some ad.block ≠ v.ownBlock)
    (hown : w'.ownsRow base 30 1 v' (LL.length + 1) (vs ++ [x])) (hg : (wA.alloc (.cells #[x] t)).grownBy w' v.ownBlock) (hb : v'.ownBlock = v.ownBlock ∨ v'.ownBlock = some (wA.heap.size + 1)) :
    ListsOwnI w' base v' (LL ++ [L]) := by
  have hlt := fun k hk => h1.lt k hk
  have h2A : ∀ (i : Nat) (x : Value) (L : List Int), vs[i]? = some x → LL[i]? = some L → ElemAtI wA v.ownBlock x L := fun i x L hi hL => by
    obtain ⟨sa, sc, rfl, h3, h4⟩ := h2 i x L hi hL
    exact ⟨sa, sc, rfl, h3.ext hx, fun ad e => ⟨Nat.lt_of_lt_of_le (h4 ad e).1 hx.size, (h4 ad e).2⟩⟩
  have hlen : vs.length = LL.length := by have := h1.1; omega
  have hg0 : wA.grownBy (wA.alloc (.cells #[x] t)) v.ownBlock := World.grownBy_alloc _ _ _
  have hsz : (wA.alloc (.cells #[x] t)).heap.size = wA.heap.size + 1 := by simp
  have hsz2 := hg.size
  have keep : ∀ (sa : Option Addr) (n sc : Nat) (l : List Int), IntsAt wA (.slice sa n sc) l → (∀ ad, sa = some ad → ad.block < wA.heap.size ∧ some ad.block ≠ v.ownBlock) → IntsAt w' (.slice sa n sc) l ∧ ∀ ad, sa = some ad → ad.block < w'.heap.size ∧ some ad.block ≠ v'.ownBlock := fun sa n sc l hi hne => by
    refine ⟨(hi.grownByI hg0 fun ad e => (hne ad e).2).grownByI hg fun ad e => (hne ad e).2, fun ad e => ⟨by have := (hne ad e).1; omega, ?_⟩⟩
    rcases hb with hb | hb
    · rw [hb]; exact (hne ad e).2
    · rw [hb]; intro e2; have := (hne ad e).1; have := Option.some.inj e2; omega
  refine ⟨vs ++ [x], by rw [List.length_append]; exact hown, fun i y M hi hM => ?_⟩
  rcases Nat.lt_or_ge i vs.length with h3 | h3
  · rw [List.getElem?_append_left h3] at hi
    rw [List.getElem?_append_left (by omega)] at hM
    obtain ⟨sa, sc, rfl, h4, h5⟩ := h2A i y M hi hM
    obtain ⟨k1, k2⟩ := keep sa _ sc _ h4 h5
    exact ⟨sa, sc, rfl, k1, k2⟩
  · rw [List.getElem?_append_right h3] at hi
    rw [List.getElem?_append_right (by omega)] at hM
    have hi0 : i - vs.length = 0 := by
      rcases Nat.eq_zero_or_pos (i - vs.length) with h6 | h6
      · exact h6
      · rw [List.getElem?_eq_none (by simp; omega)] at hi; cases hi
    rw [hi0] at hi
    rw [show i - LL.length = 0 from by omega] at hM
    obtain rfl : x = y := by simpa using hi
    obtain rfl : L = M := by simpa using hM
    obtain ⟨sa, sc, rfl, h4, h5⟩ := hv
    obtain ⟨k1, k2⟩ := keep sa _ sc _ h4 fun ad e => h5 ad e
    exact ⟨sa, sc, rfl, k1, k2⟩

def outL (but : List Int) : Nat → Bool := fun i => decide ((i : Int) ∈ but)
def okTo (h : House) (out : Nat → Bool) (q : List Int) (k : Nat) : Bool := (List.range k).all fun i => out i || !toldE (entAt h i) || agreesM h (entAt h i) q
theorem okTo_succ (h : House) (out : Nat → Bool) (q : List Int) (k : Nat) : okTo h out q (k + 1) = (okTo h out q k && (out k || (!toldE (entAt h k) || agreesM h (entAt h k) q))) := by
  unfold okTo
  rw [List.range_succ, List.all_append, List.all_cons, List.all_nil, Bool.and_true, Bool.or_assoc]
theorem filter_take_next (f : List Int → Bool) (l : List (List Int)) (n : Nat) (hn : n < l.length) : (l.take (n + 1)).filter f = (l.take n).filter f ++ (if f l[n] = true then [l[n]] else []) := by
  rw [List.take_succ_eq_append_getElem hn, List.filter_append]
  cases h : f l[n] <;> simp [h]
set_option maxHeartbeats 16000000 in
theorem refTruths_any (hv bv : Value) (h : House) (hV : ValidH h) (but : List Int) (w : World) (hh : HouseAt w hv h) (hb : IntsAt w bv but) :
    Calls Try.prog 45 #[hv, bv] w fun e w' => ∃ u, e = .returned u ∧ ListsAtI w' u (truL h (outL but)) ∧ Ext w w' := by
  rw [truL_all hV]
  have hrates := fun w1 (hx : Ext w w1) => refRates_any hv h hV w1 (hh.ext hx)
  have hHH := Lib.hid hh
  obtain ⟨ra, rc, aa, ac, ea, ec, rfl, hdi, hsi, -, -, hent⟩ := hh
  have hE := Lib.hid hent
  have HV := Lib.hid hV
  have hgood : ∀ q ∈ ratesL h, q.length = h.days.toNat ∧ ∀ x ∈ q, 1 ≤ x ∧ x ≤ 20 := by rw [ratesL_levels]; exact levels_mem hV (Nat.le_refl _)
  have hmany := ratesL_many hV
  have hen := hV.entries
  have hokall : ∀ q, okTo h (outL but) q h.entries.length = okAll h (outL but) q := fun q => rfl
  have hsucc := okTo_succ h (outL but)
  obtain ⟨all, hall⟩ : ∃ all, all = ratesL h := ⟨_, rfl⟩
  rw [← hall] at hgood hmany ⊢
  simp only [← hall] at hrates
  have Hgood := Lib.hid hgood
  have Hokall := Lib.hid hokall
  have Hsucc := Lib.hid hsucc
  have HB := Lib.hid hb
  clear hent hV hgood hokall hsucc hall hb
  obtain ⟨j0, hj, hy0, hy1, hy2⟩ := info_parts infoIntsI
  go_enter Try.func45, Try.ntmps45
  go_wp2_with fail
  refine (hrates _ (ext_alloc _ _)).mono ?_
  rintro e w1 ⟨u, rfl, hAll, hx0⟩
  clear hrates
  have x1 : Ext w w1 := hx0.of_alloc
  have p0 : w1.cell? ⟨w.heap.size, 0, none⟩ = some (.int .i64 h.days) := hx0.cell (by simp [go_sem])
  have p1 : w1.cell? ⟨w.heap.size, 1, none⟩ = some (.slice ra h.rates.length rc) := hx0.cell (by simp [go_sem])
  have p2 : w1.cell? ⟨w.heap.size, 2, none⟩ = some (.int .i64 h.step) := hx0.cell (by simp [go_sem])
  have p3 : w1.cell? ⟨w.heap.size, 3, none⟩ = some (.slice aa h.agents.length ac) := hx0.cell (by simp [go_sem])
  have p4 : w1.cell? ⟨w.heap.size, 4, none⟩ = some (.slice ea h.entries.length ec) := hx0.cell (by simp [go_sem])
  clear hx0
  obtain ⟨oa, oc, rfl, -⟩ := hAll.shape
  go_wp2
  go_loopw [6, 7, 8, 9] (fun v i b k wr => ∃ n : Nat, n ≤ all.length ∧ i = .int .i64 n ∧ Ext w1 wr ∧ ListsOwnI wr w1.heap.size v ((all.take n).filter (okAll h (outL but)))) (fun _ i _ _ _ => all.length - (intOf i).toNat)
  case atStart => exact ⟨0, Nat.zero_le _, rfl, Ext.refl _, ListsOwnI.nil _ _⟩
  case round =>
    obtain ⟨n, hn, rfl, hx, hown⟩ := hrel
    obtain ⟨R, hR0⟩ : ∃ R : World, R = wr := ⟨_, rfl⟩
    subst hR0
    have q4 := hx.cell p4
    have z0 := cell_lt q4
    by_cases hlt : n < all.length
    · have k1 : (n : Int) < (all.length : Int) := by omega
      obtain ⟨ob, oo, rfl, s, cs, hs⟩ := SliceAt.get hAll hlt
      have hnx := filter_take_next (okAll h (outL but)) all n hlt
      have hLf := Hgood.out all[n] (List.getElem_mem hlt)
      have hlen : ((all.take n).filter (okAll h (outL but))).length ≤ 8000 := by
        have h1 := List.length_filter_le (okAll h (outL but)) (all.take n)
        rw [List.length_take] at h1
        omega
      generalize all[n] = L at *
      generalize (all.take n).filter (okAll h (outL but)) = pre at *
      rw [Nat.mul_one] at cs
      have hL0 : 0 < L.length := by rw [hLf.1]; have := HV.out.days; omega
      obtain ⟨sa0, sc, rfl, hsc1, hsc2⟩ := hs.shape
      obtain ⟨sb, so, rfl, sv, -⟩ := SliceAt.get hs hL0
      have hsb := cell_lt sv
      obtain ⟨nl, hnl⟩ : ∃ nl, nl = L.length := ⟨_, rfl⟩
      rw [← hnl] at cs hsc1 hs
      have Hnl := Lib.hid hnl
      have Hnx := Lib.hid hnx
      have HS := Lib.hid hs
      have HLf := Lib.hid hLf
      clear hnl hnx hs sv hLf hL0
      have c0 := hx.cell cs
      have z1 := cell_lt c0
      go_wp2
      go_loopw [8, 9] (fun b k wr => ∃ m : Nat, m ≤ h.entries.length ∧ k = .int .i64 m ∧ b = .bool (okTo h (outL but) L m) ∧ Ext R wr) (fun _ k _ => h.entries.length - (intOf k).toNat)
      case atStart => exact ⟨0, Nat.zero_le _, rfl, rfl, Ext.refl _⟩
      case round =>
        obtain ⟨m, hm, rfl, rfl, hxr⟩ := hrel
        clear q4 z0 c0 z1
        have hxx := hx.trans hxr
        have q0 := hxx.cell p0
        have q1 := hxx.cell p1
        have q2 := hxx.cell p2
        have q3 := hxx.cell p3
        have q4 := hxx.cell p4
        have c0 := hxx.cell cs
        have z0 := cell_lt q4
        have z1 := cell_lt c0
        by_cases hmt : m < h.entries.length
        · have k2 : (m : Int) < (h.entries.length : Int) := by omega
          have hst := Hsucc.out L m
          generalize okTo h (outL but) L m = b at *
          cases b
          · have hst' : Hid (okTo h (outL but) L (m + 1) = false) := Lib.hid (by rw [hst, Bool.false_and])
            clear hst
            go_wp2_with fail
            apply Facts.wp_region (.val _ :: .val _ :: .val _ :: .val _ :: .val _ :: .val _ :: .val _ :: .val _ :: .val _ :: .val _ :: .val _ :: .val _ :: .val _ :: .val _ :: .val _ :: .val _ :: .val _ :: .val _ :: .val _ :: .val _ :: []) (by kernel_rfl) (by kernel_rfl) trivial ?main
            case main =>
              iterate 20 (refine ⟨fun w1 hx hh => ?_, ?_⟩; focus (clear hh; skip; go_simp; first | exact ⟨Ext.refl _, rfl⟩ | exact Ext.refl _))
              intro w5 hx5 hh
              clear hh
              go_simp
              go_wp2
              go_roundw
              case rel => exact ⟨m + 1, by omega, by go_num, by rw [hst'.out], hxr.trans hx5⟩
              case measure => simp [intOf]; omega
          · rw [Bool.true_and] at hst
            have hhas : outL but m = decide ((m : Int) ∈ but) := rfl
            obtain ⟨y, hy⟩ : ∃ y, decide ((m : Int) ∈ but) = y := ⟨_, rfl⟩
            rw [hhas, hy] at hst
            have HY := Lib.hid hy
            clear hhas hy
            cases y
            · rw [Bool.false_or] at hst
              obtain ⟨eb, eo, rfl, d0, d1, d2, d3, g0, g1, g2, g3⟩ := SliceAt.get (hE.out.ext (x1.trans hxx)) hmt
              have hem := entAt_get (h := h) hmt
              rw [← hem] at d0 d1 d2 d3 g0 g1 g2 g3
              have hev := HV.out.entry _ (entAt_mem (h := h) hmt)
              generalize entAt h m = x at *
              have hday : 0 ≤ x.day ∧ x.day < L.length := by have := HLf.out.1; have := HV.out.days; omega
              have Hst := Lib.hid hst
              have Hev := Lib.hid hev
              have Hday := Lib.hid hday
              have z2 := cell_lt d0
              clear hst hem hev hday
              go_wp2_with fail
              apply Facts.wp_region (.val _ :: .val _ :: .val _ :: .val _ :: .val _ :: .val _ :: .val _ :: .val _ :: .val _ :: .val _ :: .val _ :: .val _ :: .val _ :: .val _ :: .val _ :: .val _ :: .val _ :: .val _ :: .val _ :: .val _ :: []) (by kernel_rfl) (by kernel_rfl) trivial ?main
              case main =>
                iterate 4 (refine ⟨fun w1 hx hh => ?_, ?_⟩; focus (clear hh; skip; go_simp; first | exact ⟨Ext.refl _, rfl⟩ | exact Ext.refl _))
                refine ⟨fun w2 hx hh => ?_, ?_⟩
                · clear hh
                  go_simp
                  refine (has_any _ _ but _ (HB.out.ext (x1.trans (hxx.trans hx)))).mono ?_
                  rintro e w' ⟨rfl, hx2⟩
                  rw [HY.out]
                  exact ⟨_, rfl, hx2, rfl⟩
                iterate 10 (refine ⟨fun w1 hx hh => ?_, ?_⟩; focus (clear hh; have j0 := hx.cell q0; have j1 := hx.cell q1; have j2 := hx.cell q2; have j3 := hx.cell q3; have j4 := hx.cell q4; have j5 := hx.cell d0; have j6 := hx.cell d1; have j7 := hx.cell d2; have j8 := hx.cell d3; go_simp; first | exact ⟨Ext.refl _, rfl⟩ | exact Ext.refl _))
                iterate 1 (refine ⟨fun w1 hx hh => ?_, ?_⟩; focus (clear hh; have j0 := hx.cell c0; go_simp; first | exact ⟨Ext.refl _, rfl⟩ | exact Ext.refl _))
                refine ⟨fun w2 hx hh => ?_, ?_⟩
                · clear hh
                  have hxA := x1.trans (hxx.trans hx)
                  have hsA := HS.out.ext (hxx.trans hx)
                  go_simp
                  refine (refAgrees_any _ _ _ h HV.out x L _ (hHH.out.ext hxA) ⟨rfl, g0, g1, g2, g3⟩ hsA Hev.out.1 Hday.out Hev.out.2.2.1 HLf.out.2).mono ?_
                  rintro e w' ⟨rfl, hx2⟩
                  exact ⟨_, rfl, hx2, rfl⟩
                iterate 3 (refine ⟨fun w1 hx hh => ?_, ?_⟩; focus (clear hh; skip; go_simp; first | exact ⟨Ext.refl _, rfl⟩ | exact Ext.refl _))
                intro w5 hx5 hh
                clear hh
                go_simp
                go_wp2
                go_roundw
                case rel => exact ⟨m + 1, by omega, by go_num, by rw [Hst.out], hxr.trans hx5⟩
                case measure => simp [intOf]; omega
            · have hst' : Hid (okTo h (outL but) L (m + 1) = true) := Lib.hid (by rw [hst, Bool.true_or])
              clear hst
              go_wp2_with fail
              apply Facts.wp_region (.val _ :: .val _ :: .val _ :: .val _ :: .val _ :: .val _ :: .val _ :: .val _ :: .val _ :: .val _ :: .val _ :: .val _ :: .val _ :: .val _ :: .val _ :: .val _ :: .val _ :: .val _ :: .val _ :: .val _ :: []) (by kernel_rfl) (by kernel_rfl) trivial ?main
              case main =>
                iterate 4 (refine ⟨fun w1 hx hh => ?_, ?_⟩; focus (clear hh; skip; go_simp; first | exact ⟨Ext.refl _, rfl⟩ | exact Ext.refl _))
                refine ⟨fun w2 hx hh => ?_, ?_⟩
                · clear hh
                  go_simp
                  refine (has_any _ _ but _ (HB.out.ext (x1.trans (hxx.trans hx)))).mono ?_
                  rintro e w' ⟨rfl, hx2⟩
                  rw [HY.out]
                  exact ⟨_, rfl, hx2, rfl⟩
                iterate 15 (refine ⟨fun w1 hx hh => ?_, ?_⟩; focus (clear hh; skip; go_simp; first | exact ⟨Ext.refl _, rfl⟩ | exact Ext.refl _))
                intro w5 hx5 hh
                clear hh
                go_simp
                go_wp2
                go_roundw
                case rel => exact ⟨m + 1, by omega, by go_num, by rw [hst'.out], hxr.trans hx5⟩
                case measure => simp [intOf]; omega
        · obtain rfl : m = h.entries.length := by omega
          have hok := Hokall.out L
          have Hok := Lib.hid hok
          obtain ⟨b, hb⟩ : ∃ b, okTo h (outL but) L h.entries.length = b := ⟨_, rfl⟩
          rw [hb] at hok ⊢
          have Hb := Lib.hid hok
          clear hok hb Hok hmt
          cases b
          · have hfin : Hid ((all.take (n + 1)).filter (okAll h (outL but)) = pre) := Lib.hid (by rw [Hnx.out, ← Hb.out]; simp)
            go_wp2
            go_roundw
            case rel => exact ⟨n + 1, by omega, by go_num, hxx, by rw [hfin.out]; exact hown.ext hxr⟩
            case measure => simp [intOf]; omega
          · have hfin : Hid ((all.take (n + 1)).filter (okAll h (outL but)) = pre ++ [L]) := Lib.hid (by rw [Hnx.out, ← Hb.out]; simp)
            have hown2 := hown.ext hxr
            obtain ⟨vs, hrow, helem⟩ := hown2
            have hszr := hxx.size
            have hvl := hrow.1
            have Hvl := Lib.hid hvl
            have Helem := Lib.hid helem
            have hlt2 := hrow.lt
            clear hvl helem hown
            obtain ⟨wr, hwr⟩ : ∃ w' : World, w' = wr := ⟨_, rfl⟩
            subst hwr
            go_wp2_with (at_builtin; refine wpList_append_own_at _ rfl _ _ 67 rfl w1.heap.size 30 j0 (.slice none 0 0) 1 24 Try.underlying67 hj hy0 hy1 hy2 rfl (by decide) _ _ _ rfl (hrow.alloc _) ⟨wr.heap.size, 0, none⟩ 1 1 [.slice (some ⟨sb, so, none⟩) nl sc] rfl rfl (cell_one_new _ _ _) (by simp [Value.oneCell']) (by unfold maxLen; omega) (by omega) (by simp; omega) ?_; intro v3 w3 hown3 hgrow3 _ hblk)
            have x3 : Ext w1 w3 := Ext.grown (hxx.alloc _) hgrow3 (fun k hk => (hrow.lt k hk).1)
            have hnew := ListsOwnI.pushO (L := L) hrow Helem.out (Ext.refl _) ⟨some ⟨sb, so, none⟩, sc, (by rw [← Hnl.out]), HS.out.ext hxx, fun ad e => by obtain rfl := Option.some.inj e; exact ⟨show sb < wr.heap.size from by omega, fun e2 => by have := (hlt2 sb e2.symm).1; omega⟩⟩ hown3 hgrow3 (hblk.elim .inl (fun e => .inr (e.trans (by simp))))
            go_roundw
            case rel => exact ⟨n + 1, by omega, by go_num, x3, by rw [hfin.out]; exact hnew⟩
            case measure => simp [intOf]; omega
    · obtain rfl : n = all.length := by omega
      have hres := hown.at_
      rw [List.take_length] at hres
      obtain ⟨va, vc, rfl, -⟩ := hres.shape
      have x2 := x1.trans hx
      go_wp2
      go_ret
      exact ⟨_, rfl, hres, x2⟩
end Go.Proofs.Ytdadffmagfknoaa

namespace Go.Proofs.Ytdadffmagfknoaa
set_option linter.unusedSimpArgs false
set_option linter.unusedVariables false
open Go.RowKit

def bitM : Nat → Int → Bool
  | 0, c => c.tmod 2 == 1
  | n + 1, c => bitM n (c.tdiv 2)
theorem tdiv2_in (c : Int) (h : I64 c) : I64 (c.tdiv 2) := by
  unfold I64 at *
  rcases Int.le_total 0 c with h0 | h0
  · rw [Int.tdiv_eq_ediv_of_nonneg h0]; omega
  · have e : c.tdiv 2 = -((-c) / 2) := by
      rw [← Int.tdiv_eq_ediv_of_nonneg (by omega), Int.neg_tdiv, Int.neg_neg]
    rw [e]; omega
def whereM (s : ByteArray) : List ByteArray → Nat → Int
  | [], _ => -1
  | x :: l, k => if (x.toList == s.toList) = true then k else whereM s l (k + 1)
theorem whereM_step (s : ByteArray) (l : List ByteArray) (k : Nat) (h : k < l.length) (x : ByteArray) (hx : l[k] = x) : whereM s (l.drop k) k = if (x.toList == s.toList) = true then (k : Int) else whereM s (l.drop (k + 1)) (k + 1) := by
  rw [List.drop_eq_getElem_cons h, hx, whereM]
theorem whereM_ge (s : ByteArray) (l : List ByteArray) : ∀ k : Nat, decide (0 ≤ whereM s l k) = l.any fun y => y.toList == s.toList := by
  induction l with
  | nil => intro k; simp [whereM]
  | cons x l ih =>
    intro k
    rw [whereM, List.any_cons]
    cases h : x.toList == s.toList
    · simp only [Bool.false_eq_true, if_false, Bool.false_or]; exact ih _
    · simp only [if_true, Bool.true_or, decide_eq_true_eq]; exact Int.natCast_nonneg k
set_option maxHeartbeats 1000000 in
set_option maxRecDepth 100000 in
theorem where_any (v : Value) (s : ByteArray) (l : List ByteArray) (w : World) (hl : StrsAt w v l) :
    Calls Try.prog 96 #[v, .string s] w fun r w' => r = .returned (.int .i64 (whereM s l 0)) ∧ w = w' := by
  obtain ⟨a, cap, rfl, hlc, hcm, hc⟩ := hl
  go_enter Try.func96, Try.ntmps96
  go_wp2
  go_loop [5] (fun i => ∃ k : Nat, k ≤ l.length ∧ i = .int .i64 k ∧ whereM s (l.drop k) k = whereM s l 0) (fun i => l.length - (intOf i).toNat)
  case atStart => exact ⟨0, Nat.zero_le _, rfl, rfl⟩
  case round =>
    obtain ⟨k, hk, rfl, hd⟩ := hrel
    have Hd := Lib.hid hd; clear hd
    by_cases h1 : k < l.length
    · have k1 : (k : Int) < (l.length : Int) := by omega
      have n1 : ((k : Int) == (l.length : Int)) = false := by simp; omega
      obtain ⟨b, off, rfl, c0, -⟩ := hc k h1
      clear hc
      have hst := fun x hx => whereM_step s l k h1 x hx
      generalize hx : l[k] = x at *
      have Hst := Lib.hid (hst x rfl)
      clear hx hst
      simp only [Nat.mul_one] at c0
      cases h2 : x.toList == s.toList
      all_goals
        have H2 := Lib.hid h2
        go_wp2
        first
          | (go_ret
             exact ⟨ret_int (by rw [← Hd.out, Hst.out, if_pos H2.out]), rfl⟩)
          | (go_round
             case rel => exact ⟨k + 1, by omega, by go_num, by rw [← Hd.out, Hst.out, if_neg (by rw [H2.out]; decide)]⟩
             case measure => simp [intOf]; omega)
    · obtain rfl : k = l.length := by omega
      go_wp2
      go_ret
      have := Hd.out
      rw [List.drop_eq_nil_of_le (Nat.le_refl _)] at this
      exact ⟨ret_int this, rfl⟩
end Go.Proofs.Ytdadffmagfknoaa

namespace Go.Proofs.Ytdadffmagfknoaa
set_option linter.unusedSimpArgs false
set_option linter.unusedVariables false
open Go.RowKit

def nameTo (s : ByteArray) (k : Nat) : Bool := inM s.size 1 16 && (List.range k).all fun k => okByte k (byteAt s k)
theorem nameTo_step (s : ByteArray) (k : Nat) : nameTo s (k + 1) = (nameTo s k && okByte k (byteAt s k)) := by
  simp [nameTo, List.range_succ, Bool.and_assoc]

set_option maxHeartbeats 1000000 in
set_option maxRecDepth 100000 in
theorem refName_any (s : ByteArray) (w : World) (hs : s.size ≤ 9223372036854775807) :
    Calls Try.prog 97 #[.string s] w fun e w' => e = .returned (.bool (nameM s)) ∧ w = w' := by
  go_enter Try.func97, Try.ntmps97
  go_wp2_with (go_at_call 46; refine (In_any _ _ _ _).mono ?_; rintro e w' ⟨rfl, rfl⟩)
  go_loop [3, 4, 5] (fun f i _ => ∃ k : Nat, ∃ fine : Bool, k ≤ s.size ∧ f = .bool fine ∧ i = .int .i64 k ∧ nameTo s k = fine) (fun _ i _ => s.size - (intOf i).toNat)
  case atStart => exact ⟨0, _, Nat.zero_le _, rfl, rfl, by simp [nameTo]⟩
  case round =>
    obtain ⟨k, fine, hk, rfl, rfl, hd⟩ := hrel
    have Hd := Lib.hid hd; clear hd
    by_cases h1 : k < s.size
    · have k1 : (k : Int) < (s.size : Int) := by omega
      have Hst : Hid (nameTo s (k + 1) = (nameTo s k && okByte k ((s[k]'h1).toNat : Int))) := Lib.hid (by rw [nameTo_step, byteAt_eq s k h1])
      by_cases i2 : ((s[k]'h1).toNat : Int) = 46
      · have I2 := Lib.hid i2
        have i1 : inM 46 97 122 = false := by decide
        cases fine
        all_goals
          by_cases hk0 : k = 0
          · subst hk0
            go_wp2_with (go_at_call 46; refine (In_any _ _ _ _).mono ?_; rintro e w' ⟨rfl, rfl⟩)
            go_round
            case rel => exact ⟨1, _, by omega, rfl, by go_num, by rw [Hst.out, Hd.out, I2.out]; rfl⟩
            case measure => simp [intOf]; omega
          · have k0 : (0 : Int) < (k : Int) := by omega
            have K0 := Lib.hid hk0
            go_wp2_with (go_at_call 46; refine (In_any _ _ _ _).mono ?_; rintro e w' ⟨rfl, rfl⟩)
            go_round
            case rel => exact ⟨k + 1, _, by omega, rfl, by go_num, by
              rw [Hst.out, Hd.out, I2.out]
              first
                | rfl
                | (simp [okByte, K0.out]; done)⟩
            case measure => simp [intOf]; omega
      · have I2 := Lib.hid i2
        have wc : IntKind.i64.wrap ((s[k]'h1).toNat : Int) = ((s[k]'h1).toNat : Int) := IntWalk.i64_in _ (by have := (s[k]'h1).toNat_lt; omega)
        cases i1 : inM ((s[k]'h1).toNat : Int) 97 122
        all_goals
          have I1 := Lib.hid i1
          cases fine
          all_goals
            by_cases hk0 : k = 0
            · subst hk0
              go_wp2_with (go_at_call 46; refine (In_any _ _ _ _).mono ?_; rintro e w' ⟨rfl, rfl⟩)
              go_round
              case rel => exact ⟨1, _, by omega, rfl, by go_num, by rw [Hst.out, Hd.out]; first | rfl | (rw [okByte, I1.out]; rfl)⟩
              case measure => simp [intOf]; omega
            · have k0 : (0 : Int) < (k : Int) := by omega
              have K0 := Lib.hid hk0
              go_wp2_with (go_at_call 46; refine (In_any _ _ _ _).mono ?_; rintro e w' ⟨rfl, rfl⟩)
              go_round
              case rel => exact ⟨k + 1, _, by omega, rfl, by go_num, by
                rw [Hst.out, Hd.out]
                first
                  | rfl
                  | (rw [okByte, I1.out]; rfl)
                  | (rw [okByte, I1.out]; simp [K0.out]; exact Bool.or_comm _ _)⟩
              case measure => simp [intOf]; omega
    · obtain rfl : k = s.size := by omega
      go_wp2
      go_ret
      exact ⟨ret_bool Hd.out.symm, rfl⟩

def freshM (s : ByteArray) (l : List ByteArray) : Int := if nameM s = false then 6 else if (l.any fun y => y.toList == s.toList) = true then 5 else 0
theorem fresh_any (v : Value) (s : ByteArray) (l : List ByteArray) (w : World) (hs : s.size ≤ 9223372036854775807) (hl : StrsAt w v l) :
    Calls Try.prog 57 #[.string s, v] w fun r w' => r = .returned (.int .i64 (freshM s l)) ∧ w = w' := by
  obtain ⟨a, cap, rfl, hlc, hcm⟩ := hl.shape
  have hw := whereM_ge s l 0
  generalize hm : whereM s l 0 = m at *
  have HM := Lib.hid hm; clear hm
  have HW := Lib.hid hw; clear hw
  by_cases h0 : 0 ≤ m
  all_goals
    have H0 := Lib.hid h0
    cases hn : nameM s
    all_goals
      have HN := Lib.hid hn
      go_enter Try.func57, Try.ntmps57
      go_wp2_with (first | (go_at_call 96; refine (where_any _ s l _ hl).mono ?_; rintro e w' ⟨rfl, rfl⟩; rw [HM.out]) | (go_at_call 97; refine (refName_any s _ hs).mono ?_; rintro e w' ⟨rfl, rfl⟩))
      go_ret
      first
        | exact ⟨ret_int (by rw [freshM, if_pos HN.out]), rfl⟩
        | exact ⟨ret_int (by rw [freshM, if_neg (by rw [HN.out]; decide), if_pos (by rw [← HW.out]; exact decide_eq_true H0.out)]), rfl⟩
        | exact ⟨ret_int (by rw [freshM, if_neg (by rw [HN.out]; decide), if_neg (by rw [← HW.out, decide_eq_true_eq]; have := H0.out; omega)]), rfl⟩
end Go.Proofs.Ytdadffmagfknoaa

namespace Go.Proofs.Ytdadffmagfknoaa
set_option linter.unusedSimpArgs false
set_option linter.unusedVariables false
open Go.RowKit
set_option linter.unusedVariables false
set_option maxRecDepth 100000

theorem refEnds_any (lo hi a b : Int) (w : World) :
    Calls Try.prog 56 #[.agg #[.int .i64 a, .int .i64 b], .int .i64 lo, .int .i64 hi] w fun e w' => e = .returned (.int .i64 (spanErrM lo hi a b)) ∧ Ext w w' := by
  unfold spanErrM
  cases h1 : inM a lo hi
  · rw [if_pos (.inl rfl)]
    go_enter Try.func56, Try.ntmps56
    go_wp2_with fail
    (refine (In_any _ _ _ _).mono ?_; rintro e w' ⟨rfl, rfl⟩)
    rw [h1]
    go_wp2
    go_ret
    exact ⟨rfl, (by first | (with_reducible exact Ext.refl _) | (with_reducible assumption) | (show Below _ _ _; go_grown; done))⟩
  cases h2 : inM b lo hi
  · rw [if_pos (.inr rfl)]
    go_enter Try.func56, Try.ntmps56
    go_wp2_with fail
    (refine (In_any _ _ _ _).mono ?_; rintro e w' ⟨rfl, rfl⟩)
    rw [h1]
    go_wp2_with fail
    (refine (In_any _ _ _ _).mono ?_; rintro e w' ⟨rfl, rfl⟩)
    rw [h2]
    go_wp2
    go_ret
    exact ⟨rfl, (by first | (with_reducible exact Ext.refl _) | (with_reducible assumption) | (show Below _ _ _; go_grown; done))⟩
  rw [if_neg (by simp)]
  by_cases h3 : b < a
  · rw [if_pos h3]
    go_enter Try.func56, Try.ntmps56
    go_wp2_with fail
    (refine (In_any _ _ _ _).mono ?_; rintro e w' ⟨rfl, rfl⟩)
    rw [h1]
    go_wp2_with fail
    (refine (In_any _ _ _ _).mono ?_; rintro e w' ⟨rfl, rfl⟩)
    rw [h2]
    go_wp2
    go_ret
    exact ⟨rfl, (by first | (with_reducible exact Ext.refl _) | (with_reducible assumption) | (show Below _ _ _; go_grown; done))⟩
  · rw [if_neg h3]
    go_enter Try.func56, Try.ntmps56
    go_wp2_with fail
    (refine (In_any _ _ _ _).mono ?_; rintro e w' ⟨rfl, rfl⟩)
    rw [h1]
    go_wp2_with fail
    (refine (In_any _ _ _ _).mono ?_; rintro e w' ⟨rfl, rfl⟩)
    rw [h2]
    go_wp2
    go_ret
    exact ⟨rfl, (by first | (with_reducible exact Ext.refl _) | (with_reducible assumption) | (show Below _ _ _; go_grown; done))⟩
def agtE (a : Agt) : Int := if inM a.fee 0 20 = false ∨ inM a.round 0 2 = false then 7 else 0
theorem refAgent_any (v : Value) (a : Agt) (hv : AgentV v a) (w : World) :
    Calls Try.prog 58 #[v] w fun e w' => e = .returned (.int .i64 (agtE a)) ∧ Ext w w' := by
  obtain ⟨rfl, -, -, -⟩ := hv
  unfold agtE
  cases h1 : inM a.fee 0 20
  · rw [if_pos (.inl rfl)]
    go_enter Try.func58, Try.ntmps58
    go_wp2_with fail
    (refine (In_any _ _ _ _).mono ?_; rintro e w' ⟨rfl, rfl⟩)
    rw [h1]
    go_wp2
    go_ret
    exact ⟨rfl, (by first | (with_reducible exact Ext.refl _) | (with_reducible assumption) | (show Below _ _ _; go_grown; done))⟩
  cases h2 : inM a.round 0 2
  · rw [if_pos (.inr rfl)]
    go_enter Try.func58, Try.ntmps58
    go_wp2_with fail
    (refine (In_any _ _ _ _).mono ?_; rintro e w' ⟨rfl, rfl⟩)
    rw [h1]
    go_wp2_with fail
    (refine (In_any _ _ _ _).mono ?_; rintro e w' ⟨rfl, rfl⟩)
    rw [h2]
    go_wp2
    go_ret
    exact ⟨rfl, (by first | (with_reducible exact Ext.refl _) | (with_reducible assumption) | (show Below _ _ _; go_grown; done))⟩
  · rw [if_neg (by simp)]
    go_enter Try.func58, Try.ntmps58
    go_wp2_with fail
    (refine (In_any _ _ _ _).mono ?_; rintro e w' ⟨rfl, rfl⟩)
    rw [h1]
    go_wp2_with fail
    (refine (In_any _ _ _ _).mono ?_; rintro e w' ⟨rfl, rfl⟩)
    rw [h2]
    go_wp2
    go_ret
    exact ⟨rfl, (by first | (with_reducible exact Ext.refl _) | (with_reducible assumption) | (show Below _ _ _; go_grown; done))⟩
end Go.Proofs.Ytdadffmagfknoaa

namespace Go.Proofs.Ytdadffmagfknoaa
set_option linter.unusedSimpArgs false
set_option linter.unusedVariables false
open Go.RowKit
set_option linter.unusedVariables false
set_option maxRecDepth 100000

theorem StrsAt.of_ownR {w : World} {B : Nat} {e : TypeId} {v : Value} {l : List ByteArray} (h : w.ownsRow B e 1 v l.length (l.map Value.string)) (hI : ∀ x ∈ l, x.size ≤ 9223372036854775807) : StrsAt w v l := by
  rcases h.2 with ⟨rfl, hn⟩ | ⟨g, cap, cur, rfl, hb, hg, hnc, hcm, hcs, htake⟩
  · have : l = [] := List.eq_nil_of_length_eq_zero hn
    subst this; exact SliceAt.nil
  · refine ⟨_, _, rfl, hnc, by simpa [maxLen] using hcm, fun i hi => ⟨g, 0, rfl, ?_, hI _ (List.getElem_mem hi)⟩⟩
    have := h.cells (g := g) rfl i (.string l[i]) (by simp [hi])
    have e : (⟨g, 0, none⟩ : Addr).add i = ⟨g, 0 + i * 1, none⟩ := by unfold Addr.add; split <;> simp_all
    rw [e] at this; exact this
def agtNm (l : List Agt) (k : Nat) : List ByteArray := (l.take k).map (·.name)
theorem agtNm_succ (l : List Agt) (k : Nat) (h : k < l.length) (y : Agt) (hy : l[k] = y) : agtNm l (k + 1) = agtNm l k ++ [y.name] := by
  rw [agtNm, List.take_succ_eq_append_getElem h, hy, List.map_append]; rfl
theorem agtNm_len (l : List Agt) (k : Nat) (h : k ≤ l.length) : (agtNm l k).length = k := by simp [agtNm]; omega
theorem AgentsAt.names {w : World} {v : Value} {l : List Agt} (h : AgentsAt w v l) (k : Nat) : ∀ x ∈ agtNm l k, x.size ≤ 9223372036854775807 := by
  obtain ⟨_, _, -, -, -, hh⟩ := h
  intro x hx
  obtain ⟨y, hy, rfl⟩ := List.mem_map.1 hx
  obtain ⟨i, hi, rfl⟩ := List.getElem_of_mem (List.mem_of_mem_take hy)
  obtain ⟨_, _, -, hr⟩ := hh i hi
  exact hr.2.2.2.1
theorem snoc_agtNm {w : World} {B : Nat} {e : TypeId} {v : Value} {l : List Agt} {k m : Nat} {y : Agt} (hb : agtNm l (k + 1) = agtNm l k ++ [y.name]) (hm : m = (agtNm l k).length + 1)
    (h : w.ownsRow B e 1 v m ((agtNm l k).map Value.string ++ [.string y.name])) : w.ownsRow B e 1 v (agtNm l (k + 1)).length ((agtNm l (k + 1)).map Value.string) := by
  subst hm
  rw [hb]
  simpa using h
theorem rinfoStr : (Try.prog.info? 9).map (fun i => (i.zero, i.size, i.bytes)) = some (some (.string ByteArray.empty), 1, 16) := by kernel_rfl
theorem agentErr_eq (l : List Agt) (k : Nat) (x : Agt) : agentErrM (l.take k) x = if freshM x.name (agtNm l k) = 0 then agtE x else freshM x.name (agtNm l k) := by
  unfold agentErrM agtE agtNm
  have e : nameErrM ((l.take k).map (·.name)) x.name = freshM x.name ((l.take k).map (·.name)) := rfl
  rw [e]
  generalize freshM x.name ((l.take k).map (·.name)) = f
  by_cases h : f = 0
  · rw [if_neg (fun g => g h), if_pos h]
  · rw [if_pos h, if_neg h]
set_option maxHeartbeats 8000000 in
theorem refCheck8_any (hv : Value) (h : House) (w : World) (hh : HouseAt w hv h) :
    Calls Try.prog 17 #[hv] w fun e w' => e = .returned (.tuple #[.int .i64 (raCheck h).1, .int .i64 (raCheck h).2.1, .int .i64 (raCheck h).2.2]) ∧ Ext w w' := by
  obtain ⟨ra, rc, aa, ac, ea, ec, rfl, hdi, hsi, hr, ha, he⟩ := hh
  have hle := hr.le
  have hR := Lib.hid hr
  have hA := Lib.hid ha
  have hE := Lib.hid he
  clear hr ha he
  obtain ⟨i0, hi, hz0, hz1, hz2⟩ := info_parts rinfoStr
  go_enter Try.func17, Try.ntmps17
  go_wp2_with fail
  (refine (In_any _ _ _ _).mono ?_; rintro e w' ⟨rfl, rfl⟩)
  cases h1 : inM h.days 1 3
  · have H1 := Lib.hid h1; clear h1
    go_wp2_with fail
    go_ret3
    exact ⟨ret_threeR (by rw [raCheck, if_pos H1.out]), (by first | (with_reducible exact Ext.refl _) | (with_reducible assumption) | (show Below _ _ _; go_grown; done))⟩
  have hD : 1 ≤ h.days ∧ h.days ≤ 3 := by simpa [inM] using h1
  have H1 := Lib.hid h1; clear h1
  by_cases h2 : (h.rates.length : Int) = h.days
  rotate_left
  · have k2 : ((h.rates.length : Int) != h.days) = true := by simpa using h2
    have H2 := Lib.hid h2; clear h2
    go_wp2_with fail
    go_ret3
    exact ⟨ret_threeR (by rw [raCheck, if_neg (by rw [H1.out]; decide), if_pos H2.out]), (by first | (with_reducible exact Ext.refl _) | (with_reducible assumption) | (show Below _ _ _; go_grown; done))⟩
  have k2 : ((h.rates.length : Int) != h.days) = false := by simpa using h2
  have H2 := Lib.hid h2; clear h2
  go_wp2
  clear k2
  go_loopw [5, 6] (fun i x wr => ∃ k : Nat, k ≤ h.rates.length ∧ i = .int .i64 k ∧ Ext w wr ∧ (wr.cell? ⟨w.heap.size, 0, none⟩ = some (.int .i64 h.days) ∧ wr.cell? ⟨w.heap.size, 1, none⟩ = some (.slice ra h.rates.length rc) ∧ wr.cell? ⟨w.heap.size, 2, none⟩ = some (.int .i64 h.step) ∧ wr.cell? ⟨w.heap.size, 3, none⟩ = some (.slice aa h.agents.length ac) ∧ wr.cell? ⟨w.heap.size, 4, none⟩ = some (.slice ea h.entries.length ec)) ∧ firstErrFrom spanE (h.rates.take k) (h.rates.drop k) = firstErr spanE h.rates) (fun i _ _ => h.rates.length - (intOf i).toNat)
  case atStart => exact ⟨0, Nat.zero_le _, rfl, (by first | (with_reducible exact Ext.refl _) | (with_reducible assumption) | (show Below _ _ _; go_grown; done)), ⟨by simp [go_sem], by simp [go_sem], by simp [go_sem], by simp [go_sem], by simp [go_sem]⟩, rfl⟩
  case round =>
    obtain ⟨k, hk, rfl, hx, ⟨p0, p1, p2, p3, p4⟩, hd⟩ := hrel
    have Hd := Lib.hid hd; clear hd
    have z0 := cell_lt p0
    by_cases hlt : k < h.rates.length
    · have m1 : (k : Int) < (h.rates.length : Int) := by omega
      obtain ⟨rb, ro, rfl, c0, c1, g1, g2⟩ := SliceAt.get (hR.out.ext hx) hlt
      generalize hy : h.rates[k] = y at *
      have Hy := Lib.hid hy; clear hy
      have z1 := cell_lt c0
      go_wp2_with fail
      refine (refEnds_any 1 20 y.1 y.2 _).mono ?_
      rintro e w2 ⟨rfl, hx2⟩
      replace p0 := hx2.cell p0
      replace p1 := hx2.cell p1
      replace p2 := hx2.cell p2
      replace p3 := hx2.cell p3
      replace p4 := hx2.cell p4
      replace hx := hx.trans hx2
      clear hx2 c0 c1 z0 z1
      have hse : spanE (h.rates.take k) y = spanErrM 1 20 y.1 y.2 := rfl
      generalize spanErrM 1 20 y.1 y.2 = e1 at *
      have Hse := Lib.hid hse; clear hse
      by_cases h0 : e1 = 0
      · subst h0
        go_wp2
        go_roundw
        case rel => exact ⟨k + 1, by omega, by go_num, hx, ⟨p0, p1, p2, p3, p4⟩, (firstErrFrom_step _ _ k hlt y Hy.out Hse.out).trans Hd.out⟩
        case measure => simp [intOf]; omega
      · have h0' : (e1 != 0) = true := by simpa using h0
        have H0 := Lib.hid h0; clear h0
        go_wp2
        go_ret3
        have e2 : firstErr spanE h.rates = ((k : Int), spanE (h.rates.take k) y) := by
          rw [← Hd.out]; exact firstErrFrom_hit _ _ k hlt y Hy.out (by rw [Hse.out]; exact H0.out)
        exact ⟨ret_threeR (by rw [raCheck, if_neg (by rw [H1.out]; decide), if_neg (by rw [H2.out]; simp), e2, Hse.out, if_pos H0.out]), hx⟩
    · have e1 : firstErr spanE h.rates = (0, 0) := by rw [← Hd.out]; exact firstErrFrom_end _ _ _ (by omega)
      have E1 := Lib.hid e1; clear e1
      have m1 : ¬ (k : Int) < (h.rates.length : Int) := by omega
      go_wp2_with fail
      (refine (In_any _ _ _ _).mono ?_; rintro e w' ⟨rfl, rfl⟩)
      cases h4 : inM h.step 0 20
      · have H4 := Lib.hid h4; clear h4
        go_wp2_with fail
        go_ret3
        exact ⟨ret_threeR (by rw [raCheck, if_neg (by rw [H1.out]; decide), if_neg (by rw [H2.out]; simp), E1.out, if_neg (by simp), if_pos H4.out]), hx⟩
      have H4 := Lib.hid h4; clear h4
      by_cases h5 : (3 : Int) < h.agents.length
      · have e5 : agtErr h = (0, 3) := by unfold agtErr listErr; rw [if_pos (by omega)]
        have E5 := Lib.hid e5; clear e5
        go_wp2
        go_ret3
        exact ⟨ret_threeR (by rw [raCheck, if_neg (by rw [H1.out]; decide), if_neg (by rw [H2.out]; simp), E1.out, if_neg (by simp), if_neg (by rw [H4.out]; decide), E5.out, if_pos (by simp)]), hx⟩
      have hA3 : h.agents.length ≤ 3 := by omega
      have e5 : agtErr h = firstErr agentErrM h.agents := by unfold agtErr listErr; rw [if_neg (by omega)]
      have E5 := Lib.hid e5; clear e5
      go_wp2
      go_loopw [7, 8, 9] (fun v i x wq => ∃ m : Nat, m ≤ h.agents.length ∧ i = .int .i64 m ∧ Ext w wq ∧ (wq.cell? ⟨w.heap.size, 0, none⟩ = some (.int .i64 h.days) ∧ wq.cell? ⟨w.heap.size, 1, none⟩ = some (.slice ra h.rates.length rc) ∧ wq.cell? ⟨w.heap.size, 2, none⟩ = some (.int .i64 h.step) ∧ wq.cell? ⟨w.heap.size, 3, none⟩ = some (.slice aa h.agents.length ac) ∧ wq.cell? ⟨w.heap.size, 4, none⟩ = some (.slice ea h.entries.length ec)) ∧ wq.ownsRow (w.heap.size + 1) 9 1 v (agtNm h.agents m).length ((agtNm h.agents m).map Value.string) ∧ firstErrFrom agentErrM (h.agents.take m) (h.agents.drop m) = firstErr agentErrM h.agents) (fun _ i _ _ => h.agents.length - (intOf i).toNat)
      case atStart => exact ⟨0, Nat.zero_le _, rfl, hx, ⟨p0, p1, p2, p3, p4⟩, World.ownsRow_nil _ _ _ _, rfl⟩
      case round =>
        clear hx p0 p1 p2 p3 p4 z0 m1
        obtain ⟨m, hm, rfl, hx, ⟨p0, p1, p2, p3, p4⟩, hown, hd⟩ := hrel
        have Hd2 := Lib.hid hd; clear hd
        have z0 := cell_lt p0
        by_cases hmt : m < h.agents.length
        · have m1 : (m : Int) < (h.agents.length : Int) := by omega
          have hlen := agtNm_len h.agents m hm
          have hnm := hA.out.names m
          obtain ⟨ab, ao, rfl, c0, c1, c2, gs, gf, gr⟩ := SliceAt.get (hA.out.ext hx) hmt
          have hsucc := fun y hy => agtNm_succ h.agents m hmt y hy
          generalize hy : h.agents[m] = y at *
          have Hy := Lib.hid hy
          have Hsucc := Lib.hid (hsucc y rfl)
          clear hy hsucc
          have z1 := cell_lt c0
          have Hlen := Lib.hid hlen; clear hlen
          have hst := StrsAt.of_ownR hown hnm
          have hml : (agtNm h.agents m).length ≤ 3 := by rw [Hlen.out]; omega
          go_wp2_with fail
          refine (fresh_any _ y.name (agtNm h.agents m) wr gs hst).mono ?_
          rintro e w' ⟨rfl, rfl⟩
          clear hst
          have heq := agentErr_eq h.agents m y
          generalize freshM y.name (agtNm h.agents m) = f at *
          have Heq := Lib.hid heq; clear heq
          by_cases h0 : f = 0
          · subst h0
            have Heq0 : Hid (agentErrM (h.agents.take m) y = agtE y) := Lib.hid (by rw [Heq.out, if_pos rfl])
            clear Heq
            go_wp2_with ((at_builtin; refine wpList_append_own _ rfl _ _ 89 rfl (w.heap.size + 1) 9 i0 (.string ByteArray.empty) 1 16 Try.underlying89 hi hz0 hz1 hz2 rfl (by decide) _ _ _ rfl (hown.alloc _) ⟨wr.heap.size, 0, none⟩ 1 1 [.string y.name] rfl rfl (cell_one_new _ _ _) (by simp [Value.oneCell']) (by unfold maxLen; omega) (by omega) (by simp; omega) ?_; intro v' w2 hown' hgrow _); have hx3 : Ext w w2 := Ext.grown (hx.alloc _) hgrow (fun k hk => Nat.le_trans (by omega) (hown.lt k hk).1); have r0 : w2.cell? ⟨w.heap.size, 0, none⟩ = some (.int .i64 h.days) := hgrow.cell (by simpa [go_sem, z0] using p0) (fun e => by have := (hown.lt w.heap.size e.symm).1; omega); have r1 : w2.cell? ⟨w.heap.size, 1, none⟩ = some (.slice ra h.rates.length rc) := hgrow.cell (by simpa [go_sem, z0] using p1) (fun e => by have := (hown.lt w.heap.size e.symm).1; omega); have r2 : w2.cell? ⟨w.heap.size, 2, none⟩ = some (.int .i64 h.step) := hgrow.cell (by simpa [go_sem, z0] using p2) (fun e => by have := (hown.lt w.heap.size e.symm).1; omega); have r3 : w2.cell? ⟨w.heap.size, 3, none⟩ = some (.slice (some ⟨ab, ao, none⟩) h.agents.length ac) := hgrow.cell (by simpa [go_sem, z0] using p3) (fun e => by have := (hown.lt w.heap.size e.symm).1; omega); have r4 : w2.cell? ⟨w.heap.size, 4, none⟩ = some (.slice ea h.entries.length ec) := hgrow.cell (by simpa [go_sem, z0] using p4) (fun e => by have := (hown.lt w.heap.size e.symm).1; omega); obtain ⟨ab', ao', e9, d0, d1, d2, -⟩ := SliceAt.get (hA.out.ext hx3) hmt; obtain ⟨rfl, rfl⟩ : ab = ab' ∧ ao = ao' := (by cases e9; exact ⟨rfl, rfl⟩); rw [Hy.out] at d0 d1 d2; have y0 := cell_lt r0; have y1 := cell_lt d0; clear e9 c0 c1 c2 p0 p1 p2 p3 p4 z0 z1 hown hgrow hx)
            refine (refAgent_any _ y ⟨rfl, gs, gf, gr⟩ _).mono ?_
            rintro e w3 ⟨rfl, hx4⟩
            have hx5 := hx3.trans hx4
            have cs := And.intro (hx4.cell r0) (And.intro (hx4.cell r1) (And.intro (hx4.cell r2) (And.intro (hx4.cell r3) (hx4.cell r4))))
            have hown3 := Ext.owns hown' hx4
            clear r0 r1 r2 r3 r4 d0 d1 d2 hown' hx3 hx4 y0 y1
            generalize agtE y = g at *
            by_cases hg : g = 0
            · subst hg
              go_wp2
              go_roundw
              case rel => exact ⟨m + 1, by omega, by go_num, hx5, cs, snoc_agtNm Hsucc.out rfl hown3, (firstErrFrom_step _ _ m hmt y Hy.out Heq0.out).trans Hd2.out⟩
              case measure => simp [intOf]; omega
            · have hg' : (g != 0) = true := by simpa using hg
              have Hg := Lib.hid hg; clear hg
              go_wp2
              go_ret3
              have e2 : firstErr agentErrM h.agents = ((m : Int), agentErrM (h.agents.take m) y) := by
                rw [← Hd2.out]; exact firstErrFrom_hit _ _ m hmt y Hy.out (by rw [Heq0.out]; exact Hg.out)
              exact ⟨ret_threeR (by rw [raCheck, if_neg (by rw [H1.out]; decide), if_neg (by rw [H2.out]; simp), E1.out, if_neg (by simp), if_neg (by rw [H4.out]; decide), E5.out, e2, Heq0.out, if_pos Hg.out]), hx5⟩
          · have h0' : (f == 0) = false := by simpa using h0
            have h0'' : (f != 0) = true := by simpa using h0
            have H0 := Lib.hid h0; clear h0
            go_wp2_with ((at_builtin; refine wpList_append_own _ rfl _ _ 89 rfl (w.heap.size + 1) 9 i0 (.string ByteArray.empty) 1 16 Try.underlying89 hi hz0 hz1 hz2 rfl (by decide) _ _ _ rfl (hown.alloc _) ⟨wr.heap.size, 0, none⟩ 1 1 [.string y.name] rfl rfl (cell_one_new _ _ _) (by simp [Value.oneCell']) (by unfold maxLen; omega) (by omega) (by simp; omega) ?_; intro v' w2 hown' hgrow _))
            have hx3 : Ext w w2 := Ext.grown (hx.alloc _) hgrow fun k hk => Nat.le_trans (by omega) (hown.lt k hk).1
            go_ret3
            have e2 : firstErr agentErrM h.agents = ((m : Int), agentErrM (h.agents.take m) y) := by
              rw [← Hd2.out]; exact firstErrFrom_hit _ _ m hmt y Hy.out (by rw [Heq.out, if_neg H0.out]; exact H0.out)
            exact ⟨ret_threeR (by rw [raCheck, if_neg (by rw [H1.out]; decide), if_neg (by rw [H2.out]; simp), E1.out, if_neg (by simp), if_neg (by rw [H4.out]; decide), E5.out, e2, Heq.out, if_neg H0.out, if_pos H0.out]), hx3⟩
        · have e2 : firstErr agentErrM h.agents = (0, 0) := by rw [← Hd2.out]; exact firstErrFrom_end _ _ _ (by omega)
          have m1 : ¬ (m : Int) < (h.agents.length : Int) := by omega
          have E2 : Hid (agtErr h = (0, 0)) := Lib.hid (by rw [E5.out, e2])
          clear e2 E5 hown Hd2 Hd
          by_cases h6 : (5 : Int) < h.entries.length
          · have e5 : entErr h = (0, 3) := by unfold entErr listErr; rw [if_pos (by omega)]
            have E5 := Lib.hid e5; clear e5
            go_wp2
            go_ret3
            exact ⟨ret_threeR (by rw [raCheck, if_neg (by rw [H1.out]; decide), if_neg (by rw [H2.out]; simp), E1.out, if_neg (by simp), if_neg (by rw [H4.out]; decide), E2.out, if_neg (by simp), E5.out, if_pos (by simp)]), hx⟩
          have e5 : entErr h = firstErr (rentE h.agents.length h.days) h.entries := by unfold entErr listErr; rw [if_neg (by omega)]
          have E5 := Lib.hid e5; clear e5
          have hE5 : h.entries.length ≤ 5 := by omega
          go_wp2
          clear z0
          go_loopw [10, 11] (fun i x wq => ∃ n : Nat, n ≤ h.entries.length ∧ i = .int .i64 n ∧ Ext w wq ∧ (wq.cell? ⟨w.heap.size, 0, none⟩ = some (.int .i64 h.days) ∧ wq.cell? ⟨w.heap.size, 1, none⟩ = some (.slice ra h.rates.length rc) ∧ wq.cell? ⟨w.heap.size, 2, none⟩ = some (.int .i64 h.step) ∧ wq.cell? ⟨w.heap.size, 3, none⟩ = some (.slice aa h.agents.length ac) ∧ wq.cell? ⟨w.heap.size, 4, none⟩ = some (.slice ea h.entries.length ec)) ∧ firstErrFrom (rentE h.agents.length h.days) (h.entries.take n) (h.entries.drop n) = firstErr (rentE h.agents.length h.days) h.entries) (fun i _ _ => h.entries.length - (intOf i).toNat)
          case atStart => exact ⟨0, Nat.zero_le _, rfl, hx, ⟨p0, p1, p2, p3, p4⟩, rfl⟩
          case round =>
            clear hx p0 p1 p2 p3 p4 m1
            obtain ⟨n, hn, rfl, hx, ⟨p0, p1, p2, p3, p4⟩, hd⟩ := hrel
            have Hd3 := Lib.hid hd; clear hd
            have z0 := cell_lt p0
            by_cases hnt : n < h.entries.length
            · have m2 : (n : Int) < (h.entries.length : Int) := by omega
              obtain ⟨eb, eo, rfl, c0, c1, c2, c3, -⟩ := SliceAt.get (hE.out.ext hx) hnt
              generalize hy : h.entries[n] = y at *
              have Hy := Lib.hid hy; clear hy
              have z1 := cell_lt c0
              have wa : IntKind.i64.wrap ((h.agents.length : Int) - 1) = (h.agents.length : Int) - 1 := IntWalk.i64_in _ (by omega)
              have wd : IntKind.i64.wrap (h.days - 1) = h.days - 1 := IntWalk.i64_in _ (by omega)
              have hre : rentE h.agents.length h.days (h.entries.take n) y = if inM y.agent 0 ((h.agents.length : Int) - 1) = false ∨ inM y.day 0 (h.days - 1) = false then 4 else if inM y.near 0 99 = false ∨ inM y.far (-1) 198 = false then 7 else 0 := rfl
              have Hre := Lib.hid hre; clear hre
              go_wp2_with fail
              (refine (In_any _ _ _ _).mono ?_; rintro e w' ⟨rfl, rfl⟩)
              cases t1 : inM y.agent 0 ((h.agents.length : Int) - 1)
              · have T1 := Lib.hid t1; clear t1
                go_wp2
                go_ret3
                have ee : rentE h.agents.length h.days (h.entries.take n) y = 4 := by rw [Hre.out, if_pos (.inl T1.out)]
                have e2 : firstErr (rentE h.agents.length h.days) h.entries = ((n : Int), 4) := by
                  rw [← Hd3.out, ← ee]; exact firstErrFrom_hit _ _ n hnt y Hy.out (by rw [ee]; decide)
                exact ⟨ret_threeR (by rw [raCheck, if_neg (by rw [H1.out]; decide), if_neg (by rw [H2.out]; simp), E1.out, if_neg (by simp), if_neg (by rw [H4.out]; decide), E2.out, if_neg (by simp), E5.out, e2, if_pos (by simp)]), hx.alloc _⟩
              have T1 := Lib.hid t1; clear t1
              go_wp2_with fail
              (refine (In_any _ _ _ _).mono ?_; rintro e w' ⟨rfl, rfl⟩)
              cases t2 : inM y.day 0 (h.days - 1)
              · have T2 := Lib.hid t2; clear t2
                go_wp2
                go_ret3
                have ee : rentE h.agents.length h.days (h.entries.take n) y = 4 := by rw [Hre.out, if_pos (.inr T2.out)]
                have e2 : firstErr (rentE h.agents.length h.days) h.entries = ((n : Int), 4) := by
                  rw [← Hd3.out, ← ee]; exact firstErrFrom_hit _ _ n hnt y Hy.out (by rw [ee]; decide)
                exact ⟨ret_threeR (by rw [raCheck, if_neg (by rw [H1.out]; decide), if_neg (by rw [H2.out]; simp), E1.out, if_neg (by simp), if_neg (by rw [H4.out]; decide), E2.out, if_neg (by simp), E5.out, e2, if_pos (by simp)]), hx.alloc _⟩
              have T2 := Lib.hid t2; clear t2
              go_wp2_with fail
              (refine (In_any _ _ _ _).mono ?_; rintro e w' ⟨rfl, rfl⟩)
              cases t3 : inM y.near 0 99
              · have T3 := Lib.hid t3; clear t3
                go_wp2
                go_ret3
                have ee : rentE h.agents.length h.days (h.entries.take n) y = 7 := by rw [Hre.out, if_neg (by rw [T1.out, T2.out]; simp), if_pos (.inl T3.out)]
                have e2 : firstErr (rentE h.agents.length h.days) h.entries = ((n : Int), 7) := by
                  rw [← Hd3.out, ← ee]; exact firstErrFrom_hit _ _ n hnt y Hy.out (by rw [ee]; decide)
                exact ⟨ret_threeR (by rw [raCheck, if_neg (by rw [H1.out]; decide), if_neg (by rw [H2.out]; simp), E1.out, if_neg (by simp), if_neg (by rw [H4.out]; decide), E2.out, if_neg (by simp), E5.out, e2, if_pos (by simp)]), hx.alloc _⟩
              have T3 := Lib.hid t3; clear t3
              go_wp2_with fail
              (refine (In_any _ _ _ _).mono ?_; rintro e w' ⟨rfl, rfl⟩)
              cases t4 : inM y.far (-1) 198
              · have T4 := Lib.hid t4; clear t4
                go_wp2
                go_ret3
                have ee : rentE h.agents.length h.days (h.entries.take n) y = 7 := by rw [Hre.out, if_neg (by rw [T1.out, T2.out]; simp), if_pos (.inr T4.out)]
                have e2 : firstErr (rentE h.agents.length h.days) h.entries = ((n : Int), 7) := by
                  rw [← Hd3.out, ← ee]; exact firstErrFrom_hit _ _ n hnt y Hy.out (by rw [ee]; decide)
                exact ⟨ret_threeR (by rw [raCheck, if_neg (by rw [H1.out]; decide), if_neg (by rw [H2.out]; simp), E1.out, if_neg (by simp), if_neg (by rw [H4.out]; decide), E2.out, if_neg (by simp), E5.out, e2, if_pos (by simp)]), hx.alloc _⟩
              have T4 := Lib.hid t4; clear t4
              go_wp2
              go_roundw
              case rel => exact ⟨n + 1, by omega, by go_num, hx.alloc _, ⟨(ext_alloc _ _).cell p0, (ext_alloc _ _).cell p1, (ext_alloc _ _).cell p2, (ext_alloc _ _).cell p3, (ext_alloc _ _).cell p4⟩, (firstErrFrom_step _ _ n hnt y Hy.out (by rw [Hre.out, if_neg (by rw [T1.out, T2.out]; simp), if_neg (by rw [T3.out, T4.out]; simp)])).trans Hd3.out⟩
              case measure => simp [intOf]; omega
            · have e2 : firstErr (rentE h.agents.length h.days) h.entries = (0, 0) := by rw [← Hd3.out]; exact firstErrFrom_end _ _ _ (by omega)
              have m2 : ¬ (n : Int) < (h.entries.length : Int) := by omega
              have E3 := Lib.hid e2; clear e2
              go_wp2
              go_ret3
              exact ⟨ret_threeR (by rw [raCheck, if_neg (by rw [H1.out]; decide), if_neg (by rw [H2.out]; simp), E1.out, if_neg (by simp), if_neg (by rw [H4.out]; decide), E2.out, if_neg (by simp), E5.out, E3.out, if_neg (by simp)]), hx⟩
end Go.Proofs.Ytdadffmagfknoaa

namespace Go.Proofs.Ytdadffmagfknoaa
set_option linter.unusedSimpArgs false
set_option linter.unusedVariables false
open Go.RowKit
set_option linter.unusedVariables false

theorem ov_fold (f : List Int → Int) : ∀ (l : List (List Int)) (a b : Int), (l.map fun r => (f r, f r)).foldl ovStep ((a, b), 0) = ((l.foldl (fun m r => min m (f r)) a, l.foldl (fun m r => max m (f r)) b), 0)
  | [], a, b => rfl
  | x :: l, a, b => by
    rw [List.map_cons, List.foldl_cons, List.foldl_cons, List.foldl_cons, ← ov_fold f l]
    rfl
theorem numM_cons (f : List Int → Int) (x : List Int) (l : List (List Int)) : numM f (x :: l) = ((l.foldl (fun m r => min m (f r)) (f x), l.foldl (fun m r => max m (f r)) (f x)), 0) := by
  have h : numM f (x :: l) = (l.map fun r => (f r, f r)).foldl ovStep ((min (f x) (f x), max (f x) (f x)), 0) := rfl
  rw [h, Int.min_self, Int.max_self, ov_fold]
theorem numM_nil (f : List Int → Int) : numM f [] = ((0, 0), 8) := rfl
theorem fold_min (f : List Int → Int) : ∀ (l : List (List Int)) (a : Int), l.foldl (fun m r => min m (f r)) a ≤ a ∧ (∀ r ∈ l, l.foldl (fun m r => min m (f r)) a ≤ f r) ∧ (l.foldl (fun m r => min m (f r)) a = a ∨ ∃ r ∈ l, f r = l.foldl (fun m r => min m (f r)) a)
  | [], a => ⟨Int.le_refl _, fun r h => (by cases h), .inl rfl⟩
  | x :: l, a => by
    obtain ⟨h1, h2, h3⟩ := fold_min f l (min a (f x))
    rw [List.foldl_cons]
    refine ⟨by omega, fun r hr => ?_, ?_⟩
    · rcases List.mem_cons.1 hr with rfl | hr
      · omega
      · exact h2 r hr
    · rcases h3 with h3 | ⟨r, hr, h3⟩
      · rcases Int.le_total a (f x) with h | h
        · exact .inl (by rw [h3]; omega)
        · exact .inr ⟨x, by simp, by rw [h3]; omega⟩
      · exact .inr ⟨r, by simp [hr], h3⟩
theorem fold_max (f : List Int → Int) : ∀ (l : List (List Int)) (a : Int), a ≤ l.foldl (fun m r => max m (f r)) a ∧ (∀ r ∈ l, f r ≤ l.foldl (fun m r => max m (f r)) a) ∧ (l.foldl (fun m r => max m (f r)) a = a ∨ ∃ r ∈ l, f r = l.foldl (fun m r => max m (f r)) a)
  | [], a => ⟨Int.le_refl _, fun r h => (by cases h), .inl rfl⟩
  | x :: l, a => by
    obtain ⟨h1, h2, h3⟩ := fold_max f l (max a (f x))
    rw [List.foldl_cons]
    refine ⟨by omega, fun r hr => ?_, ?_⟩
    · rcases List.mem_cons.1 hr with rfl | hr
      · omega
      · exact h2 r hr
    · rcases h3 with h3 | ⟨r, hr, h3⟩
      · rcases Int.le_total a (f x) with h | h
        · exact .inr ⟨x, by simp, by rw [h3]; omega⟩
        · exact .inl (by rw [h3]; omega)
      · exact .inr ⟨r, by simp [hr], h3⟩
structure NumIs (f : List Int → Int) (l : List (List Int)) (a b : Int) : Prop where
  all : ∀ r ∈ l, a ≤ f r ∧ f r ≤ b
  least : ∃ r ∈ l, f r = a
  most : ∃ r ∈ l, f r = b
theorem numM_is (f : List Int → Int) {l : List (List Int)} (h : l ≠ []) : (numM f l).2 = 0 ∧ NumIs f l (numM f l).1.1 (numM f l).1.2 := by
  obtain ⟨x, l, rfl⟩ := List.exists_cons_of_ne_nil h
  rw [numM_cons]
  obtain ⟨a1, a2, a3⟩ := fold_min f l (f x)
  obtain ⟨b1, b2, b3⟩ := fold_max f l (f x)
  refine ⟨rfl, fun r hr => ?_, ?_, ?_⟩
  · rcases List.mem_cons.1 hr with rfl | hr
    · exact ⟨a1, b1⟩
    · exact ⟨a2 r hr, b2 r hr⟩
  · rcases a3 with a3 | ⟨r, hr, a3⟩
    · exact ⟨x, by simp, a3.symm⟩
    · exact ⟨r, by simp [hr], a3⟩
  · rcases b3 with b3 | ⟨r, hr, b3⟩
    · exact ⟨x, by simp, b3.symm⟩
    · exact ⟨r, by simp [hr], b3⟩
/-- over fewer lists a number is within -/
theorem NumIs.sub {f g : List Int → Int} {l m : List (List Int)} {a b c d : Int} (h : NumIs f l a b) (h' : NumIs g m c d) (hs : ∀ r ∈ l, ∃ q ∈ m, g q = f r) : c ≤ a ∧ b ≤ d := by
  obtain ⟨r, hr, e⟩ := h.least
  obtain ⟨q, hq, e'⟩ := h.most
  obtain ⟨r', hr', e1⟩ := hs r hr
  obtain ⟨q', hq', e2⟩ := hs q hq
  have := (h'.all r' hr').1
  have := (h'.all q' hq').2
  omega
theorem NumIs.lo_le {f : List Int → Int} {l : List (List Int)} {a b : Int} (h : NumIs f l a b) : a ≤ b := by
  obtain ⟨r, hr, e⟩ := h.least
  have := (h.all r hr).2
  omega

/-- a day's rate is from its span, and no further from that of the day before than a step -/
def okStep (h : House) (r : List Int) (j : Nat) : Prop := (spanAt h j).1 ≤ r.getD j 0 ∧ r.getD j 0 ≤ (spanAt h j).2 ∧ (0 < j → r.getD (j - 1) 0 - h.step ≤ r.getD j 0 ∧ r.getD j 0 ≤ r.getD (j - 1) 0 + h.step)
theorem getD_pre {q t : List Int} {j : Nat} (h : j < q.length) : (q ++ t).getD j 0 = q.getD j 0 := by
  rw [List.getD_eq_getElem?_getD, List.getD_eq_getElem?_getD, List.getElem?_append_left h]
theorem mem_ratesTo (h : House) : ∀ (n d : Nat) (q : List Int), q.length = d → ∀ r, r ∈ ratesTo h n d q ↔ (r.length = d + n ∧ q <+: r ∧ ∀ j, d ≤ j → j < d + n → okStep h r j)
  | 0, d, q, hq, r => by
    simp only [ratesTo, List.mem_singleton]
    constructor
    · rintro rfl
      exact ⟨by omega, List.prefix_refl _, fun j h1 h2 => by omega⟩
    · rintro ⟨h1, h2, -⟩
      exact (h2.eq_of_length (by omega)).symm
  | n + 1, d, q, hq, r => by
    simp only [ratesTo, List.mem_flatMap]
    have hgo : ∀ x, x ∈ rangeI (loAt h d q) (hiAt h d q) ↔ ((spanAt h d).1 ≤ x ∧ x ≤ (spanAt h d).2 ∧ (0 < d → q.getD (d - 1) 0 - h.step ≤ x ∧ x ≤ q.getD (d - 1) 0 + h.step)) := fun x => by
      rw [mem_rangeI]
      unfold loAt hiAt
      by_cases hd : d = 0
      · rw [if_pos hd, if_pos hd]; exact ⟨fun ⟨a, b⟩ => ⟨a, b, fun c => by omega⟩, fun ⟨a, b, _⟩ => ⟨a, b⟩⟩
      · rw [if_neg hd, if_neg hd]; exact ⟨fun ⟨a, b⟩ => ⟨by omega, by omega, fun _ => by omega⟩, fun ⟨a, b, c⟩ => by have := c (by omega); omega⟩
    have hst : ∀ x t, okStep h ((q ++ [x]) ++ t) d ↔ ((spanAt h d).1 ≤ x ∧ x ≤ (spanAt h d).2 ∧ (0 < d → q.getD (d - 1) 0 - h.step ≤ x ∧ x ≤ q.getD (d - 1) 0 + h.step)) := fun x t => by
      unfold okStep
      rw [getD_snoc q t x d hq]
      have hp : 0 < d → ((q ++ [x]) ++ t).getD (d - 1) 0 = q.getD (d - 1) 0 := fun h0 => by
        rw [List.append_assoc, getD_pre (by omega)]
      constructor
      · rintro ⟨a, b, c⟩
        exact ⟨a, b, fun h0 => by have k := c h0; rw [hp h0] at k; exact k⟩
      · rintro ⟨a, b, c⟩
        exact ⟨a, b, fun h0 => by rw [hp h0]; exact c h0⟩
    constructor
    · rintro ⟨x, hx, hr⟩
      obtain ⟨h1, ⟨t, h2⟩, h3⟩ := (mem_ratesTo h n (d + 1) (q ++ [x]) (by simp [hq]) r).1 hr
      refine ⟨by omega, ⟨[x] ++ t, by rw [← h2, List.append_assoc]⟩, fun j a b => ?_⟩
      by_cases hj : j = d
      · subst hj
        rw [← h2]
        exact (hst x t).2 ((hgo x).1 hx)
      · exact h3 j (by omega) (by omega)
    · rintro ⟨h1, ⟨t, rfl⟩, h3⟩
      rw [List.length_append] at h1
      obtain ⟨x, t, rfl⟩ : ∃ x t', t = x :: t' := by
        cases t with
        | nil => simp at h1; omega
        | cons x t => exact ⟨x, t, rfl⟩
      have e : q ++ x :: t = (q ++ [x]) ++ t := by simp
      rw [e] at h3 ⊢
      refine ⟨x, (hgo x).2 ((hst x t).1 (h3 d (Nat.le_refl _) (by omega))), (mem_ratesTo h n (d + 1) (q ++ [x]) (by simp [hq]) _).2 ⟨by simp at h1 ⊢; omega, List.prefix_append _ _, fun j a b => h3 j (by omega) (by omega)⟩⟩
theorem mem_ratesL {h : House} {r : List Int} : r ∈ ratesL h ↔ (r.length = h.days.toNat ∧ ∀ j, j < h.days.toNat → okStep h r j) := by
  unfold ratesL
  rw [mem_ratesTo h _ 0 [] rfl]
  constructor
  · rintro ⟨a, -, c⟩; exact ⟨by omega, fun j hj => c j (Nat.zero_le _) (by omega)⟩
  · rintro ⟨a, c⟩; exact ⟨by omega, List.nil_prefix, fun j _ hj => c j (by omega)⟩
theorem mem_truL {h : House} (hv : ValidH h) {out : Nat → Bool} {r : List Int} : r ∈ truL h out ↔ (r ∈ ratesL h ∧ ∀ i, i < h.entries.length → out i = false → toldE (entAt h i) = true → agreesM h (entAt h i) r = true) := by
  rw [truL_all hv, List.mem_filter]
  unfold okAll
  rw [List.all_eq_true]
  constructor
  · rintro ⟨a, b⟩
    refine ⟨a, fun i hi h1 h2 => ?_⟩
    have := b i (List.mem_range.2 hi)
    simpa [h1, h2] using this
  · rintro ⟨a, b⟩
    refine ⟨a, fun i hi => ?_⟩
    have := b i (List.mem_range.1 hi)
    cases h1 : out i <;> cases h2 : toldE (entAt h i)
    · simp
    · simp [this h1 h2]
    · simp
    · simp

/-- errors of arguments of a house without errors -/
theorem openR_one {h : House} (hv : raErr h = 0) (a : ArgR) (he : a.e ≠ 0) : openR h [a] = if inM a.n 0 a.most = false then a.e else 0 := by
  unfold openR
  rw [if_neg (by rw [hv]; decide)]
  have e : (firstErr argE [a]).2 = if argErrM a = 0 then 0 else argErrM a := by
    unfold firstErr firstErrFrom argE
    split <;> rfl
  rw [e]
  unfold argErrM
  cases inM a.n 0 a.most
  · rw [if_pos rfl, if_neg he]
  · simp
theorem daysM_is {h : House} (hv : ValidH h) : daysM h = h.days - 1 := IntWalk.i64_in _ (by have := hv.days; omega)
theorem agtsM_is {h : House} (hv : ValidH h) : agtsM h = (h.agents.length : Int) - 1 := IntWalk.i64_in _ (by have := hv.agents; omega)
theorem entsM_is {h : House} (hv : ValidH h) : entsM h = (h.entries.length : Int) - 1 := IntWalk.i64_in _ (by have := hv.entries; omega)
theorem openR_bad {h : House} (hv : raErr h ≠ 0) (l : List ArgR) : openR h l = raErr h := by unfold openR; rw [if_pos hv]
theorem numErr_bad {h : House} (hv : raErr h ≠ 0) (l : List ArgR) (f : List Int → Int) : numErr h l f = raErr h ∧ numSpan h l f = (0, 0) := by
  unfold numErr numSpan
  rw [openR_bad hv, if_pos hv, if_pos hv]
  exact ⟨rfl, rfl⟩

theorem rbit_lt {s n i : Nat} (hs : s < 2 ^ n) (h : s.testBit i = true) : i < n := by
  rcases Nat.lt_or_ge i n with h1 | h1
  · exact h1
  · rw [Nat.testBit_lt_two_pow (Nat.lt_of_lt_of_le hs (Nat.pow_le_pow_right (by decide) h1))] at h; cases h
theorem rmem_members {s i : Nat} : i ∈ membersM s ↔ s.testBit i = true ∧ i < 5 := by
  simp only [membersM, membersTo, List.mem_filter, List.mem_range]
  exact And.comm
theorem rmembers_sorted (s : Nat) : (membersM s).Pairwise (· < ·) := List.Pairwise.filter _ List.pairwise_lt_range
theorem rcmpFew_len {l m : List Nat} (h : ¬ cmpFew l m < 0) : m.length ≤ l.length := by
  rcases Nat.lt_or_ge l.length m.length with h1 | h1
  · exfalso; apply h
    have e1 : (ints l).length = l.length := by simp [ints]
    have e2 : (ints m).length = m.length := by simp [ints]
    unfold cmpFew cmpSS
    rw [e1, e2, if_neg (by omega)]
    unfold cmpM
    rw [if_pos (by omega)]; decide
  · exact h1
theorem trueP_iff {h : House} {s : Nat} : trueP h s = true ↔ ∃ r, r ∈ truL h (outB s) := by
  unfold trueP
  rw [Bool.not_eq_true', decide_eq_false_iff_not]
  exact ⟨fun h => List.exists_mem_of_ne_nil _ h, fun ⟨r, hr⟩ e => by rw [e] at hr; cases hr⟩
/-- what Wrong names: a set without which there is a truth, and none before it will do -/
theorem wrong_ok {h : House} (hv : raErr h = 0) (he : wrongErr h = 0) : (∃ s, s < 2 ^ h.entries.length ∧ trueP h s = true ∧ membersM s = wrongL h) ∧ ∀ s, s < 2 ^ h.entries.length → trueP h s = true → ¬ cmpFew (membersM s) (wrongL h) < 0 := by
  have h0 : ¬ raErr h ≠ 0 := by rw [hv]; decide
  unfold wrongErr at he
  unfold wrongL
  rw [if_neg h0] at he ⊢
  have hf := fewTo_is (trueP h) (2 ^ h.entries.length)
  cases hr : fewTo (trueP h) (2 ^ h.entries.length) with
  | none => rw [hr, if_neg (by decide)] at he; cases he
  | some f => rw [hr] at hf; exact hf
theorem wrong_none {h : House} (hv : raErr h = 0) (he : wrongErr h ≠ 0) : wrongErr h = 9 ∧ wrongL h = [] ∧ ∀ s, s < 2 ^ h.entries.length → trueP h s = false := by
  have h0 : ¬ raErr h ≠ 0 := by rw [hv]; decide
  unfold wrongErr at he ⊢
  unfold wrongL
  rw [if_neg h0] at he ⊢
  rw [if_neg h0]
  have hf := fewTo_is (trueP h) (2 ^ h.entries.length)
  cases hr : fewTo (trueP h) (2 ^ h.entries.length) with
  | none => rw [hr] at hf; exact ⟨rfl, rfl, hf⟩
  | some f => rw [hr, if_pos (by rfl)] at he; exact absurd rfl he
theorem wrong_bad {h : House} (hv : raErr h ≠ 0) : wrongErr h = raErr h ∧ wrongL h = [] := by
  unfold wrongErr wrongL
  rw [if_pos hv, if_pos hv]
  exact ⟨rfl, rfl⟩
/-- without all entries any rates are a truth -/
theorem trueP_all {h : House} (hv : ValidH h) : trueP h (2 ^ h.entries.length - 1) = true ↔ ∃ r, r ∈ ratesL h := by
  rw [trueP_iff]
  constructor
  · rintro ⟨r, hr⟩; exact ⟨r, truL_sub hv hr⟩
  · rintro ⟨r, hr⟩
    refine ⟨r, (mem_truL hv).2 ⟨hr, fun i hi h1 => ?_⟩⟩
    unfold outB at h1
    rw [Nat.testBit_two_pow_sub_one, decide_eq_false_iff_not] at h1
    exact absurd hi h1
theorem trueP_rates {h : House} (hv : ValidH h) {s : Nat} (hs : trueP h s = true) : ∃ r, r ∈ ratesL h := by
  obtain ⟨r, hr⟩ := trueP_iff.1 hs
  exact ⟨r, truL_sub hv hr⟩
theorem two_pow_pred_lt (n : Nat) : 2 ^ n - 1 < 2 ^ n := by have := Nat.two_pow_pos n; omega
/-- Wrong has an answer just if some rates can be -/
theorem wrong_err_iff {h : House} (hv : raErr h = 0) (hV : ValidH h) : wrongErr h = 0 ↔ ∃ r, r ∈ ratesL h := by
  constructor
  · intro he
    obtain ⟨⟨s, -, hs, -⟩, -⟩ := wrong_ok hv he
    exact trueP_rates hV hs
  · intro hr
    refine Decidable.byContradiction fun he => ?_
    have := (wrong_none hv he).2.2 _ (two_pow_pred_lt _)
    rw [(trueP_all hV).2 hr] at this
    cases this
theorem wrongErr_cases {h : House} (hv : raErr h = 0) : wrongErr h = 0 ∨ wrongErr h = 9 := by
  by_cases he : wrongErr h = 0
  · exact .inl he
  · exact .inr (wrong_none hv he).1
theorem first_none {h : House} (hv : raErr h = 0) : firstErrM h = (if truL h (outB 0) = [] then 8 else 0) ∧ firstLM h = (truL h (outB 0)).headD [] ∧ firstNM h = (truL h (outB 0)).length := by
  have h0 : ¬ raErr h ≠ 0 := by rw [hv]; decide
  unfold firstErrM firstLM firstNM
  rw [if_neg h0, if_neg h0, if_neg h0]
  exact ⟨rfl, rfl, rfl⟩
/-- a rate, of a house with a truth, on a day -/
theorem rate_ok {h : House} (hv : raErr h = 0) (hne : truL h (outB 0) ≠ []) {d : Int} (hd : 0 ≤ d ∧ d < h.days) (f : List Int → Int) :
    numErr h [⟨d, daysM h, 4⟩] f = 0 ∧ NumIs f (truL h (outB 0)) (numSpan h [⟨d, daysM h, 4⟩] f).1 (numSpan h [⟨d, daysM h, 4⟩] f).2 := by
  have hV := validH_of hv
  have ho : openR h [⟨d, daysM h, 4⟩] = 0 := by
    rw [openR_one hv _ (by show (4 : Int) ≠ 0; decide), if_neg (by rw [daysM_is hV]; simp [inM]; omega)]
  unfold numErr numSpan
  rw [if_neg (by rw [ho]; decide), if_neg (by rw [ho]; decide)]
  exact numM_is f hne
theorem rate_zero {h : House} (hv : raErr h = 0) (hne : truL h (outB 0) = []) {d : Int} (hd : 0 ≤ d ∧ d < h.days) (f : List Int → Int) : numErr h [⟨d, daysM h, 4⟩] f = 8 ∧ numSpan h [⟨d, daysM h, 4⟩] f = (0, 0) := by
  have hV := validH_of hv
  have ho : openR h [⟨d, daysM h, 4⟩] = 0 := by
    rw [openR_one hv _ (by show (4 : Int) ≠ 0; decide), if_neg (by rw [daysM_is hV]; simp [inM]; omega)]
  unfold numErr numSpan
  rw [if_neg (by rw [ho]; decide), if_neg (by rw [ho]; decide), hne]
  exact ⟨rfl, rfl⟩
end Go.Proofs.Ytdadffmagfknoaa

namespace Go.Proofs.Ytdadffmagfknoaa
set_option linter.unusedSimpArgs false
set_option linter.unusedVariables false
open Go.RowKit
set_option linter.unusedVariables false
set_option maxRecDepth 100000

theorem outL_nil : outL [] = outB 0 := by funext i; simp [outL, outB]
set_option maxHeartbeats 1000000 in
theorem valid8_any (hv : Value) (h : House) (w : World) (hh : HouseAt w hv h) :
    Calls Try.prog 36 #[hv] w fun e w' => e = .returned (.bool (raErr h == 0)) ∧ Ext w w' := by
  have hck := fun w1 (hx : Ext w w1) => refCheck8_any hv h w1 (hh.ext hx)
  obtain ⟨ra, rc, aa, ac, ea, ec, rfl, -⟩ := hh
  have hre : (raCheck h).2.2 = raErr h := rfl
  rw [hre] at hck
  go_enter Try.func36, Try.ntmps36
  go_wp2_with fail
  refine (hck _ (ext_alloc _ _)).mono ?_
  rintro e w1 ⟨rfl, hx⟩
  have x1 : Ext w w1 := hx.of_alloc
  go_wp2
  go_ret
  exact ⟨rfl, x1⟩
def someM (h : House) : Bool := raErr h == 0 && !decide (truL h (outB 0) = [])
theorem someM_iff {h : House} : someM h = true ↔ (raErr h = 0 ∧ truL h (outB 0) ≠ []) := by
  unfold someM
  simp
set_option maxHeartbeats 1000000 in
theorem some8_any (hv : Value) (h : House) (w : World) (hh : HouseAt w hv h) :
    Calls Try.prog 44 #[hv] w fun e w' => e = .returned (.bool (someM h)) ∧ Ext w w' := by
  have hck := fun w1 (hx : Ext w w1) => valid8_any hv h w1 (hh.ext hx)
  have htr := fun hV w1 (hx : Ext w w1) => refTruths_any hv (.slice none 0 0) h hV [] w1 (hh.ext hx) SliceAt.nil
  rw [outL_nil] at htr
  have hvo := fun e => validH_of (h := h) e
  have hsm : someM h = (raErr h == 0 && !decide (truL h (outB 0) = [])) := rfl
  obtain ⟨ra, rc, aa, ac, ea, ec, rfl, -⟩ := hh
  generalize truL h (outB 0) = T at *
  generalize raErr h = er at *
  have Hsm := Lib.hid hsm
  clear hsm
  go_enter Try.func44, Try.ntmps44
  go_wp2_with fail
  refine (hck _ (ext_alloc _ _)).mono ?_
  rintro e w1 ⟨rfl, hx⟩
  have x1 : Ext w w1 := hx.of_alloc
  have p0 : w1.cell? ⟨w.heap.size, 0, none⟩ = some (.int .i64 h.days) := hx.cell (by simp [go_sem])
  have p1 : w1.cell? ⟨w.heap.size, 1, none⟩ = some (.slice ra h.rates.length rc) := hx.cell (by simp [go_sem])
  have p2 : w1.cell? ⟨w.heap.size, 2, none⟩ = some (.int .i64 h.step) := hx.cell (by simp [go_sem])
  have p3 : w1.cell? ⟨w.heap.size, 3, none⟩ = some (.slice aa h.agents.length ac) := hx.cell (by simp [go_sem])
  have p4 : w1.cell? ⟨w.heap.size, 4, none⟩ = some (.slice ea h.entries.length ec) := hx.cell (by simp [go_sem])
  have z0 := cell_lt p0
  clear hx hck
  by_cases h0 : er = 0
  · have hV := hvo h0
    have ht := htr hV
    subst h0
    have HV := Lib.hid hV
    clear htr hvo hV
    go_wp2_with fail
    refine (ht _ x1).mono ?_
    rintro e w2 ⟨u, rfl, hu, hx2⟩
    have x2 := x1.trans hx2
    obtain ⟨a, c, rfl, -⟩ := hu.shape
    by_cases hT : T = []
    · have hz : T.length = 0 := by rw [hT]; rfl
      have HT := Lib.hid hT
      clear hT ht
      rw [hz]
      clear hz hu
      go_wp2
      go_ret
      exact ⟨ret_bool (by rw [Hsm.out, HT.out]; rfl), x2⟩
    · have hz : (0 : Int) < (T.length : Int) := by have := List.length_pos_iff.2 hT; omega
      have hz2 : 0 < T.length := List.length_pos_iff.2 hT
      have HT := Lib.hid hT
      clear hT ht hu
      go_wp2
      go_ret
      exact ⟨ret_bool (by rw [Hsm.out, decide_eq_false HT.out]; rfl), x2⟩
  · have h0' : (er == 0) = false := by simpa using h0
    rw [h0']
    have H0' := Lib.hid h0'
    clear h0 h0' htr hvo
    go_wp2
    go_ret
    exact ⟨ret_bool (by rw [Hsm.out, H0'.out]; rfl), x1⟩
end Go.Proofs.Ytdadffmagfknoaa
