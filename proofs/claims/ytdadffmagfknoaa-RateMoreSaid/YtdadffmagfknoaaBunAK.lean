/-
  WHAT First RETURNS, for any house: of the program.
  A REGION THAT OPENS A HOUSE: its arguments in a new row, the house that is looked at stored into a new block: of the program.
  WHAT Rate RETURNS, for any house and day: of the program.
  WHAT Paid RETURNS, for any house and agent: of the program.
  WHAT Agree RETURNS, for any house and entry: of the program.
-/
import Derived.Test.YtdadffmagfknoaaBunAJ
namespace Go.Proofs.Ytdadffmagfknoaa
set_option linter.unusedSimpArgs false
set_option linter.unusedVariables false
open Go.RowKit
set_option linter.unusedVariables false
set_option maxRecDepth 100000
attribute [local go_sem] Oper.semAt_some
def firstErrM (h : House) : Int := if raErr h ≠ 0 then raErr h else if truL h (outB 0) = [] then 8 else 0
def firstLM (h : House) : List Int := if raErr h ≠ 0 then [] else (truL h (outB 0)).headD []
def firstNM (h : House) : Nat := if raErr h ≠ 0 then 0 else (truL h (outB 0)).length
theorem take_three {r : List Int} {n : Nat} (hr : r.length = n) (hn : n ≤ 3) : [r.getD 0 0, r.getD 1 0, r.getD 2 0].take n = r := by
  match r, hr with
  | [], hr => subst hr; rfl
  | [a], hr => subst hr; rfl
  | [a, b], hr => subst hr; rfl
  | [a, b, c], hr => subst hr; rfl
  | a :: b :: c :: d :: t, hr => simp at hr; omega
theorem set_same {w : World} {p : Addr} {v : Value} (h : w.cell? p = some v) : w.setCell p v = w := by
  have key : ∀ f : Obj → Obj, (∀ o, w.heap[p.block]? = some o → f o = o) → w.heap.modify p.block f = w.heap := by
    intro f hf
    apply Array.ext_getElem?
    intro i
    rw [Array.getElem?_modify]
    by_cases e : p.block = i
    · subst e
      rw [if_pos rfl]
      cases hh : w.heap[p.block]? with
      | none => rfl
      | some o => simp [hf o hh]
    · rw [if_neg e]
  unfold World.setCell
  rw [key]
  intro o ho
  unfold World.cell? at h
  rw [ho] at h
  cases o with
  | cells c t fr =>
    simp only at h ⊢
    by_cases hs : p.spot.isSome
    · rw [if_pos hs] at h; cases h
    · rw [if_neg hs] at h
      rw [if_neg hs]
      congr 1
      apply Array.ext_getElem?
      intro i
      rw [Array.getElem?_setIfInBounds]
      by_cases e : p.off = i
      · subst e
        rw [if_pos rfl, h]
        have := (Array.getElem?_eq_some_iff.1 h).1
        rw [if_pos this]
      · rw [if_neg e]
  | _ => rfl
/-- what the loop holds between two rounds -/
structure CntI (w0 : World) (B : Nat) (n : Nat) (W : World) : Prop where
  many : W.cell? ⟨B, 0, none⟩ = some (.int .i64 n)
  free : W.frozen? ⟨B, 0, none⟩ = false
  ext : Below B w0 W
  rest : ∀ b, b < w0.heap.size → b ≠ B → W.heap[b]? = w0.heap[b]?
set_option maxHeartbeats 4000000 in
theorem firstPub_any (hv : Value) (H : House) (w : World) (hh : HouseAt w hv H) :
    Calls Try.prog 18 #[hv] w fun e w' => ∃ v, e = .returned (.tuple #[v, .int .i64 (firstNM H), .int .i64 (firstErrM H)]) ∧ IntsAt w' v (firstLM H) ∧ Ext w w' := by
  have hop := fun w' hx => openR_any hv (.slice none 0 0) H [] w w' hh hx SliceAt.nil
  rw [openR_nil] at hop
  have hvo : raErr H = 0 → ValidH H := validH_of
  have hfe : firstErrM H = if raErr H ≠ 0 then raErr H else if truL H (outB 0) = [] then 8 else 0 := rfl
  have hfl : firstLM H = if raErr H ≠ 0 then [] else (truL H (outB 0)).headD [] := rfl
  have hfn : firstNM H = if raErr H ≠ 0 then 0 else (truL H (outB 0)).length := rfl
  generalize firstErrM H = fe at *
  generalize firstLM H = fl at *
  generalize firstNM H = fn at *
  generalize raErr H = er at *
  have HFE := Lib.hid hfe
  have HFL := Lib.hid hfl
  have HFN := Lib.hid hfn
  clear hfe hfl hfn
  obtain ⟨ra, rc, aa, ac, ea, ec, rfl, hdi, hsi, -, -, -⟩ := hh
  refine (callsIn_wide (n := 4)).1 (callsIn_of_wp_marks Try.func18 rfl trivial ?_ rfl)
  simp only [Try.ntmps18, List.size_toArray, List.length_cons, List.length_nil, Nat.reduceAdd, Nat.reduceSub, Array.replicate_succ, Array.replicate_zero, List.push_toArray, List.append_toArray, List.nil_append, List.cons_append]
  refine wpIn_wide.2 ?_
  go_wp2_with fail
  refine (hop _ ((by first | (with_reducible exact Ext.refl _) | (with_reducible assumption) | (show Below _ _ _; go_grown; done)))).mono ?_
  rintro e w1 ⟨u, rfl, hG, hx1⟩
  have x1 : Ext w w1 := ((ext_alloc _ _).alloc _).trans hx1
  have r0 : w1.cell? ⟨w.heap.size + 1, 0, none⟩ = some (.int .i64 0) := hx1.cell (by simp [go_sem])
  have rf : w1.frozen? ⟨w.heap.size + 1, 0, none⟩ = false := by rw [hx1.frozen (by simp)]; simp [go_sem]
  have zr : w.heap.size + 1 < w1.heap.size := cell_lt r0
  have hsh := hG.1
  have HG := Lib.hid hG
  obtain ⟨d', ra', rn', rc', s', aa', an', ac', ea', en', ec', m', rfl⟩ := hsh
  have HVO := Lib.hid hvo
  clear hG hx1 hop hvo
  by_cases h0 : er = 0
  rotate_left
  · have k0 : (er != 0) = true := by simpa using h0
    have H0 := Lib.hid h0
    have xS : Ext w ((w1.setCell ⟨w.heap.size + 1, 0, none⟩ (.int .i64 0)).alloc (.cells #[.int .i64 d', .slice ra' rn' rc', .int .i64 s', .slice aa' an' ac', .slice ea' en' ec', .map m'] 85)) := (x1.setCell (by simp) _).alloc _
    have r2 := (ext_alloc _ (.cells #[.int .i64 d', .slice ra' rn' rc', .int .i64 s', .slice aa' an' ac', .slice ea' en' ec', .map m'] 85)).cell (set_cell r0 (.int .i64 0))
    have HS := Lib.hid xS
    have R2 := Lib.hid r2
    clear h0 xS r2
    go_wp2
    have e1 := HFE.out
    have e2 := HFL.out
    have e3 := HFN.out
    rw [if_pos H0.out] at e1 e2 e3
    subst e1 e2 e3
    have r2 := R2.out
    exact ⟨.tuple #[.slice none 0 0, .int .i64 0, .int .i64 fe], by simp [results, Try.results18, go_sem, r2], ⟨_, rfl, SliceAt.nil, HS.out⟩⟩
  subst h0
  have hL := HG.out.look x1 rfl
  obtain ⟨ra2, rc2, aa2, ac2, ea2, ec2, B2, M2, e2, -, -, -, -, -⟩ := hL
  unfold houseV at e2
  simp only [Value.agg.injEq, Array.mk.injEq, List.cons.injEq, Value.int.injEq, Value.slice.injEq, Value.map.injEq, and_true, true_and] at e2
  obtain ⟨rfl, ⟨rfl, rfl, rfl⟩, rfl, ⟨rfl, rfl, rfl⟩, ⟨rfl, rfl, rfl⟩, rfl⟩ := e2
  obtain ⟨W, hW⟩ : ∃ W, W = w1.alloc (.cells #[.int .i64 H.days, .slice ra' H.rates.length rc', .int .i64 H.step, .slice aa' H.agents.length ac', .slice ea' H.entries.length ec', .map (some B2)] 85) := ⟨_, rfl⟩
  have x1W : Ext w1 W := by rw [hW]; exact ext_alloc _ _
  have hb : BoxIs W w1.heap.size [.int .i64 H.days, .slice ra' H.rates.length rc', .int .i64 H.step, .slice aa' H.agents.length ac', .slice ea' H.entries.length ec', .map (some B2)] := by
    intro j v hj
    rw [hW]
    match j, hj with
    | 0, hj => simp at hj; subst hj; simp [go_sem]
    | 1, hj => simp at hj; subst hj; simp [go_sem]
    | 2, hj => simp at hj; subst hj; simp [go_sem]
    | 3, hj => simp at hj; subst hj; simp [go_sem]
    | 4, hj => simp at hj; subst hj; simp [go_sem]
    | 5, hj => simp at hj; subst hj; simp [go_sem]
  have hL := (HG.out.look x1 rfl).ext x1W
  have hV := HVO.out rfl
  have hfi := fun w hl => rfirst_any (.agg #[.int .i64 H.days, .slice ra' H.rates.length rc', .int .i64 H.step, .slice aa' H.agents.length ac', .slice ea' H.entries.length ec', .map (some B2)]) H hV 0 (by omega) w hl
  have hno := fun w => isNone_first H hV (outB 0) w
  have HL := Lib.hid hL
  have HWW := Lib.hid hW
  have i0 := hb 0 _ rfl
  have i1 := hb 1 _ rfl
  have i2 := hb 2 _ rfl
  have i3 := hb 3 _ rfl
  have i4 := hb 4 _ rfl
  have i5 := hb 5 _ rfl
  have zb := cell_lt i0
  clear hL hW
  generalize hfr : (truL H (outB 0)).headD [] = fr at hfi hno
  have HFR := Lib.hid hfr
  clear hfr
  obtain ⟨q0, hq0⟩ : ∃ q0, fr.getD 0 0 = q0 := ⟨_, rfl⟩
  obtain ⟨q1, hq1⟩ : ∃ q1, fr.getD 1 0 = q1 := ⟨_, rfl⟩
  obtain ⟨q2, hq2⟩ : ∃ q2, fr.getD 2 0 = q2 := ⟨_, rfl⟩
  have hrv : rateV fr = .agg #[.int .i64 q0, .int .i64 q1, .int .i64 q2] := by unfold rateV; rw [hq0, hq1, hq2]
  rw [hrv] at hfi hno
  clear hrv
  go_wp2_with fail
  rw [← HWW.out]
  refine (hfi _ HL.out).mono ?_
  rintro e w2 ⟨rfl, hx2⟩
  have x2 := x1.trans (x1W.trans hx2)
  have ZQ : Hid (w.heap.size + 1 < w1.heap.size ∧ w1.heap.size ≤ w2.heap.size) := Lib.hid ⟨zr, Nat.le_trans x1W.size hx2.size⟩
  replace i0 := hx2.cell i0
  replace i1 := hx2.cell i1
  replace i2 := hx2.cell i2
  replace i3 := hx2.cell i3
  replace i4 := hx2.cell i4
  replace i5 := hx2.cell i5
  have c2 := (x1W.trans hx2).cell r0
  have f2 : w2.frozen? ⟨w.heap.size + 1, 0, none⟩ = false := by rw [(x1W.trans hx2).frozen zr]; exact rf
  have hL2 := HL.out.ext hx2
  have HL2 := Lib.hid hL2
  have hx02 := hx2
  have zb2 := cell_lt i0
  have zr2 := cell_lt c2
  have zr2' : w.heap.size + 1 < w2.heap.size := zr2
  have zb2' : w1.heap.size < w2.heap.size := zb2
  clear hL2 hx2 r0 rf zb hfi
  go_wp2_with fail
  refine (hno _).mono ?_
  rintro e w3 ⟨rfl, hx3⟩
  have x3 : Ext w w3 := (x2.alloc _).trans hx3
  replace i0 : w3.cell? ⟨w1.heap.size, 0, none⟩ = some (.int .i64 H.days) := hx3.of_alloc.cell i0
  replace i1 := hx3.of_alloc.cell i1
  replace i2 := hx3.of_alloc.cell i2
  replace i3 := hx3.of_alloc.cell i3
  replace i4 := hx3.of_alloc.cell i4
  replace i5 := hx3.of_alloc.cell i5
  replace c2 := hx3.of_alloc.cell c2
  replace f2 : w3.frozen? ⟨w.heap.size + 1, 0, none⟩ = false := by rw [hx3.of_alloc.frozen zr2]; exact f2
  have g0 : w3.cell? ⟨w2.heap.size, 0, none⟩ = some (.int .i64 q0) := hx3.cell (by simp [go_sem])
  have g1 : w3.cell? ⟨w2.heap.size, 1, none⟩ = some (.int .i64 q1) := hx3.cell (by simp [go_sem])
  have g2 : w3.cell? ⟨w2.heap.size, 2, none⟩ = some (.int .i64 q2) := hx3.cell (by simp [go_sem])
  have HL3 := Lib.hid (HL2.out.ext hx3.of_alloc)
  have HG3 := Lib.hid ((HG.out.2 rfl).kept (w' := w3) ((x1W.trans hx02).trans hx3.of_alloc).maps)
  have zb3 : w1.heap.size < w3.heap.size := cell_lt i0
  have zr3 : w.heap.size + 1 < w3.heap.size := cell_lt c2
  have zg3 : w2.heap.size < w3.heap.size := cell_lt g0
  clear hx3 hno zb2 zr2 zb2' zr2'
  generalize hbn : decide (truL H (outB 0) = []) = bn
  have HBN := Lib.hid hbn
  clear hbn
  cases bn
  rotate_left
  · have xS : Ext w (w3.setCell ⟨w.heap.size + 1, 0, none⟩ (.int .i64 0)) := x3.setCell (by simp) _
    have r2 := set_cell c2 (.int .i64 0)
    have HS := Lib.hid xS
    have R2 := Lib.hid r2
    clear xS r2
    go_wp2
    have e1 := HFE.out
    have e2 := HFL.out
    have e3 := HFN.out
    have hnil : truL H (outB 0) = [] := by simpa using HBN.out
    rw [if_neg (by simp)] at e1 e2 e3
    rw [hnil] at e1 e2 e3
    simp at e1 e2 e3
    subst e1 e2 e3
    have r2 := R2.out
    exact ⟨.tuple #[.slice none 0 0, .int .i64 0, .int .i64 8], by simp [results, Try.results18, go_sem, r2], ⟨_, rfl, SliceAt.nil, HS.out⟩⟩
  go_wp2_with fail
  refine (truths2_any (.agg #[.int .i64 H.days, .slice ra' H.rates.length rc', .int .i64 H.step, .slice aa' H.agents.length ac', .slice ea' H.entries.length ec', .map (some B2)]) H hV 0 (by omega) w _ x3 HG3.out).mono ?_
  rintro e W0 ⟨v, rfl, hT, hx0⟩
  have x0 := x3.trans hx0
  obtain ⟨lb, rfl, hsq0⟩ := hT.seq hV x0
  replace i0 := hx0.cell i0
  replace i1 := hx0.cell i1
  replace i2 := hx0.cell i2
  replace i3 := hx0.cell i3
  replace i4 := hx0.cell i4
  replace i5 := hx0.cell i5
  replace c2 := hx0.cell c2
  replace f2 : W0.frozen? ⟨w.heap.size + 1, 0, none⟩ = false := by rw [hx0.frozen zr3]; exact f2
  replace g0 := hx0.cell g0
  replace g1 := hx0.cell g1
  replace g2 := hx0.cell g2
  have hz03 := hx0.size
  have zb0 : w1.heap.size < W0.heap.size := cell_lt i0
  have zr0 : w.heap.size + 1 < W0.heap.size := cell_lt c2
  have zg0 : w2.heap.size < W0.heap.size := cell_lt g0
  have hsq := hsq0 3 (w.heap.size + 1) (w.heap.size + 2) W0 (by omega) (by omega) (by omega) (by omega) (KeptN.refl _ _ _)
  clear hT hsq0 zb3 zr3 zg3 hx0 hz03 HL3 HG3
  go_wp2_with fail
  refine (wpIn_wide (n := 4)).1 ?_
  refine wpIn_seqOnly (by omega) rfl (enters_of Try.func102 (by kernel_rfl) rfl) hsq (fun h k => KeptN.trans h k) ?kb (Below.refl _ _) (fun _ => rfl)
    (fun pre W => CntI W0 (w.heap.size + 1) pre.length W) ?hI ⟨c2, f2, Below.refl _ _, fun _ _ _ => rfl⟩
    (fun r a' W => a' = { tmps := #[(.agg #[.int .i64 H.days, .slice ra H.rates.length rc, .int .i64 H.step, .slice aa H.agents.length ac, .slice ea H.entries.length ec]), .pointer (some ⟨w.heap.size, 0, none⟩), .slice none 0 0, .pointer (some ⟨w.heap.size + 1, 0, none⟩), .int .i64 0, .pointer (some ⟨w1.heap.size, 0, none⟩), .pointer (some ⟨w2.heap.size, 0, none⟩), (.tuple #[(.agg #[.int .i64 H.days, .slice ra' H.rates.length rc', .int .i64 H.step, .slice aa' H.agents.length ac', .slice ea' H.entries.length ec', .map (some B2)]), .int .i64 0]), (.agg #[.int .i64 H.days, .slice ra H.rates.length rc, .int .i64 H.step, .slice aa H.agents.length ac, .slice ea H.entries.length ec]), (.tuple #[(.agg #[.int .i64 H.days, .slice ra' H.rates.length rc', .int .i64 H.step, .slice aa' H.agents.length ac', .slice ea' H.entries.length ec', .map (some B2)]), .int .i64 0]), (.agg #[.int .i64 H.days, .slice ra' H.rates.length rc', .int .i64 H.step, .slice aa' H.agents.length ac', .slice ea' H.entries.length ec', .map (some B2)]), .int .i64 0, .int .i64 0, .bool false, undef, (.agg #[.int .i64 H.days, .slice ra' H.rates.length rc', .int .i64 H.step, .slice aa' H.agents.length ac', .slice ea' H.entries.length ec', .map (some B2)]), (.agg #[.int .i64 q0, .int .i64 q1, .int .i64 q2]), (.agg #[.int .i64 q0, .int .i64 q1, .int .i64 q2]), .bool false, (.agg #[.int .i64 H.days, .slice ra' H.rates.length rc', .int .i64 H.step, .slice aa' H.agents.length ac', .slice ea' H.entries.length ec', .map (some B2)]), .func (.func 102) #[] lb, rateV r, undef, undef, undef, undef, undef, undef, undef, undef], defers := [] }) ?hAx ?assign ?body ?done
  case kb => exact fun W l o o' hl h hc _ hm => KeptN.putObj h hc hm (by omega)
  case hI => exact fun s A B hx h => ⟨(hx.cell (p := ⟨w.heap.size + 1, 0, none⟩) zr0).trans h.many, (hx.frozen (p := ⟨w.heap.size + 1, 0, none⟩) zr0).trans h.free, h.ext.trans (hx.mono (by omega)), fun b hb hne => (hx.block b hb).trans (h.rest b hb hne)⟩
  case hAx => exact fun x a' A l o' hl h e => e
  case assign =>
    intro l pre x W K hI hK
    gi_wp2
    exact hK _ _ (KeepsFrom.refl _ _) (KeptN.refl _ _ _) hI (by simp)
  case body =>
    rintro l pre x a' W hI rfl hpre
    have hmany : pre.length < 8000 := by
      have h1 := hpre.length_le
      have h2 := truL_many hV (outB 0)
      simp at h1; omega
    have hlen : (pre ++ [x]).length = pre.length + 1 := by simp
    generalize pre.length = n at *
    have wn : IntKind.i64.wrap ((n : Int) + 1) = (n : Int) + 1 := IntWalk.i64_in _ (by omega)
    have m0 := hI.many
    have m1 := hI.free
    have zm := cell_lt m0
    have hz := hI.ext.size
    have K3 : CntI W0 (w.heap.size + 1) (pre ++ [x]).length (W.setCell ⟨w.heap.size + 1, 0, none⟩ (.int .i64 ((n : Int) + 1))) :=
      ⟨by rw [hlen]; exact set_cell m0 _, by simpa [go_sem] using m1, hI.ext.setCell (p := ⟨w.heap.size + 1, 0, none⟩) (Nat.le_refl _) _, fun b hb hne => (Below.heap_setCell _ _ _ _ (by simpa using hne)).trans (hI.rest b hb hne)⟩
    have K1 : KeepsFrom W0.heap.size W (W.setCell ⟨w.heap.size + 1, 0, none⟩ (.int .i64 ((n : Int) + 1))) := (KeepsOthers.setCell _ _ _).from _
    have K2 : KeptN (w.heap.size + 1) (w.heap.size + 2) W (W.setCell ⟨w.heap.size + 1, 0, none⟩ (.int .i64 ((n : Int) + 1))) := (KeptN.refl _ _ _).setIn (by simp) (by simp) _
    have HK1 := Lib.hid K1
    have HK2 := Lib.hid K2
    have HK3 := Lib.hid K3
    clear K1 K2 K3 hlen hpre hI
    gi_wp2
    exact ⟨HK1.out, HK2.out, HK3.out⟩
  case done =>
    intro D W hD hI hDm
    have hlen8 := truL_many hV (outB 0)
    obtain ⟨n, hn⟩ : ∃ n, (truL H (outB 0)).length = n := ⟨_, rfl⟩
    rw [hn] at hI
    have HNN := Lib.hid hn
    have hz := hI.ext.size
    have b1 : W.heap[w1.heap.size]? = W0.heap[w1.heap.size]? := hI.rest _ zb0 (by have := ZQ.out; omega)
    have b2 : W.heap[w2.heap.size]? = W0.heap[w2.heap.size]? := hI.rest _ zg0 (by have := ZQ.out; omega)
    have d0 : W.cell? ⟨w1.heap.size, 0, none⟩ = some (.int .i64 H.days) := (World.cell?_of_block (w := W0) b1).trans i0
    have e0 : W.cell? ⟨w2.heap.size, 0, none⟩ = some (.int .i64 q0) := (World.cell?_of_block (w := W0) b2).trans g0
    have e1 : W.cell? ⟨w2.heap.size, 1, none⟩ = some (.int .i64 q1) := (World.cell?_of_block (w := W0) b2).trans g1
    have e2 : W.cell? ⟨w2.heap.size, 2, none⟩ = some (.int .i64 q2) := (World.cell?_of_block (w := W0) b2).trans g2
    have m0 := hI.many
    have m1 := hI.free
    have xW : Ext w W := ⟨hI.ext.os.trans x0.os, hI.ext.tape.trans x0.tape, hI.ext.output.trans x0.output, by have := x0.size; omega, fun k hk => (hI.ext.block k (by omega)).trans (x0.block k hk)⟩
    have hdd := hV.days
    obtain ⟨dn, hdn⟩ : ∃ dn : Nat, H.days = (dn : Int) := ⟨H.days.toNat, by omega⟩
    have hls := fun w => rlist_any q0 q1 q2 dn (by omega) (by
      have hgood : ∀ j, I64 (fr.getD j 0) := fun j => by
        have hne : truL H (outB 0) ≠ [] := by simpa using HBN.out
        obtain ⟨q, t, hqt⟩ := List.exists_cons_of_ne_nil hne
        have hfq : fr = q := by rw [← HFR.out, hqt]; rfl
        have hmem := truL_sub hV (by rw [hqt]; simp : q ∈ truL H (outB 0))
        by_cases hj : j < H.days.toNat
        · have := ratesL_good hV hmem hj
          rw [hfq]; unfold I64; omega
        · have hl := ratesL_len hmem
          rw [hfq, List.getD_eq_getElem?_getD, List.getElem?_eq_none (by omega)]
          unfold I64; simp
      rw [← hq0, ← hq1, ← hq2]; exact ⟨hgood 0, hgood 1, hgood 2⟩) w
    rw [hdn] at d0
    have zD := Array.getElem?_eq_some_iff.1 hDm |>.1
    clear hI i0 i1 i2 i3 i4 i5 g0 g1 g2 c2 f2 b1 b2 hn hlen8 hsq
    go_wp2_with fail
    apply Facts.wp_region [.val (.agg #[.int .i64 q0, .int .i64 q1, .int .i64 q2]), .val _, .val _, .val (.int .i64 dn), .fact (fun u W => IntsAt W u ([q0, q1, q2].take dn)), .val (.int .i64 n), .fact (fun u W => IntsAt W u ([q0, q1, q2].take dn)), .val _, .val _] (by kernel_rfl) (by kernel_rfl) ⟨fun u a c hx h => h.ext hx, fun u a c hx h => h.ext hx, trivial⟩ ?main
    case main =>
      iterate 4 (refine ⟨fun w1 hx hh => ?_, ?_⟩; focus (clear hh; (have f0 := hx.cell d0; have f1 := hx.cell e0; have f2 := hx.cell e1; have f3 := hx.cell e2; have f4 := hx.cell m0); go_simp; first | exact ⟨Ext.refl _, rfl⟩ | exact Ext.refl _))
      refine ⟨fun w9 hx hh => ?_, ?_⟩
      · clear hh
        go_simp
        refine (hls w9).mono ?_
        rintro e w' ⟨v, rfl, hI9, hx9⟩
        exact ⟨v, rfl, hx9, hI9⟩
      intro u28
      iterate 1 (refine ⟨fun w1 hx hh => ?_, ?_⟩; focus (clear hh; (have f0 := hx.cell d0; have f1 := hx.cell e0; have f2 := hx.cell e1; have f3 := hx.cell e2; have f4 := hx.cell m0); go_simp; first | exact ⟨Ext.refl _, rfl⟩ | exact Ext.refl _))
      refine ⟨fun w9 hx hh => ?_, ?_⟩
      · have h4 := hh 4 _ List.mem_cons_self (by kernel_rfl)
        clear hh
        go_simp
        first | exact ⟨Ext.refl _, h4⟩ | exact Ext.refl _
      intro u2
      refine ⟨fun w9 hx hh => ?_, ?_⟩
      · clear hh
        have f4 := hx.cell m0
        have f5 : w9.frozen? ⟨w.heap.size + 1, 0, none⟩ = false := by rw [hx.frozen (cell_lt m0)]; exact m1
        have hsm := set_same f4
        go_simp
        first | exact ⟨Ext.refl _, rfl⟩ | exact Ext.refl _
      iterate 1 (refine ⟨fun w1 hx hh => ?_, ?_⟩; focus (clear hh; skip; go_simp; first | exact ⟨Ext.refl _, rfl⟩ | exact Ext.refl _))
      intro w9 hx hh
      have h6 := hh 6 _ List.mem_cons_self
      clear hh
      obtain ⟨a2, c2, rfl, -⟩ := h6.shape
      have H6 := Lib.hid h6
      have hDs : w9.heap[D]? = some (.deferred (some [])) := (hx.below.block D zD).trans hDm
      have xw9 := xW.trans hx
      have hgr := grownBy_putObj' w9 D (.deferred none)
      have x5 : Ext w (w9.putObj D (.deferred none)) := Ext.grown xw9 hgr (fun r e => by cases e; have := x0.size; omega)
      have k0 := cell_kept (hx.cell m0) hgr (fun r e => by cases e; exact ⟨_, hDs, rfl⟩)
      have hI5 : IntsAt (w9.putObj D (.deferred none)) (.slice a2 ([q0, q1, q2].take dn).length c2) ([q0, q1, q2].take dn) := SliceAt.lies (fun _ _ _ _ _ hx h => ⟨hx _ _ h.1, h.2⟩) h6 (fun p v hp => cell_kept hp hgr (fun r e => by cases e; exact ⟨_, hDs, rfl⟩))
      have HD := Lib.hid hDs
      have HX5 := Lib.hid x5
      have K0 := Lib.hid k0
      have HI5 := Lib.hid hI5
      clear hDs hgr x5 xw9 h6 k0 hI5
      have hne : truL H (outB 0) ≠ [] := by simpa using HBN.out
      have e1 := HFE.out
      have e2 := HFL.out
      have e3 := HFN.out
      rw [if_neg (by simp)] at e1 e2 e3
      rw [if_neg hne] at e1
      have hfrl : [q0, q1, q2].take dn = fl := by
        rw [e2, HFR.out, ← hq0, ← hq1, ← hq2]
        refine take_three ?_ (by omega)
        obtain ⟨q, t, hqt⟩ := List.exists_cons_of_ne_nil hne
        have hfq : fr = q := by rw [← HFR.out, hqt]; rfl
        rw [hfq, ratesL_len (truL_sub hV (by rw [hqt]; simp : q ∈ truL H (outB 0)))]
        omega
      rw [HNN.out] at e3
      have HFF := Lib.hid hfrl
      have E1 := Lib.hid e1
      have E3 := Lib.hid e3
      clear e1 e2 e3 hfrl HFE HFL HFN
      go_simp
      go_wp2
      refine ⟨by simp, .inl ⟨D, _, rfl, run_takeDeferred HD.out, ?_⟩⟩
      have k0 := K0.out
      have i5 := HI5.out
      have hx5 := HX5.out
      generalize (w9.putObj D (.deferred none)) = Wf at *
      have hi5 : IntsAt Wf (.slice a2 (min dn 3) c2) fl := by rw [← HFF.out]; simpa using i5
      exact ⟨.tuple #[.slice a2 (min dn 3) c2, .int .i64 n, .int .i64 0], by simp [results, Try.results18, go_sem, k0], ⟨_, by rw [E1.out, E3.out], hi5, hx5⟩⟩
end Go.Proofs.Ytdadffmagfknoaa

namespace Go.Proofs.Ytdadffmagfknoaa
set_option linter.unusedSimpArgs false
set_option linter.unusedVariables false
open Go.RowKit
set_option linter.unusedVariables false
set_option maxRecDepth 100000
/-- all that was there before stays, but for blocks that hold a house -/
def Chs (n : Nat) (a b : World) : Prop := n ≤ a.heap.size → Below n a b ∧ n ≤ b.heap.size ∧ (∀ (k : Nat) o, a.heap[k]? = some o → (∀ cs fr, o ≠ Obj.cells cs 85 fr) → b.heap[k]? = some o) ∧ (∀ (k : Nat) cs fr, a.heap[k]? = some (Obj.cells cs 85 fr) → ∃ cs', cs'.size = cs.size ∧ b.heap[k]? = some (Obj.cells cs' 85 fr))
theorem Ext.chs {a b : World} (n : Nat) (h : Ext a b) : Chs n a b := fun hn =>
  ⟨h.below.mono hn, Nat.le_trans hn h.size, fun k o ho _ => (h.below.block k (Array.getElem?_eq_some_iff.1 ho).1).trans ho, fun k cs fr ho => ⟨cs, rfl, (h.below.block k (Array.getElem?_eq_some_iff.1 ho).1).trans ho⟩⟩
theorem Chs.trans {n : Nat} {a b c : World} (h : Chs n a b) (k : Chs n b c) : Chs n a c := fun hn => by
  obtain ⟨h1, h2, h3, h4⟩ := h hn
  obtain ⟨k1, k2, k3, k4⟩ := k h2
  refine ⟨h1.trans k1, k2, fun i o ho hne => k3 i o (h3 i o ho hne) hne, fun i cs fr ho => ?_⟩
  obtain ⟨cs', e1, e2⟩ := h4 i cs fr ho
  obtain ⟨cs2, e3, e4⟩ := k4 i cs' fr e2
  exact ⟨cs2, e3.trans e1, e4⟩
theorem two_chs (n : Nat) : Facts.Piv.Two Ext (Chs n) := ⟨fun _ _ h => h.chs n, fun _ _ _ h k => h.trans k, fun _ _ _ h k => h.trans k, Ext.refl, fun a => ext_drew a⟩
theorem chs_set {n b : Nat} {W : World} {cs : Array Value} {fr : Nat × Nat} (hb : n ≤ b) (h : W.heap[b]? = some (Obj.cells cs 85 fr)) (i : Nat) (v : Value) : Chs n W (W.setCell ⟨b, i, none⟩ v) := fun hn => by
  refine ⟨(Below.refl n W).setCell (p := ⟨b, i, none⟩) hb _, by simpa [World.setCell] using hn, fun k o ho hne => ?_, fun k cs2 fr2 ho => ?_⟩
  · rw [Below.heap_setCell _ _ _ _ (show k ≠ b from fun e => by subst e; rw [h] at ho; exact hne _ _ (Option.some.inj ho).symm)]
    exact ho
  · by_cases e : k = b
    · subst e
      rw [h] at ho
      obtain ⟨rfl, -, rfl⟩ := Obj.cells.inj (Option.some.inj ho)
      exact ⟨cs.setIfInBounds i v, by simp, by simp [World.setCell, Array.getElem?_modify, h]⟩
    · exact ⟨cs2, rfl, by rw [Below.heap_setCell _ _ _ _ (show k ≠ b from e)]; exact ho⟩
theorem heap_set {b : Nat} {W : World} {cs : Array Value} {fr : Nat × Nat} (h : W.heap[b]? = some (Obj.cells cs 85 fr)) (i : Nat) (v : Value) : (W.setCell ⟨b, i, none⟩ v).heap[b]? = some (Obj.cells (cs.setIfInBounds i v) 85 fr) := by simp [World.setCell, Array.getElem?_modify, h]
theorem chs_set6 {n b : Nat} {W : World} {cs : Array Value} {fr : Nat × Nat} (hb : n ≤ b) (h : W.heap[b]? = some (Obj.cells cs 85 fr)) (x y z u v t : Value) : Chs n W ((((((W.setCell ⟨b, 0, none⟩ x).setCell ⟨b, 1, none⟩ y).setCell ⟨b, 2, none⟩ z).setCell ⟨b, 3, none⟩ u).setCell ⟨b, 4, none⟩ v).setCell ⟨b, 5, none⟩ t) := by
  have h1 := heap_set h 0 x
  have h2 := heap_set h1 1 y
  have h3 := heap_set h2 2 z
  have h4 := heap_set h3 3 u
  have h5 := heap_set h4 4 v
  exact (((((chs_set hb h 0 x).trans (chs_set hb h1 1 y)).trans (chs_set hb h2 2 z)).trans (chs_set hb h3 3 u)).trans (chs_set hb h4 4 v)).trans (chs_set hb h5 5 t)
/-- the arguments, in a new row -/
def argCells : List ArgR → List Value
  | [] => []
  | a :: l => .int .i64 a.n :: .int .i64 a.most :: .int .i64 a.e :: argCells l
def NewArgs (n : Nat) (l : List ArgR) (u : Value) (W : World) : Prop := n ≤ W.heap.size ∧ ∃ b, u = .slice (some ⟨b, 0, none⟩) l.length l.length ∧ W.heap[b]? = some (Obj.cells (argCells l).toArray 103 (0, 0))
theorem NewArgs.ext {n : Nat} {l : List ArgR} {u : Value} {a b : World} (h : NewArgs n l u a) (hx : Ext a b) : NewArgs n l u b := by
  obtain ⟨h0, g, e, h1⟩ := h
  exact ⟨Nat.le_trans h0 hx.size, g, e, (hx.below.block g (Array.getElem?_eq_some_iff.1 h1).1).trans h1⟩
theorem NewArgs.chs {n : Nat} {l : List ArgR} {u : Value} {a b : World} (h : NewArgs n l u a) (hx : Chs n a b) : NewArgs n l u b := by
  obtain ⟨h0, g, e, h1⟩ := h
  obtain ⟨-, k2, k3, -⟩ := hx h0
  exact ⟨k2, g, e, k3 g _ h1 (fun cs fr e2 => by have := (Obj.cells.inj e2).2.1; revert this; decide)⟩
theorem argCells_get : ∀ (l : List ArgR) (i : Nat) (hi : i < l.length), (argCells l)[i * 3]? = some (.int .i64 l[i].n) ∧ (argCells l)[i * 3 + 1]? = some (.int .i64 l[i].most) ∧ (argCells l)[i * 3 + 2]? = some (.int .i64 l[i].e)
  | a :: l, 0, _ => ⟨rfl, rfl, rfl⟩
  | a :: l, i + 1, hi => by
    have h := argCells_get l i (by simpa using hi)
    rw [show (i + 1) * 3 = i * 3 + 1 + 1 + 1 by omega, show i * 3 + 1 + 1 + 1 + 1 = (i * 3 + 1) + 1 + 1 + 1 by omega, show i * 3 + 1 + 1 + 1 + 2 = (i * 3 + 2) + 1 + 1 + 1 by omega]
    simpa [argCells] using h
theorem NewArgs.at {n : Nat} {l : List ArgR} {u : Value} {W : World} (h : NewArgs n l u W) (hl : l.length ≤ 3) (hI : ∀ a ∈ l, I64 a.n) : ArgsAt W u l := by
  obtain ⟨-, g, rfl, h1⟩ := h
  refine ⟨_, _, rfl, Nat.le_refl _, by omega, fun i hi => ⟨g, 0, rfl, ?_⟩⟩
  obtain ⟨c1, c2, c3⟩ := argCells_get l i hi
  have hc : ∀ j v, (argCells l)[j]? = some v → W.cell? ⟨g, j, none⟩ = some v := fun j v hv => by simp [World.cell?, h1, hv]
  rw [Nat.zero_add]
  exact ⟨hc _ _ c1, hc _ _ c2, hc _ _ c3, hI _ (List.getElem_mem hi)⟩
/-- what open returned -/
def OpenT (n : Nat) (w0 : World) (h : House) (er : Int) (u : Value) (W : World) : Prop := n ≤ W.heap.size ∧ ∃ v, u = .tuple #[v, .int .i64 er] ∧ OpenRG w0 W v h er
theorem OpenT.ext {n : Nat} {w0 : World} {h : House} {er : Int} {u : Value} {a b : World} (hh : OpenT n w0 h er u a) (hx : Ext a b) : OpenT n w0 h er u b := by
  obtain ⟨h0, v, e, h1⟩ := hh
  exact ⟨Nat.le_trans h0 hx.size, v, e, h1.ext hx⟩
theorem OpenT.chs {n : Nat} {w0 : World} {h : House} {er : Int} {u : Value} {a b : World} (hh : OpenT n w0 h er u a) (hx : Chs n a b) : OpenT n w0 h er u b := by
  obtain ⟨h0, v, e, h1⟩ := hh
  obtain ⟨-, k2, k3, -⟩ := hx h0
  exact ⟨k2, v, e, h1.kept fun B es k hB => k3 B _ hB (fun cs fr e2 => by cases e2)⟩
/-- a house's six cells -/
structure H6 where
  d : Int
  ra : Option Addr
  rn : Nat
  rc : Nat
  s : Int
  aa : Option Addr
  an : Nat
  ac : Nat
  ea : Option Addr
  en : Nat
  ec : Nat
  m : Option Nat
def H6.l (p : H6) : List Value := [.int .i64 p.d, .slice p.ra p.rn p.rc, .int .i64 p.s, .slice p.aa p.an p.ac, .slice p.ea p.en p.ec, .map p.m]
def H6.v (p : H6) : Value := .agg #[.int .i64 p.d, .slice p.ra p.rn p.rc, .int .i64 p.s, .slice p.aa p.an p.ac, .slice p.ea p.en p.ec, .map p.m]
theorem OpenT.ex {n : Nat} {w0 : World} {h : House} {er : Int} {u : Value} {a : World} (hh : OpenT n w0 h er u a) : ∃ p : H6, u = .tuple #[p.v, .int .i64 er] ∧ OpenRG w0 a p.v h er := by
  obtain ⟨-, v, e, h1⟩ := hh
  obtain ⟨d, ra, rn, rc, s, aa, an, ac, ea, en, ec, m, e2⟩ := h1.1
  refine ⟨⟨d, ra, rn, rc, s, aa, an, ac, ea, en, ec, m⟩, ?_, ?_⟩
  · rw [e, e2]; rfl
  · rw [e2] at h1; exact h1
noncomputable def OpenT.p {n : Nat} {w0 : World} {h : House} {er : Int} {u : Value} {a : World} (hh : OpenT n w0 h er u a) : H6 := Classical.choose hh.ex
theorem OpenT.eq {n : Nat} {w0 : World} {h : House} {er : Int} {u : Value} {a : World} (hh : OpenT n w0 h er u a) : u = .tuple #[.agg #[.int .i64 hh.p.d, .slice hh.p.ra hh.p.rn hh.p.rc, .int .i64 hh.p.s, .slice hh.p.aa hh.p.an hh.p.ac, .slice hh.p.ea hh.p.en hh.p.ec, .map hh.p.m], .int .i64 er] := (Classical.choose_spec hh.ex).1
theorem OpenT.g {n : Nat} {w0 : World} {h : House} {er : Int} {u : Value} {a : World} (hh : OpenT n w0 h er u a) : OpenRG w0 a hh.p.v h er := (Classical.choose_spec hh.ex).2
/-- a new block for a house -/
def NewH (n : Nat) (u : Value) (W : World) : Prop := n ≤ W.heap.size ∧ ∃ b cs, u = .pointer (some ⟨b, 0, none⟩) ∧ n ≤ b ∧ W.heap[b]? = some (Obj.cells cs 85 (0, 0)) ∧ cs.size = 6
theorem NewH.ext {n : Nat} {u : Value} {a b : World} (hh : NewH n u a) (hx : Ext a b) : NewH n u b := by
  obtain ⟨h0, g, cs, e, h1, h2, h3⟩ := hh
  exact ⟨Nat.le_trans h0 hx.size, g, cs, e, h1, (hx.below.block g (Array.getElem?_eq_some_iff.1 h2).1).trans h2, h3⟩
theorem NewH.chs {n : Nat} {u : Value} {a b : World} (hh : NewH n u a) (hx : Chs n a b) : NewH n u b := by
  obtain ⟨h0, g, cs, e, h1, h2, h3⟩ := hh
  obtain ⟨-, k2, -, k4⟩ := hx h0
  obtain ⟨cs', e1, e2⟩ := k4 g cs _ h2
  exact ⟨k2, g, cs', e, h1, e2, e1.trans h3⟩
theorem cells6 {W : World} {b : Nat} {cs : Array Value} {t : TypeId} (h : W.heap[b]? = some (Obj.cells cs t (0, 0))) (h6 : cs.size = 6) : (∃ a0 a1 a2 a3 a4 a5, BoxIs W b [a0, a1, a2, a3, a4, a5]) ∧ (∀ o, W.frozen? ⟨b, o, none⟩ = false) := by
  refine ⟨⟨cs[0], cs[1], cs[2], cs[3], cs[4], cs[5], fun j v hj => ?_⟩, fun o => by simp [World.frozen?, h]⟩
  have hc : ∀ j v, cs[j]? = some v → W.cell? ⟨b, j, none⟩ = some v := fun j v hv => by simp [World.cell?, h, hv]
  refine hc j v ?_
  match j, hj with
  | 0, hj => rw [Array.getElem?_eq_getElem (by omega)]; simpa using hj
  | 1, hj => rw [Array.getElem?_eq_getElem (by omega)]; simpa using hj
  | 2, hj => rw [Array.getElem?_eq_getElem (by omega)]; simpa using hj
  | 3, hj => rw [Array.getElem?_eq_getElem (by omega)]; simpa using hj
  | 4, hj => rw [Array.getElem?_eq_getElem (by omega)]; simpa using hj
  | 5, hj => rw [Array.getElem?_eq_getElem (by omega)]; simpa using hj
theorem NewH.ex {n : Nat} {u : Value} {a : World} (hh : NewH n u a) : ∃ (b : Nat) (cs : Array Value), u = .pointer (some ⟨b, 0, none⟩) ∧ n ≤ b ∧ a.heap[b]? = some (Obj.cells cs 85 (0, 0)) ∧ cs.size = 6 := hh.2
noncomputable def NewH.b {n : Nat} {u : Value} {a : World} (hh : NewH n u a) : Nat := Classical.choose hh.ex
noncomputable def NewH.cs {n : Nat} {u : Value} {a : World} (hh : NewH n u a) : Array Value := Classical.choose (Classical.choose_spec hh.ex)
theorem NewH.ptr {n : Nat} {u : Value} {a : World} (hh : NewH n u a) : u = .pointer (some ⟨hh.b, 0, none⟩) := (Classical.choose_spec (Classical.choose_spec hh.ex)).1
theorem NewH.le {n : Nat} {u : Value} {a : World} (hh : NewH n u a) : n ≤ hh.b := (Classical.choose_spec (Classical.choose_spec hh.ex)).2.1
theorem NewH.heap {n : Nat} {u : Value} {a : World} (hh : NewH n u a) : a.heap[hh.b]? = some (Obj.cells hh.cs 85 (0, 0)) := (Classical.choose_spec (Classical.choose_spec hh.ex)).2.2.1
theorem NewH.six {n : Nat} {u : Value} {a : World} (hh : NewH n u a) : hh.cs.size = 6 := (Classical.choose_spec (Classical.choose_spec hh.ex)).2.2.2
theorem NewH.c {n : Nat} {u : Value} {a : World} (hh : NewH n u a) (i : Nat) (hi : i < 6) : a.cell? ⟨hh.b, i, none⟩ = some (hh.cs.getD i undef) := by
  have h1 := hh.heap
  have h2 := hh.six
  simp [World.cell?, h1, Array.getD_eq_getD_getElem?, h2, hi]
theorem NewH.free {n : Nat} {u : Value} {a : World} (hh : NewH n u a) (o : Nat) : a.frozen? ⟨hh.b, o, none⟩ = false := by simp [World.frozen?, hh.heap]
/-- .. with the house in it -/
def StoredH (n : Nat) (er : Int) (l : List Value) (W : World) : Prop := ∃ (b : Nat) (p : H6), l = [.pointer (some ⟨b, 0, none⟩), .tuple #[p.v, .int .i64 er]] ∧ n ≤ b ∧ BoxIs W b p.l
theorem StoredH.ext {n : Nat} {er : Int} {l : List Value} {a b : World} (hh : StoredH n er l a) (hx : Ext a b) : StoredH n er l b := by
  obtain ⟨g, p, e, h1, h2⟩ := hh
  exact ⟨g, p, e, h1, h2.ext hx⟩
theorem box_of_cells {W : World} {b : Nat} {cs : Array Value} (h : W.heap[b]? = some (Obj.cells cs 85 (0, 0))) (h6 : cs.size = 6) (x y z u v t : Value) : BoxIs ((((((W.setCell ⟨b, 0, none⟩ x).setCell ⟨b, 1, none⟩ y).setCell ⟨b, 2, none⟩ z).setCell ⟨b, 3, none⟩ u).setCell ⟨b, 4, none⟩ v).setCell ⟨b, 5, none⟩ t) b [x, y, z, u, v, t] := by
  obtain ⟨⟨a0, a1, a2, a3, a4, a5, hb⟩, -⟩ := cells6 h h6
  exact set6_box hb
theorem so_ex {n : Nat} {w0 W : World} {h : House} {er : Int} {u10 u6 : Value} (h11 : StoredH n er [u10, u6] W) (h6 : OpenT n w0 h er u6 W) : ∃ q : Nat × H6, u10 = .pointer (some ⟨q.1, 0, none⟩) ∧ u6 = .tuple #[q.2.v, .int .i64 er] ∧ n ≤ q.1 ∧ BoxIs W q.1 q.2.l ∧ OpenRG w0 W q.2.v h er := by
  obtain ⟨b, p, e, h1, h2⟩ := h11
  obtain ⟨e1, e2⟩ := List.cons.inj e
  obtain ⟨e3, -⟩ := List.cons.inj e2
  have h7 := h6.g
  have h8 := e3.symm.trans h6.eq
  have h9 : p.v = h6.p.v := by
    have := (Value.tuple.inj h8)
    simp only [Array.mk.injEq, List.cons.injEq, and_true] at this
    exact this
  exact ⟨(b, p), e1, e3, h1, h2, by rw [h9]; exact h7⟩
noncomputable def soQ {n : Nat} {w0 W : World} {h : House} {er : Int} {u10 u6 : Value} (h11 : StoredH n er [u10, u6] W) (h6 : OpenT n w0 h er u6 W) : Nat × H6 := Classical.choose (so_ex h11 h6)
theorem soQ_is {n : Nat} {w0 W : World} {h : House} {er : Int} {u10 u6 : Value} (h11 : StoredH n er [u10, u6] W) (h6 : OpenT n w0 h er u6 W) : u10 = .pointer (some ⟨(soQ h11 h6).1, 0, none⟩) ∧ u6 = .tuple #[(soQ h11 h6).2.v, .int .i64 er] ∧ n ≤ (soQ h11 h6).1 ∧ BoxIs W (soQ h11 h6).1 (soQ h11 h6).2.l ∧ OpenRG w0 W (soQ h11 h6).2.v h er := Classical.choose_spec (so_ex h11 h6)
end Go.Proofs.Ytdadffmagfknoaa

namespace Go.Proofs.Ytdadffmagfknoaa
set_option linter.unusedSimpArgs false
set_option linter.unusedVariables false
open Go.RowKit
set_option linter.unusedVariables false
set_option maxRecDepth 100000
theorem openR_ok {h : House} {l : List ArgR} (e : openR h l = 0) : ValidH h ∧ ∀ a ∈ l, a.e ≠ 0 → 0 ≤ a.n ∧ a.n ≤ a.most := by
  unfold openR at e
  by_cases h0 : raErr h = 0
  · rw [if_neg (by simpa using h0)] at e
    refine ⟨validH_of h0, fun a ha hne => ?_⟩
    obtain ⟨p, hp⟩ := noneFrom argE _ _ e a ha
    unfold argE argErrM at hp
    split at hp
    · exact absurd hp hne
    · rename_i hi; exact not_inM hi
  · rw [if_pos h0] at e; exact absurd e h0
/-- a number over all truths, behind an error -/
def numErr (h : House) (l : List ArgR) (f : List Int → Int) : Int := if openR h l ≠ 0 then openR h l else (numM f (truL h (outB 0))).2
def numSpan (h : House) (l : List ArgR) (f : List Int → Int) : Int × Int := if openR h l ≠ 0 then (0, 0) else (numM f (truL h (outB 0))).1
def daysM (h : House) : Int := IntKind.i64.wrap (h.days - 1)
set_option maxHeartbeats 4000000 in
theorem ratePub_any (hv : Value) (H : House) (d : Int) (hd : I64 d) (w : World) (hh : HouseAt w hv H) :
    Calls Try.prog 21 #[hv, .int .i64 d] w fun e w' => e = .returned (.tuple #[spanV (numSpan H [⟨d, daysM H, 4⟩] (fun r => r.getD d.toNat 0)).1 (numSpan H [⟨d, daysM H, 4⟩] (fun r => r.getD d.toNat 0)).2, .int .i64 (numErr H [⟨d, daysM H, 4⟩] (fun r => r.getD d.toNat 0))]) ∧ Ext w w' := by
  have hdm : IntKind.i64.wrap (H.days - 1) = daysM H := rfl
  have hne : numErr H [⟨d, daysM H, 4⟩] (fun r => r.getD d.toNat 0) = if openR H [⟨d, daysM H, 4⟩] ≠ 0 then openR H [⟨d, daysM H, 4⟩] else (numM (fun r => r.getD d.toNat 0) (truL H (outB 0))).2 := rfl
  have hns : numSpan H [⟨d, daysM H, 4⟩] (fun r => r.getD d.toNat 0) = if openR H [⟨d, daysM H, 4⟩] ≠ 0 then (0, 0) else (numM (fun r => r.getD d.toNat 0) (truL H (outB 0))).1 := rfl
  generalize numErr H [⟨d, daysM H, 4⟩] (fun r => r.getD d.toNat 0) = ne at *
  generalize numSpan H [⟨d, daysM H, 4⟩] (fun r => r.getD d.toNat 0) = ns at *
  obtain ⟨nm, hnm⟩ : ∃ nm, numM (fun r => r.getD d.toNat 0) (truL H (outB 0)) = nm := ⟨_, rfl⟩
  rw [hnm] at hne hns
  have HNM := Lib.hid hnm
  clear hnm
  generalize daysM H = dm at *
  have hop := fun w' hx av ha => openR_any hv av H [⟨d, dm, 4⟩] w w' hh hx ha
  have hok : openR H [⟨d, dm, 4⟩] = 0 → ValidH H ∧ 0 ≤ d ∧ d ≤ dm := fun e => by
    obtain ⟨h1, h2⟩ := openR_ok e
    exact ⟨h1, h2 _ List.mem_cons_self (by show (4 : Int) ≠ 0; decide)⟩
  generalize openR H [⟨d, dm, 4⟩] = er at *
  have HNE := Lib.hid hne
  have HNS := Lib.hid hns
  have HOK := Lib.hid hok
  have HDM := Lib.hid hdm
  clear hne hns hok hdm
  obtain ⟨ra, rc, aa, ac, ea, ec, rfl, hdi, hsi, -, -, -⟩ := hh
  obtain ⟨W, hW⟩ : ∃ W, W = (w.alloc (.cells #[.int .i64 H.days, .slice ra H.rates.length rc, .int .i64 H.step, .slice aa H.agents.length ac, .slice ea H.entries.length ec] 26)).alloc (.cells #[.int .i64 0, .int .i64 0] 35) := ⟨_, rfl⟩
  have xW : Ext w W := by rw [hW]; exact (ext_alloc _ _).alloc _
  have q0 : BoxIs W w.heap.size [.int .i64 H.days, .slice ra H.rates.length rc, .int .i64 H.step, .slice aa H.agents.length ac, .slice ea H.entries.length ec] := fun j v hj => by
    rw [hW]
    match j, hj with
    | 0, hj => simp at hj; subst hj; simp [go_sem]
    | 1, hj => simp at hj; subst hj; simp [go_sem]
    | 2, hj => simp at hj; subst hj; simp [go_sem]
    | 3, hj => simp at hj; subst hj; simp [go_sem]
    | 4, hj => simp at hj; subst hj; simp [go_sem]
  have r0 : W.cell? ⟨w.heap.size + 1, 0, none⟩ = some (.int .i64 0) := by rw [hW]; simp [go_sem]
  have r1 : W.cell? ⟨w.heap.size + 1, 1, none⟩ = some (.int .i64 0) := by rw [hW]; simp [go_sem]
  have rf : ∀ o, W.frozen? ⟨w.heap.size + 1, o, none⟩ = false := fun o => by rw [hW]; simp [go_sem]
  have i0 := q0 0 _ rfl
  have i1 := q0 1 _ rfl
  have i2 := q0 2 _ rfl
  have i3 := q0 3 _ rfl
  have i4 := q0 4 _ rfl
  have HW := Lib.hid hW
  clear hW q0
  go_enter Try.func21, Try.ntmps21
  go_wp2_with fail
  rw [← HW.out]
  apply Facts.Peel.wp_regionL (two_chs W.heap.size) 12 11 [.val (.agg #[.int .i64 H.days, .slice ra H.rates.length rc, .int .i64 H.step, .slice aa H.agents.length ac, .slice ea H.entries.length ec]), .val (.int .i64 d), .val _, .val (.int .i64 H.days), .val (argV ⟨d, dm, 4⟩), .fact (NewArgs W.heap.size [⟨d, dm, 4⟩]), .fact (OpenT W.heap.size w H er), .on [6] (fun l u _ => l = [u]), .on [6] (fun l u _ => l = [.tuple #[u, .int .i64 er]]), .val (.int .i64 er), .fact (NewH W.heap.size), .on [10, 6] (fun l _ W' => StoredH W.heap.size er l W')] (by kernel_rfl) (by kernel_rfl) (by kernel_rfl) (by kernel_rfl) (by kernel_rfl) (by kernel_rfl) ?keep ?main
  case keep => exact ⟨fun u a c hx h => h.ext hx, fun _ _ u a c hx h => h.chs hx, fun u a c hx h => h.ext hx, fun _ _ u a c hx h => h.chs hx, fun _ _ _ _ _ h => h, fun _ _ _ _ _ _ _ h => h, fun _ _ _ _ _ h => h, fun _ _ _ _ _ _ _ h => h, fun u a c hx h => h.ext hx, fun _ _ u a c hx h => h.chs hx, fun l u a c hx h => h.ext hx, fun h => absurd rfl h, trivial⟩
  case main =>
    simp only [List.take_succ_cons, List.take_zero, List.getD_cons_succ, List.getD_cons_zero]
    iterate 4 (refine ⟨fun w1 hx hh => ?_, ?_⟩; focus (clear hh; (have hx2 : Ext W w1 := (hx (Nat.le_refl _)).1; have f0 := hx2.cell i0; have f1 := hx2.cell i1; have f2 := hx2.cell i2; have f3 := hx2.cell i3; have f4 := hx2.cell i4); go_simp; first | exact ⟨Ext.refl _, rfl⟩ | exact Ext.refl _))
    refine ⟨fun w1 hx hh => ?_, ?_⟩
    · clear hh
      go_simp
      refine (indexR_any d H.days w1).mono ?_
      rintro e w' ⟨rfl, hx9⟩
      rw [HDM.out]
      exact ⟨_, rfl, hx9, rfl⟩
    refine ⟨fun w1 hx hh => ?_, ?_⟩
    · clear hh
      unfold argV
      have hn := (hx (Nat.le_refl _)).2.1
      go_simp
      exact ⟨ext_alloc _ _, Nat.le_trans hn (by simp), w1.heap.size, rfl, heap_alloc_new w1 _⟩
    intro u5
    refine ⟨fun w1 hx hh => ?_, ?_⟩
    · have h5 := hh 5 _ List.mem_cons_self (by kernel_rfl)
      have hx2 : Ext W w1 := (hx (Nat.le_refl _)).1
      have hA := NewArgs.at h5 (by simp) (by simpa using hd)
      have hz := (hx (Nat.le_refl _)).2.1
      clear hh
      go_simp
      refine (hop w1 (xW.trans hx2) u5 hA).mono ?_
      rintro e w' ⟨v, rfl, hG, hx9⟩
      exact ⟨_, rfl, hx9, Nat.le_trans hz hx9.size, v, rfl, hG⟩
    intro u6
    refine ⟨fun w1 hx hh => ?_, ?_⟩
    · clear hh
      go_simp
      first | exact ⟨Ext.refl _, rfl⟩ | exact Ext.refl _
    intro u7
    refine ⟨fun w1 hx hh => ?_, ?_⟩
    · have h7 := hh 7 _ List.mem_cons_self (by kernel_rfl)
      have h6 : OpenT W.heap.size w H er u6 w1 := hh 6 _ (List.mem_cons_of_mem _ List.mem_cons_self) (by kernel_rfl)
      have e7 : u6 = u7 := (List.cons.inj h7).1
      have e6 := OpenT.eq h6
      generalize OpenT.p h6 = p at *
      clear hh h7
      subst e7
      subst e6
      go_simp
      exact ⟨Ext.refl _, rfl⟩
    intro u8
    refine ⟨fun w1 hx hh => ?_, ?_⟩
    · have h7 := hh 7 _ (List.mem_cons_of_mem _ List.mem_cons_self) (by kernel_rfl)
      have h6 : OpenT W.heap.size w H er u6 w1 := hh 6 _ (List.mem_cons_of_mem _ (List.mem_cons_of_mem _ List.mem_cons_self)) (by kernel_rfl)
      have e7 : u6 = u7 := (List.cons.inj h7).1
      have e6 := OpenT.eq h6
      generalize OpenT.p h6 = p at *
      clear hh h7
      subst e7
      subst e6
      go_simp
      first | exact ⟨Ext.refl _, rfl⟩ | exact Ext.refl _
    refine ⟨fun w1 hx hh => ?_, ?_⟩
    · clear hh
      have hz := (hx (Nat.le_refl _)).2.1
      go_simp
      exact ⟨ext_alloc _ _, Nat.le_trans hz (by simp), w1.heap.size, _, rfl, hz, heap_alloc_new w1 _, rfl⟩
    intro u10
    refine ⟨fun w1 hx hh => ?_, ?_⟩
    · have h10 : NewH W.heap.size u10 w1 := hh 10 _ List.mem_cons_self (by kernel_rfl)
      have h8 := hh 8 _ (List.mem_cons_of_mem _ List.mem_cons_self) (by kernel_rfl)
      have h6 : OpenT W.heap.size w H er u6 w1 := hh 6 _ (List.mem_cons_of_mem _ (List.mem_cons_of_mem _ (List.mem_cons_of_mem _ List.mem_cons_self))) (by kernel_rfl)
      have e8 : u6 = .tuple #[u8, .int .i64 er] := (List.cons.inj h8).1
      have e6 := OpenT.eq h6
      have e9 : u8 = .agg #[.int .i64 (OpenT.p h6).d, .slice (OpenT.p h6).ra (OpenT.p h6).rn (OpenT.p h6).rc, .int .i64 (OpenT.p h6).s, .slice (OpenT.p h6).aa (OpenT.p h6).an (OpenT.p h6).ac, .slice (OpenT.p h6).ea (OpenT.p h6).en (OpenT.p h6).ec, .map (OpenT.p h6).m] := by
        rw [e6] at e8
        simp only [Value.tuple.injEq, Array.mk.injEq, List.cons.injEq, and_true] at e8
        exact e8.symm
      have e10 := NewH.ptr h10
      have hb := NewH.le h10
      have hcs := NewH.heap h10
      have h66 := NewH.six h10
      have c0 := NewH.c h10 0 (by omega)
      have c1 := NewH.c h10 1 (by omega)
      have c2 := NewH.c h10 2 (by omega)
      have c3 := NewH.c h10 3 (by omega)
      have c4 := NewH.c h10 4 (by omega)
      have c5 := NewH.c h10 5 (by omega)
      have hfz := NewH.free h10
      generalize NewH.b h10 = b at *
      generalize NewH.cs h10 = cs at *
      generalize OpenT.p h6 = p at *
      have hC := chs_set6 hb hcs (.int .i64 p.d) (.slice p.ra p.rn p.rc) (.int .i64 p.s) (.slice p.aa p.an p.ac) (.slice p.ea p.en p.ec) (.map p.m)
      have hB := box_of_cells hcs h66 (.int .i64 p.d) (.slice p.ra p.rn p.rc) (.int .i64 p.s) (.slice p.aa p.an p.ac) (.slice p.ea p.en p.ec) (.map p.m)
      have HC := Lib.hid hC
      have HB := Lib.hid hB
      clear hh hC hB h10 h8 h6 hcs e8
      subst e9
      subst e6
      subst e10
      go_simp
      exact ⟨HC.out, b, p, rfl, hb, HB.out⟩
    intro u11
    intro w1 hx hh
    have h11 : StoredH W.heap.size er [u10, u6] w1 := hh 11 _ List.mem_cons_self
    have h8 := hh 8 _ (List.mem_cons_of_mem _ (List.mem_cons_of_mem _ List.mem_cons_self))
    have h7 := hh 7 _ (List.mem_cons_of_mem _ (List.mem_cons_of_mem _ (List.mem_cons_of_mem _ List.mem_cons_self)))
    have h6 : OpenT W.heap.size w H er u6 w1 := hh 6 _ (List.mem_cons_of_mem _ (List.mem_cons_of_mem _ (List.mem_cons_of_mem _ (List.mem_cons_of_mem _ List.mem_cons_self))))
    have e7 : u6 = u7 := (List.cons.inj h7).1
    have e8 : u6 = .tuple #[u8, .int .i64 er] := (List.cons.inj h8).1
    have hQ := soQ_is h11 h6
    generalize soQ h11 h6 = q at *
    have e10 := hQ.1
    have e6 := hQ.2.1
    have hxW : Ext W w1 := (hx (Nat.le_refl _)).1
    have hb := hQ.2.2.1
    have hbox := hQ.2.2.2.1
    have hG := hQ.2.2.2.2
    have e9 : u8 = q.2.v := by
      rw [e6] at e8
      have := Value.tuple.inj e8
      simp only [Array.mk.injEq, List.cons.injEq, and_true] at this
      exact this.symm
    clear hh h11 h8 h7 h6 hQ e8 hx
    subst e7
    subst e9
    subst e6
    subst e10
    have x1 := xW.trans hxW
    have zW : w.heap.size + 1 < W.heap.size := cell_lt r0
    replace rf : ∀ o, w1.frozen? ⟨w.heap.size + 1, o, none⟩ = false := fun o => by rw [hxW.frozen zW]; exact rf o
    replace r0 := hxW.cell r0
    replace r1 := hxW.cell r1
    have zr : w.heap.size + 1 < w1.heap.size := cell_lt r0
    have HG := Lib.hid hG
    have HB := Lib.hid hbox
    clear hG hbox i0 i1 i2 i3 i4
    refine ⟨rfl, ?_⟩
    go_simp
    have j0 := HB.out 0 _ rfl
    have j1 := HB.out 1 _ rfl
    have j2 := HB.out 2 _ rfl
    have j3 := HB.out 3 _ rfl
    have j4 := HB.out 4 _ rfl
    have j5 := HB.out 5 _ rfl
    have zb : q.1 < w1.heap.size := cell_lt j0
    by_cases h0 : er = 0
    rotate_left
    · have k0 : (er != 0) = true := by simpa using h0
      have hns := HNS.out
      have hne := HNE.out
      rw [if_pos h0] at hns hne
      subst hns
      subst hne
      have s0 := set_other (set_cell r0 (.int .i64 0)) (p := ⟨w.heap.size + 1, 1, none⟩) (.inr (by simp)) (.int .i64 0)
      have s1 := set_cell (set_other r1 (p := ⟨w.heap.size + 1, 0, none⟩) (.inr (by simp)) (.int .i64 0)) (.int .i64 0)
      have xS : Ext w ((w1.setCell ⟨w.heap.size + 1, 0, none⟩ (.int .i64 0)).setCell ⟨w.heap.size + 1, 1, none⟩ (.int .i64 0)) := (x1.setCell (by simp) _).setCell (by simp) _
      have HS := Lib.hid xS
      clear xS x1 h0 hop HNS HNE
      go_wp2
      refine bodyPost_ret (v := .tuple #[.agg #[.int .i64 0, .int .i64 0], .int .i64 ne]) (by simp [results, Try.results21, go_sem, s0, s1]) rfl ⟨rfl, HS.out⟩
    subst h0
    have hL := HG.out.look x1 rfl
    obtain ⟨hV, hd0, hd1⟩ := HOK.out rfl
    have hdy := hV.days
    have hdm := HDM.out
    rw [IntWalk.i64_in _ (by omega)] at hdm
    have hdl : d.toNat < H.days.toNat := by omega
    have hrt := fun w hl => rate_any q.2.v H hV d.toNat hdl w hl
    rw [show ((d.toNat : Nat) : Int) = d by omega] at hrt
    simp only [HNM.out] at hrt
    have hns := HNS.out
    have hne := HNE.out
    rw [if_neg (by simp)] at hns hne
    obtain ⟨⟨al, ah⟩, ae⟩ := nm
    subst hns
    subst hne
    have HL := Lib.hid hL
    clear hL hop HNS HNE HOK HDM hdm HNM
    unfold H6.v at hrt HL
    unfold spanV at hrt
    go_wp2_with fail
    refine (hrt _ HL.out).mono ?_
    rintro e w2 ⟨rfl, hx2⟩
    have x2 := x1.trans hx2
    have q0 := hx2.cell r0
    have q1 := hx2.cell r1
    have zq : w.heap.size + 1 < w2.heap.size := cell_lt q0
    have qf : ∀ o, w2.frozen? ⟨w.heap.size + 1, o, none⟩ = false := fun o => (hx2.frozen (p := ⟨w.heap.size + 1, o, none⟩) zr).trans (rf o)
    have s0 := set_other (set_cell q0 (.int .i64 al)) (p := ⟨w.heap.size + 1, 1, none⟩) (.inr (by simp)) (.int .i64 ah)
    have s1 := set_cell (set_other q1 (p := ⟨w.heap.size + 1, 0, none⟩) (.inr (by simp)) (.int .i64 al)) (.int .i64 ah)
    have xS : Ext w ((w2.setCell ⟨w.heap.size + 1, 0, none⟩ (.int .i64 al)).setCell ⟨w.heap.size + 1, 1, none⟩ (.int .i64 ah)) := (x2.setCell (by simp) _).setCell (by simp) _
    have HS := Lib.hid xS
    clear hx2 hrt xS x2 x1 r0 r1 rf
    go_wp2
    refine bodyPost_ret (v := .tuple #[.agg #[.int .i64 al, .int .i64 ah], .int .i64 ne]) (by simp [results, Try.results21, go_sem, s0, s1]) rfl ⟨rfl, HS.out⟩
end Go.Proofs.Ytdadffmagfknoaa

namespace Go.Proofs.Ytdadffmagfknoaa
set_option linter.unusedSimpArgs false
set_option linter.unusedVariables false
open Go.RowKit
set_option linter.unusedVariables false
set_option maxRecDepth 100000
theorem H6.v_l (p : H6) : p.v = .agg p.l.toArray := rfl
/-- a house that is looked at, in a box -/
theorem houseBox_of {W : World} {b : Nat} {p : H6} {h : House} (hl : LookAt W p.v h) (hb : BoxIs W b p.l) : HouseBox W b h := by
  have hl0 := hl
  obtain ⟨ra, rc, aa, ac, ea, ec, B, M, e, -⟩ := hl
  have e2 : p.l = [.int .i64 h.days, .slice ra h.rates.length rc, .int .i64 h.step, .slice aa h.agents.length ac, .slice ea h.entries.length ec, .map (some B)] := by
    rw [H6.v_l] at e
    have := Value.agg.inj (e.trans (show houseV h ra aa ea rc ac ec (.map (some B)) = .agg [.int .i64 h.days, .slice ra h.rates.length rc, .int .i64 h.step, .slice aa h.agents.length ac, .slice ea h.entries.length ec, .map (some B)].toArray from rfl))
    simpa using congrArg Array.toList this
  rw [e2] at hb
  rw [e] at hl0
  exact ⟨ra, aa, ea, rc, ac, ec, B, hb, hl0⟩
theorem rateIn_of {h : House} (hV : ValidH h) {s : Nat} {r : List Int} (hr : r ∈ truL h (outB s)) {i : Nat} (hi : i < h.entries.length) : RateIn h i r := by
  have he := hV.entry _ (entAt_mem hi)
  exact ratesL_in hV (truL_sub hV hr) (j := (entAt h i).day.toNat) (by omega)
def agtsM (h : House) : Int := IntKind.i64.wrap ((h.agents.length : Int) - 1)
set_option maxHeartbeats 4000000 in
theorem paidPub_any (hv : Value) (H : House) (d : Int) (hd : I64 d) (w : World) (hh : HouseAt w hv H) :
    Calls Try.prog 26 #[hv, .int .i64 d] w fun e w' => e = .returned (.tuple #[spanV (numSpan H [⟨d, agtsM H, 4⟩] (fun r => paidM H d r)).1 (numSpan H [⟨d, agtsM H, 4⟩] (fun r => paidM H d r)).2, .int .i64 (numErr H [⟨d, agtsM H, 4⟩] (fun r => paidM H d r))]) ∧ Ext w w' := by
  have hdm : IntKind.i64.wrap ((H.agents.length : Int) - 1) = agtsM H := rfl
  have hne : numErr H [⟨d, agtsM H, 4⟩] (fun r => paidM H d r) = if openR H [⟨d, agtsM H, 4⟩] ≠ 0 then openR H [⟨d, agtsM H, 4⟩] else (numM (fun r => paidM H d r) (truL H (outB 0))).2 := rfl
  have hns : numSpan H [⟨d, agtsM H, 4⟩] (fun r => paidM H d r) = if openR H [⟨d, agtsM H, 4⟩] ≠ 0 then (0, 0) else (numM (fun r => paidM H d r) (truL H (outB 0))).1 := rfl
  generalize numErr H [⟨d, agtsM H, 4⟩] (fun r => paidM H d r) = ne at *
  generalize numSpan H [⟨d, agtsM H, 4⟩] (fun r => paidM H d r) = ns at *
  obtain ⟨nm, hnm⟩ : ∃ nm, numM (fun r => paidM H d r) (truL H (outB 0)) = nm := ⟨_, rfl⟩
  rw [hnm] at hne hns
  have HNM := Lib.hid hnm
  clear hnm
  generalize agtsM H = dm at *
  have hop := fun w' hx av ha => openR_any hv av H [⟨d, dm, 4⟩] w w' hh hx ha
  have hok : openR H [⟨d, dm, 4⟩] = 0 → ValidH H ∧ 0 ≤ d ∧ d ≤ dm := fun e => by
    obtain ⟨h1, h2⟩ := openR_ok e
    exact ⟨h1, h2 _ List.mem_cons_self (by show (4 : Int) ≠ 0; decide)⟩
  generalize openR H [⟨d, dm, 4⟩] = er at *
  have HNE := Lib.hid hne
  have HNS := Lib.hid hns
  have HOK := Lib.hid hok
  have HDM := Lib.hid hdm
  clear hne hns hok hdm
  obtain ⟨ra, rc, aa, ac, ea, ec, rfl, hdi, hsi, -, -, -⟩ := hh
  obtain ⟨W, hW⟩ : ∃ W, W = ((w.alloc (.cells #[.int .i64 H.days, .slice ra H.rates.length rc, .int .i64 H.step, .slice aa H.agents.length ac, .slice ea H.entries.length ec] 26)).alloc (.cells #[.int .i64 d] 3)).alloc (.cells #[.int .i64 0, .int .i64 0] 35) := ⟨_, rfl⟩
  have xW : Ext w W := by rw [hW]; exact ((ext_alloc _ _).alloc _).alloc _
  have q0 : BoxIs W w.heap.size [.int .i64 H.days, .slice ra H.rates.length rc, .int .i64 H.step, .slice aa H.agents.length ac, .slice ea H.entries.length ec] := fun j v hj => by
    rw [hW]
    match j, hj with
    | 0, hj => simp at hj; subst hj; simp [go_sem]
    | 1, hj => simp at hj; subst hj; simp [go_sem]
    | 2, hj => simp at hj; subst hj; simp [go_sem]
    | 3, hj => simp at hj; subst hj; simp [go_sem]
    | 4, hj => simp at hj; subst hj; simp [go_sem]
  have cd : W.cell? ⟨w.heap.size + 1, 0, none⟩ = some (.int .i64 d) := by rw [hW]; simp [go_sem]
  have r0 : W.cell? ⟨w.heap.size + 2, 0, none⟩ = some (.int .i64 0) := by rw [hW]; simp [go_sem]
  have r1 : W.cell? ⟨w.heap.size + 2, 1, none⟩ = some (.int .i64 0) := by rw [hW]; simp [go_sem]
  have rf : ∀ o, W.frozen? ⟨w.heap.size + 2, o, none⟩ = false := fun o => by rw [hW]; simp [go_sem]
  have i0 := q0 0 _ rfl
  have i1 := q0 1 _ rfl
  have i2 := q0 2 _ rfl
  have i3 := q0 3 _ rfl
  have i4 := q0 4 _ rfl
  have HW := Lib.hid hW
  clear hW q0
  go_enter Try.func26, Try.ntmps26
  go_wp2_with fail
  rw [← HW.out]
  apply Facts.Peel.wp_regionL (two_chs W.heap.size) 13 12 [.val (.agg #[.int .i64 H.days, .slice ra H.rates.length rc, .int .i64 H.step, .slice aa H.agents.length ac, .slice ea H.entries.length ec]), .val (.int .i64 d), .val _, .val (.slice aa H.agents.length ac), .val (.int .i64 (H.agents.length : Nat)), .val (argV ⟨d, dm, 4⟩), .fact (NewArgs W.heap.size [⟨d, dm, 4⟩]), .fact (OpenT W.heap.size w H er), .on [7] (fun l u _ => l = [u]), .on [7] (fun l u _ => l = [.tuple #[u, .int .i64 er]]), .val (.int .i64 er), .fact (NewH W.heap.size), .on [11, 7] (fun l _ W' => StoredH W.heap.size er l W')] (by kernel_rfl) (by kernel_rfl) (by kernel_rfl) (by kernel_rfl) (by kernel_rfl) (by kernel_rfl) ?keep ?main
  case keep => exact ⟨fun u a c hx h => h.ext hx, fun _ _ u a c hx h => h.chs hx, fun u a c hx h => h.ext hx, fun _ _ u a c hx h => h.chs hx, fun _ _ _ _ _ h => h, fun _ _ _ _ _ _ _ h => h, fun _ _ _ _ _ h => h, fun _ _ _ _ _ _ _ h => h, fun u a c hx h => h.ext hx, fun _ _ u a c hx h => h.chs hx, fun l u a c hx h => h.ext hx, fun h => absurd rfl h, trivial⟩
  case main =>
    simp only [List.take_succ_cons, List.take_zero, List.getD_cons_succ, List.getD_cons_zero]
    iterate 5 (refine ⟨fun w1 hx hh => ?_, ?_⟩; focus (clear hh; (have hx2 : Ext W w1 := (hx (Nat.le_refl _)).1; have f0 := hx2.cell i0; have f1 := hx2.cell i1; have f2 := hx2.cell i2; have f3 := hx2.cell i3; have f4 := hx2.cell i4; have f5 := hx2.cell cd); go_simp; first | exact ⟨Ext.refl _, rfl⟩ | exact Ext.refl _))
    refine ⟨fun w1 hx hh => ?_, ?_⟩
    · clear hh
      go_simp
      refine (indexR_any d (H.agents.length : Nat) w1).mono ?_
      rintro e w' ⟨rfl, hx9⟩
      rw [HDM.out]
      exact ⟨_, rfl, hx9, rfl⟩
    refine ⟨fun w1 hx hh => ?_, ?_⟩
    · clear hh
      unfold argV
      have hn := (hx (Nat.le_refl _)).2.1
      go_simp
      exact ⟨ext_alloc _ _, Nat.le_trans hn (by simp), w1.heap.size, rfl, heap_alloc_new w1 _⟩
    intro u6
    refine ⟨fun w1 hx hh => ?_, ?_⟩
    · have h5 := hh 6 _ List.mem_cons_self (by kernel_rfl)
      have hx2 : Ext W w1 := (hx (Nat.le_refl _)).1
      have hA := NewArgs.at h5 (by simp) (by simpa using hd)
      have hz := (hx (Nat.le_refl _)).2.1
      clear hh
      go_simp
      refine (hop w1 (xW.trans hx2) u6 hA).mono ?_
      rintro e w' ⟨v, rfl, hG, hx9⟩
      exact ⟨_, rfl, hx9, Nat.le_trans hz hx9.size, v, rfl, hG⟩
    intro u7
    refine ⟨fun w1 hx hh => ?_, ?_⟩
    · clear hh
      go_simp
      first | exact ⟨Ext.refl _, rfl⟩ | exact Ext.refl _
    intro u8
    refine ⟨fun w1 hx hh => ?_, ?_⟩
    · have h7 := hh 8 _ List.mem_cons_self (by kernel_rfl)
      have h6 : OpenT W.heap.size w H er u7 w1 := hh 7 _ (List.mem_cons_of_mem _ List.mem_cons_self) (by kernel_rfl)
      have e7 : u7 = u8 := (List.cons.inj h7).1
      have e6 := OpenT.eq h6
      generalize OpenT.p h6 = p at *
      clear hh h7
      subst e7
      subst e6
      go_simp
      exact ⟨Ext.refl _, rfl⟩
    intro u9
    refine ⟨fun w1 hx hh => ?_, ?_⟩
    · have h7 := hh 8 _ (List.mem_cons_of_mem _ List.mem_cons_self) (by kernel_rfl)
      have h6 : OpenT W.heap.size w H er u7 w1 := hh 7 _ (List.mem_cons_of_mem _ (List.mem_cons_of_mem _ List.mem_cons_self)) (by kernel_rfl)
      have e7 : u7 = u8 := (List.cons.inj h7).1
      have e6 := OpenT.eq h6
      generalize OpenT.p h6 = p at *
      clear hh h7
      subst e7
      subst e6
      go_simp
      first | exact ⟨Ext.refl _, rfl⟩ | exact Ext.refl _
    refine ⟨fun w1 hx hh => ?_, ?_⟩
    · clear hh
      have hz := (hx (Nat.le_refl _)).2.1
      go_simp
      exact ⟨ext_alloc _ _, Nat.le_trans hz (by simp), w1.heap.size, _, rfl, hz, heap_alloc_new w1 _, rfl⟩
    intro u11
    refine ⟨fun w1 hx hh => ?_, ?_⟩
    · have h10 : NewH W.heap.size u11 w1 := hh 11 _ List.mem_cons_self (by kernel_rfl)
      have h8 := hh 9 _ (List.mem_cons_of_mem _ List.mem_cons_self) (by kernel_rfl)
      have h6 : OpenT W.heap.size w H er u7 w1 := hh 7 _ (List.mem_cons_of_mem _ (List.mem_cons_of_mem _ (List.mem_cons_of_mem _ List.mem_cons_self))) (by kernel_rfl)
      have e8 : u7 = .tuple #[u9, .int .i64 er] := (List.cons.inj h8).1
      have e6 := OpenT.eq h6
      have e9 : u9 = .agg #[.int .i64 (OpenT.p h6).d, .slice (OpenT.p h6).ra (OpenT.p h6).rn (OpenT.p h6).rc, .int .i64 (OpenT.p h6).s, .slice (OpenT.p h6).aa (OpenT.p h6).an (OpenT.p h6).ac, .slice (OpenT.p h6).ea (OpenT.p h6).en (OpenT.p h6).ec, .map (OpenT.p h6).m] := by
        rw [e6] at e8
        simp only [Value.tuple.injEq, Array.mk.injEq, List.cons.injEq, and_true] at e8
        exact e8.symm
      have e10 := NewH.ptr h10
      have hb := NewH.le h10
      have hcs := NewH.heap h10
      have h66 := NewH.six h10
      have c0 := NewH.c h10 0 (by omega)
      have c1 := NewH.c h10 1 (by omega)
      have c2 := NewH.c h10 2 (by omega)
      have c3 := NewH.c h10 3 (by omega)
      have c4 := NewH.c h10 4 (by omega)
      have c5 := NewH.c h10 5 (by omega)
      have hfz := NewH.free h10
      generalize NewH.b h10 = b at *
      generalize NewH.cs h10 = cs at *
      generalize OpenT.p h6 = p at *
      have hC := chs_set6 hb hcs (.int .i64 p.d) (.slice p.ra p.rn p.rc) (.int .i64 p.s) (.slice p.aa p.an p.ac) (.slice p.ea p.en p.ec) (.map p.m)
      have hB := box_of_cells hcs h66 (.int .i64 p.d) (.slice p.ra p.rn p.rc) (.int .i64 p.s) (.slice p.aa p.an p.ac) (.slice p.ea p.en p.ec) (.map p.m)
      have HC := Lib.hid hC
      have HB := Lib.hid hB
      clear hh hC hB h10 h8 h6 hcs e8
      subst e9
      subst e6
      subst e10
      go_simp
      exact ⟨HC.out, b, p, rfl, hb, HB.out⟩
    intro u12x
    intro w1 hx hh
    have h11 : StoredH W.heap.size er [u11, u7] w1 := hh 12 _ List.mem_cons_self
    have h8 := hh 9 _ (List.mem_cons_of_mem _ (List.mem_cons_of_mem _ List.mem_cons_self))
    have h7 := hh 8 _ (List.mem_cons_of_mem _ (List.mem_cons_of_mem _ (List.mem_cons_of_mem _ List.mem_cons_self)))
    have h6 : OpenT W.heap.size w H er u7 w1 := hh 7 _ (List.mem_cons_of_mem _ (List.mem_cons_of_mem _ (List.mem_cons_of_mem _ (List.mem_cons_of_mem _ List.mem_cons_self))))
    have e7 : u7 = u8 := (List.cons.inj h7).1
    have e8 : u7 = .tuple #[u9, .int .i64 er] := (List.cons.inj h8).1
    have hQ := soQ_is h11 h6
    generalize soQ h11 h6 = q at *
    have e10 := hQ.1
    have e6 := hQ.2.1
    have hxW : Ext W w1 := (hx (Nat.le_refl _)).1
    have hb := hQ.2.2.1
    have hbox := hQ.2.2.2.1
    have hG := hQ.2.2.2.2
    have e9 : u9 = q.2.v := by
      rw [e6] at e8
      have := Value.tuple.inj e8
      simp only [Array.mk.injEq, List.cons.injEq, and_true] at this
      exact this.symm
    clear hh h11 h8 h7 h6 hQ e8 hx
    subst e7
    subst e9
    subst e6
    subst e10
    have x1 := xW.trans hxW
    have zW : w.heap.size + 2 < W.heap.size := cell_lt r0
    replace rf : ∀ o, w1.frozen? ⟨w.heap.size + 2, o, none⟩ = false := fun o => by rw [hxW.frozen zW]; exact rf o
    replace r0 := hxW.cell r0
    replace r1 := hxW.cell r1
    have zr : w.heap.size + 2 < w1.heap.size := cell_lt r0
    have HG := Lib.hid hG
    have HB := Lib.hid hbox
    clear hG hbox i0 i1 i2 i3 i4
    refine ⟨rfl, ?_⟩
    go_simp
    have j0 := HB.out 0 _ rfl
    have j1 := HB.out 1 _ rfl
    have j2 := HB.out 2 _ rfl
    have j3 := HB.out 3 _ rfl
    have j4 := HB.out 4 _ rfl
    have j5 := HB.out 5 _ rfl
    have zb : q.1 < w1.heap.size := cell_lt j0
    by_cases h0 : er = 0
    rotate_left
    · have k0 : (er != 0) = true := by simpa using h0
      have hns := HNS.out
      have hne := HNE.out
      rw [if_pos h0] at hns hne
      subst hns
      subst hne
      have s0 := set_other (set_cell r0 (.int .i64 0)) (p := ⟨w.heap.size + 2, 1, none⟩) (.inr (by simp)) (.int .i64 0)
      have s1 := set_cell (set_other r1 (p := ⟨w.heap.size + 2, 0, none⟩) (.inr (by simp)) (.int .i64 0)) (.int .i64 0)
      have xS : Ext w ((w1.setCell ⟨w.heap.size + 2, 0, none⟩ (.int .i64 0)).setCell ⟨w.heap.size + 2, 1, none⟩ (.int .i64 0)) := (x1.setCell (by simp) _).setCell (by simp) _
      have HS := Lib.hid xS
      clear xS x1 h0 hop HNS HNE
      go_wp2
      refine bodyPost_ret (v := .tuple #[.agg #[.int .i64 0, .int .i64 0], .int .i64 ne]) (by simp [results, Try.results26, go_sem, s0, s1]) rfl ⟨rfl, HS.out⟩
    subst h0
    have hL := HG.out.look x1 rfl
    obtain ⟨hV, hd0, hd1⟩ := HOK.out rfl
    have hdy := hV.agents
    have hdm := HDM.out
    rw [IntWalk.i64_in _ (by omega)] at hdm
    have hns := HNS.out
    have hne := HNE.out
    rw [if_neg (by simp)] at hns hne
    obtain ⟨⟨al, ah⟩, ae⟩ := nm
    subst hns
    subst hne
    have hHB : HouseBox w1 q.1 H := houseBox_of hL HB.out
    have hrin : ∀ r ∈ truL H (outB 0), ∀ i, i < H.entries.length → RateIn H i r := fun r hr i hi => rateIn_of hV hr hi
    have hwc := hxW.cell cd
    have zc := cell_lt hwc
    have HL := Lib.hid hL
    have HHB := Lib.hid hHB
    clear hL hop HNS HNE HOK HDM hdm hHB
    have htr := fun w hl => truths_any q.2.v H hV 0 (by omega) w hl
    unfold H6.v at htr HL
    go_wp2_with fail
    refine (htr _ HL.out).mono ?_
    rintro e w2 ⟨v, rfl, hT, hx2⟩
    obtain ⟨lb, rfl, hsq⟩ := hT.seq hV
    have x2 := x1.trans hx2
    have hb2 := HHB.out.ext hx2
    have hc2 := hx2.cell hwc
    have hnu := number_paid lb (truL H (outB 0)) q.1 (w.heap.size + 1) (fun r => paidM H d r) w2 hsq (fun r hr w' hx => paidOf_any q.1 (w.heap.size + 1) H hV d r (hrin r hr) w' (hb2.ext hx) (hx.cell hc2))
    rw [HNM.out] at hnu
    unfold spanV at hnu
    replace r0 := hx2.cell r0
    replace r1 := hx2.cell r1
    replace rf : ∀ o, w2.frozen? ⟨w.heap.size + 2, o, none⟩ = false := fun o => (hx2.frozen (p := ⟨w.heap.size + 2, o, none⟩) zr).trans (rf o)
    have zr2 : w.heap.size + 2 < w2.heap.size := cell_lt r0
    clear hT hsq htr hb2 hc2 HNM hrin hx2
    go_wp2_with fail
    refine hnu.mono ?_
    rintro e w3 ⟨rfl, hx3⟩
    have x3 := x2.trans hx3
    have q0 := hx3.cell r0
    have q1 := hx3.cell r1
    have zq : w.heap.size + 2 < w3.heap.size := cell_lt q0
    have qf : ∀ o, w3.frozen? ⟨w.heap.size + 2, o, none⟩ = false := fun o => (hx3.frozen (p := ⟨w.heap.size + 2, o, none⟩) zr2).trans (rf o)
    have s0 := set_other (set_cell q0 (.int .i64 al)) (p := ⟨w.heap.size + 2, 1, none⟩) (.inr (by simp)) (.int .i64 ah)
    have s1 := set_cell (set_other q1 (p := ⟨w.heap.size + 2, 0, none⟩) (.inr (by simp)) (.int .i64 al)) (.int .i64 ah)
    have xS : Ext w ((w3.setCell ⟨w.heap.size + 2, 0, none⟩ (.int .i64 al)).setCell ⟨w.heap.size + 2, 1, none⟩ (.int .i64 ah)) := (x3.setCell (by simp) _).setCell (by simp) _
    have HS := Lib.hid xS
    clear hx3 hnu xS x3 x2 x1 r0 r1 rf
    go_wp2
    refine bodyPost_ret (v := .tuple #[.agg #[.int .i64 al, .int .i64 ah], .int .i64 ne]) (by simp [results, Try.results26, go_sem, s0, s1]) rfl ⟨rfl, HS.out⟩
end Go.Proofs.Ytdadffmagfknoaa

namespace Go.Proofs.Ytdadffmagfknoaa
set_option linter.unusedSimpArgs false
set_option linter.unusedVariables false
open Go.RowKit
set_option linter.unusedVariables false
set_option maxRecDepth 100000
def agreeErr (h : House) (l : List ArgR) (i : Nat) : Int := if openR h l ≠ 0 then openR h l else if toldE (entAt h i) = false then 2 else (howM ((truL h (outB (2 ^ i))).countP (fun r => agreesM h (entAt h i) r)) (truL h (outB (2 ^ i))).length).2
def agreeHow (h : House) (l : List ArgR) (i : Nat) : Int := if openR h l ≠ 0 then 0 else if toldE (entAt h i) = false then 0 else (howM ((truL h (outB (2 ^ i))).countP (fun r => agreesM h (entAt h i) r)) (truL h (outB (2 ^ i))).length).1
def entsM (h : House) : Int := IntKind.i64.wrap ((h.entries.length : Int) - 1)
set_option maxHeartbeats 4000000 in
theorem agreePub_any (hv : Value) (H : House) (d : Int) (hd : I64 d) (w : World) (hh : HouseAt w hv H) :
    Calls Try.prog 28 #[hv, .int .i64 d] w fun e w' => e = .returned (.tuple #[.int .i64 (agreeHow H [⟨d, entsM H, 4⟩] d.toNat), .int .i64 (agreeErr H [⟨d, entsM H, 4⟩] d.toNat)]) ∧ Ext w w' := by
  have hdm : IntKind.i64.wrap ((H.entries.length : Int) - 1) = entsM H := rfl
  have hne : agreeErr H [⟨d, entsM H, 4⟩] d.toNat = if openR H [⟨d, entsM H, 4⟩] ≠ 0 then openR H [⟨d, entsM H, 4⟩] else if toldE (entAt H d.toNat) = false then 2 else (howM ((truL H (outB (2 ^ d.toNat))).countP (fun r => agreesM H (entAt H d.toNat) r)) (truL H (outB (2 ^ d.toNat))).length).2 := rfl
  have hns : agreeHow H [⟨d, entsM H, 4⟩] d.toNat = if openR H [⟨d, entsM H, 4⟩] ≠ 0 then 0 else if toldE (entAt H d.toNat) = false then 0 else (howM ((truL H (outB (2 ^ d.toNat))).countP (fun r => agreesM H (entAt H d.toNat) r)) (truL H (outB (2 ^ d.toNat))).length).1 := rfl
  generalize agreeErr H [⟨d, entsM H, 4⟩] d.toNat = ne at *
  generalize agreeHow H [⟨d, entsM H, 4⟩] d.toNat = ns at *
  obtain ⟨nm, hnm⟩ : ∃ nm, howM ((truL H (outB (2 ^ d.toNat))).countP (fun r => agreesM H (entAt H d.toNat) r)) (truL H (outB (2 ^ d.toNat))).length = nm := ⟨_, rfl⟩
  rw [hnm] at hne hns
  have HNM := Lib.hid hnm
  clear hnm
  generalize entsM H = dm at *
  have hop := fun w' hx av ha => openR_any hv av H [⟨d, dm, 4⟩] w w' hh hx ha
  have hok : openR H [⟨d, dm, 4⟩] = 0 → ValidH H ∧ 0 ≤ d ∧ d ≤ dm := fun e => by
    obtain ⟨h1, h2⟩ := openR_ok e
    exact ⟨h1, h2 _ List.mem_cons_self (by show (4 : Int) ≠ 0; decide)⟩
  generalize openR H [⟨d, dm, 4⟩] = er at *
  have HNE := Lib.hid hne
  have HNS := Lib.hid hns
  have HOK := Lib.hid hok
  have HDM := Lib.hid hdm
  clear hne hns hok hdm
  obtain ⟨ra, rc, aa, ac, ea, ec, rfl, hdi, hsi, -, -, -⟩ := hh
  obtain ⟨W, hW⟩ : ∃ W, W = (w.alloc (.cells #[.int .i64 H.days, .slice ra H.rates.length rc, .int .i64 H.step, .slice aa H.agents.length ac, .slice ea H.entries.length ec] 26)).alloc (.cells #[.int .i64 d] 3) := ⟨_, rfl⟩
  have xW : Ext w W := by rw [hW]; exact (ext_alloc _ _).alloc _
  have q0 : BoxIs W w.heap.size [.int .i64 H.days, .slice ra H.rates.length rc, .int .i64 H.step, .slice aa H.agents.length ac, .slice ea H.entries.length ec] := fun j v hj => by
    rw [hW]
    match j, hj with
    | 0, hj => simp at hj; subst hj; simp [go_sem]
    | 1, hj => simp at hj; subst hj; simp [go_sem]
    | 2, hj => simp at hj; subst hj; simp [go_sem]
    | 3, hj => simp at hj; subst hj; simp [go_sem]
    | 4, hj => simp at hj; subst hj; simp [go_sem]
  have cd : W.cell? ⟨w.heap.size + 1, 0, none⟩ = some (.int .i64 d) := by rw [hW]; simp [go_sem]
  have i0 := q0 0 _ rfl
  have i1 := q0 1 _ rfl
  have i2 := q0 2 _ rfl
  have i3 := q0 3 _ rfl
  have i4 := q0 4 _ rfl
  have HW := Lib.hid hW
  clear hW q0
  go_enter Try.func28, Try.ntmps28
  go_wp2_with fail
  rw [← HW.out]
  apply Facts.Peel.wp_regionL (two_chs W.heap.size) 13 12 [.val (.agg #[.int .i64 H.days, .slice ra H.rates.length rc, .int .i64 H.step, .slice aa H.agents.length ac, .slice ea H.entries.length ec]), .val (.int .i64 d), .val _, .val (.slice ea H.entries.length ec), .val (.int .i64 (H.entries.length : Nat)), .val (argV ⟨d, dm, 4⟩), .fact (NewArgs W.heap.size [⟨d, dm, 4⟩]), .fact (OpenT W.heap.size w H er), .on [7] (fun l u _ => l = [u]), .on [7] (fun l u _ => l = [.tuple #[u, .int .i64 er]]), .val (.int .i64 er), .fact (NewH W.heap.size), .on [11, 7] (fun l _ W' => StoredH W.heap.size er l W')] (by kernel_rfl) (by kernel_rfl) (by kernel_rfl) (by kernel_rfl) (by kernel_rfl) (by kernel_rfl) ?keep ?main
  case keep => exact ⟨fun u a c hx h => h.ext hx, fun _ _ u a c hx h => h.chs hx, fun u a c hx h => h.ext hx, fun _ _ u a c hx h => h.chs hx, fun _ _ _ _ _ h => h, fun _ _ _ _ _ _ _ h => h, fun _ _ _ _ _ h => h, fun _ _ _ _ _ _ _ h => h, fun u a c hx h => h.ext hx, fun _ _ u a c hx h => h.chs hx, fun l u a c hx h => h.ext hx, fun h => absurd rfl h, trivial⟩
  case main =>
    simp only [List.take_succ_cons, List.take_zero, List.getD_cons_succ, List.getD_cons_zero]
    iterate 5 (refine ⟨fun w1 hx hh => ?_, ?_⟩; focus (clear hh; (have hx2 : Ext W w1 := (hx (Nat.le_refl _)).1; have f0 := hx2.cell i0; have f1 := hx2.cell i1; have f2 := hx2.cell i2; have f3 := hx2.cell i3; have f4 := hx2.cell i4; have f5 := hx2.cell cd); go_simp; first | exact ⟨Ext.refl _, rfl⟩ | exact Ext.refl _))
    refine ⟨fun w1 hx hh => ?_, ?_⟩
    · clear hh
      go_simp
      refine (indexR_any d (H.entries.length : Nat) w1).mono ?_
      rintro e w' ⟨rfl, hx9⟩
      rw [HDM.out]
      exact ⟨_, rfl, hx9, rfl⟩
    refine ⟨fun w1 hx hh => ?_, ?_⟩
    · clear hh
      unfold argV
      have hn := (hx (Nat.le_refl _)).2.1
      go_simp
      exact ⟨ext_alloc _ _, Nat.le_trans hn (by simp), w1.heap.size, rfl, heap_alloc_new w1 _⟩
    intro u6
    refine ⟨fun w1 hx hh => ?_, ?_⟩
    · have h5 := hh 6 _ List.mem_cons_self (by kernel_rfl)
      have hx2 : Ext W w1 := (hx (Nat.le_refl _)).1
      have hA := NewArgs.at h5 (by simp) (by simpa using hd)
      have hz := (hx (Nat.le_refl _)).2.1
      clear hh
      go_simp
      refine (hop w1 (xW.trans hx2) u6 hA).mono ?_
      rintro e w' ⟨v, rfl, hG, hx9⟩
      exact ⟨_, rfl, hx9, Nat.le_trans hz hx9.size, v, rfl, hG⟩
    intro u7
    refine ⟨fun w1 hx hh => ?_, ?_⟩
    · clear hh
      go_simp
      first | exact ⟨Ext.refl _, rfl⟩ | exact Ext.refl _
    intro u8
    refine ⟨fun w1 hx hh => ?_, ?_⟩
    · have h7 := hh 8 _ List.mem_cons_self (by kernel_rfl)
      have h6 : OpenT W.heap.size w H er u7 w1 := hh 7 _ (List.mem_cons_of_mem _ List.mem_cons_self) (by kernel_rfl)
      have e7 : u7 = u8 := (List.cons.inj h7).1
      have e6 := OpenT.eq h6
      generalize OpenT.p h6 = p at *
      clear hh h7
      subst e7
      subst e6
      go_simp
      exact ⟨Ext.refl _, rfl⟩
    intro u9
    refine ⟨fun w1 hx hh => ?_, ?_⟩
    · have h7 := hh 8 _ (List.mem_cons_of_mem _ List.mem_cons_self) (by kernel_rfl)
      have h6 : OpenT W.heap.size w H er u7 w1 := hh 7 _ (List.mem_cons_of_mem _ (List.mem_cons_of_mem _ List.mem_cons_self)) (by kernel_rfl)
      have e7 : u7 = u8 := (List.cons.inj h7).1
      have e6 := OpenT.eq h6
      generalize OpenT.p h6 = p at *
      clear hh h7
      subst e7
      subst e6
      go_simp
      first | exact ⟨Ext.refl _, rfl⟩ | exact Ext.refl _
    refine ⟨fun w1 hx hh => ?_, ?_⟩
    · clear hh
      have hz := (hx (Nat.le_refl _)).2.1
      go_simp
      exact ⟨ext_alloc _ _, Nat.le_trans hz (by simp), w1.heap.size, _, rfl, hz, heap_alloc_new w1 _, rfl⟩
    intro u11
    refine ⟨fun w1 hx hh => ?_, ?_⟩
    · have h10 : NewH W.heap.size u11 w1 := hh 11 _ List.mem_cons_self (by kernel_rfl)
      have h8 := hh 9 _ (List.mem_cons_of_mem _ List.mem_cons_self) (by kernel_rfl)
      have h6 : OpenT W.heap.size w H er u7 w1 := hh 7 _ (List.mem_cons_of_mem _ (List.mem_cons_of_mem _ (List.mem_cons_of_mem _ List.mem_cons_self))) (by kernel_rfl)
      have e8 : u7 = .tuple #[u9, .int .i64 er] := (List.cons.inj h8).1
      have e6 := OpenT.eq h6
      have e9 : u9 = .agg #[.int .i64 (OpenT.p h6).d, .slice (OpenT.p h6).ra (OpenT.p h6).rn (OpenT.p h6).rc, .int .i64 (OpenT.p h6).s, .slice (OpenT.p h6).aa (OpenT.p h6).an (OpenT.p h6).ac, .slice (OpenT.p h6).ea (OpenT.p h6).en (OpenT.p h6).ec, .map (OpenT.p h6).m] := by
        rw [e6] at e8
        simp only [Value.tuple.injEq, Array.mk.injEq, List.cons.injEq, and_true] at e8
        exact e8.symm
      have e10 := NewH.ptr h10
      have hb := NewH.le h10
      have hcs := NewH.heap h10
      have h66 := NewH.six h10
      have c0 := NewH.c h10 0 (by omega)
      have c1 := NewH.c h10 1 (by omega)
      have c2 := NewH.c h10 2 (by omega)
      have c3 := NewH.c h10 3 (by omega)
      have c4 := NewH.c h10 4 (by omega)
      have c5 := NewH.c h10 5 (by omega)
      have hfz := NewH.free h10
      generalize NewH.b h10 = b at *
      generalize NewH.cs h10 = cs at *
      generalize OpenT.p h6 = p at *
      have hC := chs_set6 hb hcs (.int .i64 p.d) (.slice p.ra p.rn p.rc) (.int .i64 p.s) (.slice p.aa p.an p.ac) (.slice p.ea p.en p.ec) (.map p.m)
      have hB := box_of_cells hcs h66 (.int .i64 p.d) (.slice p.ra p.rn p.rc) (.int .i64 p.s) (.slice p.aa p.an p.ac) (.slice p.ea p.en p.ec) (.map p.m)
      have HC := Lib.hid hC
      have HB := Lib.hid hB
      clear hh hC hB h10 h8 h6 hcs e8
      subst e9
      subst e6
      subst e10
      go_simp
      exact ⟨HC.out, b, p, rfl, hb, HB.out⟩
    intro u12x
    intro w1 hx hh
    have h11 : StoredH W.heap.size er [u11, u7] w1 := hh 12 _ List.mem_cons_self
    have h8 := hh 9 _ (List.mem_cons_of_mem _ (List.mem_cons_of_mem _ List.mem_cons_self))
    have h7 := hh 8 _ (List.mem_cons_of_mem _ (List.mem_cons_of_mem _ (List.mem_cons_of_mem _ List.mem_cons_self)))
    have h6 : OpenT W.heap.size w H er u7 w1 := hh 7 _ (List.mem_cons_of_mem _ (List.mem_cons_of_mem _ (List.mem_cons_of_mem _ (List.mem_cons_of_mem _ List.mem_cons_self))))
    have e7 : u7 = u8 := (List.cons.inj h7).1
    have e8 : u7 = .tuple #[u9, .int .i64 er] := (List.cons.inj h8).1
    have hQ := soQ_is h11 h6
    generalize soQ h11 h6 = q at *
    have e10 := hQ.1
    have e6 := hQ.2.1
    have hxW : Ext W w1 := (hx (Nat.le_refl _)).1
    have hb := hQ.2.2.1
    have hbox := hQ.2.2.2.1
    have hG := hQ.2.2.2.2
    have e9 : u9 = q.2.v := by
      rw [e6] at e8
      have := Value.tuple.inj e8
      simp only [Array.mk.injEq, List.cons.injEq, and_true] at this
      exact this.symm
    clear hh h11 h8 h7 h6 hQ e8 hx
    subst e7
    subst e9
    subst e6
    subst e10
    have x1 := xW.trans hxW
    have HG := Lib.hid hG
    have HB := Lib.hid hbox
    clear hG hbox i0 i1 i2 i3 i4
    refine ⟨rfl, ?_⟩
    go_simp
    have j0 := HB.out 0 _ rfl
    have j1 := HB.out 1 _ rfl
    have j2 := HB.out 2 _ rfl
    have j3 := HB.out 3 _ rfl
    have j4 := HB.out 4 _ rfl
    have j5 := HB.out 5 _ rfl
    have zb : q.1 < w1.heap.size := cell_lt j0
    have hwc := hxW.cell cd
    have zc : w.heap.size + 1 < w1.heap.size := cell_lt hwc
    by_cases h0 : er = 0
    rotate_left
    · have k0 : (er != 0) = true := by simpa using h0
      have hns := HNS.out
      have hne := HNE.out
      rw [if_pos h0] at hns hne
      subst hns
      subst hne
      clear h0 hop HNS HNE
      go_wp2
      go_ret2
      exact ⟨rfl, x1⟩
    subst h0
    have hL := HG.out.look x1 rfl
    obtain ⟨hV, hd0, hd1⟩ := HOK.out rfl
    have hdy := hV.entries
    have hdm := HDM.out
    rw [IntWalk.i64_in _ (by omega)] at hdm
    obtain ⟨i, rfl⟩ : ∃ i : Nat, d = (i : Int) := ⟨d.toNat, by omega⟩
    have hi : i < H.entries.length := by omega
    rw [Int.toNat_natCast] at HNM HNS HNE
    have hns := HNS.out
    have hne := HNE.out
    rw [if_neg (by simp)] at hns hne
    have hHB : HouseBox w1 q.1 H := houseBox_of hL HB.out
    have HL := Lib.hid hL
    have HHB := Lib.hid hHB
    have hto := fun w hl => isTold_any q.2.v H i hi w hl
    clear hL hop HNS HNE HOK HDM hdm hHB
    unfold H6.v at hto HL
    go_wp2_with fail
    refine (hto _ HL.out).mono ?_
    rintro e w2 ⟨rfl, hx2⟩
    have x2 := x1.trans hx2
    have HHB2 := Lib.hid (HHB.out.ext hx2)
    have HL2 := Lib.hid (HL.out.ext hx2)
    replace hwc := hx2.cell hwc
    replace j0 := hx2.cell j0
    replace j1 := hx2.cell j1
    replace j2 := hx2.cell j2
    replace j3 := hx2.cell j3
    replace j4 := hx2.cell j4
    replace j5 := hx2.cell j5
    have zb2 : q.1 < w2.heap.size := cell_lt j0
    have zc2 : w.heap.size + 1 < w2.heap.size := cell_lt hwc
    clear hx2 hto x1
    generalize htd : toldE (entAt H i) = td at *
    have HTD := Lib.hid htd
    clear htd
    cases td
    · rw [if_pos rfl] at hns hne
      subst hns
      subst hne
      go_wp2
      go_ret2
      exact ⟨rfl, x2⟩
    rw [if_neg (by simp)] at hns hne
    obtain ⟨nh, ne2⟩ := nm
    simp only at hns hne
    subst hns
    subst hne
    have hb1 : bitsM [i] = 2 ^ i := by simp [bitsM]
    have h32 : 2 ^ i < 32 := by rw [← hb1]; exact bitsM_lt _ (by simp; omega)
    have hof := fun w v hv => bits_any v [i] (by simp; omega) w hv
    rw [hb1] at hof
    have htr := fun w hl => truths_any q.2.v H hV (2 ^ i) h32 w hl
    unfold H6.v at htr
    have hmany := truL_many hV (outB (2 ^ i))
    have hrin : ∀ r ∈ truL H (outB (2 ^ i)), RateIn H i r := fun r hr => rateIn_of hV hr hi
    have hI64 : I64 (i : Int) := by unfold I64; omega
    have hints : ∀ w : World, ∀ t, IntsAt (w.alloc (.cells #[.int .i64 (i : Int)] t)) (.slice (some ⟨w.heap.size, 0, none⟩) 1 1) (ints [i]) := fun w t => IntsAt.one (by unfold I64 at hI64; exact hI64)
    have HIN := Lib.hid hints
    have HI := Lib.hid hi
    obtain ⟨pw, hpw⟩ : ∃ pw : Int, pw = ((2 ^ i : Nat) : Int) := ⟨_, rfl⟩
    rw [← hpw] at hof htr
    clear hints hb1 hi hdy hd0 hd1 hI64 hpw
    go_wp2_with fail
    apply Facts.wp_region [.val (.agg #[.int .i64 q.2.d, .slice q.2.ra q.2.rn q.2.rc, .int .i64 q.2.s, .slice q.2.aa q.2.an q.2.ac, .slice q.2.ea q.2.en q.2.ec, .map q.2.m]), .val (.int .i64 i), .fact (fun u W => IntsAt W u (ints [i])), .val (.int .i64 pw), .fact (fun u W => SeqT W u H (2 ^ i)), .val _, .val (.tuple #[.int .i64 ns, .int .i64 ne]), .val _, .val _, .val _, .val _] (by kernel_rfl) (by kernel_rfl) ⟨fun u a c hx h => h.ext hx, fun u a c hx h => h.ext hx, trivial⟩ ?main6
    case main6 =>
      iterate 2 (refine ⟨fun w1 hx hh => ?_, ?_⟩; focus (clear hh; (have f0 := hx.cell j0; have f1 := hx.cell j1; have f2 := hx.cell j2; have f3 := hx.cell j3; have f4 := hx.cell j4; have f5 := hx.cell j5; have f6 := hx.cell hwc); go_simp; first | exact ⟨Ext.refl _, rfl⟩ | exact Ext.refl _))
      refine ⟨fun w9 hx hh => ?_, ?_⟩
      · clear hh
        go_simp
        exact ⟨ext_alloc _ _, HIN.out _ _⟩
      intro u28
      refine ⟨fun w9 hx hh => ?_, ?_⟩
      · have h2 := hh 2 _ List.mem_cons_self (by kernel_rfl)
        clear hh
        go_simp
        refine (hof w9 u28 h2).mono ?_
        rintro e w' ⟨rfl, rfl⟩
        exact ⟨_, rfl, Ext.refl _, rfl⟩
      refine ⟨fun w9 hx hh => ?_, ?_⟩
      · clear hh
        go_simp
        refine (htr w9 (HL2.out.ext hx)).mono ?_
        rintro e w' ⟨v, rfl, hT, hx9⟩
        exact ⟨v, rfl, hx9, hT⟩
      intro u30
      iterate 1 (refine ⟨fun w1 hx hh => ?_, ?_⟩; focus (clear hh; skip; go_simp; first | exact ⟨Ext.refl _, rfl⟩ | exact Ext.refl _))
      refine ⟨fun w9 hx hh => ?_, ?_⟩
      · have h4 := hh 4 _ List.mem_cons_self (by kernel_rfl)
        clear hh
        go_simp
        obtain ⟨lb, rfl, hsq⟩ := SeqT.seq hV h4
        have hw9 := how_any lb (truL H (outB (2 ^ i))) (by omega) q.1 (w.heap.size + 1) (fun r => agreesM H (entAt H i) r) w9 hsq (fun r hr w' hx' => agreeOf_any q.1 (w.heap.size + 1) H hV i HI.out r (hrin r hr) w' (HHB2.out.ext (hx.trans hx')) ((hx.trans hx').cell hwc))
        rw [HNM.out] at hw9
        refine hw9.mono ?_
        rintro e w' ⟨rfl, hx9⟩
        exact ⟨_, rfl, hx9, rfl⟩
      iterate 4 (refine ⟨fun w1 hx hh => ?_, ?_⟩; focus (clear hh; skip; go_simp; first | exact ⟨Ext.refl _, rfl⟩ | exact Ext.refl _))
      intro w9 hx hh
      clear hh
      have x9 := x2.trans hx
      go_simp
      go_wp2
      go_ret2
      exact ⟨rfl, x9⟩
end Go.Proofs.Ytdadffmagfknoaa
