/-
  WHAT IS TOLD OVER TRUTHS: told.Number and told.Overall at rates.
  told.Number at rates, for each function of rates that is asked: of the program.
  WHAT IS ASKED OF EACH TRUTH: the rate of a day, what an agent pays for some pence, or has paid for all entries, whether both books agree on an entry. Of the program.
  told.How at rates: in all truths, in some or in none. Of the program.
  THE FIRST TRUTH without some entries, or none: of the program.
  A ROW THAT IS MADE, and cells that are copied into it.
  SMALL ONES: whether rates are none, the rates as a list, whether there is a truth without some entries, the rate of a day: of the program.
  Whether there is a truth without some entries; the rate of a day: of the program.
-/
import Derived.Test.YtdadffmagfknoaaBunAF
import Derived.RangeFuncCalls
import Derived.Shelf.RegionOpen
import Derived.OwnWalkIn
import Derived.Handy
namespace Go.Proofs.Ytdadffmagfknoaa
set_option linter.unusedSimpArgs false
set_option linter.unusedVariables false
open Go.RowKit
set_option linter.unusedVariables false
set_option maxRecDepth 100000
attribute [local go_sem] Oper.semAt_some

def ovStep (st : (Int × Int) × Int) (s : Int × Int) : (Int × Int) × Int := ((min (if st.2 ≠ 0 then s else st.1).1 s.1, max (if st.2 ≠ 0 then s else st.1).2 s.2), 0)
def ovM (l : List (Int × Int)) : (Int × Int) × Int := l.foldl ovStep ((0, 0), 8)
theorem ovM_snoc (l : List (Int × Int)) (s : Int × Int) : ovM (l ++ [s]) = ovStep (ovM l) s := by simp [ovM]
/-- what the loop of Overall holds between two rounds -/
structure OvI (w0 : World) (ob ab xb : Nat) (ofv : Value) (st : (Int × Int) × Int) (W : World) : Prop where
  lo : W.cell? ⟨ab, 0, none⟩ = some (.int .i64 st.1.1)
  hi : W.cell? ⟨ab, 1, none⟩ = some (.int .i64 st.1.2)
  afree : ∀ o, W.frozen? ⟨ab, o, none⟩ = false
  e : W.cell? ⟨xb, 0, none⟩ = some (.int .i64 st.2)
  efree : W.frozen? ⟨xb, 0, none⟩ = false
  fn : W.cell? ⟨ob, 0, none⟩ = some ofv
  ext : Below ab w0 W
theorem OvI.later {w0 : World} {ob ab xb B : Nat} {ofv : Value} {st : (Int × Int) × Int} {A W : World} (h : OvI w0 ob ab xb ofv st A) (hx : Below B A W) (h1 : ob < B) (h2 : ab < B) (h3 : xb < B) : OvI w0 ob ab xb ofv st W :=
  ⟨(hx.cell (p := ⟨ab, 0, none⟩) h2).trans h.lo, (hx.cell (p := ⟨ab, 1, none⟩) h2).trans h.hi, fun o => (hx.frozen (p := ⟨ab, o, none⟩) h2).trans (h.afree o), (hx.cell (p := ⟨xb, 0, none⟩) h3).trans h.e, (hx.frozen (p := ⟨xb, 0, none⟩) h3).trans h.efree, (hx.cell (p := ⟨ob, 0, none⟩) h1).trans h.fn, h.ext.trans (hx.mono (Nat.le_of_lt h2))⟩
theorem OvI.setA {w0 : World} {ob ab xb : Nat} {ofv : Value} {st : (Int × Int) × Int} {W : World} (h : OvI w0 ob ab xb ofv st W) (h1 : ob < ab) (h2 : ab < xb) (a b : Int) : OvI w0 ob ab xb ofv ((a, b), st.2) ((W.setCell ⟨ab, 0, none⟩ (.int .i64 a)).setCell ⟨ab, 1, none⟩ (.int .i64 b)) :=
  ⟨set_other (set_cell h.lo _) (.inr (by simp)) _, set_cell (set_other h.hi (.inr (by simp)) _) _, fun o => by simpa [go_sem] using h.afree o, set_other (set_other h.e (.inl (by simp; omega)) _) (.inl (by simp; omega)) _, by simpa [go_sem] using h.efree, set_other (set_other h.fn (.inl (by simp; omega)) _) (.inl (by simp; omega)) _, (h.ext.setCell (p := ⟨ab, 0, none⟩) (Nat.le_refl _) _).setCell (p := ⟨ab, 1, none⟩) (Nat.le_refl _) _⟩
theorem OvI.setE {w0 : World} {ob ab xb : Nat} {ofv : Value} {st : (Int × Int) × Int} {W : World} (h : OvI w0 ob ab xb ofv st W) (h1 : ob < ab) (h2 : ab < xb) (e : Int) : OvI w0 ob ab xb ofv (st.1, e) (W.setCell ⟨xb, 0, none⟩ (.int .i64 e)) :=
  ⟨set_other h.lo (.inl (by simp; omega)) _, set_other h.hi (.inl (by simp; omega)) _, fun o => by simpa [go_sem] using h.afree o, set_cell h.e _, by simpa [go_sem] using h.efree, set_other h.fn (.inl (by simp; omega)) _, h.ext.setCell (p := ⟨xb, 0, none⟩) (Nat.le_of_lt h2) _⟩
set_option maxHeartbeats 2000000 in
theorem overall_any (lb : Array Value) (xs : List (List Int)) (ub : Nat) (f : List Int → Int × Int) (w : World)
    (hseq : ∀ n lo hi w', w.heap.size ≤ lo → lo ≤ hi → hi ≤ w'.heap.size → KeptN lo hi w w' → SeqBoth n Try.prog 102 lb (fun r => #[rateV r]) (KeptN lo hi) xs w')
    (hof : ∀ r ∈ xs, ∀ w', Ext w w' → Calls Try.prog 108 #[rateV r, .pointer (some ⟨ub, 0, none⟩)] w' fun e w'' => e = .returned (spanV (f r).1 (f r).2) ∧ Ext w' w'') :
    Calls Try.prog 107 #[.func (.func 102) #[] lb, .func (.func 108) #[] #[.pointer (some ⟨ub, 0, none⟩)]] w fun e w' => e = .returned (.tuple #[spanV (ovM (xs.map f)).1.1 (ovM (xs.map f)).1.2, .int .i64 (ovM (xs.map f)).2]) ∧ Ext w w' := by
  refine (callsIn_wide (n := 4)).1 (callsIn_of_wp_marks Try.func107 rfl trivial ?_ rfl)
  simp only [Try.ntmps107, List.size_toArray, List.length_cons, List.length_nil, Nat.reduceAdd, Nat.reduceSub, Array.replicate_succ, Array.replicate_zero, List.push_toArray, List.append_toArray, List.nil_append, List.cons_append]
  refine wpIn_wide.2 ?_
  go_wp2
  obtain ⟨W0, hW0⟩ : ∃ W0, W0 = ((((w.alloc (.cells #[.func (.func 108) #[] #[.pointer (some ⟨ub, 0, none⟩)]] 147)).alloc (.cells #[.int .i64 0, .int .i64 0] 35)).alloc (.cells #[.int .i64 0, .int .i64 0] 35)).alloc (.cells #[.int .i64 8] 27)) := ⟨_, rfl⟩
  have x0 : Ext w W0 := by rw [hW0]; exact (((ext_alloc _ _).alloc _).alloc _).alloc _
  have z0 : W0.heap.size = w.heap.size + 4 := by rw [hW0]; simp
  have c0 : OvI W0 w.heap.size (w.heap.size + 2) (w.heap.size + 3) (.func (.func 108) #[] #[.pointer (some ⟨ub, 0, none⟩)]) (ovM (([] : List (List Int)).map f)) W0 := by
    refine ⟨?_, ?_, fun o => by rw [hW0]; simp [go_sem], ?_, by rw [hW0]; simp [go_sem], by rw [hW0]; simp [go_sem], Below.refl _ _⟩
    · rw [hW0]; simp [go_sem, ovM]
    · rw [hW0]; simp [go_sem, ovM]
    · rw [hW0]; simp [go_sem, ovM]
  have r0 : W0.cell? ⟨w.heap.size + 1, 0, none⟩ = some (.int .i64 0) := by rw [hW0]; simp [go_sem]
  have r1 : W0.cell? ⟨w.heap.size + 1, 1, none⟩ = some (.int .i64 0) := by rw [hW0]; simp [go_sem]
  have rf : ∀ o, W0.frozen? ⟨w.heap.size + 1, o, none⟩ = false := fun o => by rw [hW0]; simp [go_sem]
  rw [← hW0]
  clear hW0
  have hsq := hseq 3 (w.heap.size + 2) (w.heap.size + 4) W0 (by omega) (by omega) (by omega) (x0.keptN _ _)
  refine (wpIn_wide (n := 4)).1 ?_
  refine wpIn_seqOnly (by omega) rfl (enters_of Try.func102 (by kernel_rfl) rfl) hsq (fun h k => KeptN.trans h k) ?kb (Below.refl _ _) (fun _ => rfl)
    (fun pre W => OvI W0 w.heap.size (w.heap.size + 2) (w.heap.size + 3) (.func (.func 108) #[] #[.pointer (some ⟨ub, 0, none⟩)]) (ovM (pre.map f)) W) ?hI c0
    (fun r a' W => ∃ tb, w.heap.size + 4 ≤ tb ∧ a' = { tmps := #[.func (.func 102) #[] lb, .func (.func 108) #[] #[.pointer (some ⟨ub, 0, none⟩)], undef, .pointer (some ⟨w.heap.size, 0, none⟩), .pointer (some ⟨w.heap.size + 1, 0, none⟩), .int .i64 0, .pointer (some ⟨w.heap.size + 1 + 1, 0, none⟩), .pointer (some ⟨w.heap.size + 1 + 1 + 1, 0, none⟩), .pointer (some ⟨tb, 0, none⟩), undef, .agg #[.int .i64 0, .int .i64 0], .func (.func 102) #[] lb, rateV r, undef, undef, undef, undef, undef, undef, undef, undef, undef, undef, undef, undef, undef, undef, undef, undef, undef, undef, undef], defers := [] } ∧ RBox W tb (fun j => r.getD j 0)) ?hAx ?assign ?body ?done
  case kb => exact fun W l o o' hl h hc _ hm => KeptN.putObj h hc hm (by omega)
  case hI => exact fun s A B hx h => h.later hx (by omega) (by omega) (by omega)
  case hAx =>
    rintro x a' A l o' hl ⟨o, ho, hc⟩ ⟨tb, h1, h2, h3⟩
    exact ⟨tb, h1, h2, fun j v hj => (KeptO.putObj (lo := l) (hi := l) ho hc).cell (by omega) (h3 j v hj)⟩
  case assign =>
    intro l pre x W K hI hK
    have hz := hI.ext.size
    obtain ⟨q0, hq0⟩ : ∃ q0, x.getD 0 0 = q0 := ⟨_, rfl⟩
    obtain ⟨q1, hq1⟩ : ∃ q1, x.getD 1 0 = q1 := ⟨_, rfl⟩
    obtain ⟨q2, hq2⟩ : ∃ q2, x.getD 2 0 = q2 := ⟨_, rfl⟩
    have hrv : rateV x = .agg #[.int .i64 q0, .int .i64 q1, .int .i64 q2] := by unfold rateV; rw [hq0, hq1, hq2]
    rw [hrv]
    gi_wp2
    refine hK _ _ ((KeepsOthers.alloc _ _).from _) ((ext_alloc _ _).keptN _ _) (hI.later ((ext_alloc _ _).below) (by omega) (by omega) (by omega)) ⟨W.heap.size, by omega, by rw [hrv], ?_⟩
    intro j v hj
    match j, hj with
    | 0, hj => simp only [List.getElem?_cons_zero, Option.some.injEq, hq0] at hj; subst hj; simp [go_sem]
    | 1, hj => simp only [List.getElem?_cons_succ, List.getElem?_cons_zero, Option.some.injEq, hq1] at hj; subst hj; simp [go_sem]
    | 2, hj => simp only [List.getElem?_cons_succ, List.getElem?_cons_zero, Option.some.injEq, hq2] at hj; subst hj; simp [go_sem]
  case body =>
    rintro l pre x a' W hI ⟨tb, htb, rfl, htc⟩ hpre
    have hz := hI.ext.size
    have hmem : x ∈ xs := hpre.subset (by simp)
    have hnext : ovM ((pre ++ [x]).map f) = ovStep (ovM (pre.map f)) (f x) := by rw [List.map_append]; exact ovM_snoc _ _
    have hofx := hof x hmem
    generalize f x = fx at *
    obtain ⟨sl, sh⟩ := fx
    generalize ovM (pre.map f) = st at *
    obtain ⟨⟨al, ah⟩, ae⟩ := st
    have Hnext := Lib.hid hnext
    have Hpre := Lib.hid hpre
    have hIk := hI
    obtain ⟨h1, h2, h3, h4, h5, h6, h7⟩ := hI
    simp only at h1 h2 h4
    have xW : Ext w W := ⟨h7.os.trans x0.os, h7.tape.trans x0.tape, h7.output.trans x0.output, by omega, fun k hk => (h7.block k (by omega)).trans (x0.block k hk)⟩
    have g0 : W.cell? ⟨w.heap.size + 1 + 1, 0, none⟩ = some (.int .i64 al) := h1
    have g1 : W.cell? ⟨w.heap.size + 1 + 1, 1, none⟩ = some (.int .i64 ah) := h2
    have gf : ∀ o, W.frozen? ⟨w.heap.size + 1 + 1, o, none⟩ = false := h3
    have g4 : W.cell? ⟨w.heap.size + 1 + 1 + 1, 0, none⟩ = some (.int .i64 ae) := h4
    have g5 : W.frozen? ⟨w.heap.size + 1 + 1 + 1, 0, none⟩ = false := h5
    obtain ⟨q0, hq0⟩ : ∃ q0, x.getD 0 0 = q0 := ⟨_, rfl⟩
    obtain ⟨q1, hq1⟩ : ∃ q1, x.getD 1 0 = q1 := ⟨_, rfl⟩
    obtain ⟨q2, hq2⟩ : ∃ q2, x.getD 2 0 = q2 := ⟨_, rfl⟩
    have hrv : rateV x = .agg #[.int .i64 q0, .int .i64 q1, .int .i64 q2] := by unfold rateV; rw [hq0, hq1, hq2]
    have t0 : W.cell? ⟨tb, 0, none⟩ = some (.int .i64 q0) := by rw [← hq0]; exact htc 0 _ rfl
    have t1 : W.cell? ⟨tb, 1, none⟩ = some (.int .i64 q1) := by rw [← hq1]; exact htc 1 _ rfl
    have t2 : W.cell? ⟨tb, 2, none⟩ = some (.int .i64 q2) := by rw [← hq2]; exact htc 2 _ rfl
    rw [hrv] at hofx ⊢
    unfold spanV at hofx
    have hcall := hofx W xW
    clear hnext hpre h1 h2 h3 h4 h5 hseq hsq c0 r0 r1 rf hof hofx hq0 hq1 hq2 hrv htc
    gi_wp2_with fail
    refine ⟨trivial, ?_⟩
    refine (CallsIn.inRound l (callsIn_wide.2 hcall)).mono ?_
    rintro e w1 ⟨rfl, hx1⟩
    have zb : w.heap.size + 3 < W.heap.size := cell_lt g4
    replace g0 := hx1.cell g0
    replace g1 := hx1.cell g1
    replace gf : ∀ o, w1.frozen? ⟨w.heap.size + 1 + 1, o, none⟩ = false := fun o => (hx1.frozen (p := ⟨w.heap.size + 1 + 1, o, none⟩) (by simp; omega)).trans (gf o)
    replace g4 := hx1.cell g4
    replace g5 : w1.frozen? ⟨w.heap.size + 1 + 1 + 1, 0, none⟩ = false := (hx1.frozen (p := ⟨w.heap.size + 1 + 1 + 1, 0, none⟩) (by simp; omega)).trans g5
    have hx2 := hx1.alloc (.cells #[.int .i64 sl, .int .i64 sh] 35)
    have hI2 := hIk.later (B := w.heap.size + 4) (hx2.below.mono (by omega)) (by omega) (by omega) (by omega)
    have zb1 : w.heap.size + 3 < w1.heap.size := cell_lt g4
    have zz1 : w.heap.size + 1 + 1 < w1.heap.size := by omega
    have zz2 : w.heap.size + 1 + 1 + 1 < w1.heap.size := by omega
    have hkf : KeepsFrom W0.heap.size W (w1.alloc (.cells #[.int .i64 sl, .int .i64 sh] 35)) := hx2.keepsFrom _
    have hkn : KeptN (w.heap.size + 2) (w.heap.size + 4) W (w1.alloc (.cells #[.int .i64 sl, .int .i64 sh] 35)) := hx2.keptN _ _
    have hI1 := hIk.later (B := w.heap.size + 4) (hx1.below.mono (by omega)) (by omega) (by omega) (by omega)
    have K1 : ∀ (B : Nat) (a b : Int), KeepsFrom B W (((w1.setCell ⟨w.heap.size + 2, 0, none⟩ (.int .i64 a)).setCell ⟨w.heap.size + 2, 1, none⟩ (.int .i64 b)).alloc (.cells #[.int .i64 sl, .int .i64 sh] 35)) := fun B a b =>
      (hx1.keepsFrom _).trans ((((KeepsOthers.setCell _ _ _).trans (KeepsOthers.setCell _ _ _)).trans (KeepsOthers.alloc _ _)).from _)
    have K2 : ∀ a b : Int, KeptN (w.heap.size + 2) (w.heap.size + 4) W (((w1.setCell ⟨w.heap.size + 2, 0, none⟩ (.int .i64 a)).setCell ⟨w.heap.size + 2, 1, none⟩ (.int .i64 b)).alloc (.cells #[.int .i64 sl, .int .i64 sh] 35)) := fun a b =>
      (((hx1.keptN _ _).setIn (by simp) (by simp) _).setIn (by simp) (by simp) _).trans ((ext_alloc _ _).keptN _ _)
    have K3 := fun a b : Int => (hI1.setA (by omega) (by omega) a b).later (B := w.heap.size + 4) ((ext_alloc _ (.cells #[.int .i64 sl, .int .i64 sh] 35)).below.mono (by simp; omega)) (by omega) (by omega) (by omega)
    have K4 : ∀ (B : Nat), KeepsFrom B W ((((((w1.setCell ⟨w.heap.size + 2, 0, none⟩ (.int .i64 sl)).setCell ⟨w.heap.size + 2, 1, none⟩ (.int .i64 sh)).setCell ⟨w.heap.size + 3, 0, none⟩ (.int .i64 0)).setCell ⟨w.heap.size + 2, 0, none⟩ (.int .i64 sl)).setCell ⟨w.heap.size + 2, 1, none⟩ (.int .i64 sh)).alloc (.cells #[.int .i64 sl, .int .i64 sh] 35)) := fun B =>
      (hx1.keepsFrom _).trans (((((((KeepsOthers.setCell _ _ _).trans (KeepsOthers.setCell _ _ _)).trans (KeepsOthers.setCell _ _ _)).trans (KeepsOthers.setCell _ _ _)).trans (KeepsOthers.setCell _ _ _)).trans (KeepsOthers.alloc _ _)).from _)
    have K5 : KeptN (w.heap.size + 2) (w.heap.size + 4) W ((((((w1.setCell ⟨w.heap.size + 2, 0, none⟩ (.int .i64 sl)).setCell ⟨w.heap.size + 2, 1, none⟩ (.int .i64 sh)).setCell ⟨w.heap.size + 3, 0, none⟩ (.int .i64 0)).setCell ⟨w.heap.size + 2, 0, none⟩ (.int .i64 sl)).setCell ⟨w.heap.size + 2, 1, none⟩ (.int .i64 sh)).alloc (.cells #[.int .i64 sl, .int .i64 sh] 35)) :=
      ((((((hx1.keptN _ _).setIn (by simp) (by simp) _).setIn (by simp) (by simp) _).setIn (by simp) (by simp) _).setIn (by simp) (by simp) _).setIn (by simp) (by simp) _).trans ((ext_alloc _ _).keptN _ _)
    have K6 := ((((hI1.setA (by omega) (by omega) sl sh).setE (by omega) (by omega) 0).setA (by omega) (by omega) sl sh).later (B := w.heap.size + 4) ((ext_alloc _ (.cells #[.int .i64 sl, .int .i64 sh] 35)).below.mono (by simp; omega)) (by omega) (by omega) (by omega))
    have HK1 := Lib.hid K1
    have HK2 := Lib.hid K2
    have HK3 := Lib.hid K3
    have HK4 := Lib.hid K4
    have HK5 := Lib.hid K5
    have HK6 := Lib.hid K6
    clear K1 K2 K3 K4 K5 K6 hI1 hI2 hkf hkn
    by_cases hae : ae = 0
    · subst hae
      have hst : ovStep ((al, ah), 0) (sl, sh) = ((min al sl, max ah sh), 0) := rfl
      rw [hst] at Hnext
      clear hst
      have hfin : ∀ a b : Int, min al sl = a → max ah sh = b → ∀ a', goesOn W0.heap.size (KeptN (w.heap.size + 2) (w.heap.size + 4)) (fun pre W => OvI W0 w.heap.size (w.heap.size + 2) (w.heap.size + 3) (.func (.func 108) #[] #[.pointer (some ⟨ub, 0, none⟩)]) (ovM (pre.map f)) W) (pre ++ [x]) W .normal a' (((w1.setCell ⟨w.heap.size + 2, 0, none⟩ (.int .i64 a)).setCell ⟨w.heap.size + 2, 1, none⟩ (.int .i64 b)).alloc (.cells #[.int .i64 sl, .int .i64 sh] 35)) := fun a b ha hb a' =>
        ⟨HK1.out _ a b, HK2.out a b, by show OvI _ _ _ _ _ (ovM ((pre ++ [x]).map f)) _; rw [Hnext.out, ha, hb]; exact HK3.out a b⟩
      have Hfin := Lib.hid hfin
      clear hfin
      by_cases c1 : sl < al <;> by_cases c2 : ah < sh
      · gi_wp2
        exact Hfin.out sl sh (by omega) (by omega) _
      · gi_wp2
        exact Hfin.out sl ah (by omega) (by omega) _
      · gi_wp2
        exact Hfin.out al sh (by omega) (by omega) _
      · gi_wp2
        exact Hfin.out al ah (by omega) (by omega) _
    · have kae : (ae != 0) = true := by simpa using hae
      have hst : ovStep ((al, ah), ae) (sl, sh) = ((sl, sh), 0) := by unfold ovStep; rw [if_pos hae]; simp
      rw [hst] at Hnext
      clear hst hae
      gi_wp2
      exact ⟨HK4.out _, HK5.out, by show OvI _ _ _ _ _ (ovM ((pre ++ [x]).map f)) _; rw [Hnext.out]; exact HK6.out⟩
  case done =>
    intro D W hD hI hDm
    have hz := hI.ext.size
    obtain ⟨st, hst⟩ : ∃ st, ovM (xs.map f) = st := ⟨_, rfl⟩
    rw [hst] at hI
    have Hst := Lib.hid hst
    clear hst
    obtain ⟨⟨al, ah⟩, ae⟩ := st
    obtain ⟨h1, h2, h3, h4, h5, h6, h7⟩ := hI
    simp only at h1 h2 h4
    have g0 : W.cell? ⟨w.heap.size + 1 + 1, 0, none⟩ = some (.int .i64 al) := h1
    have g1 : W.cell? ⟨w.heap.size + 1 + 1, 1, none⟩ = some (.int .i64 ah) := h2
    have g4 : W.cell? ⟨w.heap.size + 1 + 1 + 1, 0, none⟩ = some (.int .i64 ae) := h4
    have q0 : W.cell? ⟨w.heap.size + 1, 0, none⟩ = some (.int .i64 0) := (h7.cell (p := ⟨w.heap.size + 1, 0, none⟩) (by simp)).trans r0
    have q1 : W.cell? ⟨w.heap.size + 1, 1, none⟩ = some (.int .i64 0) := (h7.cell (p := ⟨w.heap.size + 1, 1, none⟩) (by simp)).trans r1
    have hrf : ∀ o, W.frozen? ⟨w.heap.size + 1, o, none⟩ = false := fun o => (h7.frozen (p := ⟨w.heap.size + 1, o, none⟩) (by simp)).trans (rf o)
    have xW : Ext w W := ⟨h7.os.trans x0.os, h7.tape.trans x0.tape, h7.output.trans x0.output, by omega, fun k hk => (h7.block k (by omega)).trans (x0.block k hk)⟩
    have s0 := set_other (set_cell q0 (.int .i64 al)) (p := ⟨w.heap.size + 1, 1, none⟩) (.inr (by simp)) (.int .i64 ah)
    have s1 := set_cell (set_other q1 (p := ⟨w.heap.size + 1, 0, none⟩) (.inr (by simp)) (.int .i64 al)) (.int .i64 ah)
    have hDs : (((W.setCell ⟨w.heap.size + 1, 0, none⟩ (.int .i64 al)).setCell ⟨w.heap.size + 1, 1, none⟩ (.int .i64 ah)).drew).heap[D]? = some (.deferred (some [])) := by
      show ((W.setCell ⟨w.heap.size + 1, 0, none⟩ (.int .i64 al)).setCell ⟨w.heap.size + 1, 1, none⟩ (.int .i64 ah)).heap[D]? = _
      rw [Below.heap_setCell _ _ _ _ (by simp; omega), Below.heap_setCell _ _ _ _ (by simp; omega)]; exact hDm
    have xs5 : Ext w ((W.setCell ⟨w.heap.size + 1, 0, none⟩ (.int .i64 al)).setCell ⟨w.heap.size + 1, 1, none⟩ (.int .i64 ah)) := (xW.setCell (by simp) _).setCell (by simp) _
    obtain ⟨Ws, hWs⟩ : ∃ Ws, (W.setCell ⟨w.heap.size + 1, 0, none⟩ (.int .i64 al)).setCell ⟨w.heap.size + 1, 1, none⟩ (.int .i64 ah) = Ws := ⟨_, rfl⟩
    rw [hWs] at s0 s1 hDs xs5
    have hgr := grownBy_putObj' Ws.drew D (.deferred none)
    have e0 : (Ws.drew.putObj D (.deferred none)).cell? ⟨w.heap.size + 1, 0, none⟩ = some (.int .i64 al) := cell_kept (show Ws.drew.cell? ⟨w.heap.size + 1, 0, none⟩ = _ from s0) hgr (fun r e => by cases e; exact ⟨_, hDs, rfl⟩)
    have e1 : (Ws.drew.putObj D (.deferred none)).cell? ⟨w.heap.size + 1, 1, none⟩ = some (.int .i64 ah) := cell_kept (show Ws.drew.cell? ⟨w.heap.size + 1, 1, none⟩ = _ from s1) hgr (fun r e => by cases e; exact ⟨_, hDs, rfl⟩)
    have x5 : Ext w (Ws.drew.putObj D (.deferred none)) := Ext.grown xs5.drew hgr (fun r e => by cases e; omega)
    have E0 := Lib.hid e0
    have E1 := Lib.hid e1
    have HD := Lib.hid hDs
    have HX := Lib.hid x5
    have HWs := Lib.hid hWs
    clear hDs hgr xs5 e0 e1 x5 hseq hsq c0 r0 r1 rf h1 h2 h3 h4 h5 h6 h7 hWs s0 s1
    go_wp2_with fail
    go_region
    go_wp2
    rw [HWs.out]
    refine ⟨by simp, .inl ⟨D, _, rfl, run_takeDeferred HD.out, ?_⟩⟩
    have e0 := E0.out
    have e1 := E1.out
    have hx := HX.out
    generalize (Ws.drew.putObj D (.deferred none)) = Wf at *
    exact ⟨.tuple #[spanV al ah, .int .i64 ae], by simp [results, Try.results107, go_sem, e0, e1, spanV], by rw [Hst.out], hx⟩
end Go.Proofs.Ytdadffmagfknoaa

namespace Go.Proofs.Ytdadffmagfknoaa
set_option linter.unusedSimpArgs false
set_option linter.unusedVariables false
open Go.RowKit
set_option linter.unusedVariables false
set_option maxRecDepth 100000
/-- the span of a number over all truths, and the error that there is none -/
def numM (f : List Int → Int) (l : List (List Int)) : (Int × Int) × Int := ovM (l.map fun r => (f r, f r))
set_option maxHeartbeats 1000000 in
theorem number1_rate (ub l0 : Nat) (r : List Int) (y : Int) (w : World) (hc : w.cell? ⟨ub, 0, none⟩ = some (.func (.func 105) #[] #[.pointer (some ⟨l0, 0, none⟩)]))
    (hcall : ∀ w', Ext w w' → Calls Try.prog 105 #[rateV r, .pointer (some ⟨l0, 0, none⟩)] w' fun e w3 => e = .returned (.int .i64 y) ∧ Ext w' w3) :
    Calls Try.prog 108 #[rateV r, .pointer (some ⟨ub, 0, none⟩)] w fun e w' => e = .returned (spanV y y) ∧ Ext w w' := by
  obtain ⟨q0, hq0⟩ : ∃ q0, r.getD 0 0 = q0 := ⟨_, rfl⟩
  obtain ⟨q1, hq1⟩ : ∃ q1, r.getD 1 0 = q1 := ⟨_, rfl⟩
  obtain ⟨q2, hq2⟩ : ∃ q2, r.getD 2 0 = q2 := ⟨_, rfl⟩
  have hrv : rateV r = .agg #[.int .i64 q0, .int .i64 q1, .int .i64 q2] := by unfold rateV; rw [hq0, hq1, hq2]
  rw [hrv] at hcall ⊢
  clear hq0 hq1 hq2 hrv
  have z0 := cell_lt hc
  unfold spanV
  go_enter Try.func108, Try.ntmps108
  go_wp2_with fail
  refine (hcall _ ((ext_alloc _ _).alloc _)).mono ?_
  rintro e w1 ⟨rfl, hx1⟩
  have x1 : Ext w w1 := ((ext_alloc _ _).alloc _).trans hx1
  have p0 : w1.cell? ⟨w.heap.size + 1, 0, none⟩ = some (.int .i64 0) := hx1.cell (by simp [go_sem])
  have p1 : w1.cell? ⟨w.heap.size + 1, 1, none⟩ = some (.int .i64 0) := hx1.cell (by simp [go_sem])
  have zB : w.heap.size + 1 < w1.heap.size := cell_lt p0
  have fz : ∀ o, w1.frozen? ⟨w.heap.size + 1, o, none⟩ = false := fun o => by rw [hx1.frozen (by simp)]; simp [go_sem]
  have s0 := set_other (set_cell p0 (.int .i64 y)) (p := ⟨w.heap.size + 1, 1, none⟩) (.inr (by simp)) (.int .i64 y)
  have s1 := set_cell (set_other p1 (p := ⟨w.heap.size + 1, 0, none⟩) (.inr (by simp)) (.int .i64 y)) (.int .i64 y)
  have xS : Ext w ((w1.setCell ⟨w.heap.size + 1, 0, none⟩ (.int .i64 y)).setCell ⟨w.heap.size + 1, 1, none⟩ (.int .i64 y)) := (x1.setCell (by simp) _).setCell (by simp) _
  have HS := Lib.hid xS
  clear hx1 hcall xS x1
  go_wp2
  refine bodyPost_ret (v := .agg #[.int .i64 y, .int .i64 y]) (by simp [results, Try.results108, go_sem, s0, s1]) rfl ⟨rfl, HS.out⟩
set_option maxHeartbeats 1000000 in
theorem number_rate (lb : Array Value) (xs : List (List Int)) (l0 : Nat) (f : List Int → Int) (w : World)
    (hseq : ∀ n lo hi w', w.heap.size ≤ lo → lo ≤ hi → hi ≤ w'.heap.size → KeptN lo hi w w' → SeqBoth n Try.prog 102 lb (fun r => #[rateV r]) (KeptN lo hi) xs w')
    (hof : ∀ r ∈ xs, ∀ w', Ext w w' → Calls Try.prog 105 #[rateV r, .pointer (some ⟨l0, 0, none⟩)] w' fun e w'' => e = .returned (.int .i64 (f r)) ∧ Ext w' w'') :
    Calls Try.prog 73 #[.func (.func 102) #[] lb, .func (.func 105) #[] #[.pointer (some ⟨l0, 0, none⟩)]] w fun e w' => e = .returned (.tuple #[spanV (numM f xs).1.1 (numM f xs).1.2, .int .i64 (numM f xs).2]) ∧ Ext w w' := by
  obtain ⟨W, hW⟩ : ∃ W, W = (w.alloc (.cells #[.func (.func 105) #[] #[.pointer (some ⟨l0, 0, none⟩)]] 115)).alloc (.cells #[.int .i64 0, .int .i64 0] 35) := ⟨_, rfl⟩
  have xW : Ext w W := by rw [hW]; exact (ext_alloc _ _).alloc _
  have c0 : W.cell? ⟨w.heap.size, 0, none⟩ = some (.func (.func 105) #[] #[.pointer (some ⟨l0, 0, none⟩)]) := by rw [hW]; simp [go_sem]
  have p0 : W.cell? ⟨w.heap.size + 1, 0, none⟩ = some (.int .i64 0) := by rw [hW]; simp [go_sem]
  have p1 : W.cell? ⟨w.heap.size + 1, 1, none⟩ = some (.int .i64 0) := by rw [hW]; simp [go_sem]
  have fz : ∀ o, W.frozen? ⟨w.heap.size + 1, o, none⟩ = false := fun o => by rw [hW]; simp [go_sem]
  have hov := overall_any lb xs w.heap.size (fun r => (f r, f r)) W (fun n lo hi w' h1 h2 h3 h4 => hseq n lo hi w' (Nat.le_trans xW.size h1) h2 h3 ((xW.keptN lo hi).trans h4)) (fun r hr w' hx => number1_rate _ l0 r (f r) w' (hx.cell c0) (fun w2 hx2 => hof r hr w2 ((xW.trans hx).trans hx2)))
  have hdef : numM f xs = ovM (xs.map fun r => (f r, f r)) := rfl
  rw [hdef]
  clear hdef
  obtain ⟨st, hst⟩ : ∃ st, ovM (xs.map fun r => (f r, f r)) = st := ⟨_, rfl⟩
  rw [hst] at hov ⊢
  obtain ⟨⟨al, ah⟩, ae⟩ := st
  unfold spanV at hov ⊢
  simp only at hov ⊢
  have HW := Lib.hid hW
  clear hst hW hseq hof
  go_enter Try.func73, Try.ntmps73
  go_wp2_with fail
  rw [← HW.out]
  refine hov.mono ?_
  rintro e w1 ⟨rfl, hx1⟩
  have x1 : Ext w w1 := xW.trans hx1
  have zB : w.heap.size + 1 < W.heap.size := cell_lt p0
  replace fz : ∀ o, w1.frozen? ⟨w.heap.size + 1, o, none⟩ = false := fun o => by rw [hx1.frozen zB]; exact fz o
  replace p0 := hx1.cell p0
  replace p1 := hx1.cell p1
  have s0 := set_other (set_cell p0 (.int .i64 al)) (p := ⟨w.heap.size + 1, 1, none⟩) (.inr (by simp)) (.int .i64 ah)
  have s1 := set_cell (set_other p1 (p := ⟨w.heap.size + 1, 0, none⟩) (.inr (by simp)) (.int .i64 al)) (.int .i64 ah)
  have xS : Ext w ((w1.setCell ⟨w.heap.size + 1, 0, none⟩ (.int .i64 al)).setCell ⟨w.heap.size + 1, 1, none⟩ (.int .i64 ah)) := (x1.setCell (by simp) _).setCell (by simp) _
  have HS := Lib.hid xS
  clear hx1 hov xS x1 c0
  go_wp2
  refine bodyPost_ret (v := .tuple #[.agg #[.int .i64 al, .int .i64 ah], .int .i64 ae]) (by simp [results, Try.results73, go_sem, s0, s1]) rfl ⟨rfl, HS.out⟩
set_option maxHeartbeats 1000000 in
theorem number1_paid (ub l0 l1 : Nat) (r : List Int) (y : Int) (w : World) (hc : w.cell? ⟨ub, 0, none⟩ = some (.func (.func 77) #[] #[.pointer (some ⟨l0, 0, none⟩), .pointer (some ⟨l1, 0, none⟩)]))
    (hcall : ∀ w', Ext w w' → Calls Try.prog 77 #[rateV r, .pointer (some ⟨l0, 0, none⟩), .pointer (some ⟨l1, 0, none⟩)] w' fun e w3 => e = .returned (.int .i64 y) ∧ Ext w' w3) :
    Calls Try.prog 108 #[rateV r, .pointer (some ⟨ub, 0, none⟩)] w fun e w' => e = .returned (spanV y y) ∧ Ext w w' := by
  obtain ⟨q0, hq0⟩ : ∃ q0, r.getD 0 0 = q0 := ⟨_, rfl⟩
  obtain ⟨q1, hq1⟩ : ∃ q1, r.getD 1 0 = q1 := ⟨_, rfl⟩
  obtain ⟨q2, hq2⟩ : ∃ q2, r.getD 2 0 = q2 := ⟨_, rfl⟩
  have hrv : rateV r = .agg #[.int .i64 q0, .int .i64 q1, .int .i64 q2] := by unfold rateV; rw [hq0, hq1, hq2]
  rw [hrv] at hcall ⊢
  clear hq0 hq1 hq2 hrv
  have z0 := cell_lt hc
  unfold spanV
  go_enter Try.func108, Try.ntmps108
  go_wp2_with fail
  refine (hcall _ ((ext_alloc _ _).alloc _)).mono ?_
  rintro e w1 ⟨rfl, hx1⟩
  have x1 : Ext w w1 := ((ext_alloc _ _).alloc _).trans hx1
  have p0 : w1.cell? ⟨w.heap.size + 1, 0, none⟩ = some (.int .i64 0) := hx1.cell (by simp [go_sem])
  have p1 : w1.cell? ⟨w.heap.size + 1, 1, none⟩ = some (.int .i64 0) := hx1.cell (by simp [go_sem])
  have zB : w.heap.size + 1 < w1.heap.size := cell_lt p0
  have fz : ∀ o, w1.frozen? ⟨w.heap.size + 1, o, none⟩ = false := fun o => by rw [hx1.frozen (by simp)]; simp [go_sem]
  have s0 := set_other (set_cell p0 (.int .i64 y)) (p := ⟨w.heap.size + 1, 1, none⟩) (.inr (by simp)) (.int .i64 y)
  have s1 := set_cell (set_other p1 (p := ⟨w.heap.size + 1, 0, none⟩) (.inr (by simp)) (.int .i64 y)) (.int .i64 y)
  have xS : Ext w ((w1.setCell ⟨w.heap.size + 1, 0, none⟩ (.int .i64 y)).setCell ⟨w.heap.size + 1, 1, none⟩ (.int .i64 y)) := (x1.setCell (by simp) _).setCell (by simp) _
  have HS := Lib.hid xS
  clear hx1 hcall xS x1
  go_wp2
  refine bodyPost_ret (v := .agg #[.int .i64 y, .int .i64 y]) (by simp [results, Try.results108, go_sem, s0, s1]) rfl ⟨rfl, HS.out⟩
set_option maxHeartbeats 1000000 in
theorem number_paid (lb : Array Value) (xs : List (List Int)) (l0 l1 : Nat) (f : List Int → Int) (w : World)
    (hseq : ∀ n lo hi w', w.heap.size ≤ lo → lo ≤ hi → hi ≤ w'.heap.size → KeptN lo hi w w' → SeqBoth n Try.prog 102 lb (fun r => #[rateV r]) (KeptN lo hi) xs w')
    (hof : ∀ r ∈ xs, ∀ w', Ext w w' → Calls Try.prog 77 #[rateV r, .pointer (some ⟨l0, 0, none⟩), .pointer (some ⟨l1, 0, none⟩)] w' fun e w'' => e = .returned (.int .i64 (f r)) ∧ Ext w' w'') :
    Calls Try.prog 73 #[.func (.func 102) #[] lb, .func (.func 77) #[] #[.pointer (some ⟨l0, 0, none⟩), .pointer (some ⟨l1, 0, none⟩)]] w fun e w' => e = .returned (.tuple #[spanV (numM f xs).1.1 (numM f xs).1.2, .int .i64 (numM f xs).2]) ∧ Ext w w' := by
  obtain ⟨W, hW⟩ : ∃ W, W = (w.alloc (.cells #[.func (.func 77) #[] #[.pointer (some ⟨l0, 0, none⟩), .pointer (some ⟨l1, 0, none⟩)]] 115)).alloc (.cells #[.int .i64 0, .int .i64 0] 35) := ⟨_, rfl⟩
  have xW : Ext w W := by rw [hW]; exact (ext_alloc _ _).alloc _
  have c0 : W.cell? ⟨w.heap.size, 0, none⟩ = some (.func (.func 77) #[] #[.pointer (some ⟨l0, 0, none⟩), .pointer (some ⟨l1, 0, none⟩)]) := by rw [hW]; simp [go_sem]
  have p0 : W.cell? ⟨w.heap.size + 1, 0, none⟩ = some (.int .i64 0) := by rw [hW]; simp [go_sem]
  have p1 : W.cell? ⟨w.heap.size + 1, 1, none⟩ = some (.int .i64 0) := by rw [hW]; simp [go_sem]
  have fz : ∀ o, W.frozen? ⟨w.heap.size + 1, o, none⟩ = false := fun o => by rw [hW]; simp [go_sem]
  have hov := overall_any lb xs w.heap.size (fun r => (f r, f r)) W (fun n lo hi w' h1 h2 h3 h4 => hseq n lo hi w' (Nat.le_trans xW.size h1) h2 h3 ((xW.keptN lo hi).trans h4)) (fun r hr w' hx => number1_paid _ l0 l1 r (f r) w' (hx.cell c0) (fun w2 hx2 => hof r hr w2 ((xW.trans hx).trans hx2)))
  have hdef : numM f xs = ovM (xs.map fun r => (f r, f r)) := rfl
  rw [hdef]
  clear hdef
  obtain ⟨st, hst⟩ : ∃ st, ovM (xs.map fun r => (f r, f r)) = st := ⟨_, rfl⟩
  rw [hst] at hov ⊢
  obtain ⟨⟨al, ah⟩, ae⟩ := st
  unfold spanV at hov ⊢
  simp only at hov ⊢
  have HW := Lib.hid hW
  clear hst hW hseq hof
  go_enter Try.func73, Try.ntmps73
  go_wp2_with fail
  rw [← HW.out]
  refine hov.mono ?_
  rintro e w1 ⟨rfl, hx1⟩
  have x1 : Ext w w1 := xW.trans hx1
  have zB : w.heap.size + 1 < W.heap.size := cell_lt p0
  replace fz : ∀ o, w1.frozen? ⟨w.heap.size + 1, o, none⟩ = false := fun o => by rw [hx1.frozen zB]; exact fz o
  replace p0 := hx1.cell p0
  replace p1 := hx1.cell p1
  have s0 := set_other (set_cell p0 (.int .i64 al)) (p := ⟨w.heap.size + 1, 1, none⟩) (.inr (by simp)) (.int .i64 ah)
  have s1 := set_cell (set_other p1 (p := ⟨w.heap.size + 1, 0, none⟩) (.inr (by simp)) (.int .i64 al)) (.int .i64 ah)
  have xS : Ext w ((w1.setCell ⟨w.heap.size + 1, 0, none⟩ (.int .i64 al)).setCell ⟨w.heap.size + 1, 1, none⟩ (.int .i64 ah)) := (x1.setCell (by simp) _).setCell (by simp) _
  have HS := Lib.hid xS
  clear hx1 hov xS x1 c0
  go_wp2
  refine bodyPost_ret (v := .tuple #[.agg #[.int .i64 al, .int .i64 ah], .int .i64 ae]) (by simp [results, Try.results73, go_sem, s0, s1]) rfl ⟨rfl, HS.out⟩
set_option maxHeartbeats 1000000 in
theorem number1_worth (ub l0 l1 : Nat) (r : List Int) (y : Int) (w : World) (hc : w.cell? ⟨ub, 0, none⟩ = some (.func (.func 74) #[] #[.pointer (some ⟨l0, 0, none⟩), .pointer (some ⟨l1, 0, none⟩)]))
    (hcall : ∀ w', Ext w w' → Calls Try.prog 74 #[rateV r, .pointer (some ⟨l0, 0, none⟩), .pointer (some ⟨l1, 0, none⟩)] w' fun e w3 => e = .returned (.int .i64 y) ∧ Ext w' w3) :
    Calls Try.prog 108 #[rateV r, .pointer (some ⟨ub, 0, none⟩)] w fun e w' => e = .returned (spanV y y) ∧ Ext w w' := by
  obtain ⟨q0, hq0⟩ : ∃ q0, r.getD 0 0 = q0 := ⟨_, rfl⟩
  obtain ⟨q1, hq1⟩ : ∃ q1, r.getD 1 0 = q1 := ⟨_, rfl⟩
  obtain ⟨q2, hq2⟩ : ∃ q2, r.getD 2 0 = q2 := ⟨_, rfl⟩
  have hrv : rateV r = .agg #[.int .i64 q0, .int .i64 q1, .int .i64 q2] := by unfold rateV; rw [hq0, hq1, hq2]
  rw [hrv] at hcall ⊢
  clear hq0 hq1 hq2 hrv
  have z0 := cell_lt hc
  unfold spanV
  go_enter Try.func108, Try.ntmps108
  go_wp2_with fail
  refine (hcall _ ((ext_alloc _ _).alloc _)).mono ?_
  rintro e w1 ⟨rfl, hx1⟩
  have x1 : Ext w w1 := ((ext_alloc _ _).alloc _).trans hx1
  have p0 : w1.cell? ⟨w.heap.size + 1, 0, none⟩ = some (.int .i64 0) := hx1.cell (by simp [go_sem])
  have p1 : w1.cell? ⟨w.heap.size + 1, 1, none⟩ = some (.int .i64 0) := hx1.cell (by simp [go_sem])
  have zB : w.heap.size + 1 < w1.heap.size := cell_lt p0
  have fz : ∀ o, w1.frozen? ⟨w.heap.size + 1, o, none⟩ = false := fun o => by rw [hx1.frozen (by simp)]; simp [go_sem]
  have s0 := set_other (set_cell p0 (.int .i64 y)) (p := ⟨w.heap.size + 1, 1, none⟩) (.inr (by simp)) (.int .i64 y)
  have s1 := set_cell (set_other p1 (p := ⟨w.heap.size + 1, 0, none⟩) (.inr (by simp)) (.int .i64 y)) (.int .i64 y)
  have xS : Ext w ((w1.setCell ⟨w.heap.size + 1, 0, none⟩ (.int .i64 y)).setCell ⟨w.heap.size + 1, 1, none⟩ (.int .i64 y)) := (x1.setCell (by simp) _).setCell (by simp) _
  have HS := Lib.hid xS
  clear hx1 hcall xS x1
  go_wp2
  refine bodyPost_ret (v := .agg #[.int .i64 y, .int .i64 y]) (by simp [results, Try.results108, go_sem, s0, s1]) rfl ⟨rfl, HS.out⟩
set_option maxHeartbeats 1000000 in
theorem number_worth (lb : Array Value) (xs : List (List Int)) (l0 l1 : Nat) (f : List Int → Int) (w : World)
    (hseq : ∀ n lo hi w', w.heap.size ≤ lo → lo ≤ hi → hi ≤ w'.heap.size → KeptN lo hi w w' → SeqBoth n Try.prog 102 lb (fun r => #[rateV r]) (KeptN lo hi) xs w')
    (hof : ∀ r ∈ xs, ∀ w', Ext w w' → Calls Try.prog 74 #[rateV r, .pointer (some ⟨l0, 0, none⟩), .pointer (some ⟨l1, 0, none⟩)] w' fun e w'' => e = .returned (.int .i64 (f r)) ∧ Ext w' w'') :
    Calls Try.prog 73 #[.func (.func 102) #[] lb, .func (.func 74) #[] #[.pointer (some ⟨l0, 0, none⟩), .pointer (some ⟨l1, 0, none⟩)]] w fun e w' => e = .returned (.tuple #[spanV (numM f xs).1.1 (numM f xs).1.2, .int .i64 (numM f xs).2]) ∧ Ext w w' := by
  obtain ⟨W, hW⟩ : ∃ W, W = (w.alloc (.cells #[.func (.func 74) #[] #[.pointer (some ⟨l0, 0, none⟩), .pointer (some ⟨l1, 0, none⟩)]] 115)).alloc (.cells #[.int .i64 0, .int .i64 0] 35) := ⟨_, rfl⟩
  have xW : Ext w W := by rw [hW]; exact (ext_alloc _ _).alloc _
  have c0 : W.cell? ⟨w.heap.size, 0, none⟩ = some (.func (.func 74) #[] #[.pointer (some ⟨l0, 0, none⟩), .pointer (some ⟨l1, 0, none⟩)]) := by rw [hW]; simp [go_sem]
  have p0 : W.cell? ⟨w.heap.size + 1, 0, none⟩ = some (.int .i64 0) := by rw [hW]; simp [go_sem]
  have p1 : W.cell? ⟨w.heap.size + 1, 1, none⟩ = some (.int .i64 0) := by rw [hW]; simp [go_sem]
  have fz : ∀ o, W.frozen? ⟨w.heap.size + 1, o, none⟩ = false := fun o => by rw [hW]; simp [go_sem]
  have hov := overall_any lb xs w.heap.size (fun r => (f r, f r)) W (fun n lo hi w' h1 h2 h3 h4 => hseq n lo hi w' (Nat.le_trans xW.size h1) h2 h3 ((xW.keptN lo hi).trans h4)) (fun r hr w' hx => number1_worth _ l0 l1 r (f r) w' (hx.cell c0) (fun w2 hx2 => hof r hr w2 ((xW.trans hx).trans hx2)))
  have hdef : numM f xs = ovM (xs.map fun r => (f r, f r)) := rfl
  rw [hdef]
  clear hdef
  obtain ⟨st, hst⟩ : ∃ st, ovM (xs.map fun r => (f r, f r)) = st := ⟨_, rfl⟩
  rw [hst] at hov ⊢
  obtain ⟨⟨al, ah⟩, ae⟩ := st
  unfold spanV at hov ⊢
  simp only at hov ⊢
  have HW := Lib.hid hW
  clear hst hW hseq hof
  go_enter Try.func73, Try.ntmps73
  go_wp2_with fail
  rw [← HW.out]
  refine hov.mono ?_
  rintro e w1 ⟨rfl, hx1⟩
  have x1 : Ext w w1 := xW.trans hx1
  have zB : w.heap.size + 1 < W.heap.size := cell_lt p0
  replace fz : ∀ o, w1.frozen? ⟨w.heap.size + 1, o, none⟩ = false := fun o => by rw [hx1.frozen zB]; exact fz o
  replace p0 := hx1.cell p0
  replace p1 := hx1.cell p1
  have s0 := set_other (set_cell p0 (.int .i64 al)) (p := ⟨w.heap.size + 1, 1, none⟩) (.inr (by simp)) (.int .i64 ah)
  have s1 := set_cell (set_other p1 (p := ⟨w.heap.size + 1, 0, none⟩) (.inr (by simp)) (.int .i64 al)) (.int .i64 ah)
  have xS : Ext w ((w1.setCell ⟨w.heap.size + 1, 0, none⟩ (.int .i64 al)).setCell ⟨w.heap.size + 1, 1, none⟩ (.int .i64 ah)) := (x1.setCell (by simp) _).setCell (by simp) _
  have HS := Lib.hid xS
  clear hx1 hov xS x1 c0
  go_wp2
  refine bodyPost_ret (v := .tuple #[.agg #[.int .i64 al, .int .i64 ah], .int .i64 ae]) (by simp [results, Try.results73, go_sem, s0, s1]) rfl ⟨rfl, HS.out⟩
end Go.Proofs.Ytdadffmagfknoaa

namespace Go.Proofs.Ytdadffmagfknoaa
set_option linter.unusedSimpArgs false
set_option linter.unusedVariables false
open Go.RowKit
set_option linter.unusedVariables false
set_option maxRecDepth 100000

/-- a house that is looked at, in a box -/
def HouseBox (w : World) (kb : Nat) (h : House) : Prop := ∃ (ra aa ea : Option Addr) (rc ac ec Bm : Nat), BoxIs w kb [.int .i64 h.days, .slice ra h.rates.length rc, .int .i64 h.step, .slice aa h.agents.length ac, .slice ea h.entries.length ec, .map (some Bm)] ∧ LookAt w (houseV h ra aa ea rc ac ec (.map (some Bm))) h
theorem HouseBox.ext {w w' : World} {kb : Nat} {h : House} (hh : HouseBox w kb h) (hx : Ext w w') : HouseBox w' kb h := by
  obtain ⟨ra, aa, ea, rc, ac, ec, Bm, h1, h2⟩ := hh
  exact ⟨ra, aa, ea, rc, ac, ec, Bm, h1.ext hx, h2.ext hx⟩
theorem getD_cell {r : List Int} {d : Nat} (hd : d < 3) (w : World) (B : Nat) (h0 : w.cell? ⟨B, 0, none⟩ = some (.int .i64 (r.getD 0 0))) (h1 : w.cell? ⟨B, 1, none⟩ = some (.int .i64 (r.getD 1 0))) (h2 : w.cell? ⟨B, 2, none⟩ = some (.int .i64 (r.getD 2 0))) : w.cell? ⟨B, d, none⟩ = some (.int .i64 (r.getD d 0)) := by
  have : d = 0 ∨ d = 1 ∨ d = 2 := by omega
  rcases this with rfl | rfl | rfl
  · exact h0
  · exact h1
  · exact h2
theorem rateOf_any (db : Nat) (d : Nat) (hd : d < 3) (r : List Int) (w : World) (hc : w.cell? ⟨db, 0, none⟩ = some (.int .i64 d)) :
    Calls Try.prog 105 #[rateV r, .pointer (some ⟨db, 0, none⟩)] w fun e w' => e = .returned (.int .i64 (r.getD d 0)) ∧ Ext w w' := by
  have hg := fun w B h0 h1 h2 => getD_cell (r := r) hd w B h0 h1 h2
  obtain ⟨y, hy⟩ : ∃ y, r.getD d 0 = y := ⟨_, rfl⟩
  rw [hy] at hg ⊢
  unfold rateV
  generalize r.getD 0 0 = q0 at *
  generalize r.getD 1 0 = q1 at *
  generalize r.getD 2 0 = q2 at *
  have b0 := hg (w.alloc (.cells #[.int .i64 q0, .int .i64 q1, .int .i64 q2] 94)) w.heap.size (by simp [go_sem]) (by simp [go_sem]) (by simp [go_sem])
  have z0 := cell_lt hc
  have k1 : (d : Int) < 3 := by omega
  clear hy hg
  go_enter Try.func105, Try.ntmps105
  go_wp2
  go_ret
  exact ⟨rfl, (by first | (with_reducible exact Ext.refl _) | (with_reducible assumption) | (show Below _ _ _; go_grown; done))⟩
set_option maxHeartbeats 1000000 in
theorem worthOf_any (fb db : Nat) (d : Nat) (hd : d < 3) (e : Ent) (a : Agt) (hf : 0 ≤ a.fee ∧ a.fee ≤ 20) (hro : 0 ≤ a.round ∧ a.round ≤ 2) (hn : 0 ≤ e.near ∧ e.near ≤ 99) (r : List Int) (hr : 0 ≤ r.getD d 0 ∧ r.getD d 0 ≤ 20) (w : World)
    (hfc : w.cell? ⟨fb, 0, none⟩ = some (.func (.func 72) #[entryV e a] #[])) (hc : w.cell? ⟨db, 0, none⟩ = some (.int .i64 d)) :
    Calls Try.prog 74 #[rateV r, .pointer (some ⟨fb, 0, none⟩), .pointer (some ⟨db, 0, none⟩)] w fun e' w' => e' = .returned (.int .i64 (payM a e.near (r.getD d 0))) ∧ Ext w w' := by
  have hg := fun w B h0 h1 h2 => getD_cell (r := r) hd w B h0 h1 h2
  have hpy := fun w => pays_any e a (r.getD d 0) hf hro hn hr w
  obtain ⟨y, hy⟩ : ∃ y, r.getD d 0 = y := ⟨_, rfl⟩
  rw [hy] at hg hpy ⊢
  unfold rateV
  generalize r.getD 0 0 = q0 at *
  generalize r.getD 1 0 = q1 at *
  generalize r.getD 2 0 = q2 at *
  obtain ⟨W, hW⟩ : ∃ W, W = w.alloc (.cells #[.int .i64 q0, .int .i64 q1, .int .i64 q2] 94) := ⟨_, rfl⟩
  have xW : Ext w W := by rw [hW]; exact ext_alloc _ _
  have b0 := hg W w.heap.size (by rw [hW]; simp [go_sem]) (by rw [hW]; simp [go_sem]) (by rw [hW]; simp [go_sem])
  have hfW := xW.cell hfc
  have hcW := xW.cell hc
  have k1 : (d : Int) < 3 := by omega
  generalize hev : entryV e a = ev at *
  generalize payM a e.near y = p at *
  have HW := Lib.hid hW
  clear hy hg hev hW hr hfc hc
  go_enter Try.func74, Try.ntmps74
  go_wp2_with fail
  rw [← HW.out]
  apply Facts.wp_region [.val (.func (.func 72) #[ev] #[]), .val (.int .i64 d), .val _, .val (.int .i64 y), .val (.int .i64 p), .val _] (by kernel_rfl) (by kernel_rfl) trivial ?main
  case main =>
    iterate 4 (refine ⟨fun w1 hx hh => ?_, ?_⟩; focus (clear hh; (have f0 := hx.cell hfW; have f1 := hx.cell hcW; have f2 := hx.cell b0); go_simp; first | exact ⟨Ext.refl _, rfl⟩ | exact Ext.refl _))
    refine ⟨fun w1 hx hh => ?_, ?_⟩
    · clear hh
      go_simp
      refine (hpy w1).mono ?_
      rintro e w' ⟨rfl, hx2⟩
      exact ⟨_, rfl, hx2, rfl⟩
    iterate 1 (refine ⟨fun w1 hx hh => ?_, ?_⟩; focus (clear hh; skip; go_simp; first | exact ⟨Ext.refl _, rfl⟩ | exact Ext.refl _))
    intro w1 hx1 hh
    clear hh
    go_simp
    go_wp2
    go_ret
    exact ⟨rfl, xW.trans hx1⟩
/-- what an agent has paid for the first entries, and for all -/
def paidTo (h : House) (agent : Int) (r : List Int) : Nat → Int
  | 0 => 0
  | k + 1 => if (entAt h k).agent = agent then paidTo h agent r k + entPay h (entAt h k) (r.getD (entAt h k).day.toNat 0) else paidTo h agent r k
def paidM (h : House) (agent : Int) (r : List Int) : Int := paidTo h agent r h.entries.length
theorem entPay_in {h : House} (hV : ValidH h) {i : Nat} (hi : i < h.entries.length) {x : Int} (hx : 0 ≤ x ∧ x ≤ 20) : 0 ≤ entPay h (entAt h i) x ∧ entPay h (entAt h i) x ≤ 199 := by
  have he := hV.entry _ (entAt_mem hi)
  exact payM_in (hV.agent _ (agtAt_mem he.1.1 he.1.2)).1 ⟨he.2.2.1.1, he.2.2.1.2⟩ hx
theorem RateIn.good {h : House} (hV : ValidH h) {i : Nat} (hi : i < h.entries.length) {r : List Int} (hr : RateIn h i r) : 0 ≤ r.getD (entAt h i).day.toNat 0 ∧ r.getD (entAt h i).day.toNat 0 ≤ 20 := by
  have he := hV.entry _ (entAt_mem hi)
  have hs := hV.span (d := (entAt h i).day.toNat) (by have := hV.many; omega)
  unfold RateIn at hr
  omega
theorem paidTo_in {h : House} (hV : ValidH h) (agent : Int) {r : List Int} (hr : ∀ i, i < h.entries.length → RateIn h i r) : ∀ k, k ≤ h.entries.length → 0 ≤ paidTo h agent r k ∧ paidTo h agent r k ≤ 199 * k
  | 0, _ => by simp [paidTo]
  | k + 1, hk => by
    have ih := paidTo_in hV agent hr k (by omega)
    have h1 := entPay_in hV (i := k) (by omega) ((hr k (by omega)).good hV (by omega))
    simp only [paidTo]
    split <;> omega
set_option maxHeartbeats 2000000 in
theorem paidBy_any (hv : Value) (h : House) (hV : ValidH h) (agent : Int) (r : List Int) (hr : ∀ i, i < h.entries.length → RateIn h i r) (w : World) (hl : LookAt w hv h) :
    Calls Try.prog 78 #[hv, .int .i64 agent, rateV r] w fun e w' => e = .returned (.int .i64 (paidM h agent r)) ∧ Ext w w' := by
  have hl0 := hl
  obtain ⟨ra, rc, aa, ac, ea, ec, Bm, M, rfl, -, -, he, hM, hP⟩ := hl
  have hle := hV.entries
  have hpf := fun i hi w hl => paidFor_any (houseV h ra aa ea rc ac ec (.map (some Bm))) h hV i hi r (hr i hi) w hl
  have hin := paidTo_in hV agent hr
  have hen := fun i hi => entPay_in hV (i := i) hi ((hr i hi).good hV hi)
  obtain ⟨q0, hq0⟩ : ∃ q0, r.getD 0 0 = q0 := ⟨_, rfl⟩
  obtain ⟨q1, hq1⟩ : ∃ q1, r.getD 1 0 = q1 := ⟨_, rfl⟩
  obtain ⟨q2, hq2⟩ : ∃ q2, r.getD 2 0 = q2 := ⟨_, rfl⟩
  have hrv : rateV r = .agg #[.int .i64 q0, .int .i64 q1, .int .i64 q2] := by unfold rateV; rw [hq0, hq1, hq2]
  rw [hrv] at hpf ⊢
  unfold houseV at hpf ⊢
  obtain ⟨W, hW⟩ : ∃ W, W = (w.alloc (.cells #[.int .i64 h.days, .slice ra h.rates.length rc, .int .i64 h.step, .slice aa h.agents.length ac, .slice ea h.entries.length ec, .map (some Bm)] 85)).alloc (.cells #[.int .i64 q0, .int .i64 q1, .int .i64 q2] 94) := ⟨_, rfl⟩
  have xW : Ext w W := by rw [hW]; exact (ext_alloc _ _).alloc _
  have hH : BoxIs W w.heap.size [.int .i64 h.days, .slice ra h.rates.length rc, .int .i64 h.step, .slice aa h.agents.length ac, .slice ea h.entries.length ec, .map (some Bm)] := by
    intro j v hj
    rw [hW]
    match j, hj with
    | 0, hj => simp at hj; subst hj; simp [go_sem]
    | 1, hj => simp at hj; subst hj; simp [go_sem]
    | 2, hj => simp at hj; subst hj; simp [go_sem]
    | 3, hj => simp at hj; subst hj; simp [go_sem]
    | 4, hj => simp at hj; subst hj; simp [go_sem]
    | 5, hj => simp at hj; subst hj; simp [go_sem]
  have b0 : W.cell? ⟨w.heap.size + 1, 0, none⟩ = some (.int .i64 q0) := by rw [hW]; simp [go_sem]
  have b1 : W.cell? ⟨w.heap.size + 1, 1, none⟩ = some (.int .i64 q1) := by rw [hW]; simp [go_sem]
  have b2 : W.cell? ⟨w.heap.size + 1, 2, none⟩ = some (.int .i64 q2) := by rw [hW]; simp [go_sem]
  have d4 := hH 4 _ rfl
  have HW := Lib.hid hW
  have Hin := Lib.hid hin
  have Hen := Lib.hid hen
  clear hq0 hq1 hq2 hrv hW hM hP hin hen hr
  go_enter Try.func78, Try.ntmps78
  go_wp2_with fail
  rw [← HW.out]
  go_loopw [7, 14] (fun sv ix wr => ∃ k : Nat, k ≤ h.entries.length ∧ ix = .int .i64 k ∧ sv = .int .i64 (paidTo h agent r k) ∧ Ext W wr) (fun _ ix _ => h.entries.length - (intOf ix).toNat)
  case atStart => exact ⟨0, Nat.zero_le _, rfl, rfl, Ext.refl _⟩
  case round =>
    obtain ⟨k, hk, rfl, rfl, hx⟩ := hrel
    have c0 := hx.cell (hH 0 _ rfl)
    have c1 := hx.cell (hH 1 _ rfl)
    have c2 := hx.cell (hH 2 _ rfl)
    have c3 := hx.cell (hH 3 _ rfl)
    have c4 := hx.cell (hH 4 _ rfl)
    have c5 := hx.cell (hH 5 _ rfl)
    have p0 := hx.cell b0
    have p1 := hx.cell b1
    have p2 := hx.cell b2
    have zz := cell_lt c0
    have zz1 := cell_lt p0
    by_cases hlt : k < h.entries.length
    · obtain ⟨xb, xo, rfl, e0, e1, e2, e3, i0, -⟩ := ((he.ext xW).ext hx).get hlt
      have k1 : (k : Int) < (h.entries.length : Int) := by omega
      have hea : entAt h k = h.entries[k] := entAt_get hlt
      have hst : paidTo h agent r (k + 1) = if (entAt h k).agent = agent then paidTo h agent r k + entPay h (entAt h k) (r.getD (entAt h k).day.toNat 0) else paidTo h agent r k := rfl
      have h1 := Hin.out k (by omega)
      have h2 := Hen.out k hlt
      have hpk := hpf k hlt
      have hl2 := (hl0.ext xW).ext hx
      rw [← hea] at e0 e1 e2 e3
      generalize entPay h (entAt h k) (r.getD (entAt h k).day.toNat 0) = pj at *
      generalize entAt h k = x at *
      generalize paidTo h agent r k = sk at *
      have ws : IntKind.i64.wrap (sk + pj) = sk + pj := IntWalk.i64_in _ (by omega)
      have Hst := Lib.hid hst
      clear hst h1 h2 hea hpf
      by_cases hag : x.agent = agent
      · have kag : (x.agent == agent) = true := by simpa using hag
        have Hag := Lib.hid hag
        clear hag
        go_wp2_with fail
        refine (hpk _ (hl2.ext (ext_alloc _ _))).mono ?_
        rintro e w5 ⟨rfl, hx5⟩
        have x5 := hx.trans hx5.of_alloc
        go_wp2
        go_roundw
        case rel => exact ⟨k + 1, by omega, by go_num, by rw [Hst.out, if_pos Hag.out], x5⟩
        case measure => simp [intOf]; omega
      · have kag : (x.agent == agent) = false := by simpa using hag
        have Hag := Lib.hid hag
        clear hag
        go_wp2
        go_roundw
        case rel => exact ⟨k + 1, by omega, by go_num, by rw [Hst.out, if_neg Hag.out], hx.alloc _⟩
        case measure => simp [intOf]; omega
    · have hke : k = h.entries.length := by omega
      subst hke
      go_wp2
      go_ret
      exact ⟨rfl, xW.trans hx⟩
set_option maxHeartbeats 1000000 in
theorem paidOf_any (kb ab : Nat) (h : House) (hV : ValidH h) (agent : Int) (r : List Int) (hr : ∀ i, i < h.entries.length → RateIn h i r) (w : World) (hb : HouseBox w kb h) (hc : w.cell? ⟨ab, 0, none⟩ = some (.int .i64 agent)) :
    Calls Try.prog 77 #[rateV r, .pointer (some ⟨kb, 0, none⟩), .pointer (some ⟨ab, 0, none⟩)] w fun e w' => e = .returned (.int .i64 (paidM h agent r)) ∧ Ext w w' := by
  obtain ⟨ra, aa, ea, rc, ac, ec, Bm, hB, hL⟩ := hb
  have hpb := fun w hl => paidBy_any (houseV h ra aa ea rc ac ec (.map (some Bm))) h hV agent r hr w hl
  have c0 := hB 0 _ rfl
  have c1 := hB 1 _ rfl
  have c2 := hB 2 _ rfl
  have c3 := hB 3 _ rfl
  have c4 := hB 4 _ rfl
  have c5 := hB 5 _ rfl
  have z0 := cell_lt c0
  have z1 := cell_lt hc
  have HL := Lib.hid hL
  generalize paidM h agent r = p at *
  obtain ⟨q0, hq0⟩ : ∃ q0, r.getD 0 0 = q0 := ⟨_, rfl⟩
  obtain ⟨q1, hq1⟩ : ∃ q1, r.getD 1 0 = q1 := ⟨_, rfl⟩
  obtain ⟨q2, hq2⟩ : ∃ q2, r.getD 2 0 = q2 := ⟨_, rfl⟩
  have hrv : rateV r = .agg #[.int .i64 q0, .int .i64 q1, .int .i64 q2] := by unfold rateV; rw [hq0, hq1, hq2]
  rw [hrv] at hpb ⊢
  unfold houseV at hpb
  clear hq0 hq1 hq2 hrv hr hL
  go_enter Try.func77, Try.ntmps77
  go_wp2_with fail
  refine (hpb _ (HL.out.ext (ext_alloc _ _))).mono ?_
  rintro e w1 ⟨rfl, hx1⟩
  go_wp2
  go_ret
  exact ⟨rfl, hx1.of_alloc⟩
set_option maxHeartbeats 1000000 in
theorem agreeOf_any (kb ib : Nat) (h : House) (hV : ValidH h) (i : Nat) (hi : i < h.entries.length) (r : List Int) (hr : RateIn h i r) (w : World) (hb : HouseBox w kb h) (hc : w.cell? ⟨ib, 0, none⟩ = some (.int .i64 i)) :
    Calls Try.prog 82 #[rateV r, .pointer (some ⟨kb, 0, none⟩), .pointer (some ⟨ib, 0, none⟩)] w fun e w' => e = .returned (.bool (agreesM h (entAt h i) r)) ∧ Ext w w' := by
  obtain ⟨ra, aa, ea, rc, ac, ec, Bm, hB, hL⟩ := hb
  have hpb := fun w hl => agrees_any (houseV h ra aa ea rc ac ec (.map (some Bm))) h hV i hi r hr w hl
  have c0 := hB 0 _ rfl
  have c1 := hB 1 _ rfl
  have c2 := hB 2 _ rfl
  have c3 := hB 3 _ rfl
  have c4 := hB 4 _ rfl
  have c5 := hB 5 _ rfl
  have z0 := cell_lt c0
  have z1 := cell_lt hc
  have HL := Lib.hid hL
  generalize agreesM h (entAt h i) r = p at *
  obtain ⟨q0, hq0⟩ : ∃ q0, r.getD 0 0 = q0 := ⟨_, rfl⟩
  obtain ⟨q1, hq1⟩ : ∃ q1, r.getD 1 0 = q1 := ⟨_, rfl⟩
  obtain ⟨q2, hq2⟩ : ∃ q2, r.getD 2 0 = q2 := ⟨_, rfl⟩
  have hrv : rateV r = .agg #[.int .i64 q0, .int .i64 q1, .int .i64 q2] := by unfold rateV; rw [hq0, hq1, hq2]
  rw [hrv] at hpb ⊢
  unfold houseV at hpb
  clear hq0 hq1 hq2 hrv hr hL
  go_enter Try.func82, Try.ntmps82
  go_wp2_with fail
  refine (hpb _ (HL.out.ext (ext_alloc _ _))).mono ?_
  rintro e w1 ⟨rfl, hx1⟩
  go_wp2
  go_ret
  exact ⟨rfl, hx1.of_alloc⟩
end Go.Proofs.Ytdadffmagfknoaa

namespace Go.Proofs.Ytdadffmagfknoaa
set_option linter.unusedSimpArgs false
set_option linter.unusedVariables false
open Go.RowKit
set_option linter.unusedVariables false
set_option maxRecDepth 100000
attribute [local go_sem] Oper.semAt_some
def howM (y n : Nat) : Int × Int := if n = 0 then (0, 8) else if y = 0 then (2, 0) else if y = n then (1, 0) else (0, 0)
theorem tallyHow_any (y n : Nat) (w : World) : Calls Try.prog 111 #[.agg #[.int .i64 n, .int .i64 y]] w fun e w' => e = .returned (.tuple #[.int .i64 (howM y n).1, .int .i64 (howM y n).2]) ∧ Ext w w' := by
  unfold howM
  by_cases h0 : n = 0
  · subst h0
    rw [if_pos rfl]
    go_enter Try.func111, Try.ntmps111
    go_wp2
    go_ret2
    exact ⟨rfl, (by first | (with_reducible exact Ext.refl _) | (with_reducible assumption) | (show Below _ _ _; go_grown; done))⟩
  · have k0 : ((n : Int) == 0) = false := by simp; exact h0
    rw [if_neg h0]
    clear h0
    by_cases h1 : y = 0
    · subst h1
      rw [if_pos rfl]
      go_enter Try.func111, Try.ntmps111
      go_wp2
      go_ret2
      exact ⟨rfl, (by first | (with_reducible exact Ext.refl _) | (with_reducible assumption) | (show Below _ _ _; go_grown; done))⟩
    · have k1 : ((y : Int) == 0) = false := by simp; exact h1
      rw [if_neg h1]
      clear h1
      by_cases h2 : y = n
      · subst h2
        rw [if_pos rfl]
        go_enter Try.func111, Try.ntmps111
        go_wp2
        go_ret2
        exact ⟨rfl, (by first | (with_reducible exact Ext.refl _) | (with_reducible assumption) | (show Below _ _ _; go_grown; done))⟩
      · have k2 : ((y : Int) == (n : Int)) = false := by simp; omega
        rw [if_neg h2]
        clear h2
        go_enter Try.func111, Try.ntmps111
        go_wp2
        go_ret2
        exact ⟨rfl, (by first | (with_reducible exact Ext.refl _) | (with_reducible assumption) | (show Below _ _ _; go_grown; done))⟩
def tallied (w : World) (tb y n : Nat) : Bool → World
  | true => (w.setCell ⟨tb, 0, none⟩ (.int .i64 ((n : Int) + 1))).setCell ⟨tb, 1, none⟩ (.int .i64 ((y : Int) + 1))
  | false => w.setCell ⟨tb, 0, none⟩ (.int .i64 ((n : Int) + 1))
theorem tallyAdd_any (tb y n : Nat) (b : Bool) (hy : y ≤ n) (hn : n < 2 ^ 32) (w : World) (c0 : w.cell? ⟨tb, 0, none⟩ = some (.int .i64 n)) (c1 : w.cell? ⟨tb, 1, none⟩ = some (.int .i64 y)) (hf : ∀ o, w.frozen? ⟨tb, o, none⟩ = false) :
    Calls Try.prog 110 #[.pointer (some ⟨tb, 0, none⟩), .bool b] w fun e w' => e = .returned (.tuple #[]) ∧ w' = tallied w tb y n b := by
  have w0 : IntKind.i64.wrap ((n : Int) + 1) = (n : Int) + 1 := IntWalk.i64_in _ (by omega)
  have w1 : IntKind.i64.wrap ((y : Int) + 1) = (y : Int) + 1 := IntWalk.i64_in _ (by omega)
  have z0 := cell_lt c0
  have hf0 := hf 0
  have hf1 := hf 1
  cases b
  · go_enter Try.func110, Try.ntmps110
    go_wp2
    refine bodyPost_end (v := .tuple #[]) (by simp [results, Try.results110]) rfl ⟨rfl, rfl⟩
  · go_enter Try.func110, Try.ntmps110
    go_wp2
    refine bodyPost_end (v := .tuple #[]) (by simp [results, Try.results110]) rfl ⟨rfl, rfl⟩
/-- what the loop of How holds between two rounds -/
structure TlI (w0 : World) (ob tb : Nat) (ofv : Value) (y n : Nat) (W : World) : Prop where
  many : W.cell? ⟨tb, 0, none⟩ = some (.int .i64 n)
  so : W.cell? ⟨tb, 1, none⟩ = some (.int .i64 y)
  free : ∀ o, W.frozen? ⟨tb, o, none⟩ = false
  fn : W.cell? ⟨ob, 0, none⟩ = some ofv
  ext : Below tb w0 W
theorem TlI.later {w0 : World} {ob tb B : Nat} {ofv : Value} {y n : Nat} {A W : World} (h : TlI w0 ob tb ofv y n A) (hx : Below B A W) (h1 : ob < B) (h2 : tb < B) : TlI w0 ob tb ofv y n W :=
  ⟨(hx.cell (p := ⟨tb, 0, none⟩) h2).trans h.many, (hx.cell (p := ⟨tb, 1, none⟩) h2).trans h.so, fun o => (hx.frozen (p := ⟨tb, o, none⟩) h2).trans (h.free o), (hx.cell (p := ⟨ob, 0, none⟩) h1).trans h.fn, h.ext.trans (hx.mono (Nat.le_of_lt h2))⟩
theorem TlI.add {w0 : World} {ob tb : Nat} {ofv : Value} {y n : Nat} {W : World} (h : TlI w0 ob tb ofv y n W) (h1 : ob < tb) (b : Bool) : TlI w0 ob tb ofv (if b then y + 1 else y) (n + 1) (tallied W tb y n b) := by
  have e1 : ((n : Int) + 1) = ((n + 1 : Nat) : Int) := by omega
  have e2 : ((y : Int) + 1) = ((y + 1 : Nat) : Int) := by omega
  cases b
  · unfold tallied
    rw [e1]
    exact ⟨set_cell h.many _, set_other h.so (.inr (by simp)) _, fun o => by simpa [go_sem] using h.free o, set_other h.fn (.inl (by simp; omega)) _, h.ext.setCell (p := ⟨tb, 0, none⟩) (Nat.le_refl _) _⟩
  · unfold tallied
    rw [e1, e2]
    exact ⟨set_other (set_cell h.many _) (.inr (by simp)) _, set_cell (set_other h.so (.inr (by simp)) _) _, fun o => by simpa [go_sem] using h.free o, set_other (set_other h.fn (.inl (by simp; omega)) _) (.inl (by simp; omega)) _, (h.ext.setCell (p := ⟨tb, 0, none⟩) (Nat.le_refl _) _).setCell (p := ⟨tb, 1, none⟩) (Nat.le_refl _) _⟩
theorem tallied_keepsFrom (B : Nat) (w : World) (tb y n : Nat) (b : Bool) : KeepsFrom B w (tallied w tb y n b) := by
  cases b
  · exact (KeepsOthers.setCell _ _ _).from _
  · exact ((KeepsOthers.setCell _ _ _).trans (KeepsOthers.setCell _ _ _)).from _
theorem tallied_keptN {lo hi : Nat} {a w : World} (h : KeptN lo hi a w) (tb y n : Nat) (h1 : lo ≤ tb) (h2 : tb < hi) (b : Bool) : KeptN lo hi a (tallied w tb y n b) := by
  cases b
  · exact h.setIn (by simpa using h1) (by simpa using h2) _
  · exact (h.setIn (by simpa using h1) (by simpa using h2) _).setIn (by simpa using h1) (by simpa using h2) _
set_option maxHeartbeats 2000000 in
theorem how_any (lb : Array Value) (xs : List (List Int)) (hxs : xs.length < 2 ^ 31) (kb ib : Nat) (f : List Int → Bool) (w : World)
    (hseq : ∀ n lo hi w', w.heap.size ≤ lo → lo ≤ hi → hi ≤ w'.heap.size → KeptN lo hi w w' → SeqBoth n Try.prog 102 lb (fun r => #[rateV r]) (KeptN lo hi) xs w')
    (hof : ∀ r ∈ xs, ∀ w', Ext w w' → Calls Try.prog 82 #[rateV r, .pointer (some ⟨kb, 0, none⟩), .pointer (some ⟨ib, 0, none⟩)] w' fun e w'' => e = .returned (.bool (f r)) ∧ Ext w' w'') :
    Calls Try.prog 80 #[.func (.func 102) #[] lb, .func (.func 82) #[] #[.pointer (some ⟨kb, 0, none⟩), .pointer (some ⟨ib, 0, none⟩)]] w fun e w' => e = .returned (.tuple #[.int .i64 (howM (xs.countP f) xs.length).1, .int .i64 (howM (xs.countP f) xs.length).2]) ∧ Ext w w' := by
  refine (callsIn_wide (n := 4)).1 (callsIn_of_wp_marks Try.func80 rfl trivial ?_ rfl)
  simp only [Try.ntmps80, List.size_toArray, List.length_cons, List.length_nil, Nat.reduceAdd, Nat.reduceSub, Array.replicate_succ, Array.replicate_zero, List.push_toArray, List.append_toArray, List.nil_append, List.cons_append]
  refine wpIn_wide.2 ?_
  go_wp2
  obtain ⟨W0, hW0⟩ : ∃ W0, W0 = ((w.alloc (.cells #[.func (.func 82) #[] #[.pointer (some ⟨kb, 0, none⟩), .pointer (some ⟨ib, 0, none⟩)]] 123)).alloc (.cells #[.int .i64 0, .int .i64 0] 149)) := ⟨_, rfl⟩
  have x0 : Ext w W0 := by rw [hW0]; exact (ext_alloc _ _).alloc _
  have z0 : W0.heap.size = w.heap.size + 2 := by rw [hW0]; simp
  have c0 : TlI W0 w.heap.size (w.heap.size + 1) (.func (.func 82) #[] #[.pointer (some ⟨kb, 0, none⟩), .pointer (some ⟨ib, 0, none⟩)]) (([] : List (List Int)).countP f) ([] : List (List Int)).length W0 := by
    refine ⟨?_, ?_, fun o => by rw [hW0]; simp [go_sem], by rw [hW0]; simp [go_sem], Below.refl _ _⟩
    · rw [hW0]; simp [go_sem]
    · rw [hW0]; simp [go_sem]
  rw [← hW0]
  clear hW0
  have hsq := hseq 3 (w.heap.size + 1) (w.heap.size + 2) W0 (by omega) (by omega) (by omega) (x0.keptN _ _)
  refine (wpIn_wide (n := 4)).1 ?_
  refine wpIn_seqOnly (by omega) rfl (enters_of Try.func102 (by kernel_rfl) rfl) hsq (fun h k => KeptN.trans h k) ?kb (Below.refl _ _) (fun _ => rfl)
    (fun pre W => TlI W0 w.heap.size (w.heap.size + 1) (.func (.func 82) #[] #[.pointer (some ⟨kb, 0, none⟩), .pointer (some ⟨ib, 0, none⟩)]) (pre.countP f) pre.length W) ?hI c0
    (fun r a' W => ∃ tb, w.heap.size + 2 ≤ tb ∧ a' = { tmps := #[.func (.func 102) #[] lb, .func (.func 82) #[] #[.pointer (some ⟨kb, 0, none⟩), .pointer (some ⟨ib, 0, none⟩)], undef, .pointer (some ⟨w.heap.size, 0, none⟩), .int .i64 0, .int .i64 0, .pointer (some ⟨w.heap.size + 1, 0, none⟩), .pointer (some ⟨tb, 0, none⟩), .func (.func 102) #[] lb, rateV r, undef, undef, undef, undef, undef, undef, undef, undef], defers := [] } ∧ RBox W tb (fun j => r.getD j 0)) ?hAx ?assign ?body ?done
  case kb => exact fun W l o o' hl h hc _ hm => KeptN.putObj h hc hm (by omega)
  case hI => exact fun s A B hx h => h.later hx (by omega) (by omega)
  case hAx =>
    rintro x a' A l o' hl ⟨o, ho, hc⟩ ⟨tb, h1, h2, h3⟩
    exact ⟨tb, h1, h2, fun j v hj => (KeptO.putObj (lo := l) (hi := l) ho hc).cell (by omega) (h3 j v hj)⟩
  case assign =>
    intro l pre x W K hI hK
    have hz := hI.ext.size
    obtain ⟨q0, hq0⟩ : ∃ q0, x.getD 0 0 = q0 := ⟨_, rfl⟩
    obtain ⟨q1, hq1⟩ : ∃ q1, x.getD 1 0 = q1 := ⟨_, rfl⟩
    obtain ⟨q2, hq2⟩ : ∃ q2, x.getD 2 0 = q2 := ⟨_, rfl⟩
    have hrv : rateV x = .agg #[.int .i64 q0, .int .i64 q1, .int .i64 q2] := by unfold rateV; rw [hq0, hq1, hq2]
    rw [hrv]
    gi_wp2
    refine hK _ _ ((KeepsOthers.alloc _ _).from _) ((ext_alloc _ _).keptN _ _) (hI.later ((ext_alloc _ _).below) (by omega) (by omega)) ⟨W.heap.size, by omega, by rw [hrv], ?_⟩
    intro j v hj
    match j, hj with
    | 0, hj => simp only [List.getElem?_cons_zero, Option.some.injEq, hq0] at hj; subst hj; simp [go_sem]
    | 1, hj => simp only [List.getElem?_cons_succ, List.getElem?_cons_zero, Option.some.injEq, hq1] at hj; subst hj; simp [go_sem]
    | 2, hj => simp only [List.getElem?_cons_succ, List.getElem?_cons_zero, Option.some.injEq, hq2] at hj; subst hj; simp [go_sem]
  case body =>
    rintro l pre x a' W hI ⟨tb, htb, rfl, htc⟩ hpre
    have hz := hI.ext.size
    have hmem : x ∈ xs := hpre.subset (by simp)
    have hlen : pre.length < xs.length := by have := hpre.length_le; simp at this; omega
    have hcn : pre.countP f ≤ pre.length := List.countP_le_length
    have hnext : (pre ++ [x]).countP f = if f x then pre.countP f + 1 else pre.countP f := by
      rw [List.countP_append, List.countP_singleton]
      split <;> simp
    have hofx := hof x hmem
    generalize f x = fx at *
    have hlen2 : (pre ++ [x]).length = pre.length + 1 := by simp
    generalize pre.countP f = y at *
    generalize pre.length = n at *
    have Hnext := Lib.hid hnext
    have Hlen2 := Lib.hid hlen2
    have hIk := hI
    obtain ⟨h1, h2, h3, h4, h5⟩ := hI
    have xW : Ext w W := ⟨h5.os.trans x0.os, h5.tape.trans x0.tape, h5.output.trans x0.output, by omega, fun k hk => (h5.block k (by omega)).trans (x0.block k hk)⟩
    obtain ⟨q0, hq0⟩ : ∃ q0, x.getD 0 0 = q0 := ⟨_, rfl⟩
    obtain ⟨q1, hq1⟩ : ∃ q1, x.getD 1 0 = q1 := ⟨_, rfl⟩
    obtain ⟨q2, hq2⟩ : ∃ q2, x.getD 2 0 = q2 := ⟨_, rfl⟩
    have hrv : rateV x = .agg #[.int .i64 q0, .int .i64 q1, .int .i64 q2] := by unfold rateV; rw [hq0, hq1, hq2]
    have t0 : W.cell? ⟨tb, 0, none⟩ = some (.int .i64 q0) := by rw [← hq0]; exact htc 0 _ rfl
    have t1 : W.cell? ⟨tb, 1, none⟩ = some (.int .i64 q1) := by rw [← hq1]; exact htc 1 _ rfl
    have t2 : W.cell? ⟨tb, 2, none⟩ = some (.int .i64 q2) := by rw [← hq2]; exact htc 2 _ rfl
    rw [hrv] at hofx ⊢
    have hcall := hofx W xW
    clear hnext hlen2 h1 h2 h3 hseq hsq c0 hofx hq0 hq1 hq2 hrv htc hpre
    gi_wp2_with fail
    refine ⟨trivial, ?_⟩
    refine (CallsIn.inRound l (callsIn_wide.2 hcall)).mono ?_
    rintro e w1 ⟨rfl, hx1⟩
    have hI1 := hIk.later (B := w.heap.size + 2) (hx1.below.mono (by omega)) (by omega) (by omega)
    have hadd := tallyAdd_any (w.heap.size + 1) y n fx hcn (by omega) w1 hI1.many hI1.so hI1.free
    gi_wp2_with fail
    refine ⟨trivial, ?_⟩
    refine (CallsIn.inRound l (callsIn_wide.2 hadd)).mono ?_
    rintro e w2 ⟨rfl, rfl⟩
    have K1 := (hx1.keepsFrom W0.heap.size).trans (tallied_keepsFrom W0.heap.size w1 (w.heap.size + 1) y n fx)
    have K2 := tallied_keptN (hx1.keptN (w.heap.size + 1) (w.heap.size + 2)) (w.heap.size + 1) y n (by omega) (by omega) fx
    have K3 := hI1.add (by omega) fx
    generalize tallied w1 (w.heap.size + 1) y n fx = w2 at *
    gi_wp2
    exact ⟨K1, K2, by show TlI _ _ _ _ ((pre ++ [x]).countP f) (pre ++ [x]).length _; rw [Hnext.out, Hlen2.out]; exact K3⟩
  case done =>
    intro D W hD hI hDm
    have hz := hI.ext.size
    have hhow := fun w => tallyHow_any (xs.countP f) xs.length w
    obtain ⟨hm, hhm⟩ : ∃ hm, howM (xs.countP f) xs.length = hm := ⟨_, rfl⟩
    rw [hhm] at hhow
    have Hhm := Lib.hid hhm
    clear hhm
    generalize xs.countP f = y at hhow hI
    generalize xs.length = n at hhow hI
    obtain ⟨g0, g1, h3, h4, h5⟩ := hI
    have xW : Ext w W := ⟨h5.os.trans x0.os, h5.tape.trans x0.tape, h5.output.trans x0.output, by omega, fun k hk => (h5.block k (by omega)).trans (x0.block k hk)⟩
    have H5 := Lib.hid h5
    have HX := Lib.hid xW
    clear hseq hsq c0 h3 h4 h5 hof xW
    go_wp2_with fail
    refine (hhow W).mono ?_
    rintro e w3 ⟨rfl, hx3⟩
    have hDs : w3.heap[D]? = some (.deferred (some [])) := (hx3.below.block D (Array.getElem?_eq_some_iff.1 hDm).1).trans hDm
    have xw3 := HX.out.trans hx3
    have hgr := grownBy_putObj' w3 D (.deferred none)
    have x5 : Ext w (w3.putObj D (.deferred none)) := Ext.grown xw3 hgr (fun r e => by cases e; omega)
    have HD := Lib.hid hDs
    have HX5 := Lib.hid x5
    clear hDs hgr x5 xw3 hhow HX hx3
    go_wp2
    refine ⟨by simp, .inl ⟨D, _, rfl, run_takeDeferred HD.out, ?_⟩⟩
    exact ⟨.tuple #[.int .i64 hm.1, .int .i64 hm.2], by simp [results, Try.results80, go_sem], by rw [Hhm.out], HX5.out⟩
end Go.Proofs.Ytdadffmagfknoaa

namespace Go.Proofs.Ytdadffmagfknoaa
set_option linter.unusedSimpArgs false
set_option linter.unusedVariables false
open Go.RowKit
set_option linter.unusedVariables false
set_option maxRecDepth 100000
attribute [local go_sem] Oper.semAt_some
/-- what is so behind a round that returned -/
structure FsX (w0 : World) (rb : Nat) (x : List Int) (W : World) : Prop where
  box : RBox W rb (fun j => x.getD j 0)
  ext : Below rb w0 W
theorem FsX.later {w0 : World} {rb B : Nat} {x : List Int} {A W : World} (h : FsX w0 rb x A) (hx : Below B A W) (h1 : rb < B) : FsX w0 rb x W :=
  ⟨fun j v hj => (hx.cell (p := ⟨rb, j, none⟩) h1).trans (h.box j v hj), h.ext.trans (hx.mono (Nat.le_of_lt h1))⟩
theorem set3_box {W : World} {rb : Nat} {a b c x y z : Value} (h : BoxIs W rb [a, b, c]) : BoxIs (((W.setCell ⟨rb, 0, none⟩ x).setCell ⟨rb, 1, none⟩ y).setCell ⟨rb, 2, none⟩ z) rb [x, y, z] := by
  have h1 := h.set 0 (by simp) x
  have h2 := h1.set 1 (by simp) y
  have h3 := h2.set 2 (by simp) z
  simpa using h3
theorem set3_below {W : World} (rb : Nat) (x y z : Value) : Below rb W (((W.setCell ⟨rb, 0, none⟩ x).setCell ⟨rb, 1, none⟩ y).setCell ⟨rb, 2, none⟩ z) :=
  (((Below.refl rb W).setCell (p := ⟨rb, 0, none⟩) (Nat.le_refl _) _).setCell (p := ⟨rb, 1, none⟩) (Nat.le_refl _) _).setCell (p := ⟨rb, 2, none⟩) (Nat.le_refl _) _
theorem set3_from {W : World} (B rb : Nat) (x y z : Value) : KeepsFrom B W (((W.setCell ⟨rb, 0, none⟩ x).setCell ⟨rb, 1, none⟩ y).setCell ⟨rb, 2, none⟩ z) :=
  (((KeepsOthers.setCell _ _ _).trans (KeepsOthers.setCell _ _ _)).trans (KeepsOthers.setCell _ _ _)).from _
theorem set3_heap {W : World} {D rb : Nat} (x y z : Value) (h : D ≠ rb) : (((W.setCell ⟨rb, 0, none⟩ x).setCell ⟨rb, 1, none⟩ y).setCell ⟨rb, 2, none⟩ z).heap[D]? = W.heap[D]? := by
  rw [Below.heap_setCell _ _ _ _ (by simpa using h), Below.heap_setCell _ _ _ _ (by simpa using h), Below.heap_setCell _ _ _ _ (by simpa using h)]
theorem BoxIs.done {W : World} {D rb : Nat} {l : List Value} (hD : W.heap[D]? = some (.deferred (some []))) (h : BoxIs W rb l) : BoxIs (W.putObj D (.deferred none)) rb l :=
  fun j v hj => cell_kept (h j v hj) (grownBy_putObj' W D (.deferred none)) (fun r e => by cases e; exact ⟨_, hD, rfl⟩)
set_option maxHeartbeats 2000000 in
theorem rfirst_any (hv : Value) (h : House) (hV : ValidH h) (s : Nat) (hs : s < 32) (w : World) (hl : LookAt w hv h) :
    Calls Try.prog 60 #[hv, .int .i64 s] w fun e w' => e = .returned (rateV ((truL h (outB s)).headD [])) ∧ Ext w w' := by
  have hl0 := hl
  obtain ⟨ra, rc, aa, ac, ea, ec, Bm, M, rfl, -, -, -, -, -⟩ := hl
  have htr := fun w hl => truths_any (houseV h ra aa ea rc ac ec (.map (some Bm))) h hV s hs w hl
  have HL := Lib.hid hl0
  clear hl0
  unfold houseV at htr ⊢
  refine (callsIn_wide (n := 4)).1 (callsIn_of_wp_marks Try.func60 rfl trivial ?_ rfl)
  simp only [Try.ntmps60, List.size_toArray, List.length_cons, List.length_nil, Nat.reduceAdd, Nat.reduceSub, Array.replicate_succ, Array.replicate_zero, List.push_toArray, List.append_toArray, List.nil_append, List.cons_append]
  refine wpIn_wide.2 ?_
  go_wp2_with fail
  refine (htr _ (HL.out.ext ((by first | (with_reducible exact Ext.refl _) | (with_reducible assumption) | (show Below _ _ _; go_grown; done))))).mono ?_
  rintro e W0 ⟨v, rfl, hT, hx0⟩
  obtain ⟨lb, rfl, hsq0⟩ := hT.seq hV
  have x0 : Ext w W0 := ((ext_alloc _ _).alloc _).trans hx0
  have r0 : W0.cell? ⟨w.heap.size + 1, 0, none⟩ = some (.int .i64 0) := hx0.cell (by simp [go_sem])
  have r1 : W0.cell? ⟨w.heap.size + 1, 1, none⟩ = some (.int .i64 0) := hx0.cell (by simp [go_sem])
  have r2 : W0.cell? ⟨w.heap.size + 1, 2, none⟩ = some (.int .i64 0) := hx0.cell (by simp [go_sem])
  have rf : ∀ o, W0.frozen? ⟨w.heap.size + 1, o, none⟩ = false := fun o => by rw [hx0.frozen (by simp)]; simp [go_sem]
  have zr : w.heap.size + 1 < W0.heap.size := cell_lt r0
  clear hx0 hT htr HL
  go_wp2_with fail
  have hsq := hsq0 3 W0.heap.size W0.heap.size W0 (Nat.le_refl _) (Nat.le_refl _) (Nat.le_refl _) (KeptN.refl _ _ _)
  refine (wpIn_wide (n := 4)).1 ?_
  refine wpIn_seqBoth (by omega) rfl (enters_of Try.func102 (by kernel_rfl) rfl) hsq (fun h k => KeptN.trans h k) ?kb (Below.refl _ _) (fun _ => rfl)
    (fun pre W => pre = [] ∧ Below W0.heap.size W0 W) (fun pre W => ∃ x, pre = [x] ∧ FsX W0 (w.heap.size + 1) x W) ?hI ?hIx ⟨rfl, Below.refl _ _⟩
    (fun r a' W => ∃ tb, W0.heap.size ≤ tb ∧ a' = { tmps := #[.agg #[.int .i64 h.days, .slice ra h.rates.length rc, .int .i64 h.step, .slice aa h.agents.length ac, .slice ea h.entries.length ec, .map (some Bm)], .int .i64 s, .pointer (some ⟨w.heap.size, 0, none⟩), undef, .pointer (some ⟨w.heap.size + 1, 0, none⟩), .pointer (some ⟨tb, 0, none⟩), .agg #[.int .i64 h.days, .slice ra h.rates.length rc, .int .i64 h.step, .slice aa h.agents.length ac, .slice ea h.entries.length ec, .map (some Bm)], .int .i64 s, .func (.func 102) #[] lb, rateV r, undef, undef], defers := [] } ∧ RBox W tb (fun j => r.getD j 0)) ?hAx ?assign ?body ?done ?stop
  case kb => exact fun W l o o' hl h hc _ hm => KeptN.putObj h hc hm (by omega)
  case hI => exact fun s A B hx h => ⟨h.1, h.2.trans hx⟩
  case hIx => exact fun s A B hx ⟨x, h1, h2⟩ => ⟨x, h1, h2.later hx zr⟩
  case hAx =>
    rintro x a' A l o' hl ⟨o, ho, hc⟩ ⟨tb, h1, h2, h3⟩
    exact ⟨tb, h1, h2, fun j v hj => (KeptO.putObj (lo := l) (hi := l) ho hc).cell (by omega) (h3 j v hj)⟩
  case assign =>
    intro l pre x W K hI hK
    have hz := hI.2.size
    obtain ⟨q0, hq0⟩ : ∃ q0, x.getD 0 0 = q0 := ⟨_, rfl⟩
    obtain ⟨q1, hq1⟩ : ∃ q1, x.getD 1 0 = q1 := ⟨_, rfl⟩
    obtain ⟨q2, hq2⟩ : ∃ q2, x.getD 2 0 = q2 := ⟨_, rfl⟩
    have hrv : rateV x = .agg #[.int .i64 q0, .int .i64 q1, .int .i64 q2] := by unfold rateV; rw [hq0, hq1, hq2]
    rw [hrv]
    clear r0 r1 r2 rf hsq hsq0
    gi_wp2
    refine hK _ _ ((KeepsOthers.alloc _ _).from _) ((ext_alloc _ _).keptN _ _) ⟨hI.1, hI.2.trans ((ext_alloc _ _).below.mono (by omega))⟩ ⟨W.heap.size, by omega, by rw [hrv], ?_⟩
    intro j v hj
    match j, hj with
    | 0, hj => simp only [List.getElem?_cons_zero, Option.some.injEq, hq0] at hj; subst hj; simp [go_sem]
    | 1, hj => simp only [List.getElem?_cons_succ, List.getElem?_cons_zero, Option.some.injEq, hq1] at hj; subst hj; simp [go_sem]
    | 2, hj => simp only [List.getElem?_cons_succ, List.getElem?_cons_zero, Option.some.injEq, hq2] at hj; subst hj; simp [go_sem]
  case body =>
    rintro l pre x a' W ⟨rfl, hB⟩ ⟨tb, htb, rfl, htc⟩ hpre
    have hz := hB.size
    obtain ⟨q0, hq0⟩ : ∃ q0, x.getD 0 0 = q0 := ⟨_, rfl⟩
    obtain ⟨q1, hq1⟩ : ∃ q1, x.getD 1 0 = q1 := ⟨_, rfl⟩
    obtain ⟨q2, hq2⟩ : ∃ q2, x.getD 2 0 = q2 := ⟨_, rfl⟩
    have hrv : rateV x = .agg #[.int .i64 q0, .int .i64 q1, .int .i64 q2] := by unfold rateV; rw [hq0, hq1, hq2]
    have t0 : W.cell? ⟨tb, 0, none⟩ = some (.int .i64 q0) := by rw [← hq0]; exact htc 0 _ rfl
    have t1 : W.cell? ⟨tb, 1, none⟩ = some (.int .i64 q1) := by rw [← hq1]; exact htc 1 _ rfl
    have t2 : W.cell? ⟨tb, 2, none⟩ = some (.int .i64 q2) := by rw [← hq2]; exact htc 2 _ rfl
    have s0 : W.cell? ⟨w.heap.size + 1, 0, none⟩ = some (.int .i64 0) := (hB.cell (p := ⟨w.heap.size + 1, 0, none⟩) zr).trans r0
    have s1 : W.cell? ⟨w.heap.size + 1, 1, none⟩ = some (.int .i64 0) := (hB.cell (p := ⟨w.heap.size + 1, 1, none⟩) zr).trans r1
    have s2 : W.cell? ⟨w.heap.size + 1, 2, none⟩ = some (.int .i64 0) := (hB.cell (p := ⟨w.heap.size + 1, 2, none⟩) zr).trans r2
    have sf : ∀ o, W.frozen? ⟨w.heap.size + 1, o, none⟩ = false := fun o => (hB.frozen (p := ⟨w.heap.size + 1, o, none⟩) zr).trans (rf o)
    rw [hrv]
    have zt := cell_lt t0
    have hb : BoxIs W (w.heap.size + 1) [.int .i64 0, .int .i64 0, .int .i64 0] := fun j v hj => by
      match j, hj with
      | 0, hj => simp only [List.getElem?_cons_zero, Option.some.injEq] at hj; subst hj; exact s0
      | 1, hj => simp only [List.getElem?_cons_succ, List.getElem?_cons_zero, Option.some.injEq] at hj; subst hj; exact s1
      | 2, hj => simp only [List.getElem?_cons_succ, List.getElem?_cons_zero, Option.some.injEq] at hj; subst hj; exact s2
    have K1 := set3_from (W := W) W0.heap.size (w.heap.size + 1) (.int .i64 q0) (.int .i64 q1) (.int .i64 q2)
    have K2 : ∃ y, [] ++ [x] = [y] ∧ FsX W0 (w.heap.size + 1) y (((W.setCell ⟨w.heap.size + 1, 0, none⟩ (.int .i64 q0)).setCell ⟨w.heap.size + 1, 1, none⟩ (.int .i64 q1)).setCell ⟨w.heap.size + 1, 2, none⟩ (.int .i64 q2)) :=
      ⟨x, rfl, by unfold RBox; simp only [hq0, hq1, hq2]; exact set3_box hb, (hB.mono (by omega)).trans (set3_below _ _ _ _)⟩
    have HK1 := Lib.hid K1
    have HK2 := Lib.hid K2
    clear r0 r1 r2 rf hsq hsq0 htc hb K1 K2
    gi_wp2
    exact ⟨HK1.out, HK2.out⟩
  case done =>
    rintro D W hD ⟨hI, hB⟩ hDm
    have hz := hB.size
    have s0 : W.cell? ⟨w.heap.size + 1, 0, none⟩ = some (.int .i64 0) := (hB.cell (p := ⟨w.heap.size + 1, 0, none⟩) zr).trans r0
    have s1 : W.cell? ⟨w.heap.size + 1, 1, none⟩ = some (.int .i64 0) := (hB.cell (p := ⟨w.heap.size + 1, 1, none⟩) zr).trans r1
    have s2 : W.cell? ⟨w.heap.size + 1, 2, none⟩ = some (.int .i64 0) := (hB.cell (p := ⟨w.heap.size + 1, 2, none⟩) zr).trans r2
    have sf : ∀ o, W.frozen? ⟨w.heap.size + 1, o, none⟩ = false := fun o => (hB.frozen (p := ⟨w.heap.size + 1, o, none⟩) zr).trans (rf o)
    have hb : BoxIs W (w.heap.size + 1) [.int .i64 0, .int .i64 0, .int .i64 0] := fun j v hj => by
      match j, hj with
      | 0, hj => simp only [List.getElem?_cons_zero, Option.some.injEq] at hj; subst hj; exact s0
      | 1, hj => simp only [List.getElem?_cons_succ, List.getElem?_cons_zero, Option.some.injEq] at hj; subst hj; exact s1
      | 2, hj => simp only [List.getElem?_cons_succ, List.getElem?_cons_zero, Option.some.injEq] at hj; subst hj; exact s2
    obtain ⟨Ws, hWs⟩ : ∃ Ws, (((W.setCell ⟨w.heap.size + 1, 0, none⟩ (.int .i64 0)).setCell ⟨w.heap.size + 1, 1, none⟩ (.int .i64 0)).setCell ⟨w.heap.size + 1, 2, none⟩ (.int .i64 0)) = Ws := ⟨_, rfl⟩
    have hb2 : BoxIs Ws (w.heap.size + 1) [.int .i64 0, .int .i64 0, .int .i64 0] := by rw [← hWs]; exact set3_box hb
    have hDs : Ws.heap[D]? = some (.deferred (some [])) := by rw [← hWs, set3_heap _ _ _ (by omega)]; exact hDm
    have xs5 : Ext w Ws := by rw [← hWs]; exact (((x0.trans ⟨hB.os, hB.tape, hB.output, hB.size, fun k hk => hB.block k hk⟩).setCell (by simp) _).setCell (by simp) _).setCell (by simp) _
    have xF : Ext w (Ws.putObj D (.deferred none)) := Ext.grown xs5 (grownBy_putObj' Ws D (.deferred none)) (fun r e => by cases e; omega)
    have hb3 := hb2.done hDs
    have e0 := hb3 0 _ rfl
    have e1 := hb3 1 _ rfl
    have e2 := hb3 2 _ rfl
    have E0 := Lib.hid e0
    have E1 := Lib.hid e1
    have E2 := Lib.hid e2
    have HD := Lib.hid hDs
    have HX := Lib.hid xF
    have HW := Lib.hid hWs
    have HI := Lib.hid hI
    clear r0 r1 r2 rf hsq hsq0 hb hb2 hDs xs5 xF hb3 e0 e1 e2 hWs hI
    go_wp2
    rw [HW.out]
    refine ⟨by simp, .inl ⟨D, _, rfl, run_takeDeferred HD.out, ?_⟩⟩
    have e0 := E0.out
    have e1 := E1.out
    have e2 := E2.out
    have hx := HX.out
    generalize (Ws.putObj D (.deferred none)) = Wf at *
    refine ⟨rateV [], by simp [results, Try.results60, go_sem, e0, e1, e2, rateV], by rw [HI.out]; rfl, hx⟩
  case stop =>
    rintro D pre W hD hpre ⟨x, rfl, hX⟩ hDm
    have hb := hX.box
    have xw : Ext w W := ⟨hX.ext.os.trans x0.os, hX.ext.tape.trans x0.tape, hX.ext.output.trans x0.output, by have := hX.ext.size; have := x0.size; omega, fun k hk => (hX.ext.block k (by omega)).trans (x0.block k hk)⟩
    have hx : Ext w (W.putObj D (.deferred none)) := Ext.grown xw (grownBy_putObj' W D (.deferred none)) (fun r e => by cases e; omega)
    have hb3 := hb.done hDm
    have e0 := hb3 0 _ rfl
    have e1 := hb3 1 _ rfl
    have e2 := hb3 2 _ rfl
    have hhd : (truL h (outB s)).headD [] = x := by
      obtain ⟨t, ht⟩ := hpre
      rw [← ht]; rfl
    clear r0 r1 r2 rf hsq hsq0 hb3 hb
    refine wpIn_ret ?_
    show (Exit.inBlock 0 _) .ret _ _
    refine ⟨by simp, .inl ⟨D, _, rfl, run_takeDeferred hDm, ?_⟩⟩
    generalize (W.putObj D (.deferred none)) = Wf at *
    refine ⟨rateV x, by simp [results, Try.results60, go_sem, e0, e1, e2, rateV], by rw [hhd], hx⟩
end Go.Proofs.Ytdadffmagfknoaa

namespace Go.Proofs.Ytdadffmagfknoaa
set_option linter.unusedSimpArgs false
set_option linter.unusedVariables false
open Go.RowKit
set_option linter.unusedVariables false

def RowAtC (w : World) (g n : Nat) (f : Nat → Value) : Prop := ∀ d, d < n → w.cell? ⟨g, d, none⟩ = some (f d) ∧ w.frozen? ⟨g, d, none⟩ = false
theorem make_rowC {t e : TypeId} {z : Value} {bytes : Nat} (ht : Try.prog.underlying t = some (.slice e)) (hinfo : (Try.prog.info? e).map (fun i => (i.zero, i.size, i.bytes)) = some (some z, 1, bytes)) (hz : z.cells = #[z]) (hb : bytes ≤ 24) (w : World) (n : Nat) (hn : n ≤ 1000) :
    ∃ w', (Instr.makeSlice t (.int .i64 (n : Int)) (.int .i64 (n : Int))).run Try.prog w = .ok (.slice (some ⟨w.heap.size, 0, none⟩) n n) w' ∧ RowAtC w' w.heap.size n (fun _ => z) ∧ Ext w w' ∧ w'.heap.size = w.heap.size + 1 := by
  obtain ⟨i0, hi, hz0, hz1, hz2⟩ := info_parts hinfo
  have hr := run_make (P := Try.prog) w t e i0 z ht hi hz0 .i64 .i64 n n (by omega) (Int.le_refl _) (by
    have : i0.bytes * n ≤ 24 * 1000 := Nat.mul_le_mul (by omega) hn
    have h2 : ((i0.bytes * n : Nat) : Int) ≤ 24 * 1000 := by omega
    rw [Int.natCast_mul] at h2
    omega) (by omega)
  refine ⟨_, hr, ?_, ext_alloc _ _, by simp⟩
  intro d hd
  have hsz : (madeCells z.cells ((n : Int).toNat * i0.size)).toList = List.replicate n z := by
    rw [hz, hz1, Nat.mul_one, Int.toNat_natCast]; exact toList_madeCells_one _ _
  refine ⟨?_, frozen_of_row _ _ _ _ e (heap_alloc_new w _)⟩
  have : (madeCells z.cells ((n : Int).toNat * i0.size))[d]? = some z := by
    rw [← Array.getElem?_toList, hsz, List.getElem?_replicate, if_pos hd]
  simpa [go_sem] using this
theorem setCells_belowC (g : Nat) : ∀ (vs : List Value) (o : Nat) (w : World), Below g w (w.setCells g o vs)
  | [], _, w => Below.refl _ _
  | v :: r, o, w => by
    rw [World.setCells]
    exact ((Below.refl g w).setCell (p := ⟨g, o, none⟩) (Nat.le_refl _) v).trans (setCells_belowC g r (o + 1) _)
theorem setCells_sizeC (g : Nat) : ∀ (vs : List Value) (o : Nat) (w : World), (w.setCells g o vs).heap.size = w.heap.size
  | [], _, w => rfl
  | v :: r, o, w => by rw [World.setCells, setCells_sizeC g r]; simp [World.setCell]
end Go.Proofs.Ytdadffmagfknoaa

namespace Go.Proofs.Ytdadffmagfknoaa
set_option linter.unusedSimpArgs false
set_option linter.unusedVariables false
open Go.RowKit
set_option linter.unusedVariables false
set_option maxRecDepth 100000
set_option maxHeartbeats 1000000 in
theorem eq_rates (a b c a' b' c' : Int) (k : Nat) (w : World) :
    (Op.equalIn (k + 2) 94 (.agg #[.int .i64 a, .int .i64 b, .int .i64 c]) (.agg #[.int .i64 a', .int .i64 b', .int .i64 c'])).run Try.prog w =
      .ok (a == a' && (b == b' && (c == c'))) w := by
  have ha : ∀ w, (isAgg 3).run Try.prog w = .ok false w := fun _ => by kernel_rfl
  rw [Op.equalIn]
  simp only [go_sem]
  simp [List.range', go_sem]
  by_cases h1 : a = a' <;> by_cases h2 : b = b' <;> by_cases h3 : c = c' <;> simp [h1, h2, h3]
theorem isNone_any (q0 q1 q2 : Int) (w : World) : Calls Try.prog 61 #[.agg #[.int .i64 q0, .int .i64 q1, .int .i64 q2]] w fun e w' => e = .returned (.bool (q0 == 0 && (q1 == 0 && q2 == 0))) ∧ Ext w w' := by
  have he := eq_rates q0 q1 q2 0 0 0 9998
  go_enter Try.func61, Try.ntmps61
  go_wp2
  go_ret
  exact ⟨rfl, (by first | (with_reducible exact Ext.refl _) | (with_reducible assumption) | (show Below _ _ _; go_grown; done))⟩
theorem noRates {h : House} (hV : ValidH h) (out : Nat → Bool) : ((truL h out).headD []).getD 0 0 = 0 ↔ truL h out = [] := by
  constructor
  · intro h0
    cases e : truL h out with
    | nil => rfl
    | cons q t =>
      exfalso
      rw [e] at h0
      have hq := ratesL_good hV (truL_sub hV (by rw [e]; simp : q ∈ truL h out)) (j := 0) (by have := hV.days; omega)
      simp only [List.headD_cons] at h0
      omega
  · intro e; rw [e]; rfl
theorem isNone_first (h : House) (hV : ValidH h) (out : Nat → Bool) (w : World) : Calls Try.prog 61 #[rateV ((truL h out).headD [])] w fun e w' => e = .returned (.bool (decide (truL h out = []))) ∧ Ext w w' := by
  refine (isNone_any _ _ _ w).mono ?_
  rintro e w' ⟨rfl, hx⟩
  refine ⟨?_, hx⟩
  congr 2
  by_cases h0 : truL h out = []
  · rw [h0]; rfl
  · have := mt (noRates hV out).1 h0
    rw [decide_eq_false h0]
    have hb : (((truL h out).headD []).getD 0 0 == 0) = false := by simpa using this
    rw [hb]; rfl
set_option maxHeartbeats 1000000 in
theorem rlist_any (q0 q1 q2 : Int) (n : Nat) (hn : 1 ≤ n ∧ n ≤ 3) (hq : I64 q0 ∧ I64 q1 ∧ I64 q2) (w : World) : Calls Try.prog 63 #[.agg #[.int .i64 q0, .int .i64 q1, .int .i64 q2], .int .i64 n] w fun e w' => ∃ v, e = .returned v ∧ IntsAt w' v ([q0, q1, q2].take n) ∧ Ext w w' := by
  have hlen : (([q0, q1, q2].take n).map (Value.int .i64)).length = n := by simp; omega
  obtain ⟨w1, mk1, row1, x1, z1⟩ := make_rowC Try.underlying30 (e := 3) (z := .int .i64 0) (bytes := 8) (by kernel_rfl) rfl (by decide) (w.alloc (.cells #[.int .i64 q0, .int .i64 q1, .int .i64 q2] 94)) n (by omega)
  have s0 : (w.alloc (.cells #[.int .i64 q0, .int .i64 q1, .int .i64 q2] 94)).heap.size = w.heap.size + 1 := by simp
  rw [s0] at mk1 row1 z1
  have hb : BoxIs w1 w.heap.size [.int .i64 q0, .int .i64 q1, .int .i64 q2] := BoxIs.ext (fun j v hj => by
    match j, hj with
    | 0, hj => simp at hj; subst hj; simp [go_sem]
    | 1, hj => simp at hj; subst hj; simp [go_sem]
    | 2, hj => simp at hj; subst hj; simp [go_sem]) x1
  have hcp := run_copy_cells (P := Try.prog) w1 30 30 3 3 (w.heap.size + 1) 0 n n ⟨w.heap.size, 0, none⟩ 3 3 (([q0, q1, q2].take n).map (Value.int .i64)) Try.underlying30 (by kernel_rfl) (by rw [hlen]; exact (Nat.min_eq_right hn.2).symm) (fun j v hv => by
      have hj : j < n := by
        rcases Nat.lt_or_ge j n with h | h
        · exact h
        · rw [List.getElem?_eq_none (by rw [hlen]; exact h)] at hv; cases hv
      rw [show (⟨w.heap.size, 0, none⟩ : Addr).add j = ⟨w.heap.size, j, none⟩ by unfold Addr.add; split <;> simp_all]
      refine hb j v ?_
      rw [List.getElem?_map, List.getElem?_take, if_pos hj] at hv
      rw [← hv]
      match j, hj with
      | 0, _ => rfl
      | 1, _ => rfl
      | 2, _ => rfl
      | j + 3, _ => omega) (fun j hj => by rw [hlen] at hj; rw [Nat.zero_add, (row1 j hj).1]; rfl) (fun j hj => by rw [hlen] at hj; rw [Nat.zero_add]; exact (row1 j hj).2) (fun v hv => by
      obtain ⟨x, -, rfl⟩ := List.mem_map.1 hv
      rfl)
  rw [hlen] at hcp
  have hx3 : Ext w (w1.setCells (w.heap.size + 1) 0 (([q0, q1, q2].take n).map (Value.int .i64))) := Below.trans ((ext_alloc _ _).trans x1) ((setCells_belowC (w.heap.size + 1) _ _ _).mono (Nat.le_succ _))
  have hI : IntsAt (w1.setCells (w.heap.size + 1) 0 (([q0, q1, q2].take n).map (Value.int .i64))) (.slice (some ⟨w.heap.size + 1, 0, none⟩) n n) ([q0, q1, q2].take n) := by
    have hl2 : ([q0, q1, q2].take n).length = n := by simpa using hlen
    refine ⟨_, _, by rw [hl2], by omega, by omega, fun i hi => ⟨w.heap.size + 1, 0, rfl, ?_, ?_⟩⟩
    · have hin : i < n := by omega
      have := World.cell?_setCells_in (w.heap.size + 1) (([q0, q1, q2].take n).map (Value.int .i64)) 0 w1 (fun j hj => by rw [hlen] at hj; rw [Nat.zero_add, (row1 j hj).1]; rfl) i (by rw [hlen]; exact hin)
      rw [Nat.mul_one, this, List.getElem_map]
    · have hm := List.mem_of_mem_take (List.getElem_mem hi)
      simp only [List.mem_cons, List.not_mem_nil, or_false] at hm
      unfold I64 at hq
      rcases hm with e | e | e <;> rw [e] <;> omega
  generalize w1.setCells (w.heap.size + 1) 0 (([q0, q1, q2].take n).map (Value.int .i64)) = w2 at *
  have HI := Lib.hid hI
  have HX := Lib.hid hx3
  clear hI hx3 hb row1 hlen hq
  go_enter Try.func63, Try.ntmps63
  go_wp2
  go_ret
  exact ⟨_, rfl, HI.out, HX.out⟩
end Go.Proofs.Ytdadffmagfknoaa

namespace Go.Proofs.Ytdadffmagfknoaa
set_option linter.unusedSimpArgs false
set_option linter.unusedVariables false
open Go.RowKit
set_option linter.unusedVariables false
set_option maxRecDepth 100000
theorem isTrueWithout_any (hv : Value) (h : House) (hV : ValidH h) (s : Nat) (hs : s < 32) (w : World) (hl : LookAt w hv h) :
    Calls Try.prog 87 #[hv, .int .i64 s] w fun e w' => e = .returned (.bool (!decide (truL h (outB s) = []))) ∧ Ext w w' := by
  have hl0 := hl
  obtain ⟨ra, rc, aa, ac, ea, ec, Bm, M, rfl, -, -, -, -, -⟩ := hl
  have hfi := fun w hl => rfirst_any (houseV h ra aa ea rc ac ec (.map (some Bm))) h hV s hs w hl
  have hno := fun w => isNone_first h hV (outB s) w
  generalize (truL h (outB s)).headD [] = fr at hfi hno
  generalize decide (truL h (outB s) = []) = b at *
  have HL := Lib.hid hl0
  clear hl0
  unfold houseV at hfi ⊢
  go_enter Try.func87, Try.ntmps87
  go_wp2_with fail
  refine (hfi _ (HL.out.ext ((by first | (with_reducible exact Ext.refl _) | (with_reducible assumption) | (show Below _ _ _; go_grown; done))))).mono ?_
  rintro e w1 ⟨rfl, hx1⟩
  go_wp2_with fail
  refine (hno _).mono ?_
  rintro e w2 ⟨rfl, hx2⟩
  have x2 : Ext w w2 := hx1.of_alloc.trans hx2
  clear hfi hno hx1 hx2
  go_wp2
  go_ret
  exact ⟨rfl, x2⟩
set_option maxHeartbeats 1000000 in
theorem rate_any (hv : Value) (h : House) (hV : ValidH h) (d : Nat) (hd : d < h.days.toNat) (w : World) (hl : LookAt w hv h) :
    Calls Try.prog 67 #[hv, .int .i64 d] w fun e w' => e = .returned (.tuple #[spanV (numM (fun r => r.getD d 0) (truL h (outB 0))).1.1 (numM (fun r => r.getD d 0) (truL h (outB 0))).1.2, .int .i64 (numM (fun r => r.getD d 0) (truL h (outB 0))).2]) ∧ Ext w w' := by
  have hd3 : d < 3 := by have := hV.days; omega
  have hl0 := hl
  obtain ⟨ra, rc, aa, ac, ea, ec, Bm, M, rfl, -, -, -, -, -⟩ := hl
  have htr := fun w hl => truths_any (houseV h ra aa ea rc ac ec (.map (some Bm))) h hV 0 (by omega) w hl
  have HL := Lib.hid hl0
  clear hl0
  unfold houseV at htr ⊢
  obtain ⟨nm, hnm⟩ : ∃ nm, numM (fun r => r.getD d 0) (truL h (outB 0)) = nm := ⟨_, rfl⟩
  rw [hnm]
  obtain ⟨⟨al, ah⟩, ae⟩ := nm
  go_enter Try.func67, Try.ntmps67
  go_wp2_with fail
  refine (htr _ (HL.out.ext ((by first | (with_reducible exact Ext.refl _) | (with_reducible assumption) | (show Below _ _ _; go_grown; done))))).mono ?_
  rintro e w1 ⟨v, rfl, hT, hx1⟩
  obtain ⟨lb, rfl, hsq⟩ := hT.seq hV
  have c0 : w1.cell? ⟨w.heap.size + 1, 0, none⟩ = some (.int .i64 d) := hx1.cell (by simp [go_sem])
  have p0 : w1.cell? ⟨w.heap.size + 2, 0, none⟩ = some (.int .i64 0) := hx1.cell (by simp [go_sem])
  have p1 : w1.cell? ⟨w.heap.size + 2, 1, none⟩ = some (.int .i64 0) := hx1.cell (by simp [go_sem])
  have pf : ∀ o, w1.frozen? ⟨w.heap.size + 2, o, none⟩ = false := fun o => by rw [hx1.frozen (by simp)]; simp [go_sem]
  have x1 : Ext w w1 := (((ext_alloc _ _).alloc _).alloc _).trans hx1
  have hnu := number_rate lb (truL h (outB 0)) (w.heap.size + 1) (fun r => r.getD d 0) w1 hsq (fun r hr w' hx => rateOf_any (w.heap.size + 1) d hd3 r w' (hx.cell c0))
  rw [hnm] at hnu
  clear hT hsq hx1 htr hnm
  go_wp2_with fail
  refine hnu.mono ?_
  rintro e w2 ⟨rfl, hx2⟩
  unfold spanV
  have x2 := x1.trans hx2
  have q0 := hx2.cell p0
  have q1 := hx2.cell p1
  have zq : w.heap.size + 2 < w2.heap.size := cell_lt q0
  have qf : ∀ o, w2.frozen? ⟨w.heap.size + 2, o, none⟩ = false := fun o => (hx2.frozen (p := ⟨w.heap.size + 2, o, none⟩) (cell_lt (p := ⟨w.heap.size + 2, 0, none⟩) p0)).trans (pf o)
  have s0 := set_other (set_cell q0 (.int .i64 al)) (p := ⟨w.heap.size + 2, 1, none⟩) (.inr (by simp)) (.int .i64 ah)
  have s1 := set_cell (set_other q1 (p := ⟨w.heap.size + 2, 0, none⟩) (.inr (by simp)) (.int .i64 al)) (.int .i64 ah)
  have xS : Ext w ((w2.setCell ⟨w.heap.size + 2, 0, none⟩ (.int .i64 al)).setCell ⟨w.heap.size + 2, 1, none⟩ (.int .i64 ah)) := (x2.setCell (by simp) _).setCell (by simp) _
  have HS := Lib.hid xS
  clear hx2 hnu xS x2 x1 p0 p1 pf
  go_wp2
  refine bodyPost_ret (v := .tuple #[.agg #[.int .i64 al, .int .i64 ah], .int .i64 ae]) (by simp [results, Try.results67, go_sem, s0, s1]) rfl ⟨rfl, HS.out⟩
end Go.Proofs.Ytdadffmagfknoaa
