/-
  ONE MORE ELEMENT AT THE END OF A COPY (append(append([]T{}, l...), x)): what the steps of such a region leave. Over any element.
  ANY MARKS FOR A LETTER, by turns, and the letter that it becomes: Aloud of the statements.
  LetterFewest: by what Fewest returns a letter becomes the other one; no marks that do so have fewer corrections.
-/
import Derived.Test.YtgcibmdohifiaaaBunAJ
import Derived.Test.YtgcibmdohifiaaaBunAF
import Derived.Test.YtgcibmdohifiaaaBunAG
import Derived.Test.YtgcibmdohifiaaaBunAI
namespace Go.Proofs.Ytgcibmdohifiaaa
set_option linter.unusedSimpArgs false
set_option linter.unusedVariables false
open Go.RowKit
set_option linter.unusedVariables false

theorem no_falseE {X : Bool} (h : X = false) (h2 : X = true) : False := by rw [h] at h2; cases h2
/-- a row of one's own -/
def OwnR (base : Nat) (e : TypeId) (sz n : Nat) (cs : List Value) (u : Value) (w : World) : Prop := w.ownsRow base e sz u n cs
theorem OwnR.ext {base : Nat} {e : TypeId} {sz n : Nat} {cs : List Value} {u : Value} {w w' : World} (h : OwnR base e sz n cs u w) (hx : Ext w w') : OwnR base e sz n cs u w' := Ext.owns h hx
theorem OwnR.grew {base : Nat} {e : TypeId} {sz n : Nat} {cs : List Value} {u : Value} {n0 k : Nat} {w w' : World} (h : OwnR base e sz n cs u w) (hn : n * sz ≤ k) (hx : Facts.App.Grew n0 k w w') : OwnR base e sz n cs u w' := hx.owns h hn
/-- a row of nothing, with no room -/
def EmptyR (base : Nat) (e : TypeId) (sz : Nat) (u : Value) (w : World) : Prop := ∃ B, u = .slice (some ⟨B, 0, none⟩) 0 0 ∧ OwnR base e sz 0 [] u w
theorem EmptyR.ext {base : Nat} {e : TypeId} {sz : Nat} {u : Value} {w w' : World} (h : EmptyR base e sz u w) (hx : Ext w w') : EmptyR base e sz u w' := by
  obtain ⟨B, e, h1⟩ := h; exact ⟨B, e, h1.ext hx⟩
theorem EmptyR.grew {base : Nat} {e : TypeId} {sz : Nat} {u : Value} {n0 n : Nat} {w w' : World} (h : EmptyR base e sz u w) (hx : Facts.App.Grew n0 n w w') : EmptyR base e sz u w' := by
  obtain ⟨B, e, h1⟩ := h; exact ⟨B, e, h1.grew (by omega) hx⟩
theorem EmptyR.row {base : Nat} {e : TypeId} {sz : Nat} {u : Value} {w : World} (h : EmptyR base e sz u w) : w.ownsRow base e sz u 0 [] := by
  obtain ⟨B, e, h1⟩ := h; exact h1
theorem EmptyR.full {base : Nat} {e : TypeId} {sz : Nat} {u : Value} {w : World} (h : EmptyR base e sz u w) (m : Nat) (hm : 0 < m) : ∀ g cap, u = .slice (some ⟨g, 0, none⟩) 0 cap → cap < 0 + m := by
  obtain ⟨B, e, -⟩ := h
  intro g cap e2
  rw [e] at e2
  have := (Value.slice.inj e2).2.2
  omega
/-- new elements, in a block of their own -/
def NewR (n : Nat) (cs : List Value) (u : Value) (w : World) : Prop := ∃ B, u = .slice (some ⟨B, 0, none⟩) n n ∧ ∀ j v, cs[j]? = some v → w.cell? ((⟨B, 0, none⟩ : Addr).add j) = some v
noncomputable def NewR.B {n : Nat} {cs : List Value} {u : Value} {w : World} (h : NewR n cs u w) : Nat := Exists.choose h
theorem NewR.spec {n : Nat} {cs : List Value} {u : Value} {w : World} (h : NewR n cs u w) : u = .slice (some ⟨h.B, 0, none⟩) n n ∧ ∀ j v, cs[j]? = some v → w.cell? ((⟨h.B, 0, none⟩ : Addr).add j) = some v := Exists.choose_spec h
theorem NewR.ext {n : Nat} {cs : List Value} {u : Value} {w w' : World} (h : NewR n cs u w) (hx : Ext w w') : NewR n cs u w' := by
  obtain ⟨B, h1, h2⟩ := h; exact ⟨B, h1, fun j v e => hx.cell (h2 j v e)⟩
theorem NewR.grew {n : Nat} {cs : List Value} {u : Value} {n0 k : Nat} {w w' : World} (h : NewR n cs u w) (hn : cs.length ≤ k) (hx : Facts.App.Grew n0 k w w') : NewR n cs u w' := by
  obtain ⟨B, h1, h2⟩ := h
  refine ⟨B, h1, fun j v e => ?_⟩
  have hj : j < cs.length := by
    rcases Nat.lt_or_ge j cs.length with h | h
    · exact h
    · rw [List.getElem?_eq_none h] at e; cases e
  have := h2 j v e
  rw [show (⟨B, 0, none⟩ : Addr).add j = ⟨B, 0 + j, none⟩ by unfold Addr.add; split <;> simp_all] at this ⊢
  exact hx.cell this (by omega)
theorem NewR.made (w : World) (n : Nat) (cs : List Value) (t : TypeId) : NewR n cs (.slice (some ⟨w.heap.size, 0, none⟩) n n) (w.alloc (.cells cs.toArray t)) := by
  refine ⟨_, rfl, fun j v e => ?_⟩
  rw [show (⟨w.heap.size, 0, none⟩ : Addr).add j = ⟨w.heap.size, 0 + j, none⟩ by unfold Addr.add; split <;> simp_all]
  simpa [go_sem] using e
theorem marks_new {w : World} {ad : Addr} {n c : Nat} {l : List Mark} (h : MarksAt w (.slice (some ad) n c) l) : ∀ j u, (cellsK l)[j]? = some u → w.cell? (ad.add j) = some u := by
  intro j u hu
  have hlen : (cellsK l).length = l.length * 2 := cellsK_len l
  have hj : j < l.length * 2 := by
    rcases Nat.lt_or_ge j (l.length * 2) with h1 | h1
    · exact h1
    · rw [List.getElem?_eq_none (by omega)] at hu; cases hu
  have hi : j / 2 < l.length := by omega
  obtain ⟨b, o, e2, r0, r1, -⟩ := h.get hi
  obtain rfl := Option.some.inj e2
  obtain ⟨c0, c1⟩ := cellsK_get l (j / 2) hi
  rw [show (⟨b, o, none⟩ : Addr).add j = ⟨b, o + j, none⟩ by unfold Addr.add; split <;> simp_all]
  rcases Nat.mod_two_eq_zero_or_one j with h0 | h0
  · rw [show j = j / 2 * 2 from by omega] at hu ⊢
    rw [c0] at hu
    obtain rfl := Option.some.inj hu
    exact r0
  · rw [show j = j / 2 * 2 + 1 from by omega] at hu ⊢
    rw [c1] at hu
    obtain rfl := Option.some.inj hu
    exact r1
theorem marks_one (l : List Mark) : ∀ u ∈ cellsK l, u.oneCell' = true := fun u hu => by
  simp only [cellsK, List.mem_flatMap] at hu
  obtain ⟨x, -, hx⟩ := hu
  simp at hx
  rcases hx with rfl | rfl <;> simp [Value.oneCell']
end Go.Proofs.Ytgcibmdohifiaaa

namespace Go.Proofs.Ytgcibmdohifiaaa
set_option linter.unusedSimpArgs false
set_option linter.unusedVariables false
open Go.RowKit
set_option linter.unusedVariables false

set_option maxRecDepth 100000 in
theorem lawTurn_any (v : Value) (l : List Int) (n : Nat) (w : World) (hn : n ≤ 9223372036854775807) (hl : BytesAt w v l) : Calls Try.prog 42 #[v, .int .i64 n] w fun e w' => e = .returned (.int .i64 (turnM l n)) ∧ w = w' := by
  obtain ⟨a, cap, rfl, hlc, hcm, hc⟩ := hl
  by_cases h0 : l.length = 0
  · have h0' : ((l.length : Int) == 0) = true := by simp [h0]
    have H0 := Lib.hid h0
    clear hc h0
    go_enter Try.func42, Try.ntmps42
    go_wp2
    go_ret
    exact ⟨ret_int (by rw [List.eq_nil_of_length_eq_zero H0.out]; rfl), rfl⟩
  · have h0' : ((l.length : Int) == 0) = false := by simp; intro e; exact h0 (by simp [e])
    have hml : n % l.length < l.length := Nat.mod_lt _ (by omega)
    have hm : Int.tmod (n : Int) (l.length : Int) = ((n % l.length : Nat) : Int) := by rw [Int.tmod_eq_emod_of_nonneg (by omega)]; simp
    obtain ⟨b, off, rfl, c0, hu⟩ := hc (n % l.length) hml
    have hgd : turnM l n = l[n % l.length] := by rw [turnM, List.getD_eq_getElem?_getD, List.getElem?_eq_getElem hml]; rfl
    generalize hy : l[n % l.length] = y at *
    have Hgd := Lib.hid hgd
    clear hgd hy hc
    simp only [Nat.mul_one] at c0
    generalize hq : n % l.length = q at *
    have wq : IntKind.i64.wrap (q : Int) = q := IntWalk.i64_in _ (by omega)
    have wy : IntKind.i64.wrap y = y := IntWalk.i64_in _ (by unfold U8 at hu; omega)
    have q1 : (q : Int) < (l.length : Int) := by omega
    have nz : ¬ (l.length : Int) = 0 := by omega
    clear hq
    go_enter Try.func42, Try.ntmps42
    go_wp2
    go_ret
    exact ⟨ret_int Hgd.out.symm, rfl⟩
theorem turnM_in {w : World} {v : Value} {l : List Int} (hl : BytesAt w v l) (n : Nat) : 0 ≤ turnM l n ∧ turnM l n ≤ 255 := by
  obtain ⟨a, cap, rfl, hlc, hcm, hc⟩ := hl
  unfold turnM
  rcases Nat.eq_zero_or_pos l.length with h0 | h0
  · rw [List.eq_nil_of_length_eq_zero h0]; simp
  · have hml : n % l.length < l.length := Nat.mod_lt _ (by omega)
    rw [List.getD_eq_getElem?_getD, List.getElem?_eq_getElem hml]
    obtain ⟨b, off, -, -, hu⟩ := hc _ hml
    exact hu
theorem said_any (w : World) : Calls Try.prog 43 #[] w fun e w' => (∃ B, e = .returned (.slice (some ⟨B, 0, none⟩) 8 8) ∧ StrsAt w' (.slice (some ⟨B, 0, none⟩) 8 8) saidL) ∧ Ext w w' := by
  go_enter Try.func43, Try.ntmps43
  go_wp2
  go_ret
  refine ⟨⟨_, rfl, _, _, rfl, by decide, by decide, fun i hi => ⟨_, _, rfl, ?_⟩⟩, ext_alloc _ _⟩
  have : i = 0 ∨ i = 1 ∨ i = 2 ∨ i = 3 ∨ i = 4 ∨ i = 5 ∨ i = 6 ∨ i = 7 := by simp [saidL] at hi; omega
  rcases this with rfl | rfl | rfl | rfl | rfl | rfl | rfl | rfl
  all_goals exact ⟨by simp [go_sem, saidL], by simp [saidL]; decide⟩

set_option maxRecDepth 100000 in
set_option maxHeartbeats 4000000 in
theorem aloud_r20 {u0 u1 u2 u3 u4 u5 u7 u8 u9 u10 u11 u12 u14 u15 u16 u17 u18 u19 u20 u21 u22 u23 u24 u25 u26 u27 u28 u29 u30 u31 u32 u33 u34 u35 u36 u37 u38 u39 u40 u41 u42 u43 u44 u45 u46 u47 u48 u49 u50 u51 u52 u53 u54 u55 u56 u57 u58 u59 u60 u61 u62 u63 u64 u65 u66 u67 u68 u69 u70 u71 u72 u73 u74 u75 u76 u77 u78 u79 u80 u81 u82 u83 u84 u85 u86 u87 u88 u89 u90 u91 u92 u93 u94 u95 u96 u97 u98 u99 u100 u101 u102 : Value} {ms : List Mark} {x : Mark} {mv : Value} {mb : Nat} {R : World} (hm : MarksAt R mv ms) (h0 : ms.length = 0 → mv = .slice none 0 0) (c0 : R.cell? ⟨mb, 0, none⟩ = some (.int .i64 x.kind)) (c1 : R.cell? ⟨mb, 1, none⟩ = some (.string x.word)) (hlen : ms.length ≤ 60) (hx0 : I64 x.kind) (Q : Exit → Act → World → Prop)
    (hQ : ∀ (v6 v95 v96 v97 v98 v99 v100 : Value) (wc : World), RowK R.heap.size (ms ++ [x]) v6 wc → Ext R wc → Q .normal ⟨#[u0, u1, u2, u3, u4, u5, v6, u7, u8, u9, u10, u11, u12, .pointer (some ⟨mb, 0, none⟩), u14, u15, u16, u17, u18, u19, u20, u21, u22, u23, u24, u25, u26, u27, u28, u29, u30, u31, u32, u33, u34, u35, u36, u37, u38, u39, u40, u41, u42, u43, u44, u45, u46, u47, u48, u49, u50, u51, u52, u53, u54, u55, u56, u57, u58, u59, u60, u61, u62, u63, u64, u65, u66, u67, u68, u69, u70, u71, u72, u73, u74, u75, u76, u77, u78, u79, u80, u81, u82, u83, u84, u85, u86, u87, u88, u89, u90, u91, u92, u93, u94, v95, v96, v97, v98, v99, v100, u101, u102], []⟩ wc) :
    Code.wp Try.prog (regionOf Try.f19 20) Q ⟨#[u0, u1, u2, u3, u4, u5, mv, u7, u8, u9, u10, u11, u12, .pointer (some ⟨mb, 0, none⟩), u14, u15, u16, u17, u18, u19, u20, u21, u22, u23, u24, u25, u26, u27, u28, u29, u30, u31, u32, u33, u34, u35, u36, u37, u38, u39, u40, u41, u42, u43, u44, u45, u46, u47, u48, u49, u50, u51, u52, u53, u54, u55, u56, u57, u58, u59, u60, u61, u62, u63, u64, u65, u66, u67, u68, u69, u70, u71, u72, u73, u74, u75, u76, u77, u78, u79, u80, u81, u82, u83, u84, u85, u86, u87, u88, u89, u90, u91, u92, u93, u94, u95, u96, u97, u98, u99, u100, u101, u102], []⟩ R := by
  conv => arg 2; whnf
  obtain ⟨i0, hi, hz0, hz1, hz2⟩ := info_parts infoMark
  have HQ := Lib.hid hQ
  have hcell : cellsK [x] = [.int .i64 x.kind, .string x.word] := rfl
  have Hcell := Lib.hid hcell
  clear hQ hcell
  rcases Nat.eq_zero_or_pos ms.length with h1 | h1
  · obtain rfl := h0 h1
    have hms : ms = [] := List.eq_nil_of_length_eq_zero h1
    subst hms
    clear hm h0 h1
    apply Facts.wp_frame
    intro A hA
    have f6 : ∀ h, A.tmps[6]'h = .slice none 0 0 := by rw [hA]; exact fun _ => rfl
    have f13 : ∀ h, A.tmps[13]'h = .pointer (some ⟨mb, 0, none⟩) := by rw [hA]; exact fun _ => rfl
    have fsz : A.tmps.size = 103 := by rw [hA]; rfl
    have HA := Lib.hid hA
    clear hA
    apply Facts.Dep.Free.wp_region (⟨fun _ _ h => h, fun _ _ _ h k => h.trans k, fun _ _ _ h k => h.trans k, Ext.refl, fun a => ext_drew a⟩ : Facts.Piv.Two Ext Ext) 5 [.fact (EmptyR R.heap.size 92 2), .val _, .fact (EmptyR R.heap.size 92 2), .val (.agg #[.int .i64 x.kind, .string x.word]), .fact (NewR 1 (cellsK [x])), .fact (RowK R.heap.size [x]), .fact (RowK R.heap.size [x])] (by kernel_rfl) (by kernel_rfl) (by kernel_rfl) ?keep ?main
    case keep => exact ⟨fun u a c hx h => h.ext hx, fun _ _ u a c hx h => h.ext hx, fun u a c hx h => h.ext hx, fun _ _ u a c hx h => h.ext hx, fun u a c hx h => h.ext hx, fun _ _ u a c hx h => h.ext hx, fun u a c hx h => h.ext hx, fun _ _ u a c hx h => h.ext hx, fun u a c hx h => h.ext hx, fun _ _ u a c hx h => h.ext hx, trivial⟩
    case main =>
      refine ⟨fun w1 hx hh => ?_, ?_⟩
      · clear hh
        have hsz1 := hx.size
        go_simp
        exact ⟨ext_alloc _ _, w1.heap.size, rfl, World.ownsRow_made w1 #[] 0 hsz1 (by unfold maxLen; omega) rfl⟩
      intro u0
      iterate 1 (refine ⟨fun w1 hC hh => ?_, ?_⟩; focus (have hx := hC; clear hh hC; skip; go_simp; first | exact ⟨Ext.refl _, rfl⟩ | exact Ext.refl _))
      refine ⟨fun w1 hx hh => ?_, ?_⟩
      · have h9 : EmptyR R.heap.size 92 2 u0 w1 := hh 0 _ List.mem_cons_self (by kernel_rfl)
        clear hh
        refine Facts.App.stepG_append_none rfl (.tmp 95) (.tmp 96) 41 rfl R.heap.size 92 i0 2 Try.underlying41 hi u0 0 [] (by go_simp) h9.row (by go_simp) ?_
        exact ⟨Ext.refl _, h9⟩
      intro u2
      iterate 1 (refine ⟨fun w1 hC hh => ?_, ?_⟩; focus (have hx := hC; clear hh hC; have e0 := hx.cell c0; have e1 := hx.cell c1; go_simp; first | exact ⟨Ext.refl _, rfl⟩ | exact Ext.refl _))
      refine ⟨fun w1 hx hh => ?_, ?_⟩
      · clear hh
        go_simp
        exact ⟨ext_alloc _ _, NewR.made w1 1 (cellsK [x]) _⟩
      intro u4
      refine ⟨fun w1 hx hh => ?_, ?_⟩
      · have h2 : EmptyR R.heap.size 92 2 u2 w1 := hh 2 _ (List.mem_cons_of_mem _ List.mem_cons_self) (by kernel_rfl)
        have h4 : NewR 1 (cellsK [x]) u4 w1 := hh 4 _ List.mem_cons_self (by kernel_rfl)
        clear hh
        have s4 := h4.spec
        generalize h4.B = B at *
        have e4 := s4.1
        have c4 := s4.2
        clear s4 h4
        subst e4
        have hsz1 := hx.size
        refine Facts.App.stepG_append_grew rfl (.tmp 97) (.tmp 99) 41 rfl R.heap.size 92 i0 (.agg #[.int .i64 0, .string ByteArray.empty]) 2 24 Try.underlying41 hi hz0 hz1 hz2 rfl (by decide) u2 0 [] (by go_simp) h2.row ⟨B, 0, none⟩ 1 1 (cellsK [x]) (by go_simp) rfl c4 (marks_one _) (by unfold maxLen; omega) (by omega) (by omega) ?_
        intro v' w' ho hg hx2
        exact ⟨hx2 (h2.full 1 (by omega)), ho⟩
      intro u5
      refine ⟨fun w1 hx hh => ?_, ?_⟩
      · have h5 : RowK R.heap.size [x] u5 w1 := hh 5 _ List.mem_cons_self (by kernel_rfl)
        clear hh
        go_simp
        first | exact ⟨Ext.refl _, h5⟩ | exact Ext.refl _
      intro u6 w5 hx5 hh
      have h6 : RowK R.heap.size [x] u6 w5 := hh 6 _ List.mem_cons_self
      clear hh
      have hA := HA.out
      subst hA
      have hQ := HQ.out
      go_simp
      exact hQ _ _ _ _ _ _ _ _ h6 hx5
  · have hpl4 := hm
    obtain ⟨_, pc, hea, hpc1, hpc2, hqq⟩ := hpl4
    obtain ⟨pb, po, rfl, -⟩ := hqq 0 h1
    subst hea
    have Hm := Lib.hid hm
    clear h0 hqq hm
    apply Facts.wp_frame
    intro A hA
    have f6 : ∀ h, A.tmps[6]'h = .slice (some ⟨pb, po, none⟩) ms.length pc := by rw [hA]; exact fun _ => rfl
    have f13 : ∀ h, A.tmps[13]'h = .pointer (some ⟨mb, 0, none⟩) := by rw [hA]; exact fun _ => rfl
    have fsz : A.tmps.size = 103 := by rw [hA]; rfl
    have HA := Lib.hid hA
    clear hA
    apply Facts.Dep.Free.wp_region (Facts.App.two_grew R.heap.size (ms.length * 2)) 5 [.fact (EmptyR R.heap.size 92 2), .val _, .fact (RowK R.heap.size ms), .val (.agg #[.int .i64 x.kind, .string x.word]), .fact (NewR 1 (cellsK [x])), .fact (RowK R.heap.size (ms ++ [x])), .fact (RowK R.heap.size (ms ++ [x]))] (by kernel_rfl) (by kernel_rfl) (by kernel_rfl) ?keep ?main
    case keep => exact ⟨fun u a c hx h => h.ext hx, fun _ _ u a c hx h => h.grew hx, fun u a c hx h => h.ext hx, fun _ _ u a c hx h => hx.owns h (Nat.le_refl _), fun u a c hx h => h.ext hx, fun _ _ u a c hx h => h.grew (by rw [cellsK_len]; simp only [List.length_cons, List.length_nil]; omega) hx, fun u a c hx h => h.ext hx, fun h => absurd rfl h, fun u a c hx h => h.ext hx, fun _ h => (no_falseE h (by kernel_rfl)).elim, trivial⟩
    case main =>
      refine ⟨fun w1 hC hh => ?_, ?_⟩
      · have hx := hC.below rfl (Ext.refl _)
        clear hh hC
        have hsz1 := hx.size
        go_simp
        exact ⟨ext_alloc _ _, w1.heap.size, rfl, World.ownsRow_made w1 #[] 0 hsz1 (by unfold maxLen; omega) rfl⟩
      intro u0
      iterate 1 (refine ⟨fun w1 hC hh => ?_, ?_⟩; focus (have hx := hC.below rfl (Ext.refl _); clear hh hC; skip; go_simp; first | exact ⟨Ext.refl _, rfl⟩ | exact Ext.refl _))
      refine ⟨fun w1 hC hh => ?_, ?_⟩
      · have h9 : EmptyR R.heap.size 92 2 u0 w1 := hh 0 _ List.mem_cons_self (by kernel_rfl)
        have hx := hC.below rfl (Ext.refl _)
        clear hh hC
        have hsz1 := hx.size
        refine Facts.App.stepG_append_grew rfl (.tmp 95) (.tmp 96) 41 rfl R.heap.size 92 i0 (.agg #[.int .i64 0, .string ByteArray.empty]) 2 24 Try.underlying41 hi hz0 hz1 hz2 rfl (by decide) u0 0 [] (by go_simp) h9.row ⟨pb, po, none⟩ ms.length pc (cellsK ms) (by go_simp) (cellsK_len _) (marks_new (Hm.out.ext hx)) (marks_one _) (by unfold maxLen; omega) (by omega) (by omega) ?_
        intro v' w' ho hg hx2
        exact ⟨hx2 (h9.full _ h1), by rw [Nat.zero_add, List.nil_append] at ho; exact ho⟩
      intro u2
      iterate 1 (refine ⟨fun w1 hC hh => ?_, ?_⟩; focus (have hx := hC.below rfl (Ext.refl _); clear hh hC; have e0 := hx.cell c0; have e1 := hx.cell c1; go_simp; first | exact ⟨Ext.refl _, rfl⟩ | exact Ext.refl _))
      refine ⟨fun w1 hC hh => ?_, ?_⟩
      · clear hh hC
        go_simp
        exact ⟨ext_alloc _ _, NewR.made w1 1 (cellsK [x]) _⟩
      intro u4
      refine ⟨fun w1 hC hh => ?_, ?_⟩
      · have h2 : RowK R.heap.size ms u2 w1 := hh 2 _ (List.mem_cons_of_mem _ List.mem_cons_self) (by kernel_rfl)
        have h4 : NewR 1 (cellsK [x]) u4 w1 := hh 4 _ List.mem_cons_self (by kernel_rfl)
        have hx := hC.below rfl (Ext.refl _)
        clear hh hC
        have s4 := h4.spec
        generalize h4.B = B at *
        have e4 := s4.1
        have c4 := s4.2
        clear s4 h4
        subst e4
        have hsz1 := hx.size
        refine Facts.App.stepG_append_grew rfl (.tmp 97) (.tmp 99) 41 rfl R.heap.size 92 i0 (.agg #[.int .i64 0, .string ByteArray.empty]) 2 24 Try.underlying41 hi hz0 hz1 hz2 rfl (by decide) u2 ms.length (cellsK ms) (by go_simp) h2 ⟨B, 0, none⟩ 1 1 (cellsK [x]) (by go_simp) rfl c4 (marks_one _) (by unfold maxLen; omega) (by omega) (by omega) ?_
        intro v' w' ho hg hx2
        exact ⟨hg, by unfold RowK; rw [cellsK_app, List.length_append]; exact ho⟩
      intro u5
      refine ⟨fun w1 hC hh => ?_, ?_⟩
      · have h5 : RowK R.heap.size (ms ++ [x]) u5 w1 := hh 5 _ List.mem_cons_self (by kernel_rfl)
        clear hh hC
        go_simp
        first | exact ⟨Ext.refl _, h5⟩ | exact Ext.refl _
      intro u6 w5 hC hh
      have h6 : RowK R.heap.size (ms ++ [x]) u6 w5 := hh 6 _ List.mem_cons_self
      have hx5 := hC.below rfl (Ext.refl _)
      clear hh hC
      have hA := HA.out
      subst hA
      have hQ := HQ.out
      go_simp
      exact hQ _ _ _ _ _ _ _ _ h6 hx5

theorem mod_nat (y n : Nat) : Int.tmod (y : Int) (n : Int) = ((y % n : Nat) : Int) := by rw [Int.tmod_eq_emod_of_nonneg (by omega)]; simp
theorem said_at (m : Nat) (h : m < 8) : m < saidL.length := h
theorem MarksAt.grownBy {w w' : World} {row : Option Nat} {sa : Option Addr} {n sc : Nat} {l : List Mark} (h : MarksAt w (.slice sa n sc) l) (hg : w.grownBy w' row) (hne : ∀ ad, sa = some ad → some ad.block ≠ row) : MarksAt w' (.slice sa n sc) l := by
  obtain ⟨a, cap, e, h2, h3, h4⟩ := h
  obtain ⟨rfl, rfl, rfl⟩ := Value.slice.inj e
  refine ⟨_, _, rfl, h2, h3, fun i hi => ?_⟩
  obtain ⟨b, o, rfl, r0, r1, r2⟩ := h4 i hi
  exact ⟨b, o, rfl, hg.cell r0 (show some b ≠ row from hne ⟨b, o, none⟩ rfl), hg.cell r1 (show some b ≠ row from hne ⟨b, o, none⟩ rfl), r2⟩
theorem RowW.shape {base : Nat} {l : List ByteArray} {u : Value} {w : World} (h : RowW base l u w) : ∃ a c, u = .slice a l.length c := by
  rcases h.2 with ⟨rfl, hn⟩ | ⟨g, cap, cur, rfl, -⟩
  · exact ⟨_, _, by rw [hn]⟩
  · exact ⟨_, _, rfl⟩
theorem RowK.newer {base : Nat} {l : List Mark} {u : Value} {w : World} (h : RowK base l u w) : ∀ ad n c, u = .slice (some ad) n c → base ≤ ad.block := by
  intro ad n c hu
  rcases h.2 with ⟨rfl, hn⟩ | ⟨g, cap, cur, rfl, hb, -⟩
  · cases hu
  · cases hu; exact hb
/-- the marks do not lie in the row of words -/
def Apart (mv ov : Value) : Prop := ∀ ad n c, mv = .slice (some ad) n c → some ad.block ≠ ov.ownBlock
theorem Apart.nil (ov : Value) : Apart (.slice none 0 0) ov := fun ad n c h => by cases h
set_option maxRecDepth 100000 in
set_option maxHeartbeats 8000000 in
theorem aloud_any (lv xv : Value) (l : List ByteArray) (x : List Int) (w : World) (hl : StrsAt w lv l) (hx : BytesAt w xv x) (h15 : letterErrL l = 0) :
    Calls Try.prog 19 #[lv, xv] w fun e w' => ∃ (u v : Value) (ms : List Mark) (out : List ByteArray), e = .returned (.tuple #[u, v]) ∧ MarksAt w' u ms ∧ StrsAt w' v out ∧ applyM ms l = ⟨out, 0⟩ ∧ letterErrL out = 0 ∧ Ext w w' := by
  obtain ⟨la, lc, rfl, hlc, hlm⟩ := hl.shape
  obtain ⟨xa, xc, rfl, hxc, hxm⟩ := hx.shape
  obtain ⟨i0, hi, hz0, hz1, hz2⟩ := info_parts infoString
  obtain ⟨l15, lw⟩ := lettErr_ok h15
  have Hlw := Lib.hid lw
  have H15 := Lib.hid h15
  clear lw h15
  go_enter Try.func19, Try.ntmps19
  go_wp2_with fail
  go_loopw [6, 7, 8, 9] (fun mv ov av iv wr => ∃ (k : Nat) (ms : List Mark) (out : List ByteArray), av = .int .i64 k ∧ iv = .int .i64 ms.length ∧ Ext w wr ∧ MarksAt wr mv ms ∧ (ms.length = 0 → mv = .slice none 0 0) ∧ RowW w.heap.size out ov wr ∧ Apart mv ov ∧ Loud l ms k out) (fun _ _ a i _ => (l.length - (intOf a).toNat) + (2 * l.length - (intOf i).toNat))
  case atStart => exact ⟨0, [], [], rfl, rfl, Ext.refl _, SliceAt.nil, fun _ => rfl, RowW.nil, Apart.nil _, Loud.start l15⟩
  case round =>
    obtain ⟨k, ms, out, rfl, rfl, hxr, hms, hm0, hown, hap, hLoud⟩ := hrel
    have hk := hLoud.at_
    have hfew := hLoud.few
    have hroom := hLoud.room
    have HL := Lib.hid hLoud
    clear hLoud
    by_cases hlt : k < l.length
    · have k1 : (k : Int) < (l.length : Int) := by omega
      obtain ⟨j, hj⟩ : ∃ j, j = ms.length := ⟨_, rfl⟩
      have hj60 : j ≤ 60 := by omega
      rw [← hj]
      have w2 : IntKind.i64.wrap (2 * (j : Int)) = 2 * (j : Int) := IntWalk.i64_in _ (by omega)
      have w3 : IntKind.i64.wrap (2 * (j : Int) + 1) = 2 * (j : Int) + 1 := IntWalk.i64_in _ (by omega)
      have hx2 := hx.ext hxr
      have t1 := turnM_in hx2 (2 * j)
      have t2 := turnM_in hx2 (2 * j + 1)
      have ht1 := fun w (h : Ext wr w) => lawTurn_any _ x (2 * j) w (by omega) (hx2.ext h)
      have ht2 := fun w (h : Ext wr w) => lawTurn_any _ x (2 * j + 1) w (by omega) (hx2.ext h)
      obtain ⟨n, hn⟩ : ∃ n : Nat, turnM x (2 * j) = n := ⟨(turnM x (2 * j)).toNat, by omega⟩
      obtain ⟨m, hm⟩ : ∃ n : Nat, turnM x (2 * j + 1) = n := ⟨(turnM x (2 * j + 1)).toNat, by omega⟩
      rw [hn, show ((2 * j : Nat) : Int) = 2 * (j : Int) from by omega] at ht1
      rw [hm, show ((2 * j + 1 : Nat) : Int) = 2 * (j : Int) + 1 from by omega] at ht2
      have m4 := mod_nat n 4
      have m8 := mod_nat m 8
      have n4 : n % 4 < 4 := Nat.mod_lt _ (by omega)
      have n8 : m % 8 < 8 := Nat.mod_lt _ (by omega)
      generalize n % 4 = kd at *
      generalize m % 8 = sd at *
      have wk : IntKind.i64.wrap (kd : Int) = kd := IntWalk.i64_in _ (by omega)
      have ws : IntKind.i64.wrap (sd : Int) = sd := IntWalk.i64_in _ (by omega)
      have s8 : (sd : Int) < 8 := by omega
      simp only [Int.cast_ofNat_Int] at m4 m8
      obtain ⟨lb, lo, rfl, c0, cs⟩ := (hl.ext hxr).get hlt
      have hw := Hlw.out l[k] (List.getElem_mem hlt)
      have Hdrop := Lib.hid (List.drop_eq_getElem_cons hlt)
      generalize l[k] = lk at *
      have Hj := Lib.hid hj
      have Hms := Lib.hid hms
      clear hj hn hm t1 t2 hms hx2 hfew
      go_wp2_with fail
      refine (ht1 _ (by first | (with_reducible exact Ext.refl _) | (with_reducible assumption) | (show Below _ _ _; go_grown; done))).mono ?_
      rintro e w' ⟨rfl, rfl⟩
      go_wp2_with fail
      refine (said_any _).mono ?_
      rintro e w4 ⟨⟨B, rfl, hS1⟩, x4⟩
      go_wp2_with fail
      refine (ht2 _ (Ext.trans (by first | (with_reducible exact Ext.refl _) | (with_reducible assumption) | (show Below _ _ _; go_grown; done)) x4)).mono ?_
      rintro e w' ⟨rfl, rfl⟩
      go_wp2_with fail
      refine (said_any _).mono ?_
      rintro e w5 ⟨⟨B2, rfl, -⟩, x5⟩
      obtain ⟨b', o', e', s0, -⟩ := (hS1.ext x5).get (said_at sd n8)
      obtain ⟨rfl, rfl⟩ : B = b' ∧ 0 = o' := by simpa using e'
      have hwd := said_words saidL[sd] (List.getElem_mem (said_at sd n8))
      generalize saidL[sd] = wd at *
      have x5' : Ext wr w5 := x4.trans x5
      have c0' := x5'.cell c0
      have hms5 : MarksAt w5 u6 ms := Hms.out.ext x5'
      have hown5 := RowW.ext hown x5'
      have xw5 := hxr.trans x5'
      clear ht1 ht2 c0 hown hS1 x4 x5 e' Hms
      simp only [Nat.mul_one, Nat.zero_add] at s0 c0'
      obtain ⟨oa, oc, rfl⟩ := hown5.shape
      have z5 := cell_lt c0'
      have zB := cell_lt s0
      have hj := Hj.out
      subst hj
      have hs5 := xw5.size
      have hownlt := fun k hk => World.ownsRow.lt hown5 k hk
      obtain ⟨ua, uc, rfl, -⟩ := hms5.shape
      have Hap := Lib.hid hap
      have Hms5 := Lib.hid hms5
      have Hm0 := Lib.hid hm0
      have hone := fun (s : ByteArray) (hs : s.size ≤ 9223372036854775807) (W : World) (e : W.heap.size = w5.heap.size + 1) => StrsAt.oneAt (w := W) (s := s) (t := 9) e hs
      have lk8 := (word_size hw)
      have wd8 := (word_size hwd)
      have HL2 := HL.out
      clear hap hms5 hm0
      by_cases e0 : kd = 0
      · subst e0
        have own1 := RowW.ext hown5 ((ext_alloc w5 (.cells #[.int .i64 0, .string ⟨#[]⟩] 92)).trans (ext_alloc _ (.cells #[.string lk] 9)))
        have hw1 := hone lk (by omega) (w5.alloc (.cells #[.int .i64 0, .string ⟨#[]⟩] 92)) (by simp)
        clear hown5 HL2
        go_upto_region 20 with ((at_builtin; go_loud (refine wpList_append_strs rfl _ _ 26 rfl w.heap.size i0 Try.underlying26 hi hz0 hz1 hz2 (.slice oa out.length oc) _ rfl own1 (.slice (some ⟨w5.heap.size + 1, 0, none⟩) 1 1) rfl [lk] hw1 (by simp only [List.length_cons, List.length_nil]; omega) (by simp; omega) ?_; intro v' w2 hown' hgrow hblk)))
        have hld := HL.out.keep hlt Hdrop.out hw
        (have xG : Ext w5 ((w5.alloc (.cells #[.int .i64 0, .string ⟨#[]⟩] 92)).alloc (.cells #[.string lk] 9)) := (by first | (with_reducible exact Ext.refl _) | (with_reducible assumption) | (show Below _ _ _; go_grown; done)); have c0m : w2.cell? ⟨w5.heap.size, 0, none⟩ = some (.int .i64 0) := hgrow.cell (by simp [go_sem]) (fun e => absurd (hownlt w5.heap.size e.symm).2 (Nat.lt_irrefl _)); have c1m : w2.cell? ⟨w5.heap.size, 1, none⟩ = some (.string ⟨#[]⟩) := hgrow.cell (by simp [go_sem]) (fun e => absurd (hownlt w5.heap.size e.symm).2 (Nat.lt_irrefl _)); have hms2 : MarksAt w2 (.slice ua ms.length uc) ms := (Hms5.out.ext xG).grownBy hgrow (fun ad e => Hap.out ad _ _ (by rw [e])); have xw2 : Ext w w2 := Ext.grown (xw5.trans xG) hgrow (fun k hk => (hownlt k hk).1); have hv := fun k hk => (World.ownsRow.lt hown' k hk).2; refine aloud_r20 (ms := ms) (x := ⟨0, ⟨#[]⟩⟩) hms2 Hm0.out c0m c1m (by omega) ⟨(by show (-9223372036854775808 : Int) ≤ 0; decide), (by show (0 : Int) ≤ 9223372036854775807; decide)⟩ _ ?_; intro v6 v95 v96 v97 v98 v99 v100 wc hrow hxc; go_wp2; go_roundw)
        case rel => (exact ⟨k + 1, ms ++ [⟨0, ⟨#[]⟩⟩], out ++ [lk], by go_num, by rw [List.length_append]; go_num, xw2.trans hxc, hrow.at_ (Loud.sound hld), fun h => by simp at h, hown'.ext hxc, fun ad n c e h => by have h1 := hrow.newer ad n c e; have h2 := hv _ h.symm; omega, hld⟩)
        case measure => simp [intOf]; omega
      by_cases e1 : kd = 1
      · subst e1
        clear e0
        cases hq : wd.toList == lk.toList
        · have own1 := RowW.ext hown5 ((ext_alloc w5 (.cells #[.int .i64 1, .string wd] 92)).trans (ext_alloc _ (.cells #[.string wd] 9)))
          have hw1 := hone wd (by omega) (w5.alloc (.cells #[.int .i64 1, .string wd] 92)) (by simp)
          clear hown5 HL2
          have Hq := Lib.hid hq
          go_upto_region 20 with ((at_builtin; go_loud (refine wpList_append_strs rfl _ _ 26 rfl w.heap.size i0 Try.underlying26 hi hz0 hz1 hz2 (.slice oa out.length oc) _ rfl own1 (.slice (some ⟨w5.heap.size + 1, 0, none⟩) 1 1) rfl [wd] hw1 (by simp only [List.length_cons, List.length_nil]; omega) (by simp; omega) ?_; intro v' w2 hown' hgrow hblk)))
          have hld := HL.out.turn hlt Hdrop.out hwd Hq.out
          (have xG : Ext w5 ((w5.alloc (.cells #[.int .i64 1, .string wd] 92)).alloc (.cells #[.string wd] 9)) := (by first | (with_reducible exact Ext.refl _) | (with_reducible assumption) | (show Below _ _ _; go_grown; done)); have c0m : w2.cell? ⟨w5.heap.size, 0, none⟩ = some (.int .i64 1) := hgrow.cell (by simp [go_sem]) (fun e => absurd (hownlt w5.heap.size e.symm).2 (Nat.lt_irrefl _)); have c1m : w2.cell? ⟨w5.heap.size, 1, none⟩ = some (.string wd) := hgrow.cell (by simp [go_sem]) (fun e => absurd (hownlt w5.heap.size e.symm).2 (Nat.lt_irrefl _)); have hms2 : MarksAt w2 (.slice ua ms.length uc) ms := (Hms5.out.ext xG).grownBy hgrow (fun ad e => Hap.out ad _ _ (by rw [e])); have xw2 : Ext w w2 := Ext.grown (xw5.trans xG) hgrow (fun k hk => (hownlt k hk).1); have hv := fun k hk => (World.ownsRow.lt hown' k hk).2; refine aloud_r20 (ms := ms) (x := ⟨1, wd⟩) hms2 Hm0.out c0m c1m (by omega) ⟨(by show (-9223372036854775808 : Int) ≤ 1; decide), (by show (1 : Int) ≤ 9223372036854775807; decide)⟩ _ ?_; intro v6 v95 v96 v97 v98 v99 v100 wc hrow hxc; go_wp2; go_roundw)
          case rel => (exact ⟨k + 1, ms ++ [⟨1, wd⟩], out ++ [wd], by go_num, by rw [List.length_append]; go_num, xw2.trans hxc, hrow.at_ (Loud.sound hld), fun h => by simp at h, hown'.ext hxc, fun ad n c e h => by have h1 := hrow.newer ad n c e; have h2 := hv _ h.symm; omega, hld⟩)
          case measure => simp [intOf]; omega
        ·
          have own1 := RowW.ext hown5 ((ext_alloc w5 (.cells #[.int .i64 0, .string ⟨#[]⟩] 92)).trans (ext_alloc _ (.cells #[.string lk] 9)))
          have hw1 := hone lk (by omega) (w5.alloc (.cells #[.int .i64 0, .string ⟨#[]⟩] 92)) (by simp)
          clear hown5 HL2
          go_upto_region 20 with ((at_builtin; go_loud (refine wpList_append_strs rfl _ _ 26 rfl w.heap.size i0 Try.underlying26 hi hz0 hz1 hz2 (.slice oa out.length oc) _ rfl own1 (.slice (some ⟨w5.heap.size + 1, 0, none⟩) 1 1) rfl [lk] hw1 (by simp only [List.length_cons, List.length_nil]; omega) (by simp; omega) ?_; intro v' w2 hown' hgrow hblk)))
          have hld := HL.out.keep hlt Hdrop.out hw
          (have xG : Ext w5 ((w5.alloc (.cells #[.int .i64 0, .string ⟨#[]⟩] 92)).alloc (.cells #[.string lk] 9)) := (by first | (with_reducible exact Ext.refl _) | (with_reducible assumption) | (show Below _ _ _; go_grown; done)); have c0m : w2.cell? ⟨w5.heap.size, 0, none⟩ = some (.int .i64 0) := hgrow.cell (by simp [go_sem]) (fun e => absurd (hownlt w5.heap.size e.symm).2 (Nat.lt_irrefl _)); have c1m : w2.cell? ⟨w5.heap.size, 1, none⟩ = some (.string ⟨#[]⟩) := hgrow.cell (by simp [go_sem]) (fun e => absurd (hownlt w5.heap.size e.symm).2 (Nat.lt_irrefl _)); have hms2 : MarksAt w2 (.slice ua ms.length uc) ms := (Hms5.out.ext xG).grownBy hgrow (fun ad e => Hap.out ad _ _ (by rw [e])); have xw2 : Ext w w2 := Ext.grown (xw5.trans xG) hgrow (fun k hk => (hownlt k hk).1); have hv := fun k hk => (World.ownsRow.lt hown' k hk).2; refine aloud_r20 (ms := ms) (x := ⟨0, ⟨#[]⟩⟩) hms2 Hm0.out c0m c1m (by omega) ⟨(by show (-9223372036854775808 : Int) ≤ 0; decide), (by show (0 : Int) ≤ 9223372036854775807; decide)⟩ _ ?_; intro v6 v95 v96 v97 v98 v99 v100 wc hrow hxc; go_wp2; go_roundw)
          case rel => (exact ⟨k + 1, ms ++ [⟨0, ⟨#[]⟩⟩], out ++ [lk], by go_num, by rw [List.length_append]; go_num, xw2.trans hxc, hrow.at_ (Loud.sound hld), fun h => by simp at h, hown'.ext hxc, fun ad n c e h => by have h1 := hrow.newer ad n c e; have h2 := hv _ h.symm; omega, hld⟩)
          case measure => simp [intOf]; omega

      by_cases e2 : kd = 2
      · subst e2
        clear e0 e1 HL2
        go_upto_region 20 with fail
        have hld := HL.out.drop hlt Hdrop.out
        (have xG : Ext w5 (w5.alloc (.cells #[.int .i64 2, .string ⟨#[]⟩] 92)) := (by first | (with_reducible exact Ext.refl _) | (with_reducible assumption) | (show Below _ _ _; go_grown; done)); have c0m : ((w5.alloc (.cells #[.int .i64 2, .string ⟨#[]⟩] 92))).cell? ⟨w5.heap.size, 0, none⟩ = some (.int .i64 2) := (by simp [go_sem]); have c1m : ((w5.alloc (.cells #[.int .i64 2, .string ⟨#[]⟩] 92))).cell? ⟨w5.heap.size, 1, none⟩ = some (.string ⟨#[]⟩) := (by simp [go_sem]); have hms2 : MarksAt (w5.alloc (.cells #[.int .i64 2, .string ⟨#[]⟩] 92)) (.slice ua ms.length uc) ms := Hms5.out.ext xG; have xw2 : Ext w (w5.alloc (.cells #[.int .i64 2, .string ⟨#[]⟩] 92)) := xw5.trans xG; have hown' := RowW.ext hown5 xG; have hv := fun k hk => (World.ownsRow.lt hown' k hk).2; refine aloud_r20 (ms := ms) (x := ⟨2, ⟨#[]⟩⟩) hms2 Hm0.out c0m c1m (by omega) ⟨(by show (-9223372036854775808 : Int) ≤ 2; decide), (by show (2 : Int) ≤ 9223372036854775807; decide)⟩ _ ?_; intro v6 v95 v96 v97 v98 v99 v100 wc hrow hxc; go_wp2; go_roundw)
        case rel => (exact ⟨k + 1, ms ++ [⟨2, ⟨#[]⟩⟩], out, by go_num, by rw [List.length_append]; go_num, xw2.trans hxc, hrow.at_ (Loud.sound hld), fun h => by simp at h, hown'.ext hxc, fun ad n c e h => by have h1 := hrow.newer ad n c e; have h2 := hv _ h.symm; omega, hld⟩)
        case measure => simp [intOf]; omega
      · obtain rfl : kd = 3 := by omega
        have wl : IntKind.i64.wrap (2 * (l.length : Int)) = 2 * (l.length : Int) := IntWalk.i64_in _ (by omega)
        have wo : IntKind.i64.wrap ((out.length : Int) + l.length) = (out.length : Int) + l.length := IntWalk.i64_in _ (by omega)
        have wp : IntKind.i64.wrap ((out.length : Int) + l.length - k) = (out.length : Int) + l.length - k := IntWalk.i64_in _ (by omega)
        clear e0 e1 e2
        by_cases g1 : 2 * (l.length : Int) ≤ (ms.length : Int)
        ·
          have own1 := RowW.ext hown5 ((ext_alloc w5 (.cells #[.int .i64 0, .string ⟨#[]⟩] 92)).trans (ext_alloc _ (.cells #[.string lk] 9)))
          have hw1 := hone lk (by omega) (w5.alloc (.cells #[.int .i64 0, .string ⟨#[]⟩] 92)) (by simp)
          clear hown5 HL2
          go_upto_region 20 with ((at_builtin; go_loud (refine wpList_append_strs rfl _ _ 26 rfl w.heap.size i0 Try.underlying26 hi hz0 hz1 hz2 (.slice oa out.length oc) _ rfl own1 (.slice (some ⟨w5.heap.size + 1, 0, none⟩) 1 1) rfl [lk] hw1 (by simp only [List.length_cons, List.length_nil]; omega) (by simp; omega) ?_; intro v' w2 hown' hgrow hblk)))
          have hld := HL.out.keep hlt Hdrop.out hw
          (have xG : Ext w5 ((w5.alloc (.cells #[.int .i64 0, .string ⟨#[]⟩] 92)).alloc (.cells #[.string lk] 9)) := (by first | (with_reducible exact Ext.refl _) | (with_reducible assumption) | (show Below _ _ _; go_grown; done)); have c0m : w2.cell? ⟨w5.heap.size, 0, none⟩ = some (.int .i64 0) := hgrow.cell (by simp [go_sem]) (fun e => absurd (hownlt w5.heap.size e.symm).2 (Nat.lt_irrefl _)); have c1m : w2.cell? ⟨w5.heap.size, 1, none⟩ = some (.string ⟨#[]⟩) := hgrow.cell (by simp [go_sem]) (fun e => absurd (hownlt w5.heap.size e.symm).2 (Nat.lt_irrefl _)); have hms2 : MarksAt w2 (.slice ua ms.length uc) ms := (Hms5.out.ext xG).grownBy hgrow (fun ad e => Hap.out ad _ _ (by rw [e])); have xw2 : Ext w w2 := Ext.grown (xw5.trans xG) hgrow (fun k hk => (hownlt k hk).1); have hv := fun k hk => (World.ownsRow.lt hown' k hk).2; refine aloud_r20 (ms := ms) (x := ⟨0, ⟨#[]⟩⟩) hms2 Hm0.out c0m c1m (by omega) ⟨(by show (-9223372036854775808 : Int) ≤ 0; decide), (by show (0 : Int) ≤ 9223372036854775807; decide)⟩ _ ?_; intro v6 v95 v96 v97 v98 v99 v100 wc hrow hxc; go_wp2; go_roundw)
          case rel => (exact ⟨k + 1, ms ++ [⟨0, ⟨#[]⟩⟩], out ++ [lk], by go_num, by rw [List.length_append]; go_num, xw2.trans hxc, hrow.at_ (Loud.sound hld), fun h => by simp at h, hown'.ext hxc, fun ad n c e h => by have h1 := hrow.newer ad n c e; have h2 := hv _ h.symm; omega, hld⟩)
          case measure => simp [intOf]; omega

        by_cases g2 : (15 : Int) ≤ (out.length : Int) + l.length - k
        ·
          have own1 := RowW.ext hown5 ((ext_alloc w5 (.cells #[.int .i64 0, .string ⟨#[]⟩] 92)).trans (ext_alloc _ (.cells #[.string lk] 9)))
          have hw1 := hone lk (by omega) (w5.alloc (.cells #[.int .i64 0, .string ⟨#[]⟩] 92)) (by simp)
          clear hown5 HL2
          go_upto_region 20 with ((at_builtin; go_loud (refine wpList_append_strs rfl _ _ 26 rfl w.heap.size i0 Try.underlying26 hi hz0 hz1 hz2 (.slice oa out.length oc) _ rfl own1 (.slice (some ⟨w5.heap.size + 1, 0, none⟩) 1 1) rfl [lk] hw1 (by simp only [List.length_cons, List.length_nil]; omega) (by simp; omega) ?_; intro v' w2 hown' hgrow hblk)))
          have hld := HL.out.keep hlt Hdrop.out hw
          (have xG : Ext w5 ((w5.alloc (.cells #[.int .i64 0, .string ⟨#[]⟩] 92)).alloc (.cells #[.string lk] 9)) := (by first | (with_reducible exact Ext.refl _) | (with_reducible assumption) | (show Below _ _ _; go_grown; done)); have c0m : w2.cell? ⟨w5.heap.size, 0, none⟩ = some (.int .i64 0) := hgrow.cell (by simp [go_sem]) (fun e => absurd (hownlt w5.heap.size e.symm).2 (Nat.lt_irrefl _)); have c1m : w2.cell? ⟨w5.heap.size, 1, none⟩ = some (.string ⟨#[]⟩) := hgrow.cell (by simp [go_sem]) (fun e => absurd (hownlt w5.heap.size e.symm).2 (Nat.lt_irrefl _)); have hms2 : MarksAt w2 (.slice ua ms.length uc) ms := (Hms5.out.ext xG).grownBy hgrow (fun ad e => Hap.out ad _ _ (by rw [e])); have xw2 : Ext w w2 := Ext.grown (xw5.trans xG) hgrow (fun k hk => (hownlt k hk).1); have hv := fun k hk => (World.ownsRow.lt hown' k hk).2; refine aloud_r20 (ms := ms) (x := ⟨0, ⟨#[]⟩⟩) hms2 Hm0.out c0m c1m (by omega) ⟨(by show (-9223372036854775808 : Int) ≤ 0; decide), (by show (0 : Int) ≤ 9223372036854775807; decide)⟩ _ ?_; intro v6 v95 v96 v97 v98 v99 v100 wc hrow hxc; go_wp2; go_roundw)
          case rel => (exact ⟨k + 1, ms ++ [⟨0, ⟨#[]⟩⟩], out ++ [lk], by go_num, by rw [List.length_append]; go_num, xw2.trans hxc, hrow.at_ (Loud.sound hld), fun h => by simp at h, hown'.ext hxc, fun ad n c e h => by have h1 := hrow.newer ad n c e; have h2 := hv _ h.symm; omega, hld⟩)
          case measure => simp [intOf]; omega

        · have own1 := RowW.ext hown5 ((ext_alloc w5 (.cells #[.int .i64 3, .string wd] 92)).trans (ext_alloc _ (.cells #[.string wd] 9)))
          have hw1 := hone wd (by omega) (w5.alloc (.cells #[.int .i64 3, .string wd] 92)) (by simp)
          clear hown5 HL2
          go_upto_region 20 with ((at_builtin; go_loud (refine wpList_append_strs rfl _ _ 26 rfl w.heap.size i0 Try.underlying26 hi hz0 hz1 hz2 (.slice oa out.length oc) _ rfl own1 (.slice (some ⟨w5.heap.size + 1, 0, none⟩) 1 1) rfl [wd] hw1 (by simp only [List.length_cons, List.length_nil]; omega) (by simp; omega) ?_; intro v' w2 hown' hgrow hblk)))
          have hld := HL.out.put hwd (by omega)
          (have xG : Ext w5 ((w5.alloc (.cells #[.int .i64 3, .string wd] 92)).alloc (.cells #[.string wd] 9)) := (by first | (with_reducible exact Ext.refl _) | (with_reducible assumption) | (show Below _ _ _; go_grown; done)); have c0m : w2.cell? ⟨w5.heap.size, 0, none⟩ = some (.int .i64 3) := hgrow.cell (by simp [go_sem]) (fun e => absurd (hownlt w5.heap.size e.symm).2 (Nat.lt_irrefl _)); have c1m : w2.cell? ⟨w5.heap.size, 1, none⟩ = some (.string wd) := hgrow.cell (by simp [go_sem]) (fun e => absurd (hownlt w5.heap.size e.symm).2 (Nat.lt_irrefl _)); have hms2 : MarksAt w2 (.slice ua ms.length uc) ms := (Hms5.out.ext xG).grownBy hgrow (fun ad e => Hap.out ad _ _ (by rw [e])); have xw2 : Ext w w2 := Ext.grown (xw5.trans xG) hgrow (fun k hk => (hownlt k hk).1); have hv := fun k hk => (World.ownsRow.lt hown' k hk).2; refine aloud_r20 (ms := ms) (x := ⟨3, wd⟩) hms2 Hm0.out c0m c1m (by omega) ⟨(by show (-9223372036854775808 : Int) ≤ 3; decide), (by show (3 : Int) ≤ 9223372036854775807; decide)⟩ _ ?_; intro v6 v95 v96 v97 v98 v99 v100 wc hrow hxc; go_wp2; go_roundw)
          case rel => (exact ⟨k, ms ++ [⟨3, wd⟩], out ++ [wd], by go_num, by rw [List.length_append]; go_num, xw2.trans hxc, hrow.at_ (Loud.sound hld), fun h => by simp at h, hown'.ext hxc, fun ad n c e h => by have h1 := hrow.newer ad n c e; have h2 := hv _ h.symm; omega, hld⟩)
          case measure => simp [intOf]; omega
    · obtain rfl : k = l.length := by omega
      have hend := HL.out.ends H15.out
      have hat := RowW.at_ hown (fun s hs => by have := word_size (HL.out.words s hs); omega)
      obtain ⟨ua, uc, rfl, -⟩ := hms.shape
      obtain ⟨oa, oc, rfl⟩ := hown.shape
      have Hend := Lib.hid hend
      clear hend hfew
      go_wp2_with fail
      go_ret2
      exact ⟨_, _, ms, out, rfl, hms, hat, Hend.out.1, Hend.out.2, hxr⟩
end Go.Proofs.Ytgcibmdohifiaaa

namespace Go.Proofs.Ytgcibmdohifiaaa
set_option linter.unusedSimpArgs false
set_option linter.unusedVariables false
open Go.RowKit
set_option linter.unusedVariables false

theorem apply_fewA {f t : List ByteArray} (h : fewErrM f t = 0) : applyM (fewMarksM f t) f = ⟨t, 0⟩ := by
  have hm := apply_few h
  obtain ⟨h1, h2⟩ := few_ok h
  obtain ⟨f15, -⟩ := lettErr_ok h1
  obtain ⟨t15, -⟩ := lettErr_ok h2
  unfold applyM
  rw [if_neg (by rw [h1]; simp), if_neg, hm]
  have := marksF_len (f.length + (givenM t).length) f (givenM t)
  have hg : (givenM t).length = t.length := by simp [givenM]
  unfold fewMarksM
  rw [if_pos h]
  unfold marksM
  omega
theorem corrM_N : ∀ ms : List Mark, (∀ m ∈ ms, ∃ k : Nat, k ≤ 3 ∧ m.kind = k) → corrM ms = corrN ms
  | [], _ => rfl
  | m :: ms, h => by
    obtain ⟨k, hk, e⟩ := h m List.mem_cons_self
    have ih := corrM_N ms fun x hx => h x (List.mem_cons_of_mem _ hx)
    have h1 : corrM (m :: ms) = kC m.kind.toNat + corrM ms := by simp [corrM]
    have h2 : corrN (m :: ms) = (if (m.kind != 0) = true then 1 else 0) + corrN ms := by
      unfold corrN
      rw [List.filter_cons]
      cases m.kind != 0 <;> simp; omega
    rw [h1, h2, ih, e, Int.toNat_natCast]
    have : k = 0 ∨ k = 1 ∨ k = 2 ∨ k = 3 := by omega
    rcases this with rfl | rfl | rfl | rfl <;> simp [kC]
theorem marked_kinds : ∀ (ms : List Mark) (ws out res : List ByteArray), markedF ms ws out = ([], res, 0) → ∀ m ∈ ms, ∃ k : Nat, k ≤ 3 ∧ m.kind = k
  | [], ws, out, res, h => by simp
  | m :: r, ws, out, res, h => by
    rw [markedF] at h
    by_cases he : markErrM m ws = 0
    · rw [if_neg (by simpa using he)] at h
      obtain ⟨k, hk, hkd, hW⟩ := markErr_ok he
      have := marked_kinds r _ _ _ h
      intro x hx
      rcases List.mem_cons.1 hx with rfl | hx
      · exact ⟨k, hk, hkd⟩
      · exact this x hx
    · rw [if_pos he] at h
      obtain ⟨-, h2⟩ := Prod.mk.inj h
      exact absurd (Prod.mk.inj h2).2 he
theorem apply_kinds {ms : List Mark} {f t : List ByteArray} (h : applyM ms f = ⟨t, 0⟩) : ∀ m ∈ ms, ∃ k : Nat, k ≤ 3 ∧ m.kind = k := by
  unfold applyM at h
  split at h
  · rename_i h1; exact absurd (MarkedR.mk.inj h).2 h1
  · split at h
    · exact absurd (MarkedR.mk.inj h).2 (by decide)
    · unfold markedM at h
      split at h
      · rename_i h1; exact absurd (MarkedR.mk.inj h).2 h1
      · rename_i h1
        split at h
        · exact absurd (MarkedR.mk.inj h).2 (by decide)
        · rename_i h2
          split at h
          · exact absurd (MarkedR.mk.inj h).2 (by decide)
          · have e : markedF ms f [] = ([], t, 0) := by
              have a1 : (markedF ms f []).1 = [] := List.eq_nil_of_length_eq_zero (by omega)
              have a2 := (MarkedR.mk.inj h).1
              have a3 : (markedF ms f []).2.2 = 0 := by simpa using h1
              exact Prod.ext a1 (Prod.ext a2 a3)
            exact marked_kinds ms f [] t e
/-- what the law needs -/
theorem few_corrN {f t : List ByteArray} (h : fewErrM f t = 0) : corrN (fewMarksM f t) = fewManyM f t := by
  rw [← corrM_N _ (apply_kinds (apply_fewA h)), corr_few h]
theorem few_leastN {ms : List Mark} {f t : List ByteArray} (h : applyM ms f = ⟨t, 0⟩) (he : fewErrM f t = 0) : fewManyM f t ≤ corrN ms := by
  rw [← corrM_N _ (apply_kinds h)]
  unfold fewManyM
  rw [if_pos he]
  exact fewest_least h
theorem RowW.at15 {base : Nat} {l : List ByteArray} {u : Value} {w : World} (h : RowW base l u w) (hl : letterErrL l = 0) : StrsAt w u l := h.at_ fun s hs => by
  have := word_size ((lettErr_ok hl).2 s hs)
  omega
set_option maxRecDepth 100000 in
set_option maxHeartbeats 4000000 in
theorem fewestL_any (va vb xv : Value) (a b : List ByteArray) (x : List Int) (w : World) (ha : StrsAt w va a) (hb : StrsAt w vb b) (hx : BytesAt w xv x) :
    Calls Try.prog 4 #[va, vb, xv] w fun e w' => e = .returned (.bool true) ∧ Ext w w' := by
  obtain ⟨aa, ac, rfl, -⟩ := ha.shape
  obtain ⟨ba, bc, rfl, -⟩ := hb.shape
  obtain ⟨xa, xc, rfl, -⟩ := hx.shape
  obtain ⟨g1, g2, -, -⟩ := backP a b a
  have G1 := Lib.hid g1
  have G2 := Lib.hid g2
  clear g1 g2
  go_enter Try.func4, Try.ntmps4
  go_wp2_with fail
  refine (Fewest_any _ _ a b _ ha hb).mono ?_
  rintro e w1 ⟨u1, rfl, hm1, x1⟩
  have hla := fun w (x : Ext w1 w) => refLett_any _ a w ((ha.ext x1).ext x)
  have hlb := fun w (x : Ext w1 w) => refLett_any _ b w ((hb.ext x1).ext x)
  by_cases h1 : letterErrL a ≠ 0 ∨ letterErrL b ≠ 0
  · obtain ⟨k1, -, k3, -⟩ := G1.out h1
    have hmn : fewMarksM a b = [] := by unfold fewMarksM; rw [if_neg k1]
    rw [hmn] at hm1
    rw [k3]
    generalize fewErrM a b = e1 at *
    have k1' := ne_true k1
    obtain ⟨ua, uc, rfl, -⟩ := hm1.shape
    generalize letterErrL a = la at *
    generalize letterErrL b = lb at *
    clear G1 G2 k1 k3 hmn hm1
    by_cases h2 : la = 0
    · have h3 : lb ≠ 0 := h1.resolve_left (fun e => e h2)
      have h3' := ne_true h3
      subst h2
      clear h1 h3
      go_wp2_with fail
      refine (hla _ (by first | (with_reducible exact Ext.refl _) | (with_reducible assumption) | (show Below _ _ _; go_grown; done))).mono ?_
      rintro e w5 ⟨rfl, x5⟩
      go_wp2_with fail
      refine (hlb _ (by first | (with_reducible exact Ext.refl _) | (with_reducible assumption) | (show Below _ _ _; go_grown; done))).mono ?_
      rintro e w6 ⟨rfl, hx⟩
      replace x5 := x5.trans hx
      clear hx
      go_wp2_with fail
      refine (awakeL_any _).mono ?_
      rintro e w7 ⟨rfl, hx⟩
      go_wp2
      go_ret
      exact ⟨rfl, (x1.trans x5).trans hx⟩
    · have h2' := ne_true h2
      clear h1 h2
      go_wp2_with fail
      refine (hla _ (by first | (with_reducible exact Ext.refl _) | (with_reducible assumption) | (show Below _ _ _; go_grown; done))).mono ?_
      rintro e w5 ⟨rfl, x5⟩
      go_wp2_with fail
      refine (awakeL_any _).mono ?_
      rintro e w7 ⟨rfl, hx⟩
      go_wp2
      go_ret
      exact ⟨rfl, (x1.trans x5).trans hx⟩
  · have ea : letterErrL a = 0 := Decidable.not_not.1 fun e => h1 (.inl e)
    have eb : letterErrL b = 0 := Decidable.not_not.1 fun e => h1 (.inr e)
    obtain ⟨k1, -, -, -, k5⟩ := G2.out ea eb
    have hap := apply_fewA k1
    have hco := few_corrN k1
    have Ea := Lib.hid ea
    have Eb := Lib.hid eb
    rw [ea] at hla
    rw [eb] at hlb
    rw [k1]
    clear G1 G2 h1 ea eb
    obtain ⟨M, hM⟩ : ∃ M, M = fewMarksM a b := ⟨_, rfl⟩
    obtain ⟨n1, hn1⟩ : ∃ n, n = fewManyM a b := ⟨_, rfl⟩
    rw [← hM, ← hn1] at hco
    rw [← hM] at hm1 hap
    rw [← hn1] at k5 ⊢
    clear hM hn1
    obtain ⟨ua, uc, rfl, -⟩ := hm1.shape
    have Hap := Lib.hid hap
    have Hco := Lib.hid hco
    clear hap hco k1
    go_wp2_with fail
    refine (hla _ (by first | (with_reducible exact Ext.refl _) | (with_reducible assumption) | (show Below _ _ _; go_grown; done))).mono ?_
    rintro e w5 ⟨rfl, x5⟩
    go_wp2_with fail
    refine (hlb _ (by first | (with_reducible exact Ext.refl _) | (with_reducible assumption) | (show Below _ _ _; go_grown; done))).mono ?_
    rintro e w6 ⟨rfl, hx'⟩
    replace x5 := x5.trans hx'
    clear hx' hla hlb
    go_wp2_with fail
    refine (Apply_any _ _ a M _ ((ha.ext x1).ext x5) (hm1.ext x5)).mono ?_
    rw [Hap.out]
    rintro e w7 ⟨v, rfl, hnow', hx'⟩
    have hnow : StrsAt w7 v b := hnow'.at15 Eb.out
    replace x5 := x5.trans hx'
    clear hx' hnow'
    obtain ⟨na, nc, rfl, -⟩ := hnow.shape
    go_wp2_with fail
    refine (same_any _ _ b b _ hnow ((hb.ext x1).ext x5)).mono ?_
    rw [decide_eq_true rfl]
    rintro e w8 ⟨rfl, hx'⟩
    replace x5 := x5.trans hx'
    clear hx' hnow
    go_wp2_with fail
    refine (corrections_any _ M _ (hm1.ext x5)).mono ?_
    rw [Hco.out]
    rintro e w9 ⟨rfl, hx'⟩
    replace x5 := x5.trans hx'
    clear hx'
    go_wp2_with fail
    refine (aloud_any _ _ a x _ ((ha.ext x1).ext x5) ((hx.ext x1).ext x5) Ea.out).mono ?_
    rintro e w10 ⟨u, v, ms, out, rfl, hms, hout, hA, hO, hx'⟩
    have xx := x1.trans x5
    replace xx := xx.trans hx'
    have hfe : fewErrM a out = 0 := by unfold fewErrM; rw [if_neg (by rw [Ea.out]; simp), hO]
    have hle := few_leastN hA hfe
    have hl30 := few_le a out (lettErr_ok Ea.out).1 (lettErr_ok hO).1
    obtain ⟨pa, pc, rfl, -⟩ := hms.shape
    obtain ⟨oa, oc, rfl, -⟩ := hout.shape
    have HA := Lib.hid hA
    have HO := Lib.hid hO
    have Hfe := Lib.hid hfe
    clear hx' x5 x1 hm1 hA hO hfe
    go_wp2_with fail
    refine (Apply_any _ _ a ms _ (ha.ext xx) hms).mono ?_
    rw [HA.out]
    rintro e w11 ⟨v, rfl, hthen', hx'⟩
    have hthen : StrsAt w11 v out := hthen'.at15 HO.out
    replace xx := xx.trans hx'
    replace hout := hout.ext hx'
    replace hms := hms.ext hx'
    clear hx' hthen'
    obtain ⟨ta, tc, rfl, -⟩ := hthen.shape
    go_wp2_with fail
    refine (Fewest_any _ _ a out _ (ha.ext xx) hout).mono ?_
    rw [Hfe.out]
    rintro e w12 ⟨u3, rfl, -, hx'⟩
    replace xx := xx.trans hx'
    replace hout := hout.ext hx'
    replace hms := hms.ext hx'
    replace hthen := hthen.ext hx'
    clear hx'
    generalize fewManyM a out = n2 at *
    go_wp2_with fail
    refine (same_any _ _ out out _ hthen hout).mono ?_
    rw [decide_eq_true rfl]
    rintro e w13 ⟨rfl, hx'⟩
    replace xx := xx.trans hx'
    replace hms := hms.ext hx'
    clear hx' hthen hout
    have hle' : (n2 : Int) ≤ (corrN ms : Int) := by omega
    go_wp2_with fail
    refine (corrections_any _ ms _ hms).mono ?_
    rintro e w14 ⟨rfl, hx'⟩
    replace xx := xx.trans hx'
    clear hx' hms
    generalize corrN ms = cn at *
    go_wp2_with fail
    refine (awakeL_any _).mono ?_
    rintro e w15 ⟨rfl, hx'⟩
    go_wp2
    go_ret
    exact ⟨rfl, xx.trans hx'⟩
end Go.Proofs.Ytgcibmdohifiaaa
