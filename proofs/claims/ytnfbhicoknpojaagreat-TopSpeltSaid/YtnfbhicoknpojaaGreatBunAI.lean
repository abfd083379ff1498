/-
  WHAT IS FOUND: mend of the program.
  THE MARKS: fewest and marks of the program.
  Fewest of the program, for any letters.
  Mend of the program, for any shelf, form and letter.
  needs and Nearest of the program.
  Nearest of the program.
-/
import Derived.Test.YtnfbhicoknpojaaGreatBunAH
namespace Go.Proofs.YtnfbhicoknpojaaGreat
set_option linter.unusedSimpArgs false
set_option linter.unusedVariables false
open Go.RowKit
set_option linter.unusedVariables false

def set4 (w : World) (B : Nat) (a b c d : Value) : World := (((w.setCell ⟨B, 0, none⟩ a).setCell ⟨B, 1, none⟩ b).setCell ⟨B, 2, none⟩ c).setCell ⟨B, 3, none⟩ d
theorem set4_cells {w : World} {B : Nat} {x y z t : Value} (h0 : w.cell? ⟨B, 0, none⟩ = some x) (h1 : w.cell? ⟨B, 1, none⟩ = some y) (h2 : w.cell? ⟨B, 2, none⟩ = some z) (h3 : w.cell? ⟨B, 3, none⟩ = some t) (a b c d : Value) :
    (set4 w B a b c d).cell? ⟨B, 0, none⟩ = some a ∧ (set4 w B a b c d).cell? ⟨B, 1, none⟩ = some b ∧ (set4 w B a b c d).cell? ⟨B, 2, none⟩ = some c ∧ (set4 w B a b c d).cell? ⟨B, 3, none⟩ = some d :=
  ⟨set_other (set_other (set_other (set_cell h0 a) (.inr (by simp)) b) (.inr (by simp)) c) (.inr (by simp)) d,
    set_other (set_other (set_cell (set_other h1 (.inr (by simp)) a) b) (.inr (by simp)) c) (.inr (by simp)) d,
    set_other (set_cell (set_other (set_other h2 (.inr (by simp)) a) (.inr (by simp)) b) c) (.inr (by simp)) d,
    set_cell (set_other (set_other (set_other h3 (.inr (by simp)) a) (.inr (by simp)) b) (.inr (by simp)) c) d⟩
theorem set4_other {w : World} {B : Nat} {a b c d : Value} {k : Nat} (h : k ≠ B) : (set4 w B a b c d).heap[k]? = w.heap[k]? := by
  unfold set4
  iterate 3 rw [Below.heap_setCell _ _ _ _ (by simpa using h)]
  exact Below.heap_setCell _ _ _ _ (by simpa using h)
set_option maxRecDepth 100000 in
set_option maxHeartbeats 1500000 in
theorem mend_any (uv sv : Value) (ws : List ByteArray) (ss : List Slot) (w : World) (hu : StrsAt w uv ws) (hs : SlotsAt w sv ss) (h9 : ws.length ≤ 900 ∧ ss.length ≤ 900) :
    Calls Tryz.prog 56 #[uv, sv] w fun e w' => ∃ kb B M, e = .returned (mendV uv sv kb B) ∧ StrsAt w' uv ws ∧ SlotsAt w' sv ss ∧ KindsAt w' kb ∧ MapP w' B M ∧ TabIs ws ss (ws.length + 1) 0 M ∧ Ext w w' := by
  obtain ⟨ua, uc, rfl, huc, hum⟩ := hu.shape
  obtain ⟨sa, sc, rfl, hsc, hsm⟩ := hs.shape
  have hmm := @run_makeMap Tryz.prog
  go_enter Tryz.func56, Tryz.ntmps56
  go_wp2_with fail
  refine (kinds_any _).mono ?_
  rintro e w1 ⟨⟨kb, rfl, hk⟩, hx1⟩
  have x1 : Ext w w1 := Ext.trans (by first | (with_reducible exact Ext.refl _) | (with_reducible assumption) | (show Below _ _ _; go_grown; done)) hx1
  have zq : w.heap.size < w1.heap.size := by have := hx1.size; simp at this; omega
  go_wp2_with fail
  obtain ⟨W0, hW0⟩ : ∃ W0, W0 = (w1.alloc (.map #[] 0)).alloc (.cells #[.slice ua ws.length uc, .slice sa ss.length sc, .slice (some ⟨kb, 0, none⟩) 5 5, .map (some w1.heap.size)] 120) := ⟨_, rfl⟩
  have x0 : Ext w1 W0 := by rw [hW0]; exact (ext_alloc _ _).alloc _
  have z0 : W0.heap.size = w1.heap.size + 2 := by rw [hW0]; simp
  have mm0 : MapP W0 w1.heap.size [] := by
    rw [hW0]
    exact MapP.ext (w := w1.alloc (.map #[] 0)) ⟨#[], 0, World.alloc_heap_new w1 _, rfl⟩ (ext_alloc _ _)
  have m0 : W0.cell? ⟨w1.heap.size + 1, 0, none⟩ = some (.slice ua ws.length uc) := by rw [hW0]; simp [go_sem]
  have m1 : W0.cell? ⟨w1.heap.size + 1, 1, none⟩ = some (.slice sa ss.length sc) := by rw [hW0]; simp [go_sem]
  have m2 : W0.cell? ⟨w1.heap.size + 1, 2, none⟩ = some (.slice (some ⟨kb, 0, none⟩) 5 5) := by rw [hW0]; simp [go_sem]
  have m3 : W0.cell? ⟨w1.heap.size + 1, 3, none⟩ = some (.map (some w1.heap.size)) := by rw [hW0]; simp [go_sem]
  have r0 : W0.cell? ⟨w.heap.size, 0, none⟩ = some (.slice none 0 0) := x0.cell (hx1.cell (by simp [go_sem]))
  have r1 : W0.cell? ⟨w.heap.size, 1, none⟩ = some (.slice none 0 0) := x0.cell (hx1.cell (by simp [go_sem]))
  have r2 : W0.cell? ⟨w.heap.size, 2, none⟩ = some (.slice none 0 0) := x0.cell (hx1.cell (by simp [go_sem]))
  have r3 : W0.cell? ⟨w.heap.size, 3, none⟩ = some (.map none) := x0.cell (hx1.cell (by simp [go_sem]))
  have rf : ∀ o, W0.frozen? ⟨w.heap.size, o, none⟩ = false := fun o => (x0.frozen (p := ⟨w.heap.size, o, none⟩) zq).trans ((hx1.frozen (p := ⟨w.heap.size, o, none⟩) (by simp)).trans (by simp [go_sem]))
  have hu0 := hu.ext (x1.trans x0)
  have hs0 := hs.ext (x1.trans x0)
  have hk0 := hk.ext x0
  rw [← hW0]
  have Hu := Lib.hid hu
  have Hs := Lib.hid hs
  clear hW0 hx1 hmm hk hu hs
  generalize w1.heap.size = B at *
  go_loopw [6] (fun ix wr => ∃ (r : Nat) (M : Tab), r ≤ ws.length + 1 ∧ ix = .int .i64 ((ws.length : Int) - r) ∧ Puts B W0 wr ∧ TabIs ws ss r 0 M ∧ MapP wr B M) (fun ix _ => (intOf ix + 1).toNat)
  case atStart => exact ⟨0, [], Nat.zero_le _, by simp, (Ext.refl _).puts _, TabIs.nil _ _, mm0⟩
  case round =>
    obtain ⟨r, M0, hr1, hix, hp, hT0, hM0⟩ := hrel
    obtain ⟨wo, hwo⟩ : ∃ wo : World, wo = wr := ⟨_, rfl⟩
    subst hwo
    by_cases hlt : r ≤ ws.length
    · obtain ⟨i, hi⟩ : ∃ i, ws.length - r = i := ⟨_, rfl⟩
      have hie : (ws.length : Int) - r = (i : Int) := by omega
      rw [hie] at hix
      subst hix
      have hge : (0 : Int) ≤ (i : Int) := by omega
      have hw1 : IntKind.i64.wrap ((i : Int) - 1) = (i : Int) - 1 := IntWalk.i64_in _ (by omega)
      have Hi := Lib.hid hi
      have Hie := Lib.hid hie
      clear hi hie
      go_wp2
      go_loopw [7] (fun ix wr => ∃ (s : Nat) (M : Tab), s ≤ ss.length + 1 ∧ ix = .int .i64 ((ss.length : Int) - s) ∧ Puts B W0 wr ∧ TabIs ws ss r s M ∧ MapP wr B M) (fun ix _ => (intOf ix + 1).toNat)
      case atStart => exact ⟨0, M0, Nat.zero_le _, by simp, hp, hT0, hM0⟩
      case round =>
        clear hM0 hT0 hp
        obtain ⟨s, M, hs1, hix, hp, hT, hM⟩ := hrel
        by_cases hlt2 : s ≤ ss.length
        · obtain ⟨j, hj⟩ : ∃ j, ss.length - s = j := ⟨_, rfl⟩
          have hje : (ss.length : Int) - s = (j : Int) := by omega
          rw [hje] at hix
          subst hix
          have hge2 : (0 : Int) ≤ (j : Int) := by omega
          have hw2 : IntKind.i64.wrap ((j : Int) - 1) = (j : Int) - 1 := IntWalk.i64_in _ (by omega)
          have hBl := hM.lt
          have hSp := two_puts B
          have c0 := hp.cell m0
          have c1 := hp.cell m1
          have c2 := hp.cell m2
          have c3 := hp.cell m3
          have z1 := cell_lt c0
          have hxp : Ext wr (wr.alloc (.cells #[.int .i64 (i : Int), .int .i64 (j : Int)] 189)) := ext_alloc _ _
          have hstep := hT.step hlt hlt2
          have hval := hT.val hlt hlt2
          have hnone := hT.none hlt hlt2
          have hin := hT.in h9
          rw [Hi.out, hj] at hstep hval hnone
          have Hje := Lib.hid hje
          have Hstep := Lib.hid hstep
          have Hval := Lib.hid hval
          have Hnone := Lib.hid hnone
          have Hlt2 := Lib.hid hlt2
          have Hij := Lib.hid (show i ≤ ws.length ∧ j ≤ ss.length by have := Hi.out; omega)
          clear hje hj hstep hval hnone hT hlt hlt2
          generalize hv : valM ws ss i j = v at *
          clear hv
          go_wp2_with fail
          apply Facts.Dep.Once.wp_region (two_puts B) 10 [.val _, .val _, .val _, .val _, .val _, .fact (ChoV (.slice ua ws.length uc) (.slice sa ss.length sc) kb B i j), .val (.tuple #[chV v, .int .i64 (choicesM (tabF M) ws ss i j).length]), .val (.tuple #[chV v, .int .i64 (choicesM (tabF M) ws ss i j).length]), .val (chV v), .val (.int .i64 (choicesM (tabF M) ws ss i j).length), .fact (fun _ w => MapP w B (M ++ [((i, j), v)]))] (by kernel_rfl) (by kernel_rfl) (by kernel_rfl) ?keep ?main
          case keep => exact ⟨fun u a c hx h => h.lies hx.lies, fun _ _ u a c hx h => h.lies fun p v hp => hx.cell hp, fun u a c hx h => h.ext hx, fun h => absurd rfl h, trivial⟩
          case main =>
            obtain ⟨W8, hW8⟩ : ∃ W8, W8 = wr.alloc (.cells #[.int .i64 (i : Int), .int .i64 (j : Int)] 189) := ⟨_, rfl⟩
            have d0 : W8.cell? ⟨wr.heap.size, 0, none⟩ = some (.int .i64 (i : Int)) := by rw [hW8]; simp [go_sem]
            have d1 : W8.cell? ⟨wr.heap.size, 1, none⟩ = some (.int .i64 (j : Int)) := by rw [hW8]; simp [go_sem]
            rw [← hW8] at hxp ⊢
            have e0 := hxp.cell c0
            have e1 := hxp.cell c1
            have e2 := hxp.cell c2
            have e3 := hxp.cell c3
            have hM8 := hM.ext hxp
            have hp8 := hp.trans (hxp.puts B)
            have hzB : B ≤ wr.heap.size := by omega
            iterate 5 (refine ⟨fun w1 hE hC hh => ?_, ?_⟩; focus (clear hh hE; (have f0 := hC.cell e0; have f1 := hC.cell e1; have f2 := hC.cell e2; have f3 := hC.cell e3; have g0 := hC.cell d0; have g1 := hC.cell d1); go_simp; first | exact ⟨Ext.refl _, rfl⟩ | exact Ext.refl _))
            refine ⟨fun w1 hE hC hh => ?_, ?_⟩
            · clear hh hE hC
              go_simp
              have hca := chose_any ua sa uc sc ws.length ss.length kb B i j w1
              unfold mendV placeV at hca
              refine hca.mono ?_
              rintro e w' ⟨mb, pb, rfl, hcf, hx2⟩
              exact ⟨_, rfl, hx2, ⟨mb, pb, rfl, hcf⟩⟩
            intro u5
            refine ⟨fun w1 hE hC hh => ?_, ?_⟩
            · have h5 : ChoV (.slice ua ws.length uc) (.slice sa ss.length sc) kb B i j u5 w1 := hh 5 _ List.mem_cons_self (by kernel_rfl)
              have hx := hE (by kernel_rfl)
              clear hh hE hC
              have s5 := h5.spec
              generalize h5.m = mb at *
              generalize h5.p = pb at *
              clear h5
              obtain ⟨rfl, hcf⟩ := s5
              have hl := (hp8.trans (hx.puts B)).1
              have hba := bestAt_any mb pb kb B _ _ ws ss M i j w1 hcf (hu0.lies fun p v hp => hl.cell (.inr (Nat.zero_le _)) hp) (hs0.lies fun p v hp => hl.cell (.inr (Nat.zero_le _)) hp) (hk0.lies fun p v hp => hl.cell (.inr (Nat.zero_le _)) hp) (hM8.ext hx) Hij.out h9 hin
              rw [Hval.out] at hba
              unfold fewerF at hba
              go_simp
              refine hba.mono ?_
              rintro e w' ⟨rfl, hx2⟩
              exact ⟨_, rfl, hx2, rfl⟩
            unfold chV
            iterate 3 (refine ⟨fun w1 hE hC hh => ?_, ?_⟩; focus (clear hh hE; skip; go_simp; first | exact ⟨Ext.refl _, rfl⟩ | exact Ext.refl _))
            refine ⟨fun w1 hE hC hh => ?_, ?_⟩
            · have hx := hE (by kernel_rfl)
              have hMx := hM8.ext hx
              clear hh hE hC
              have hup := run_update_p (i, j) v hMx Hnone.out
              have hu2 := hup.choose_spec
              generalize hup.choose = w' at hu2
              have hrun := hu2.1
              have hM' := hu2.2.1
              have hg := hu2.2.2.1
              clear hu2 hup
              unfold placeV chV at hrun
              go_simp
              have hP := puts_map (Nat.le_refl _) hMx hg
              first | exact ⟨hP, hM'⟩ | exact hP
            intro u10 w5 hC hh
            have hM5 : MapP w5 B (M ++ [((i, j), v)]) := hh 10 _ List.mem_cons_self
            clear hh
            go_simp
            go_wp2
            go_roundw
            case rel => exact ⟨s + 1, _, by have := Hlt2.out; omega, by congr 1; have := Hje.out; omega, hp8.trans hC, Hstep.out, hM5⟩
            case measure => simp [intOf] <;> omega
        · obtain rfl : s = ss.length + 1 := by omega
          have hje : (ss.length : Int) - ((ss.length + 1 : Nat) : Int) = -1 := by omega
          rw [hje] at hix
          subst hix
          go_wp2
          go_roundw
          case rel => exact ⟨r + 1, M, by omega, by congr 1; have := Hie.out; omega, hp, hT.row, hM⟩
          case measure => simp [intOf] <;> omega
    · obtain rfl : r = ws.length + 1 := by omega
      have hie : (ws.length : Int) - ((ws.length + 1 : Nat) : Int) = -1 := by omega
      rw [hie] at hix
      subst hix
      have c0 := hp.cell m0
      have c1 := hp.cell m1
      have c2 := hp.cell m2
      have c3 := hp.cell m3
      have q0 := hp.cell r0
      have q1 := hp.cell r1
      have q2 := hp.cell r2
      have q3 := hp.cell r3
      have qf : ∀ o, wo.frozen? ⟨w.heap.size, o, none⟩ = false := fun o => ((hp.2 (by omega)).frozen (p := ⟨w.heap.size, o, none⟩) zq).trans (rf o)
      clear r0 r1 r2 r3 rf m0 m1 m2 m3
      go_wp2
      obtain ⟨W5, hW5⟩ : ∃ W5, W5 = set4 wo w.heap.size (.slice ua ws.length uc) (.slice sa ss.length sc) (.slice (some ⟨kb, 0, none⟩) 5 5) (.map (some B)) := ⟨_, rfl⟩
      have h4 := set4_cells q0 q1 q2 q3 (.slice ua ws.length uc) (.slice sa ss.length sc) (.slice (some ⟨kb, 0, none⟩) 5 5) (.map (some B))
      have xwo : Ext w wo := Below.trans (x1.trans x0) ((hp.2 (by omega)).mono (Nat.le_of_lt zq))
      have x5 : Ext w W5 := by rw [hW5]; exact (((xwo.setCell (p := ⟨w.heap.size, 0, none⟩) (Nat.le_refl _) _).setCell (p := ⟨w.heap.size, 1, none⟩) (Nat.le_refl _) _).setCell (p := ⟨w.heap.size, 2, none⟩) (Nat.le_refl _) _).setCell (p := ⟨w.heap.size, 3, none⟩) (Nat.le_refl _) _
      have hoth : ∀ k, k ≠ w.heap.size → W5.heap[k]? = wo.heap[k]? := fun k hk => by rw [hW5]; exact set4_other hk
      have hkb : kb ≠ w.heap.size := fun e => by
        have := hp.cell (hk0 0 0 (.int .i64 1) (by omega) rfl)
        rw [e, q0] at this
        cases this
      rw [← hW5] at h4
      obtain ⟨g0, g1, g2, g3⟩ := h4
      have hkf : KindsAt W5 kb := fun k j u hk hu => (World.cell?_of_block (hoth kb hkb)).trans (hp.cell (hk0 k j u hk hu))
      refine bodyPost_ret (v := mendV (.slice ua ws.length uc) (.slice sa ss.length sc) kb B) (show _ = _ from by rw [show (((wo.setCell ⟨w.heap.size, 0, none⟩ (.slice ua ws.length uc)).setCell ⟨w.heap.size, 1, none⟩ (.slice sa ss.length sc)).setCell ⟨w.heap.size, 2, none⟩ (.slice (some ⟨kb, 0, none⟩) 5 5)).setCell ⟨w.heap.size, 3, none⟩ (.map (some B)) = W5 from hW5.symm]; simp [results, Tryz.results56, go_sem, g0, g1, g2, g3, mendV]) rfl ?_
      rw [show (((wo.setCell ⟨w.heap.size, 0, none⟩ (.slice ua ws.length uc)).setCell ⟨w.heap.size, 1, none⟩ (.slice sa ss.length sc)).setCell ⟨w.heap.size, 2, none⟩ (.slice (some ⟨kb, 0, none⟩) 5 5)).setCell ⟨w.heap.size, 3, none⟩ (.map (some B)) = W5 from hW5.symm]
      exact ⟨kb, B, M0, rfl, Hu.out.ext x5, Hs.out.ext x5, hkf, hM0.kept (hoth B (by omega)), hT0, x5⟩
end Go.Proofs.YtnfbhicoknpojaaGreat

namespace Go.Proofs.YtnfbhicoknpojaaGreat
set_option linter.unusedSimpArgs false
set_option linter.unusedVariables false
open Go.RowKit
set_option linter.unusedVariables false

theorem field_ch0 (a b : Int) (w : World) : (Instr.field 155 (.agg #[.int .i64 a, .int .i64 b]) 0).run Tryz.prog w = .ok (.int .i64 a) w := by
  have ha : ∀ w, (isAgg 3).run Tryz.prog w = .ok false w := fun _ => by kernel_rfl
  unfold Instr.field
  simp [part, ha, asAgg, go_sem]
theorem field_ch1 (a b : Int) (w : World) : (Instr.field 155 (.agg #[.int .i64 a, .int .i64 b]) 1).run Tryz.prog w = .ok (.int .i64 b) w := by
  have ha : ∀ w, (isAgg 3).run Tryz.prog w = .ok false w := fun _ => by kernel_rfl
  unfold Instr.field
  simp [part, ha, asAgg, go_sem]
set_option maxRecDepth 100000 in
theorem fewest_any (ua sa : Option Addr) (m n um sn kb B : Nat) (M : Tab) (c : Ch) (w : World) (hM : MapP w B M) (hg : getP (0, 0) M = some c) :
    Calls Tryz.prog 59 #[mendV (.slice ua m um) (.slice sa n sn) kb B] w fun e w' => e = .returned (.int .i64 (c.2 : Nat)) ∧ Ext w w' := by
  unfold mendV
  have hx0 : Ext w (w.alloc (.cells #[.slice ua m um, .slice sa n sn, .slice (some ⟨kb, 0, none⟩) 5 5, .map (some B)] 120)) := ext_alloc _ _
  have hlk := run_lookup_p (0, 0) (hM.ext hx0) false
  rw [hg] at hlk
  unfold placeV chV at hlk
  simp only [Option.getD_some, Int.natCast_zero] at hlk
  simp only [Bool.false_eq_true, if_false] at hlk
  go_enter Tryz.func59, Tryz.ntmps59
  go_wp2_with fail
  rw [field_ch1]
  go_simp
  go_wp2
  go_ret
  exact ⟨rfl, hx0⟩

theorem neq_place (k m : Nat × Nat) (w : World) : (binOp .neq 189 (placeV k) (placeV m)).run Tryz.prog w = .ok (.bool (!decide (k = m))) w := by
  have h := equal_place k m w
  have hop : Op.equal 189 (placeV k) (placeV m) = Op.equalIn 10000 189 (placeV k) (placeV m) := rfl
  rw [hop] at h
  unfold placeV at *
  rw [run_neq_struct, h]
  rfl

/-! ### The marks, from a place on -/
theorem marksF_fuel : ∀ (n k : Nat) (ws : List ByteArray) (ss : List Slot), ws.length + ss.length ≤ n → ws.length + ss.length ≤ k → marksF n ws ss = marksF k ws ss
  | 0, 0, _, _, _, _ => rfl
  | 0, k + 1, ws, ss, h, _ => by rw [marksF, marksF, if_pos (by omega)]
  | n + 1, 0, ws, ss, _, h => by rw [marksF, marksF, if_pos (by omega)]
  | n + 1, k + 1, ws, ss, h1, h2 => by
    by_cases h : ws.length + ss.length = 0
    · rw [marksF, marksF, if_pos h, if_pos h]
    · obtain ⟨-, g1, g2, g3, -, -⟩ := costM_which ws ss (by omega)
      rw [marksF, marksF, if_neg h, if_neg h]
      congr 1
      exact marksF_fuel n k _ _ (by rw [List.length_drop, List.length_drop]; omega) (by rw [List.length_drop, List.length_drop]; omega)
theorem marksF_len : ∀ (n : Nat) (ws : List ByteArray) (ss : List Slot), (marksF n ws ss).length ≤ n
  | 0, _, _ => Nat.le_refl _
  | n + 1, ws, ss => by
    rw [marksF]
    split
    · simp
    · have := marksF_len n (ws.drop (kW (costM ws ss).1)) (ss.drop (kS (costM ws ss).1))
      simp; omega
/-- the mark at a place -/
def markAt (ws : List ByteArray) (ss : List Slot) (i j : Nat) : Mark := ⟨((valM ws ss i j).1 : Nat), if kWr (valM ws ss i j).1 then (ss.getD j noSlot).word else ByteArray.empty⟩
theorem marks_step (ws : List ByteArray) (ss : List Slot) (i j : Nat) (hi : i ≤ ws.length) (hj : j ≤ ss.length) (hne : ¬ (i, j) = (ws.length, ss.length)) :
    (valM ws ss i j).1 < 5 ∧ i + kW (valM ws ss i j).1 ≤ ws.length ∧ j + kS (valM ws ss i j).1 ≤ ss.length ∧
      marksM (ws.drop i) (ss.drop j) = markAt ws ss i j :: marksM (ws.drop (i + kW (valM ws ss i j).1)) (ss.drop (j + kS (valM ws ss i j).1)) := by
  have h0 : 0 < (ws.drop i).length + (ss.drop j).length := by
    rw [List.length_drop, List.length_drop]
    rcases Nat.eq_zero_or_pos (ws.length - i + (ss.length - j)) with h | h
    · exact absurd (by rw [show i = ws.length from by omega, show j = ss.length from by omega]) hne
    · exact h
  obtain ⟨h1, h2, h3, h4, -, -⟩ := costM_which (ws.drop i) (ss.drop j) h0
  unfold markAt valM
  rw [List.length_drop] at h2 h3
  refine ⟨by omega, by omega, by omega, ?_⟩
  obtain ⟨N, hN⟩ : ∃ N, (ws.drop i).length + (ss.drop j).length = N + 1 := ⟨(ws.drop i).length + (ss.drop j).length - 1, by omega⟩
  unfold marksM
  rw [hN, marksF, if_neg (by omega), List.drop_drop, List.drop_drop]
  have e : (ss.drop j).headD noSlot = ss.getD j noSlot := by simp [List.headD_eq_head?_getD, List.head?_drop]
  rw [e]
  congr 1
  refine marksF_fuel _ _ _ _ ?_ (Nat.le_refl _)
  simp only [List.length_drop] at *
  omega
/-- a row of marks of the call's own -/
def cellsK (l : List Mark) : List Value := l.flatMap fun s => [.int .i64 s.kind, .string s.word]
theorem cellsK_len (l : List Mark) : (cellsK l).length = l.length * 2 := by
  induction l with
  | nil => rfl
  | cons x l ih => simp only [cellsK, List.flatMap_cons, List.length_append, List.length_cons, List.length_nil] at *; omega
theorem cellsK_get (l : List Mark) (i : Nat) (h : i < l.length) : (cellsK l)[i * 2]? = some (.int .i64 l[i].kind) ∧ (cellsK l)[i * 2 + 1]? = some (.string l[i].word) := by
  induction l generalizing i with
  | nil => simp at h
  | cons x l ih =>
    cases i with
    | zero => simp [cellsK]
    | succ i =>
      have := ih i (by simpa using h)
      have e : (i + 1) * 2 = i * 2 + 2 := by omega
      rw [e]
      simpa [cellsK] using this
theorem cellsK_app (l r : List Mark) : cellsK (l ++ r) = cellsK l ++ cellsK r := by simp [cellsK]
def RowK (base : Nat) (l : List Mark) (u : Value) (w : World) : Prop := w.ownsRow base 152 2 u l.length (cellsK l)
theorem RowK.ext {base : Nat} {l : List Mark} {u : Value} {w w' : World} (h : RowK base l u w) (hx : Ext w w') : RowK base l u w' := Ext.owns h hx
theorem RowK.nil {base : Nat} {w : World} : RowK base [] (.slice none 0 0) w := World.ownsRow_nil _ _ _ _
theorem RowK.snoc {base : Nat} {l : List Mark} {a : Int} {b : ByteArray} {u : Value} {w : World} (h : w.ownsRow base 152 2 u (l.length + 1) (cellsK l ++ [.int .i64 a, .string b])) : RowK base (l ++ [⟨a, b⟩]) u w := by
  unfold RowK
  rw [cellsK_app, List.length_append]
  exact h
theorem RowK.lower {base base' : Nat} {l : List Mark} {u : Value} {w : World} (h : RowK base l u w) (hb : base' ≤ base) : RowK base' l u w := by
  refine ⟨h.1, ?_⟩
  rcases h.2 with h | ⟨g, cap, cur, e, h1, h2⟩
  · exact .inl h
  · exact .inr ⟨g, cap, cur, e, Nat.le_trans hb h1, h2⟩
theorem RowK.at_ {base : Nat} {l : List Mark} {u : Value} {w : World} (h : RowK base l u w) (hI : ∀ s ∈ l, I64 s.kind ∧ s.word.size ≤ 9223372036854775807) : MarksAt w u l := by
  have hcells := fun g hg => h.cells (g := g) hg
  rcases h.2 with ⟨rfl, hn⟩ | ⟨g, cap, cur, rfl, hb, hg, hnc, hcm, hcs, htake⟩
  · have : l = [] := List.eq_nil_of_length_eq_zero hn
    subst this; exact SliceAt.nil
  · refine ⟨_, _, rfl, hnc, by simpa [maxLen] using hcm, fun i hi => ⟨g, 0, rfl, ?_⟩⟩
    obtain ⟨c0, c1⟩ := cellsK_get l i hi
    have r0 := hcells g rfl _ _ c0
    have r1 := hcells g rfl _ _ c1
    have ea : ∀ j, (⟨g, 0, none⟩ : Addr).add j = ⟨g, 0 + j, none⟩ := fun j => by unfold Addr.add; split <;> simp_all
    rw [ea] at r0 r1
    exact ⟨r0, r1, hI _ (List.getElem_mem hi)⟩
def lenV : Value → Nat
  | .slice _ n _ => n
  | _ => 0
theorem RowK.lenV {base : Nat} {l : List Mark} {u : Value} {w : World} (h : RowK base l u w) : lenV u = l.length := by
  rcases h.2 with ⟨rfl, hn⟩ | ⟨g, cap, cur, rfl, h1, h2⟩
  · exact hn.symm
  · rfl
theorem infoMark : (Tryz.prog.info? 152).map (fun i => (i.zero, i.size, i.bytes)) = some (some (.agg #[.int .i64 0, .string ByteArray.empty]), 2, 24) := by kernel_rfl
def OwnP (pb i j : Nat) (w : World) : Prop := w.cell? ⟨pb, 0, none⟩ = some (.int .i64 (i : Nat)) ∧ w.cell? ⟨pb, 1, none⟩ = some (.int .i64 (j : Nat)) ∧ ∀ o, w.frozen? ⟨pb, o, none⟩ = false
theorem OwnP.ext {pb i j : Nat} {w w' : World} (h : OwnP pb i j w) (hx : Ext w w') : OwnP pb i j w' :=
  ⟨hx.cell h.1, hx.cell h.2.1, fun o => (hx.frozen (p := ⟨pb, o, none⟩) (show pb < _ from cell_lt h.1)).trans (h.2.2 o)⟩
theorem grown_frozenK {w w' : World} {row : Option Nat} (hg : w.grownBy w' row) {p : Addr} (hlt : p.block < w.heap.size) (hne : some p.block ≠ row) : w'.frozen? p = w.frozen? p := by
  unfold World.frozen?
  rw [hg.block p.block hlt (fun e => hne (by rw [e]))]
theorem grownBy_setAt (w : World) (b o : Nat) (v : Value) : w.grownBy (w.setCell ⟨b, o, none⟩ v) (some b) := ⟨rfl, rfl, rfl, by simp [World.setCell], fun k _ hk => Below.heap_setCell _ _ _ _ (fun e => hk (by rw [e]))⟩
theorem KindAt.below {w' W : World} {b o k B : Nat} (h : KindAt W b o k) (hx : Below B W w') (hb : b < B) : KindAt w' b o k :=
  ⟨(hx.cell (p := ⟨b, o, none⟩) hb).trans h.c0, (hx.cell (p := ⟨b, o + 1, none⟩) hb).trans h.c1, (hx.cell (p := ⟨b, o + 2, none⟩) hb).trans h.c2, (hx.cell (p := ⟨b, o + 3, none⟩) hb).trans h.c3, (hx.cell (p := ⟨b, o + 4, none⟩) hb).trans h.c4, (hx.cell (p := ⟨b, o + 5, none⟩) hb).trans h.c5⟩
/-- what is so once the next place has been stored -/
structure StepK (S : Nat) (W0 : World) (pb i j : Nat) (l : List Mark) (v : Value) (w : World) : Prop where
  p : OwnP pb i j w
  ext : Below S W0 w
  row : RowK S l v w
theorem StepK.ext' {S : Nat} {W0 : World} {pb i j : Nat} {l : List Mark} {v : Value} {w w' : World} (h : StepK S W0 pb i j l v w) (hx : Ext w w') (hS : S ≤ W0.heap.size) : StepK S W0 pb i j l v w' :=
  ⟨h.p.ext hx, h.ext.trans (Below.mono hx (Nat.le_trans hS h.ext.size)), h.row.ext hx⟩
theorem stepK {S pb i j ni nj : Nat} {W0 w : World} {l : List Mark} {v : Value} (hx : Below S W0 w) (hP : OwnP pb i j w) (hr : RowK S l v w) (hb : v.ownBlock ≠ some pb) (hpb : S ≤ pb) :
    StepK S W0 pb ni nj l v ((w.setCell ⟨pb, 0, none⟩ (.int .i64 (ni : Nat))).setCell ⟨pb, 1, none⟩ (.int .i64 (nj : Nat))) := by
  obtain ⟨h1, h2⟩ := two_cells hP.1 hP.2.1 (.int .i64 (ni : Nat)) (.int .i64 (nj : Nat))
  exact ⟨⟨h1, h2, fun o => by simpa [go_sem] using hP.2.2 o⟩, (hx.setCell (p := ⟨pb, 0, none⟩) hpb _).setCell (p := ⟨pb, 1, none⟩) hpb _, World.ownsRow.kept (World.ownsRow.kept hr (grownBy_setAt _ _ _ _) (.inr hb)) (grownBy_setAt _ _ _ _) (.inr hb)⟩
theorem kWr_S (k : Nat) (h : kWr k = true) : kS k = 1 := by
  unfold kWr at h
  split at h
  · rfl
  · rfl
  · cases h
set_option maxRecDepth 100000 in
set_option maxHeartbeats 3000000 in
theorem marks_any (uv sv : Value) (ws : List ByteArray) (ss : List Slot) (kb B : Nat) (M : Tab) (w : World) (hu : StrsAt w uv ws) (hs : SlotsAt w sv ss) (hk : KindsAt w kb) (hM : MapP w B M) (hT : TabIs ws ss (ws.length + 1) 0 M) (h9 : ws.length ≤ 900 ∧ ss.length ≤ 900) :
    Calls Tryz.prog 58 #[mendV uv sv kb B] w fun e w' => ∃ u, e = .returned u ∧ RowK w.heap.size (marksM ws ss) u w' ∧ Ext w w' := by
  obtain ⟨ua, uc, rfl, huc, hum⟩ := hu.shape
  obtain ⟨sa, sc, rfl, hsc, hsm⟩ := hs.shape
  obtain ⟨i0, hi, hz0, hz1, hz2⟩ := info_parts infoMark
  have hmlen : (marksM ws ss).length ≤ 1800 := Nat.le_trans (marksF_len _ _ _) (by omega)
  have hkb : kb < w.heap.size := cell_lt (hk 0 0 _ (by omega) rfl)
  have hBw := hM.lt
  unfold mendV
  go_enter Tryz.func58, Tryz.ntmps58
  go_wp2_with fail
  obtain ⟨W0, hW0⟩ : ∃ W0, W0 = (((w.alloc (.cells #[.slice ua ws.length uc, .slice sa ss.length sc, .slice (some ⟨kb, 0, none⟩) 5 5, .map (some B)] 120)).alloc (.cells #[.int .i64 (ws.length : Nat), .int .i64 (ss.length : Nat)] 189)).alloc (.cells #[.int .i64 0, .int .i64 0] 189)) := ⟨_, rfl⟩
  have x0 : Ext w W0 := by rw [hW0]; exact ((ext_alloc _ _).alloc _).alloc _
  have z0 : W0.heap.size = w.heap.size + 3 := by rw [hW0]; simp
  have m1 : W0.cell? ⟨w.heap.size, 1, none⟩ = some (.slice sa ss.length sc) := by rw [hW0]; simp [go_sem]
  have m2 : W0.cell? ⟨w.heap.size, 2, none⟩ = some (.slice (some ⟨kb, 0, none⟩) 5 5) := by rw [hW0]; simp [go_sem]
  have m3 : W0.cell? ⟨w.heap.size, 3, none⟩ = some (.map (some B)) := by rw [hW0]; simp [go_sem]
  have n0 : W0.cell? ⟨w.heap.size + 1, 0, none⟩ = some (.int .i64 (ws.length : Nat)) := by rw [hW0]; simp [go_sem]
  have n1 : W0.cell? ⟨w.heap.size + 1, 1, none⟩ = some (.int .i64 (ss.length : Nat)) := by rw [hW0]; simp [go_sem]
  have p0 : OwnP (w.heap.size + 1 + 1) 0 0 W0 := ⟨by rw [hW0]; simp [go_sem], by rw [hW0]; simp [go_sem], fun o => by rw [hW0]; simp [go_sem]⟩
  have hs0 := hs.ext x0
  have hk0 := hk.ext x0
  have hM0 := hM.ext x0
  rw [← hW0]
  have Hs := Lib.hid hs
  clear hW0 hu hs hk hM
  go_loopw [3, 5] (fun v pt wr => ∃ (i j pb : Nat) (done : List Mark), i ≤ ws.length ∧ j ≤ ss.length ∧ pt = .pointer (some ⟨pb, 0, none⟩) ∧ w.heap.size + 2 ≤ pb ∧ OwnP pb i j wr ∧ Below (w.heap.size + 2) W0 wr ∧ RowK (w.heap.size + 2) done v wr ∧ v.ownBlock ≠ some pb ∧ done ++ marksM (ws.drop i) (ss.drop j) = marksM ws ss) (fun v _ _ => (marksM ws ss).length - lenV v)
  case atStart => exact ⟨0, 0, _, [], Nat.zero_le _, Nat.zero_le _, rfl, by omega, p0, Below.refl _ _, RowK.nil, by simp [Value.ownBlock], by simp⟩
  case round =>
    obtain ⟨i, j, pb, done, hi', hj', rfl, hpb, hP, hxr, hown, hne, hdone⟩ := hrel
    have b1 := (hxr.cell (p := ⟨w.heap.size, 1, none⟩) (by simp)).trans m1
    have b2 := (hxr.cell (p := ⟨w.heap.size, 2, none⟩) (by simp)).trans m2
    have b3 := (hxr.cell (p := ⟨w.heap.size, 3, none⟩) (by simp)).trans m3
    have e0 := (hxr.cell (p := ⟨w.heap.size + 1, 0, none⟩) (by simp)).trans n0
    have e1 := (hxr.cell (p := ⟨w.heap.size + 1, 1, none⟩) (by simp)).trans n1
    have a0 := hP.1
    have a1 := hP.2.1
    have za := cell_lt a0
    have zb := cell_lt b1
    have zr := hxr.size
    by_cases hend : (i, j) = (ws.length, ss.length)
    · obtain ⟨rfl, rfl⟩ := Prod.mk.inj hend
      have hnq : ∀ w, (binOp .neq 189 (.agg #[.int .i64 (ws.length : Nat), .int .i64 (ss.length : Nat)]) (.agg #[.int .i64 (ws.length : Nat), .int .i64 (ss.length : Nat)])).run Tryz.prog w = .ok (.bool false) w := fun w => by
        have := neq_place (ws.length, ss.length) (ws.length, ss.length) w
        simpa [placeV] using this
      have hd : done = marksM ws ss := by
        rw [List.drop_length, List.drop_length] at hdone
        simpa [marksM, marksF] using hdone
      have Hd := Lib.hid hd
      clear hdone hd hend
      go_wp2
      go_ret
      exact ⟨_, rfl, by rw [← Hd.out]; exact hown.lower (by omega), Below.trans x0 (hxr.mono (by omega))⟩
    · obtain ⟨hc5, hci, hcj, hms⟩ := marks_step ws ss i j hi' hj' hend
      have hnq : ∀ w, (binOp .neq 189 (.agg #[.int .i64 (i : Nat), .int .i64 (j : Nat)]) (.agg #[.int .i64 (ws.length : Nat), .int .i64 (ss.length : Nat)])).run Tryz.prog w = .ok (.bool true) w := fun w => by
        have := neq_place (i, j) (ws.length, ss.length) w
        rw [decide_eq_false hend] at this
        simpa [placeV] using this
      have hMr : MapP wr B M := hM0.kept (hxr.block B (by omega))
      have hlk := run_lookup_p (i, j) hMr false
      rw [hT.all i j hi' hj'] at hlk
      unfold placeV chV at hlk
      simp only [Option.getD_some, Bool.false_eq_true, if_false] at hlk
      unfold markAt at hms
      have hSr := kWr_S (valM ws ss i j).1
      generalize (valM ws ss i j).1 = wh at *
      generalize (valM ws ss i j).2 = mn at *
      obtain ⟨d0, d1, d2, d3, d4, d5⟩ := (hk0.get wh hc5).below hxr (by omega)
      have hf0 := field_ch0 (wh : Nat) (mn : Nat)
      have zk : kb < wr.heap.size := cell_lt d0
      have k5 : (wh : Int) < 5 := by omega
      have Hdone := Lib.hid hdone
      have Hlen := Lib.hid hown.lenV
      have hdl : done.length ≤ 1800 := by
        have := congrArg List.length hdone
        rw [List.length_append] at this
        omega
      have hrun4 := hnq
      obtain ⟨kw, hW⟩ : ∃ k, kW wh = k := ⟨_, rfl⟩
      obtain ⟨ks, hS'⟩ : ∃ k, kS wh = k := ⟨_, rfl⟩
      obtain ⟨kc, hC'⟩ : ∃ k, kC wh = k := ⟨_, rfl⟩
      obtain ⟨cf, hF'⟩ : ∃ k, canF wh = k := ⟨_, rfl⟩
      obtain ⟨bf, hG⟩ : ∃ k, becF wh = k := ⟨_, rfl⟩
      clear hend hdone
      cases hR : kWr wh
      · rw [hR] at d3 hms
        simp only [Bool.false_eq_true, if_false, hW, hS'] at hms
        rw [hW] at hci
        rw [hS'] at hcj
        go_upto_region 9 with (rw [hf0]; go_simp)
        obtain ⟨wd, hwd⟩ : ∃ wd : ByteArray, wd = ByteArray.empty := ⟨_, rfl⟩
        obtain ⟨Wk, hWk⟩ : ∃ Wk, Wk = wr.alloc (.cells #[.int .i64 (wh : Nat), .string ⟨#[]⟩] 152) := ⟨_, rfl⟩
        have xk : Ext wr Wk := by rw [hWk]; exact ext_alloc _ _
        have k0 : Wk.cell? ⟨wr.heap.size, 0, none⟩ = some (.int .i64 (wh : Nat)) := by rw [hWk]; simp [go_sem]
        have k1 : Wk.cell? ⟨wr.heap.size, 1, none⟩ = some (.string wd) := by rw [hWk, hwd]; simp [go_sem]; rfl
        rw [← hwd] at hms

        have P1 := hP.ext xk
        have Own := Lib.hid (Ext.owns hown xk)
        have hkz := xk.size
        have P1l := cell_lt P1.1
        have xk0 := hxr.trans (Below.mono xk (by omega))
        have hxz := hxr.size
        clear hown
        rw [← hWk]
        clear hWk hwd
        go_upto_region 10 with (at_builtin; go_loud (refine wpList_append_own_at _ rfl _ _ 53 rfl (w.heap.size + 2) 152 i0 (.agg #[.int .i64 0, .string ByteArray.empty]) 2 24 Tryz.underlying53 hi hz0 hz1 hz2 rfl (by decide) u3 done.length (cellsK done) rfl (World.ownsRow.alloc Own.out _) ⟨Wk.heap.size, 0, none⟩ 1 1 [.int .i64 (wh : Nat), .string wd] rfl rfl (cell_two_newS _ _ _ _) (by simp [Value.oneCell']) (by unfold maxLen; omega) (by omega) (by simp; omega) ?_; intro v' w2 hown' hgrow _ hblk; have Hown' := Lib.hid hown'; have Hgrow := Lib.hid hgrow; have Hblk := Lib.hid hblk; clear hown' hgrow hblk))
        have xa : Ext Wk (Wk.alloc (.cells #[.int .i64 (wh : Nat), .string wd] 152)) := ext_alloc _ _
        have hgr := Hgrow.out
        have x2 : Below (w.heap.size + 2) W0 w2 := Below.grown (xk0.trans (Below.mono xa (by omega))) hgr (by simp; omega) fun k hk => (Own.out.lt k hk).1
        have P2 := P1.ext xa
        have x2z := x2.size
        have hP2 : OwnP pb i j w2 := ⟨hgr.cell P2.1 (fun e => hne e.symm), hgr.cell P2.2.1 (fun e => hne e.symm), fun o => (grown_frozenK hgr (p := ⟨pb, o, none⟩) (show pb < _ from cell_lt P2.1) (fun e => hne e.symm)).trans (P2.2.2 o)⟩
        have hb2 : v'.ownBlock ≠ some pb := by
          rcases Hblk.out with h | h
          · rw [h]; exact hne
          · rw [h]; intro e; have := Option.some.inj e; simp at this P1l; omega
        have c2 := (x2.cell (p := ⟨w.heap.size, 2, none⟩) (by simp)).trans m2
        have hkk := ((hk0.get wh hc5).below x2 (by omega))
        obtain ⟨d0, d1, d2, d3, d4, d5⟩ := hkk
        have hnx := fun w => next_any (i, j) ⟨by simp; omega, by simp; omega⟩ wh w
        have k5 : (wh : Int) < 5 := by omega
        unfold placeV kindVal at hnx
        simp only [hW, hS', hC', hR, hF', hG] at hnx d0 d1 d2 d3 d4 d5
        obtain ⟨ni, hni⟩ : ∃ ni, i + kw = ni := ⟨_, rfl⟩
        obtain ⟨nj, hnj⟩ : ∃ nj, j + ks = nj := ⟨_, rfl⟩
        simp only [hni, hnj] at hnx hci hcj hms
        have q0 := hP2.1
        have q1 := hP2.2.1
        have zq := cell_lt q0
        have hrow : RowK (w.heap.size + 2) (done ++ [⟨wh, wd⟩]) v' w2 := RowK.snoc Hown'.out
        have Hrow := Lib.hid hrow
        have Hms := Lib.hid hms
        clear hms hrow hgr hni hnj
        apply Facts.Dep.Once.wp_region two_free 7 [.val _, .val _, .val _, .val _, .val _, .val _, .val (.agg #[.int .i64 (ni : Nat), .int .i64 (nj : Nat)]), .fact (fun _ w5 => StepK (w.heap.size + 2) W0 pb ni nj (done ++ [⟨wh, wd⟩]) v' w5)] (by kernel_rfl) (by kernel_rfl) (by kernel_rfl) ?keep ?main
        case keep => exact ⟨fun u a c hx h => h.ext' hx (by omega), fun h => absurd rfl h, trivial⟩
        case main =>
          iterate 6 (refine ⟨fun w1 hE hC hh => ?_, ?_⟩; focus (have hx := hE (by kernel_rfl); clear hh hE hC; (have f0 := hx.cell q0; have f1 := hx.cell q1; have f2 := hx.cell c2; have f3 := hx.cell d0; have f4 := hx.cell d1; have f5 := hx.cell d2; have f6 := hx.cell d3; have f7 := hx.cell d4; have f8 := hx.cell d5); go_simp; first | exact ⟨Ext.refl _, rfl⟩ | exact Ext.refl _))
          refine ⟨fun w1 hE hC hh => ?_, ?_⟩
          · clear hh hE hC
            go_simp
            refine (hnx _).mono ?_
            rintro e w' ⟨rfl, hx2⟩
            exact ⟨_, rfl, hx2, rfl⟩
          refine ⟨fun w1 hE hC hh => ?_, ?_⟩
          · have hx := hE (by kernel_rfl)
            clear hh hE hC
            have hP1 := hP2.ext hx
            have hst := stepK (ni := ni) (nj := nj) (x2.trans (Below.mono hx (by omega))) hP1 (Hrow.out.ext hx) hb2 hpb
            have g0 := hP1.1
            have g1 := hP1.2.1
            have gf := hP1.2.2
            go_simp
            all_goals first | exact ⟨trivial, hst⟩ | exact hst
          intro u7' w5 hC hh
          have hS : StepK (w.heap.size + 2) W0 pb ni nj (done ++ [⟨wh, wd⟩]) v' w5 := hh 7 _ List.mem_cons_self
          clear hh hC
          have s0 := hS.p.1
          have s1 := hS.p.2.1
          have z5 := hS.ext.size
          go_simp
          go_wp2
          go_roundw
          case rel => exact ⟨ni, nj, w5.heap.size, done ++ [⟨wh, wd⟩], by omega, by omega, rfl, by omega, ⟨by simp [go_sem], by simp [go_sem], fun o => by simp [go_sem]⟩, hS.ext.alloc (by omega) _, hS.row.ext (ext_alloc _ _), fun e => by have := (hS.row.lt _ e).2; omega, by rw [List.append_assoc, List.singleton_append, ← Hms.out]; exact Hdone.out⟩
          case measure =>
            have e1 := hS.row.lenV
            have e2 := Own.out.2
            have e3 := Hlen.out
            have e4 := congrArg List.length Hdone.out
            rw [Hms.out] at e4
            simp at e1 e3 e4 ⊢
            omega

      · have hj2 : j < ss.length := by have := hSr hR; omega
        obtain ⟨sb, so, rfl, r0, -, -⟩ := Hs.out.get hj2
        have hsb : sb < w.heap.size := cell_lt r0
        have y0 := (hxr.cell (p := ⟨sb, so + j * 2, none⟩) (by simp; omega)).trans (x0.cell r0)
        have zs : sb < wr.heap.size := cell_lt y0
        have jj : (j : Int) < (ss.length : Int) := by omega
        rw [hR] at d3 hms
        simp only [if_true, hW, hS'] at hms
        rw [hW] at hci
        rw [hS'] at hcj
        obtain ⟨wd, hwd⟩ : ∃ wd : ByteArray, (ss[j]).word = wd := ⟨_, rfl⟩
        rw [hwd] at y0
        rw [show ss.getD j noSlot = ss[j] from by simp [hj2], hwd] at hms
        go_upto_region 9 with (rw [hf0]; go_simp)
        obtain ⟨Wk, hWk⟩ : ∃ Wk, Wk = wr.alloc (.cells #[.int .i64 (wh : Nat), .string wd] 152) := ⟨_, rfl⟩
        have xk : Ext wr Wk := by rw [hWk]; exact ext_alloc _ _
        have k0 : Wk.cell? ⟨wr.heap.size, 0, none⟩ = some (.int .i64 (wh : Nat)) := by rw [hWk]; simp [go_sem]
        have k1 : Wk.cell? ⟨wr.heap.size, 1, none⟩ = some (.string wd) := by rw [hWk]; simp [go_sem]

        have P1 := hP.ext xk
        have Own := Lib.hid (Ext.owns hown xk)
        have hkz := xk.size
        have P1l := cell_lt P1.1
        have xk0 := hxr.trans (Below.mono xk (by omega))
        have hxz := hxr.size
        clear hown
        rw [← hWk]
        clear hWk hwd
        go_upto_region 10 with (at_builtin; go_loud (refine wpList_append_own_at _ rfl _ _ 53 rfl (w.heap.size + 2) 152 i0 (.agg #[.int .i64 0, .string ByteArray.empty]) 2 24 Tryz.underlying53 hi hz0 hz1 hz2 rfl (by decide) u3 done.length (cellsK done) rfl (World.ownsRow.alloc Own.out _) ⟨Wk.heap.size, 0, none⟩ 1 1 [.int .i64 (wh : Nat), .string wd] rfl rfl (cell_two_newS _ _ _ _) (by simp [Value.oneCell']) (by unfold maxLen; omega) (by omega) (by simp; omega) ?_; intro v' w2 hown' hgrow _ hblk; have Hown' := Lib.hid hown'; have Hgrow := Lib.hid hgrow; have Hblk := Lib.hid hblk; clear hown' hgrow hblk))
        have xa : Ext Wk (Wk.alloc (.cells #[.int .i64 (wh : Nat), .string wd] 152)) := ext_alloc _ _
        have hgr := Hgrow.out
        have x2 : Below (w.heap.size + 2) W0 w2 := Below.grown (xk0.trans (Below.mono xa (by omega))) hgr (by simp; omega) fun k hk => (Own.out.lt k hk).1
        have P2 := P1.ext xa
        have x2z := x2.size
        have hP2 : OwnP pb i j w2 := ⟨hgr.cell P2.1 (fun e => hne e.symm), hgr.cell P2.2.1 (fun e => hne e.symm), fun o => (grown_frozenK hgr (p := ⟨pb, o, none⟩) (show pb < _ from cell_lt P2.1) (fun e => hne e.symm)).trans (P2.2.2 o)⟩
        have hb2 : v'.ownBlock ≠ some pb := by
          rcases Hblk.out with h | h
          · rw [h]; exact hne
          · rw [h]; intro e; have := Option.some.inj e; simp at this P1l; omega
        have c2 := (x2.cell (p := ⟨w.heap.size, 2, none⟩) (by simp)).trans m2
        have hkk := ((hk0.get wh hc5).below x2 (by omega))
        obtain ⟨d0, d1, d2, d3, d4, d5⟩ := hkk
        have hnx := fun w => next_any (i, j) ⟨by simp; omega, by simp; omega⟩ wh w
        have k5 : (wh : Int) < 5 := by omega
        unfold placeV kindVal at hnx
        simp only [hW, hS', hC', hR, hF', hG] at hnx d0 d1 d2 d3 d4 d5
        obtain ⟨ni, hni⟩ : ∃ ni, i + kw = ni := ⟨_, rfl⟩
        obtain ⟨nj, hnj⟩ : ∃ nj, j + ks = nj := ⟨_, rfl⟩
        simp only [hni, hnj] at hnx hci hcj hms
        have q0 := hP2.1
        have q1 := hP2.2.1
        have zq := cell_lt q0
        have hrow : RowK (w.heap.size + 2) (done ++ [⟨wh, wd⟩]) v' w2 := RowK.snoc Hown'.out
        have Hrow := Lib.hid hrow
        have Hms := Lib.hid hms
        clear hms hrow hgr hni hnj
        apply Facts.Dep.Once.wp_region two_free 7 [.val _, .val _, .val _, .val _, .val _, .val _, .val (.agg #[.int .i64 (ni : Nat), .int .i64 (nj : Nat)]), .fact (fun _ w5 => StepK (w.heap.size + 2) W0 pb ni nj (done ++ [⟨wh, wd⟩]) v' w5)] (by kernel_rfl) (by kernel_rfl) (by kernel_rfl) ?keep ?main
        case keep => exact ⟨fun u a c hx h => h.ext' hx (by omega), fun h => absurd rfl h, trivial⟩
        case main =>
          iterate 6 (refine ⟨fun w1 hE hC hh => ?_, ?_⟩; focus (have hx := hE (by kernel_rfl); clear hh hE hC; (have f0 := hx.cell q0; have f1 := hx.cell q1; have f2 := hx.cell c2; have f3 := hx.cell d0; have f4 := hx.cell d1; have f5 := hx.cell d2; have f6 := hx.cell d3; have f7 := hx.cell d4; have f8 := hx.cell d5); go_simp; first | exact ⟨Ext.refl _, rfl⟩ | exact Ext.refl _))
          refine ⟨fun w1 hE hC hh => ?_, ?_⟩
          · clear hh hE hC
            go_simp
            refine (hnx _).mono ?_
            rintro e w' ⟨rfl, hx2⟩
            exact ⟨_, rfl, hx2, rfl⟩
          refine ⟨fun w1 hE hC hh => ?_, ?_⟩
          · have hx := hE (by kernel_rfl)
            clear hh hE hC
            have hP1 := hP2.ext hx
            have hst := stepK (ni := ni) (nj := nj) (x2.trans (Below.mono hx (by omega))) hP1 (Hrow.out.ext hx) hb2 hpb
            have g0 := hP1.1
            have g1 := hP1.2.1
            have gf := hP1.2.2
            go_simp
            all_goals first | exact ⟨trivial, hst⟩ | exact hst
          intro u7' w5 hC hh
          have hS : StepK (w.heap.size + 2) W0 pb ni nj (done ++ [⟨wh, wd⟩]) v' w5 := hh 7 _ List.mem_cons_self
          clear hh hC
          have s0 := hS.p.1
          have s1 := hS.p.2.1
          have z5 := hS.ext.size
          go_simp
          go_wp2
          go_roundw
          case rel => exact ⟨ni, nj, w5.heap.size, done ++ [⟨wh, wd⟩], by omega, by omega, rfl, by omega, ⟨by simp [go_sem], by simp [go_sem], fun o => by simp [go_sem]⟩, hS.ext.alloc (by omega) _, hS.row.ext (ext_alloc _ _), fun e => by have := (hS.row.lt _ e).2; omega, by rw [List.append_assoc, List.singleton_append, ← Hms.out]; exact Hdone.out⟩
          case measure =>
            have e1 := hS.row.lenV
            have e2 := Own.out.2
            have e3 := Hlen.out
            have e4 := congrArg List.length Hdone.out
            rw [Hms.out] at e4
            simp at e1 e3 e4 ⊢
            omega

end Go.Proofs.YtnfbhicoknpojaaGreat

namespace Go.Proofs.YtnfbhicoknpojaaGreat
set_option linter.unusedSimpArgs false
set_option linter.unusedVariables false
open Go.RowKit
set_option linter.unusedVariables false

theorem marksF_in : ∀ (n : Nat) (ws : List ByteArray) (ss : List Slot) (k : Mark), k ∈ marksF n ws ss → (∃ i : Nat, i ≤ 4 ∧ k.kind = i) ∧ (k.word = ByteArray.empty ∨ ∃ s ∈ ss, k.word = s.word)
  | 0, _, _, k, h => by simp [marksF] at h
  | n + 1, ws, ss, k, h => by
    rw [marksF] at h
    by_cases h0 : ws.length + ss.length = 0
    · rw [if_pos h0] at h; simp at h
    · rw [if_neg h0] at h
      obtain ⟨h1, h2, h3, h4, -, -⟩ := costM_which ws ss (by omega)
      rcases List.mem_cons.1 h with rfl | h
      · refine ⟨⟨_, h1, rfl⟩, ?_⟩
        show (if kWr (costM ws ss).1 = true then (ss.headD noSlot).word else ByteArray.empty) = _ ∨ ∃ s ∈ ss, (if kWr (costM ws ss).1 = true then (ss.headD noSlot).word else ByteArray.empty) = s.word
        by_cases hw : kWr (costM ws ss).1 = true
        · rw [if_pos hw]
          cases ss with
          | nil => rw [kWr_S _ hw] at h3; simp at h3
          | cons s ss => exact .inr ⟨s, List.mem_cons_self, rfl⟩
        · rw [if_neg hw]; exact .inl rfl
      · obtain ⟨k1, k2⟩ := marksF_in n _ _ k h
        refine ⟨k1, k2.imp id fun ⟨s, hs, e⟩ => ⟨s, List.mem_of_mem_drop hs, e⟩⟩
def fewErrM (f t : List ByteArray) : Int := if letterErrL f ≠ 0 then letterErrL f else letterErrL t
def fewMarksM (f t : List ByteArray) : List Mark := if fewErrM f t = 0 then marksM f (givenM t) else []
def fewManyM (f t : List ByteArray) : Nat := if fewErrM f t = 0 then (costM f (givenM t)).2 else 0
theorem few_ok {f t : List ByteArray} (h : fewErrM f t = 0) : letterErrL f = 0 ∧ letterErrL t = 0 := by
  unfold fewErrM at h
  by_cases h1 : letterErrL f = 0
  · rw [if_neg (by simpa using h1)] at h; exact ⟨h1, h⟩
  · rw [if_pos h1] at h; exact absurd h h1
theorem marks_sound (f t : List ByteArray) (ht : ∀ s ∈ t, wordM s = true) : ∀ k ∈ marksM f (givenM t), I64 k.kind ∧ k.word.size ≤ 9223372036854775807 := fun k hk => by
  obtain ⟨⟨i, hi, e⟩, h2⟩ := marksF_in _ _ _ k hk
  refine ⟨by rw [e]; constructor <;> omega, ?_⟩
  rcases h2 with h2 | ⟨s, hs, h2⟩
  · rw [h2]; simp
  · rw [h2]
    simp only [givenM, List.mem_map] at hs
    obtain ⟨x, hx, rfl⟩ := hs
    have := word_size (ht x hx)
    show x.size ≤ _
    omega
set_option maxRecDepth 100000 in
set_option maxHeartbeats 1500000 in
theorem Fewest_any (fv tv : Value) (f t : List ByteArray) (w : World) (hf : StrsAt w fv f) (ht : StrsAt w tv t) :
    Calls Tryz.prog 15 #[fv, tv] w fun e w' => ∃ u, e = .returned (.tuple #[u, .int .i64 (fewManyM f t), .int .i64 (fewErrM f t)]) ∧ MarksAt w' u (fewMarksM f t) ∧ Ext w w' := by
  obtain ⟨fa, fc, rfl, hfc, hfm⟩ := hf.shape
  obtain ⟨ta, tc, rfl, htc, htm⟩ := ht.shape
  go_enter Tryz.func15, Tryz.ntmps15
  go_wp2_with fail
  refine (letterError_any' _ f _ hf).mono ?_
  rintro e w1 ⟨rfl, hx1⟩
  obtain ⟨e1, he1⟩ : ∃ e, letterErrL f = e := ⟨_, rfl⟩
  rw [he1]
  by_cases h1 : e1 = 0
  · subst h1
    have He1 := Lib.hid he1
    clear he1
    go_wp2_with fail
    refine (letterError_any' _ t _ (ht.ext hx1)).mono ?_
    rintro e w2 ⟨rfl, hx2⟩
    obtain ⟨e2, he2⟩ : ∃ e, letterErrL t = e := ⟨_, rfl⟩
    rw [he2]
    have hfe : fewErrM f t = e2 := by unfold fewErrM; rw [if_neg (by rw [He1.out]; simp), he2]
    have He2 := Lib.hid he2
    have Hfe := Lib.hid hfe
    clear he2 hfe
    have x2 := hx1.trans hx2
    by_cases h2 : e2 = 0
    · subst h2
      obtain ⟨f15, hfw⟩ := lettErr_ok He1.out
      obtain ⟨t15, htw⟩ := lettErr_ok He2.out
      go_wp2_with fail
      refine (given_any _ t (by omega) _ (ht.ext x2)).mono ?_
      rintro e w3 ⟨u, rfl, hrow, hx3⟩
      have x3 := x2.trans hx3
      have hsl : SlotsAt w3 u (givenM t) := hrow.at_ fun s hs => by
        simp only [givenM, List.mem_map] at hs
        obtain ⟨x, hx, rfl⟩ := hs
        have := word_size (htw x hx)
        show x.size ≤ _
        omega
      have hgl : (givenM t).length = t.length := by simp [givenM]
      have Hgl := Lib.hid hgl
      have Htw := Lib.hid htw
      clear hrow hx1 hx2 hx3 htw hfw hgl
      have hm := mend_any (.slice fa f.length fc) u f (givenM t) w3 (hf.ext x3) hsl ⟨by omega, by rw [Hgl.out]; omega⟩
      obtain ⟨ua, uc, rfl, huc, hum⟩ := hsl.shape
      go_wp2_with fail
      refine hm.mono ?_
      rintro e w4 ⟨kb, B, M, rfl, hu4, hs4, hk4, hM4, hT4, hx4⟩
      have x4 := x3.trans hx4
      clear hm
      obtain ⟨mk, hmk⟩ : ∃ mk, marksM f (givenM t) = mk := ⟨_, rfl⟩
      obtain ⟨cm, hcm⟩ : ∃ cm, (costM f (givenM t)).2 = cm := ⟨_, rfl⟩
      have h00 : getP (0, 0) M = some (costM f (givenM t)) := by
        have := hT4.all 0 0 (Nat.zero_le _) (Nat.zero_le _)
        simpa [valM] using this
      unfold mendV
      go_wp2_with fail
      obtain ⟨W, hW⟩ : ∃ W, W = w4.alloc (.cells #[.slice fa f.length fc, .slice ua (givenM t).length uc, .slice (some ⟨kb, 0, none⟩) 5 5, .map (some B)] 120) := ⟨_, rfl⟩
      have xW : Ext w4 W := by rw [hW]; exact ext_alloc _ _
      have c0 : W.cell? ⟨w4.heap.size, 0, none⟩ = some (.slice fa f.length fc) := by rw [hW]; simp [go_sem]
      have c1 : W.cell? ⟨w4.heap.size, 1, none⟩ = some (.slice ua (givenM t).length uc) := by rw [hW]; simp [go_sem]
      have c2 : W.cell? ⟨w4.heap.size, 2, none⟩ = some (.slice (some ⟨kb, 0, none⟩) 5 5) := by rw [hW]; simp [go_sem]
      have c3 : W.cell? ⟨w4.heap.size, 3, none⟩ = some (.map (some B)) := by rw [hW]; simp [go_sem]
      have uW := hu4.ext xW
      have sW := hs4.ext xW
      have kW' := hk4.ext xW
      have mW := hM4.ext xW
      have hma := fun w x => marks_any _ _ f (givenM t) kb B M w (uW.ext x) (sW.ext x) (kW'.ext x) (mW.ext x) hT4 ⟨by omega, by rw [Hgl.out]; omega⟩
      have hfa := fun w (x : Ext W w) => fewest_any fa ua f.length (givenM t).length fc uc kb B M _ w (mW.ext x) h00
      rw [hmk] at hma
      rw [hcm] at hfa
      unfold mendV at hma hfa
      have Hmk := Lib.hid hmk
      have Hcm := Lib.hid hcm
      have Hx := Lib.hid (x4.trans xW)
      rw [← hW]
      clear hW hmk hcm uW sW kW' mW hu4 hs4 hk4 hM4 hT4 hx4 h00 hsl hf ht x2 x3 x4 xW
      apply Facts.wp_region [.val _, .fact (RowK W.heap.size mk), .val _, .val (.int .i64 (cm : Nat)), .fact (RowK W.heap.size mk), .val _, .val _] (by kernel_rfl) (by kernel_rfl) ⟨fun u a c hx h => h.ext hx, fun u a c hx h => h.ext hx, trivial⟩ ?main
      case main =>
        iterate 1 (refine ⟨fun w1 hx hh => ?_, ?_⟩; focus (clear hh; (have f0 := hx.cell c0; have f1 := hx.cell c1; have f2 := hx.cell c2; have f3 := hx.cell c3); go_simp; first | exact ⟨Ext.refl _, rfl⟩ | exact Ext.refl _))
        refine ⟨fun w1 hx hh => ?_, ?_⟩
        · clear hh
          go_simp
          refine (hma w1 hx).mono ?_
          rintro e w' ⟨v, rfl, hr, hx2⟩
          exact ⟨_, rfl, hx2, hr.lower hx.size⟩
        intro u25
        iterate 1 (refine ⟨fun w1 hx hh => ?_, ?_⟩; focus (clear hh; (have f0 := hx.cell c0; have f1 := hx.cell c1; have f2 := hx.cell c2; have f3 := hx.cell c3); go_simp; first | exact ⟨Ext.refl _, rfl⟩ | exact Ext.refl _))
        refine ⟨fun w1 hx hh => ?_, ?_⟩
        · clear hh
          go_simp
          refine (hfa w1 hx).mono ?_
          rintro e w' ⟨rfl, hx2⟩
          exact ⟨_, rfl, hx2, rfl⟩
        refine ⟨fun w1 hx hh => ?_, ?_⟩
        · have h25 : RowK W.heap.size mk u25 w1 := hh 1 _ List.mem_cons_self (by kernel_rfl)
          clear hh
          go_simp
          first | exact ⟨Ext.refl _, h25⟩ | exact Ext.refl _
        intro u4
        iterate 2 (refine ⟨fun w1 hx hh => ?_, ?_⟩; focus (clear hh; skip; go_simp; first | exact ⟨Ext.refl _, rfl⟩ | exact Ext.refl _))
        intro w5 hx hh
        have h4 : RowK W.heap.size mk u4 w5 := hh 4 _ List.mem_cons_self
        clear hh
        go_simp
        go_wp2
        have hms : MarksAt w5 u4 (fewMarksM f t) := by
          unfold fewMarksM
          rw [if_pos Hfe.out, Hmk.out]
          exact h4.at_ (by rw [← Hmk.out]; exact marks_sound f t Htw.out)
        have hfm : fewManyM f t = cm := by unfold fewManyM; rw [if_pos Hfe.out, Hcm.out]
        go_ret3
        exact ⟨u4, by rw [hfm, Hfe.out]; rfl, hms, Hx.out.trans hx⟩
    · have h2' : (e2 != 0) = true := by simpa using h2
      have hm : fewMarksM f t = [] := by unfold fewMarksM; rw [if_neg (by rw [Hfe.out]; exact h2)]
      have hn : fewManyM f t = 0 := by unfold fewManyM; rw [if_neg (by rw [Hfe.out]; exact h2)]
      clear h2
      go_wp2_with fail
      go_ret3
      exact ⟨_, by rw [hn, Hfe.out]; rfl, by rw [hm]; exact SliceAt.nil, x2⟩
  · have h1' : (e1 != 0) = true := by simpa using h1
    have he : fewErrM f t = e1 := by unfold fewErrM; rw [if_pos (by rw [he1]; exact h1), he1]
    have hm : fewMarksM f t = [] := by unfold fewMarksM; rw [if_neg (by rw [he]; exact h1)]
    have hn : fewManyM f t = 0 := by unfold fewManyM; rw [if_neg (by rw [he]; exact h1)]
    clear h1 he1
    go_wp2_with fail
    go_ret3
    exact ⟨_, by rw [hn, he]; rfl, by rw [hm]; exact SliceAt.nil, hx1⟩
end Go.Proofs.YtnfbhicoknpojaaGreat

namespace Go.Proofs.YtnfbhicoknpojaaGreat
set_option linter.unusedSimpArgs false
set_option linter.unusedVariables false
open Go.RowKit
set_option linter.unusedVariables false

/-- a form, if there is no error; nothing is said of it if there is one -/
def OpenH (w : World) (s : Shelf) (n : Int) (e : Int) (v : Value) : Prop := ∃ nm pa pn pc, v = .tuple #[.agg #[.string nm, .slice pa pn pc], .int .i64 e] ∧ (e = 0 → ∃ i : Nat, ∃ hi : i < s.forms.length, n = i ∧ FormV w (.agg #[.string nm, .slice pa pn pc]) s.forms[i])
set_option maxHeartbeats 1000000 in
set_option maxRecDepth 100000 in
theorem openForH_any (sv v : Value) (s : Shelf) (n : Int) (hn : I64 n) (l : List ByteArray) (W w : World) (hWx : Ext W w) (hsW : ShelfAt W sv s) (hl : StrsAt w v l) :
    Calls Tryz.prog 79 #[sv, .int .i64 n, v] w fun e w' => ∃ u, e = .returned u ∧ OpenH W s n (openForErrM s n l) u ∧ Ext w w' := by
  obtain ⟨a, c, rfl, hw, hc1, hc2, hf⟩ := hsW.open
  clear hf
  go_enter Tryz.func79, Tryz.ntmps79
  go_wp2_with fail
  refine (openF_any _ s n hn W _ (hWx.trans (by first | (with_reducible exact Ext.refl _) | (with_reducible assumption) | (show Below _ _ _; go_grown; done))) hsW).mono ?_
  rintro e w1 ⟨uu, rfl, ⟨u, rfl, h1, h2⟩, hx1⟩
  have x1 : Ext w w1 := Ext.trans (by first | (with_reducible exact Ext.refl _) | (with_reducible assumption) | (show Below _ _ _; go_grown; done)) hx1
  have q0 : w1.cell? ⟨w.heap.size + 1, 0, none⟩ = some (.string ⟨#[]⟩) := hx1.cell (by simp [go_sem])
  have q1 : w1.cell? ⟨w.heap.size + 1, 1, none⟩ = some (.slice none 0 0) := hx1.cell (by simp [go_sem])
  have z1 : w.heap.size + 1 < w1.heap.size := cell_lt q0
  have fz : ∀ o, w1.frozen? ⟨w.heap.size + 1, o, none⟩ = false := fun o => by rw [hx1.frozen (by simp)]; simp [go_sem]
  have f0 := fz 0
  have f1 := fz 1
  clear fz hx1
  obtain ⟨nm, pa, pn, pc, rfl⟩ : ∃ nm pa pn pc, u = .agg #[.string nm, .slice pa pn pc] := by
    by_cases h : openErrM s n = 0
    · obtain ⟨i, hi, -, uu, rfl, -, hp⟩ := h1 h
      obtain ⟨pa, pc, rfl, -⟩ := hp.shape
      exact ⟨_, _, _, _, rfl⟩
    · exact ⟨_, _, _, _, h2 h⟩
  clear h2
  have H1 := Lib.hid h1
  clear h1
  by_cases h0 : openErrM s n = 0
  · have ho : openForErrM s n l = letterErrL l := by rw [openForErrM, if_neg (by simpa using h0)]
    have hH := H1.out h0
    have Ho := Lib.hid ho
    have HH := Lib.hid hH
    rw [h0]
    clear ho hH h0 H1
    have hlw := hl.ext (x1.trans (ext_alloc w1 (.cells #[.string nm, .slice pa pn pc] 106)))
    go_wp2_with fail
    refine (letterError_any' _ l _ hlw).mono ?_
    rintro e w2 ⟨rfl, hx2⟩
    have x2 : Ext w1 w2 := hx2.of_alloc
    have b0 : w2.cell? ⟨w1.heap.size, 0, none⟩ = some (.string nm) := hx2.cell (by simp [go_sem])
    have b1 : w2.cell? ⟨w1.heap.size, 1, none⟩ = some (.slice pa pn pc) := hx2.cell (by simp [go_sem])
    have f0' := (x2.frozen (p := ⟨w.heap.size + 1, 0, none⟩) z1).trans f0
    have f1' := (x2.frozen (p := ⟨w.heap.size + 1, 1, none⟩) z1).trans f1
    replace q0 := x2.cell q0
    replace q1 := x2.cell q1
    replace z1 : w.heap.size + 1 < w2.heap.size := cell_lt q0
    have z2 : w1.heap.size < w2.heap.size := cell_lt b0
    clear f0 f1 hx2 hlw
    go_wp2_with fail
    have r := two_cells q0 q1 (.string nm) (.slice pa pn pc)
    refine bodyPost_ret (v := .tuple #[.agg #[.string nm, .slice pa pn pc], .int .i64 (letterErrL l)]) (by simp [results, Tryz.results79, go_sem, r.1, r.2]) rfl ⟨_, rfl, ⟨_, _, _, _, by rw [Ho.out], fun _ => ?_⟩, ((x1.trans x2).setCell (by simp) _).setCell (by simp) _⟩
    exact HH.out
  · have ho : openForErrM s n l = openErrM s n := by rw [openForErrM, if_pos h0]
    have h0' : (openErrM s n == 0) = false := by simpa using h0
    have H0 := Lib.hid h0
    have Ho := Lib.hid ho
    generalize openErrM s n = er at *
    clear ho h0
    go_wp2_with fail
    have r := two_cells q0 q1 (.string nm) (.slice pa pn pc)
    have r0 := (ext_alloc ((w1.setCell ⟨w.heap.size + 1, 0, none⟩ (.string nm)).setCell ⟨w.heap.size + 1, 1, none⟩ (.slice pa pn pc)) (.cells #[.string nm, .slice pa pn pc] 106)).cell r.1
    have r1 := (ext_alloc ((w1.setCell ⟨w.heap.size + 1, 0, none⟩ (.string nm)).setCell ⟨w.heap.size + 1, 1, none⟩ (.slice pa pn pc)) (.cells #[.string nm, .slice pa pn pc] 106)).cell r.2
    refine bodyPost_ret (v := .tuple #[.agg #[.string nm, .slice pa pn pc], .int .i64 er]) (by simp [results, Tryz.results79, go_sem, r0, r1]) rfl ⟨_, rfl, ⟨_, _, _, _, by rw [Ho.out], fun h => ?_⟩, ((x1.setCell (by simp) _).setCell (by simp) _).alloc _⟩
    rw [Ho.out] at h
    exact absurd h H0.out

theorem openFor_ok {s : Shelf} {n : Int} {l : List ByteArray} (h : openForErrM s n l = 0) : openErrM s n = 0 ∧ letterErrL l = 0 := by
  unfold openForErrM at h
  by_cases h1 : openErrM s n = 0
  · rw [if_neg (by simpa using h1)] at h; exact ⟨h1, h⟩
  · rw [if_pos h1] at h; exact absurd h h1
theorem formSlots_in {f : Form} (h : ValidForm f) : ∀ s ∈ formSlotsM f.parts, s.word.size ≤ 9223372036854775807 := by
  intro s hs
  simp only [formSlotsM, List.mem_flatMap, partSlotsM, givenM, roomSlotsM, List.mem_append, List.mem_map] at hs
  obtain ⟨p, hp, hs⟩ := hs
  rcases hs with ⟨x, hx, rfl⟩ | ⟨x, hx, rfl⟩
  · have := word_size (List.all_eq_true.1 (h.parts p hp).w x hx)
    show x.size ≤ _
    omega
  · simp
theorem Ext.form {w w' : World} {v : Value} {f : Form} (hx : Ext w w') (h : FormV w v f) : FormV w' v f := by
  obtain ⟨pv, e, h1, h2⟩ := h
  exact ⟨pv, e, h1, h2.ext hx⟩
def mendM (s : Shelf) (n : Int) (l : List ByteArray) : Nat := if openForErrM s n l = 0 then (match s.forms[n.toNat]? with | some f => (costM l (formSlotsM f.parts)).2 | none => 0) else 0
set_option maxRecDepth 100000 in
set_option maxHeartbeats 1500000 in
theorem Mend_any (sv v : Value) (s : Shelf) (n : Int) (hn : I64 n) (l : List ByteArray) (w : World) (hs : ShelfAt w sv s) (hl : StrsAt w v l) :
    Calls Tryz.prog 39 #[sv, .int .i64 n, v] w fun e w' => e = .returned (.tuple #[.int .i64 (mendM s n l), .int .i64 (openForErrM s n l)]) ∧ Ext w w' := by
  have hs0 := hs
  obtain ⟨a, c, rfl, hw, hc1, hc2, hf⟩ := hs.open
  obtain ⟨la, lc, rfl, -⟩ := hl.shape
  clear hf
  go_enter Tryz.func39, Tryz.ntmps39
  go_wp2_with fail
  refine (openForH_any _ _ s n hn l w _ (by first | (with_reducible exact Ext.refl _) | (with_reducible assumption) | (show Below _ _ _; go_grown; done)) hs0 (hl.ext (by first | (with_reducible exact Ext.refl _) | (with_reducible assumption) | (show Below _ _ _; go_grown; done)))).mono ?_
  rintro e w1 ⟨uu, rfl, ⟨nm, pa, pn, pc, rfl, h1⟩, hx1⟩
  have x1 : Ext w w1 := Ext.trans (by first | (with_reducible exact Ext.refl _) | (with_reducible assumption) | (show Below _ _ _; go_grown; done)) hx1
  obtain ⟨er, herr⟩ : ∃ er, openForErrM s n l = er := ⟨_, rfl⟩
  rw [herr] at h1 ⊢
  have Herr := Lib.hid herr
  clear hx1
  by_cases h0 : er = 0
  · subst h0
    obtain ⟨ho, hL⟩ := openFor_ok herr
    obtain ⟨i, hi, rfl, hF⟩ := h1 rfl
    have hV : ValidForm s.forms[i] := (openErr_ok ho).1.forms _ (List.getElem_mem hi)
    obtain ⟨h15, hwd⟩ := lettErr_ok hL
    have hm : mendM s i l = (costM l (formSlotsM s.forms[i].parts)).2 := by
      unfold mendM
      rw [if_pos herr]
      simp [hi]
    have h16 := formSlots_len hV.parts
    have h5 := hV.n
    have hFw := hF
    have Hm := Lib.hid hm
    clear herr hm h1
    generalize s.forms[i] = f at *
    have hfs := fun w' (hx : Ext w w') => formSlots_any (.agg #[.string nm, .slice pa pn pc]) f hV w' (hx.form hF)
    go_wp2_with fail
    refine (hfs _ (x1.alloc _)).mono ?_
    rintro e w2 ⟨u, rfl, hrow, hx2⟩
    have x2 : Ext w w2 := Ext.trans (x1.alloc _) hx2
    have hsl : SlotsAt w2 u (formSlotsM f.parts) := hrow.at_ (formSlots_in hV)
    have hl2 := hl.ext x2
    have hme := mend_any _ u l (formSlotsM f.parts) w2 hl2 hsl ⟨by omega, by omega⟩
    obtain ⟨ua, uc, rfl, huc, hum⟩ := hsl.shape
    clear hfs hrow hx2 hsl
    go_wp2_with fail
    refine hme.mono ?_
    rintro e w3 ⟨kb, B, M, rfl, -, -, -, hM, hT, hx3⟩
    have h00 : getP (0, 0) M = some (costM l (formSlotsM f.parts)) := by
      have := hT.all 0 0 (Nat.zero_le _) (Nat.zero_le _)
      simpa [valM] using this
    have hfe := fun w' (hx : Ext w3 w') => fewest_any la ua l.length (formSlotsM f.parts).length lc uc kb B M _ w' (hM.ext hx) h00
    have Hx := Lib.hid (x2.trans hx3)
    clear hme hT hM h00 hx3
    unfold mendV at *
    go_wp2_with fail
    refine (hfe _ (Ext.refl _)).mono ?_
    rintro e w4 ⟨rfl, hx4⟩
    go_wp2
    go_ret2
    exact ⟨by rw [Hm.out, Herr.out]; rfl, Hx.out.trans hx4⟩
  · have h0' : (er != 0) = true := by simpa using h0
    have hm : mendM s n l = 0 := by unfold mendM; rw [if_neg (by rw [herr]; exact h0)]
    have Hm := Lib.hid hm
    clear h0 h1 hm herr
    go_wp2_with fail
    go_ret2
    exact ⟨by rw [Hm.out, Herr.out]; rfl, x1.alloc _⟩
end Go.Proofs.YtnfbhicoknpojaaGreat

namespace Go.Proofs.YtnfbhicoknpojaaGreat
set_option linter.unusedSimpArgs false
set_option linter.unusedVariables false
open Go.RowKit
set_option linter.unusedVariables false

def costOf (fs : List Form) (l : List ByteArray) (i : Nat) : Nat := match fs[i]? with | some f => (costM l (formSlotsM f.parts)).2 | none => 0
def needsTo (fs : List Form) (l : List ByteArray) (k : Nat) : List Ch := (List.range k).map fun i => (i, costOf fs l i)
def needsM (fs : List Form) (l : List ByteArray) : List Ch := needsTo fs l fs.length
theorem needsTo_step (fs : List Form) (l : List ByteArray) (k : Nat) : needsTo fs l (k + 1) = needsTo fs l k ++ [(k, costOf fs l k)] := by
  simp [needsTo, List.range_succ]
theorem needsTo_len (fs : List Form) (l : List ByteArray) (k : Nat) : (needsTo fs l k).length = k := by simp [needsTo]
/-! ### A row of choices of the call's own -/
def cellsH (l : List Ch) : List Value := l.flatMap fun s => [.int .i64 (s.1 : Nat), .int .i64 (s.2 : Nat)]
theorem cellsH_len (l : List Ch) : (cellsH l).length = l.length * 2 := by
  induction l with
  | nil => rfl
  | cons x l ih => simp only [cellsH, List.flatMap_cons, List.length_append, List.length_cons, List.length_nil] at *; omega
theorem cellsH_get (l : List Ch) (i : Nat) (h : i < l.length) : (cellsH l)[i * 2]? = some (.int .i64 (l[i].1 : Nat)) ∧ (cellsH l)[i * 2 + 1]? = some (.int .i64 (l[i].2 : Nat)) := by
  induction l generalizing i with
  | nil => simp at h
  | cons x l ih =>
    cases i with
    | zero => simp [cellsH]
    | succ i =>
      have := ih i (by simpa using h)
      have e : (i + 1) * 2 = i * 2 + 2 := by omega
      rw [e]
      simpa [cellsH] using this
theorem cellsH_app (l r : List Ch) : cellsH (l ++ r) = cellsH l ++ cellsH r := by simp [cellsH]
def RowH (base : Nat) (l : List Ch) (u : Value) (w : World) : Prop := w.ownsRow base 155 2 u l.length (cellsH l)
theorem RowH.ext {base : Nat} {l : List Ch} {u : Value} {w w' : World} (h : RowH base l u w) (hx : Ext w w') : RowH base l u w' := Ext.owns h hx
theorem RowH.nil {base : Nat} {w : World} : RowH base [] (.slice none 0 0) w := World.ownsRow_nil _ _ _ _
theorem RowH.snoc {base : Nat} {l : List Ch} {c : Ch} {u : Value} {w : World} (h : w.ownsRow base 155 2 u (l.length + 1) (cellsH l ++ [.int .i64 (c.1 : Nat), .int .i64 (c.2 : Nat)])) : RowH base (l ++ [c]) u w := by
  unfold RowH
  rw [cellsH_app, List.length_append]
  exact h
def chR (w : World) (b o : Nat) (c : Ch) : Prop := w.cell? ⟨b, o, none⟩ = some (.int .i64 (c.1 : Nat)) ∧ w.cell? ⟨b, o + 1, none⟩ = some (.int .i64 (c.2 : Nat))
theorem chR.keeps : Keeps chR := fun _ _ _ _ _ hx h => ⟨hx.cell h.1, hx.cell h.2⟩
abbrev ChsAt : World → Value → List Ch → Prop := SliceAt 2 chR
theorem ChsAt.ext {w w' : World} {v : Value} {l : List Ch} (h : ChsAt w v l) (hx : Ext w w') : ChsAt w' v l := SliceAt.ext chR.keeps h hx
theorem ChsAt.lies {w w' : World} {v : Value} {l : List Ch} (h : ChsAt w v l) (hx : Lies w w') : ChsAt w' v l :=
  SliceAt.lies (fun _ _ _ _ _ hx h => ⟨hx _ _ h.1, hx _ _ h.2⟩) h hx
theorem RowH.at_ {base : Nat} {l : List Ch} {u : Value} {w : World} (h : RowH base l u w) : ChsAt w u l := by
  have hcells := fun g hg => h.cells (g := g) hg
  rcases h.2 with ⟨rfl, hn⟩ | ⟨g, cap, cur, rfl, hb, hg, hnc, hcm, hcs, htake⟩
  · have : l = [] := List.eq_nil_of_length_eq_zero hn
    subst this; exact SliceAt.nil
  · refine ⟨_, _, rfl, hnc, by simpa [maxLen] using hcm, fun i hi => ⟨g, 0, rfl, ?_⟩⟩
    obtain ⟨c0, c1⟩ := cellsH_get l i hi
    have r0 := hcells g rfl _ _ c0
    have r1 := hcells g rfl _ _ c1
    have ea : ∀ j, (⟨g, 0, none⟩ : Addr).add j = ⟨g, 0 + j, none⟩ := fun j => by unfold Addr.add; split <;> simp_all
    rw [ea] at r0 r1
    exact ⟨r0, r1⟩
theorem infoCh : (Tryz.prog.info? 155).map (fun i => (i.zero, i.size, i.bytes)) = some (some (.agg #[.int .i64 0, .int .i64 0]), 2, 16) := by kernel_rfl
set_option maxRecDepth 100000 in
set_option maxHeartbeats 1500000 in
theorem needs_any (fv lv : Value) (fs : List Form) (l : List ByteArray) (w : World) (hf : FormsAt w fv fs) (hl : StrsAt w lv l) (h4 : fs.length ≤ 4) (hV : ∀ f ∈ fs, ValidForm f) (h15 : l.length ≤ 15) :
    Calls Tryz.prog 85 #[fv, lv] w fun e w' => ∃ u, e = .returned u ∧ RowH w.heap.size (needsM fs l) u w' ∧ Ext w w' := by
  obtain ⟨a, c, rfl, hc1, hc2⟩ := hf.shape
  obtain ⟨la, lc, rfl, -⟩ := hl.shape
  obtain ⟨i0, hi, hz0, hz1, hz2⟩ := info_parts infoCh
  go_enter Tryz.func85, Tryz.ntmps85
  go_wp2_with fail
  go_loopw [5, 10] (fun v i wr => ∃ k : Nat, k ≤ fs.length ∧ i = .int .i64 k ∧ Ext w wr ∧ RowH w.heap.size (needsTo fs l k) v wr) (fun _ i _ => fs.length - (intOf i).toNat)
  case atStart => exact ⟨0, Nat.zero_le _, rfl, Ext.refl _, RowH.nil⟩
  case round =>
    obtain ⟨k, hk, rfl, hxr, hown⟩ := hrel
    have hszr := hxr.size
    by_cases hlt : k < fs.length
    · have k1 : (k : Int) < (fs.length : Int) := by omega
      obtain ⟨fb, fo, rfl, g0, hsz, pu, g1, hp⟩ := (hf.ext hxr).get hlt
      have zf := cell_lt g0
      have hVk := hV _ (List.getElem_mem hlt)
      have hcost : costOf fs l k = (costM l (formSlotsM fs[k].parts)).2 := by simp [costOf, hlt]
      have hst := needsTo_step fs l k
      have hFV : FormV wr (.agg #[.string fs[k].name, pu]) fs[k] := ⟨pu, rfl, hsz, hp⟩
      obtain ⟨pa, pc, rfl, hpc, hpm⟩ := hp.shape
      have hnl := needsTo_len fs l k
      have h16 := formSlots_len hVk.parts
      have h5 := hVk.n
      have Hst := Lib.hid hst
      have Hcost := Lib.hid hcost
      have Hnl := Lib.hid hnl
      have Hl := Lib.hid (hl.ext hxr)
      have Hown := Lib.hid hown
      clear hst hcost hnl hown hp hf hl
      generalize fs[k] = f at *
      have hfs := fun w' (hx : Ext wr w') => formSlots_any (.agg #[.string f.name, .slice pa f.parts.length pc]) f hVk w' (hx.form hFV)
      go_wp2_with fail
      refine (hfs _ (ext_alloc _ _)).mono ?_
      rintro e w2 ⟨u, rfl, hrow, hx2⟩
      have x2 : Ext wr w2 := Ext.trans (ext_alloc _ _) hx2
      have hsl : SlotsAt w2 u (formSlotsM f.parts) := hrow.at_ (formSlots_in hVk)
      have hme := mend_any _ u l (formSlotsM f.parts) w2 (Hl.out.ext x2) hsl ⟨by omega, by omega⟩
      obtain ⟨ua, uc, rfl, huc, hum⟩ := hsl.shape
      clear hfs hrow hx2 hsl
      go_wp2_with fail
      refine hme.mono ?_
      rintro e w3 ⟨kb, B, M, rfl, -, -, -, hM, hT, hx3⟩
      have h00 : getP (0, 0) M = some (costM l (formSlotsM f.parts)) := by
        have := hT.all 0 0 (Nat.zero_le _) (Nat.zero_le _)
        simpa [valM] using this
      have hfe := fun w' (hx : Ext w3 w') => fewest_any la ua l.length (formSlotsM f.parts).length lc uc kb B M _ w' (hM.ext hx) h00
      have Hx := Lib.hid (x2.trans hx3)
      clear hme hT hM h00 hx3 x2
      unfold mendV at *
      go_wp2_with fail
      refine (hfe _ (Ext.refl _)).mono ?_
      rintro e w4 ⟨rfl, hx4⟩
      have x4 := Hx.out.trans hx4
      have Own4 := Lib.hid (Hown.out.ext x4)
      have hs4 := x4.size
      clear hfe hx4
      rw [← Hcost.out]
      obtain ⟨cm, hcm⟩ : ∃ cm, costOf fs l k = cm := ⟨_, rfl⟩
      rw [hcm]
      have Hcm := Lib.hid hcm
      clear hcm
      go_wp2_with (at_builtin; go_loud (refine wpList_append_own_at _ rfl _ _ 161 rfl w.heap.size 155 i0 (.agg #[.int .i64 0, .int .i64 0]) 2 16 Tryz.underlying161 hi hz0 hz1 hz2 rfl (by decide) u5 (needsTo fs l k).length (cellsH (needsTo fs l k)) rfl (World.ownsRow.alloc Own4.out _) ⟨w4.heap.size, 0, none⟩ 1 1 [.int .i64 (k : Nat), .int .i64 (cm : Nat)] rfl rfl (cell_two_newS _ _ _ _) (by simp [Value.oneCell']) (by unfold maxLen; rw [Hnl.out]; omega) (by rw [Hnl.out]; omega) (by simp; omega) ?_; intro v' w5 hown' hgrow _ _; have hx5 : Ext w w5 := Ext.grown ((hxr.trans x4).alloc _) hgrow fun k hk => (Own4.out.lt k hk).1))
      go_roundw
      case rel => exact ⟨k + 1, by omega, by go_num, hx5, by rw [Hst.out, Hcm.out]; exact RowH.snoc (c := (k, cm)) hown'⟩
      case measure => simp [intOf]; omega
    · have hke : k = fs.length := by omega
      subst hke
      go_wp2
      go_ret
      exact ⟨_, rfl, hown, hxr⟩
end Go.Proofs.YtnfbhicoknpojaaGreat

namespace Go.Proofs.YtnfbhicoknpojaaGreat
set_option linter.unusedSimpArgs false
set_option linter.unusedVariables false
open Go.RowKit
set_option linter.unusedVariables false

set_option maxRecDepth 100000 in
theorem values_any (a : Option Addr) (n c : Nat) (w : World) :
    Calls Tryz.prog 84 #[.slice a n c] w fun e w' => ∃ vb, e = .returned (.func (.func 115) #[] #[.pointer (some ⟨vb, 0, none⟩)]) ∧ w'.cell? ⟨vb, 0, none⟩ = some (.slice a n c) ∧ Ext w w' := by
  go_enter Tryz.func84, Tryz.ntmps84
  go_wp2
  go_ret
  exact ⟨_, rfl, by simp [go_sem], (by first | (with_reducible exact Ext.refl _) | (with_reducible assumption) | (show Below _ _ _; go_grown; done))⟩
set_option maxRecDepth 100000 in
set_option maxHeartbeats 1000000 in
theorem values_seq (n lo hi vb : Nat) (v : Value) (xs : List Ch) (Wd w : World) (hWd : Wd.heap.size ≤ lo) (hlh : lo ≤ hi) (hhw : hi ≤ w.heap.size) (hK : KeptM lo hi Wd w) (hv : ChsAt Wd v xs) (hvb : vb < lo) (c0 : w.cell? ⟨vb, 0, none⟩ = some v) :
    SeqOwn n Tryz.prog 115 #[.pointer (some ⟨vb, 0, none⟩)] (fun c => #[chV c]) (KeptM lo hi) xs w := by
  intro y J W hW hJ hY h0
  have hxW : Ext w W := hW
  have hzW := hxW.size
  have hKW := hK.trans (hxW.keptM _ _)
  obtain ⟨va, vc, rfl, hvc, hvm⟩ := hv.shape
  refine callsIn_wide.2 ?_
  simp only [List.append_toArray, List.cons_append, List.nil_append]
  replace c0 := hxW.cell c0
  have zm := cell_lt c0
  go_enter Tryz.func115, Tryz.ntmps115
  go_wp2_with fail
  go_loopw [7] (fun ix wr => ∃ k : Nat, k ≤ xs.length ∧ ix = .int .i64 k ∧ KeptM lo hi W wr ∧ W.heap.size ≤ wr.heap.size ∧ J (xs.take k) wr) (fun ix _ => xs.length - (intOf ix).toNat)
  case atStart => exact ⟨0, Nat.zero_le _, rfl, KeptM.refl _ _ _, Nat.le_refl _, by rw [List.take_zero]; exact h0⟩
  case round =>
    obtain ⟨k, hk, rfl, hxr, hzr, hj⟩ := hrel
    by_cases hlt : k < xs.length
    · have k1 : (k : Int) < (xs.length : Int) := by omega
      have hKr := hKW.trans hxr
      obtain ⟨b, o, rfl, r0, r1⟩ := (hv.lies (hKr.o.lies hWd)).get hlt
      have zb := cell_lt r0
      have hst : xs.take (k + 1) = xs.take k ++ [xs[k]] := by rw [List.take_add_one, List.getElem?_eq_getElem hlt]; rfl
      have hm : xs.take k ++ [xs[k]] <+: xs := by rw [← hst]; exact List.take_prefix _ _
      generalize xs[k] = x at *
      have hxx : Ext wr (wr.alloc (.cells #[.int .i64 (x.1 : Nat), .int .i64 (x.2 : Nat)] 155)) := ext_alloc _ _
      have hJ2 := hJ _ _ _ (hxx.below.mono hzr) hj
      obtain ⟨fn, tmps, assign, body, hy, hR⟩ := hY _ x _ hJ2 hm
      unfold chV at hy
      have Hst := Lib.hid hst
      clear hst hm
      refine (wpIn_wide (n := n - 1 + 1)).1 ?_
      gi_wp2
      refine hR.mono ?_
      rintro e W3 ⟨rfl, hJ3, hk3⟩
      gi_wp2
      go_wp2
      go_roundw
      case rel => exact ⟨k + 1, by omega, by go_num, (hxr.trans (hxx.keptM _ _)).trans hk3, Nat.le_trans hzr (Nat.le_trans hxx.size hk3.o.size), by rw [Hst.out]; exact hJ3⟩
      case measure => simp [intOf]; omega
    · have hke : k = xs.length := by omega
      subst hke
      rw [List.take_length] at hj
      go_wp2
      go_end0
      exact ⟨⟨_, rfl⟩, hj⟩
/-- the first that needs the fewest corrections -/
def nearM (s : Shelf) (l : List ByteArray) : Ch := pickC (needsM s.forms l)
def nearErrM (s : Shelf) (l : List ByteArray) : Int := if shelfErrM s l ≠ 0 then shelfErrM s l else if s.forms.length = 0 then 9 else 0
def nearV (s : Shelf) (l : List ByteArray) : Ch := if nearErrM s l = 0 then nearM s l else (0, 0)
set_option maxRecDepth 100000 in
set_option maxHeartbeats 1500000 in
theorem Nearest_any (sv v : Value) (s : Shelf) (l : List ByteArray) (w : World) (hs : ShelfAt w sv s) (hl : StrsAt w v l) :
    Calls Tryz.prog 40 #[sv, v] w fun e w' => e = .returned (.tuple #[.int .i64 ((nearV s l).1 : Nat), .int .i64 ((nearV s l).2 : Nat), .int .i64 (nearErrM s l)]) ∧ Ext w w' := by
  have hs0 := hs
  obtain ⟨a, c, rfl, hw, hc1, hc2, hf⟩ := hs.open
  obtain ⟨la, lc, rfl, -⟩ := hl.shape
  go_enter Tryz.func40, Tryz.ntmps40
  go_wp2_with fail
  refine (shelfError_any _ _ s l _ (hs0.ext (by first | (with_reducible exact Ext.refl _) | (with_reducible assumption) | (show Below _ _ _; go_grown; done))) (hl.ext (by first | (with_reducible exact Ext.refl _) | (with_reducible assumption) | (show Below _ _ _; go_grown; done)))).mono ?_
  rintro e w1 ⟨rfl, hx1⟩
  have x1 : Ext w w1 := Ext.trans (by first | (with_reducible exact Ext.refl _) | (with_reducible assumption) | (show Below _ _ _; go_grown; done)) hx1
  have q1 : w1.cell? ⟨w.heap.size, 1, none⟩ = some (.slice a s.forms.length c) := hx1.cell (by simp [go_sem])
  have zq : w.heap.size < w1.heap.size := cell_lt q1
  clear hx1
  obtain ⟨er, herr⟩ : ∃ er, shelfErrM s l = er := ⟨_, rfl⟩
  rw [herr]
  by_cases h0 : er = 0
  · subst h0
    obtain ⟨hV, hL⟩ := shelfErr_ok herr
    obtain ⟨h15, hwd⟩ := lettErr_ok hL
    have hn4 := hV.n
    have hnl : (needsM s.forms l).length = s.forms.length := needsTo_len _ _ _
    have hne : nearErrM s l = if s.forms.length = 0 then 9 else 0 := by unfold nearErrM; rw [if_neg (by rw [herr]; simp)]
    have hnd := needs_any _ _ s.forms l w1 (hf.ext x1) (hl.ext x1) hn4 hV.forms h15
    have Hnl := Lib.hid hnl
    have Hne := Lib.hid hne
    clear herr hV hL hwd hnl hne hs hs0 hf
    go_wp2_with fail
    refine hnd.mono ?_
    rintro e w2 ⟨u, rfl, hrow, hx2⟩
    have hch := hrow.at_
    obtain ⟨ua, uc, rfl, huc, hum⟩ := hch.shape
    have hva := fun w => values_any ua (needsM s.forms l).length uc w
    clear hrow hnd
    go_wp2_with fail
    refine (hva w2).mono ?_
    rintro e w3 ⟨vb, rfl, cv, hx3⟩
    have hch3 := hch.ext hx3
    have zv : vb < w3.heap.size := cell_lt cv
    have hbe := bestH_any 115 #[.pointer (some ⟨vb, 0, none⟩)] (needsM s.forms l) (by rw [Hnl.out]; omega) w3 (enters_of Tryz.func115 (by kernel_rfl) rfl)
      (fun w' hx hz => values_seq 3 (w3.heap.size + 2) (w3.heap.size + 4) vb _ _ w3 w' (by omega) (by omega) hz (hx.keptM _ _) hch3 (by omega) (hx.cell cv))
    have x3 := (x1.trans hx2).trans hx3
    have hp : (pickB fewCh zeroCh (needsM s.forms l)).1 = nearM s l := rfl
    rw [hp, Hnl.out] at hbe
    unfold fewerF at hbe
    have Hx3 := Lib.hid x3
    clear hva hch hx2 hx3 hch3 cv zv hp x1 q1
    go_wp2_with fail
    refine hbe.mono ?_
    rintro e w4 ⟨rfl, hx4⟩
    have x4 := Hx3.out.trans hx4
    clear hbe hx4
    by_cases hz : s.forms.length = 0
    · have hne : nearErrM s l = 9 := by rw [Hne.out, if_pos hz]
      have hnv : nearV s l = (0, 0) := by unfold nearV; rw [if_neg (by rw [hne]; omega)]
      have Hnv := Lib.hid hnv
      have Hn9 := Lib.hid hne
      have hzb : ((s.forms.length : Int) == 0) = true := by rw [hz]; rfl
      clear hnv hne hz
      unfold chV
      go_wp2_with fail
      go_ret3
      exact ⟨by rw [Hnv.out, Hn9.out]; rfl, x4.alloc _⟩
    · have hne : nearErrM s l = 0 := by rw [Hne.out, if_neg hz]
      have hnv : nearV s l = nearM s l := by unfold nearV; rw [if_pos hne]
      have Hnv := Lib.hid hnv
      have Hn9 := Lib.hid hne
      have hzb : ((s.forms.length : Int) == 0) = false := by simpa using hz
      clear hnv hne hz
      generalize nearM s l = nm at *
      unfold chV
      go_wp2_with fail
      have c0 : (w4.alloc (.cells #[.int .i64 (nm.1 : Nat), .int .i64 (nm.2 : Nat)] 155)).cell? ⟨w4.heap.size, 0, none⟩ = some (.int .i64 (nm.1 : Nat)) := by simp [go_sem]
      have c1 : (w4.alloc (.cells #[.int .i64 (nm.1 : Nat), .int .i64 (nm.2 : Nat)] 155)).cell? ⟨w4.heap.size, 1, none⟩ = some (.int .i64 (nm.2 : Nat)) := by simp [go_sem]
      apply Facts.wp_region [.val _, .val _, .val _, .val _, .val _, .val _, .val _] (by kernel_rfl) (by kernel_rfl) trivial ?main
      case main =>
        iterate 7 (refine ⟨fun w1 hx hh => ?_, ?_⟩; focus (clear hh; (have f0 := hx.cell c0; have f1 := hx.cell c1); go_simp; first | exact ⟨Ext.refl _, rfl⟩ | exact Ext.refl _))
        intro w5 hx hh
        clear hh
        go_simp
        go_wp2
        go_ret3
        exact ⟨by rw [Hnv.out, Hn9.out]; rfl, (x4.alloc _).trans hx⟩
  · have h0' : (er != 0) = true := by simpa using h0
    have hne : nearErrM s l = er := by unfold nearErrM; rw [if_pos (by rw [herr]; exact h0), herr]
    have hnv : nearV s l = (0, 0) := by unfold nearV; rw [if_neg (by rw [hne]; exact h0)]
    have Hne := Lib.hid hne
    have Hnv := Lib.hid hnv
    clear h0 hne hnv herr
    go_wp2_with fail
    go_ret3
    exact ⟨by rw [Hnv.out, Hne.out]; rfl, x1⟩
end Go.Proofs.YtnfbhicoknpojaaGreat
