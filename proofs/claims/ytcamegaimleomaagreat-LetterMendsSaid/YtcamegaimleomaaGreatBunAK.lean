/-
  markError of the program.
  WHAT STANDS INSTEAD OF WORDS by a mark, and an append of it in a region that draws.
  marked and Apply of the program.
  Apply of the program.
  BY THE MARKS a letter becomes the other one, plain.
  Marks of the reference, walked.
  HOW MANY CORRECTIONS, as one number: as many back, and none just if the letters are the same.
  Fills of the program, for any shelf, form and letter.
-/
import Derived.Test.YtcamegaimleomaaGreatBunAJ
import Derived.Test.YtcamegaimleomaaGreatBunAI
namespace Go.Proofs.YtcamegaimleomaaGreat
set_option linter.unusedSimpArgs false
set_option linter.unusedVariables false
open Go.RowKit
set_option linter.unusedVariables false

def KindsV (u : Value) (w : World) : Prop := ∃ B, u = .slice (some ⟨B, 0, none⟩) 5 5 ∧ KindsAt w B
theorem KindsV.ext {u : Value} {w w' : World} (h : KindsV u w) (hx : Ext w w') : KindsV u w' := by
  obtain ⟨B, e, h⟩ := h; exact ⟨B, e, h.ext hx⟩
noncomputable def KindsV.B {u : Value} {w : World} (h : KindsV u w) : Nat := Exists.choose h
theorem KindsV.spec {u : Value} {w : World} (h : KindsV u w) : u = .slice (some ⟨h.B, 0, none⟩) 5 5 ∧ KindsAt w h.B := Exists.choose_spec h
theorem KindAt.ext {w w' : World} {b o k : Nat} (h : KindAt w b o k) (hx : Ext w w') : KindAt w' b o k :=
  ⟨hx.cell h.c0, hx.cell h.c1, hx.cell h.c2, hx.cell h.c3, hx.cell h.c4, hx.cell h.c5⟩
def KindPt (k : Nat) (u : Value) (w : World) : Prop := ∃ B, u = .pointer (some ⟨B, k * 6, none⟩) ∧ KindAt w B (k * 6) k
theorem KindPt.ext {k : Nat} {u : Value} {w w' : World} (h : KindPt k u w) (hx : Ext w w') : KindPt k u w' := by
  obtain ⟨B, e, h⟩ := h; exact ⟨B, e, h.ext hx⟩
noncomputable def KindPt.B {k : Nat} {u : Value} {w : World} (h : KindPt k u w) : Nat := Exists.choose h
theorem KindPt.spec {k : Nat} {u : Value} {w : World} (h : KindPt k u w) : u = .pointer (some ⟨h.B, k * 6, none⟩) ∧ KindAt w h.B (k * 6) k := Exists.choose_spec h
/-- a box of six cells of one's own -/
def Box6 (n0 : Nat) (u : Value) (w : World) : Prop := ∃ B, u = .pointer (some ⟨B, 0, none⟩) ∧ n0 ≤ B ∧ ∀ o, o < 6 → (∃ x, w.cell? ⟨B, o, none⟩ = some x) ∧ w.frozen? ⟨B, o, none⟩ = false
theorem Box6.ext {n0 : Nat} {u : Value} {w w' : World} (h : Box6 n0 u w) (hx : Ext w w') : Box6 n0 u w' := by
  obtain ⟨B, h1, h2, h3⟩ := h
  refine ⟨B, h1, h2, fun o ho => ?_⟩
  obtain ⟨⟨x, hc⟩, hf⟩ := h3 o ho
  exact ⟨⟨x, hx.cell hc⟩, (hx.frozen (p := ⟨B, o, none⟩) (show B < _ from cell_lt hc)).trans hf⟩
noncomputable def Box6.B {n0 : Nat} {u : Value} {w : World} (h : Box6 n0 u w) : Nat := Exists.choose h
theorem Box6.spec {n0 : Nat} {u : Value} {w : World} (h : Box6 n0 u w) : u = .pointer (some ⟨h.B, 0, none⟩) ∧ n0 ≤ h.B ∧ ∀ o, o < 6 → (∃ x, w.cell? ⟨h.B, o, none⟩ = some x) ∧ w.frozen? ⟨h.B, o, none⟩ = false := Exists.choose_spec h
def set6 (w : World) (B : Nat) (a b c d e f : Value) : World := (((((w.setCell ⟨B, 0, none⟩ a).setCell ⟨B, 1, none⟩ b).setCell ⟨B, 2, none⟩ c).setCell ⟨B, 3, none⟩ d).setCell ⟨B, 4, none⟩ e).setCell ⟨B, 5, none⟩ f
theorem set6_cells {w : World} {B : Nat} (h : ∀ o, o < 6 → ∃ x, w.cell? ⟨B, o, none⟩ = some x) (a b c d e f : Value) :
    (set6 w B a b c d e f).cell? ⟨B, 0, none⟩ = some a ∧ (set6 w B a b c d e f).cell? ⟨B, 1, none⟩ = some b ∧ (set6 w B a b c d e f).cell? ⟨B, 2, none⟩ = some c ∧ (set6 w B a b c d e f).cell? ⟨B, 3, none⟩ = some d ∧ (set6 w B a b c d e f).cell? ⟨B, 4, none⟩ = some e ∧ (set6 w B a b c d e f).cell? ⟨B, 5, none⟩ = some f := by
  obtain ⟨x0, h0⟩ := h 0 (by omega)
  obtain ⟨x1, h1⟩ := h 1 (by omega)
  obtain ⟨x2, h2⟩ := h 2 (by omega)
  obtain ⟨x3, h3⟩ := h 3 (by omega)
  obtain ⟨x4, h4⟩ := h 4 (by omega)
  obtain ⟨x5, h5⟩ := h 5 (by omega)
  refine ⟨set_other (set_other (set_other (set_other (set_other (set_cell h0 a) (.inr (by simp)) b) (.inr (by simp)) c) (.inr (by simp)) d) (.inr (by simp)) e) (.inr (by simp)) f,
    set_other (set_other (set_other (set_other (set_cell (set_other h1 (.inr (by simp)) a) b) (.inr (by simp)) c) (.inr (by simp)) d) (.inr (by simp)) e) (.inr (by simp)) f,
    set_other (set_other (set_other (set_cell (set_other (set_other h2 (.inr (by simp)) a) (.inr (by simp)) b) c) (.inr (by simp)) d) (.inr (by simp)) e) (.inr (by simp)) f,
    set_other (set_other (set_cell (set_other (set_other (set_other h3 (.inr (by simp)) a) (.inr (by simp)) b) (.inr (by simp)) c) d) (.inr (by simp)) e) (.inr (by simp)) f,
    set_other (set_cell (set_other (set_other (set_other (set_other h4 (.inr (by simp)) a) (.inr (by simp)) b) (.inr (by simp)) c) (.inr (by simp)) d) e) (.inr (by simp)) f,
    set_cell (set_other (set_other (set_other (set_other (set_other h5 (.inr (by simp)) a) (.inr (by simp)) b) (.inr (by simp)) c) (.inr (by simp)) d) (.inr (by simp)) e) f⟩
theorem Ext.set6 {a w : World} (h : Ext a w) {B : Nat} (hB : a.heap.size ≤ B) (p q r s t u : Value) : Ext a (set6 w B p q r s t u) :=
  (((((h.setCell (p := ⟨B, 0, none⟩) hB _).setCell (p := ⟨B, 1, none⟩) hB _).setCell (p := ⟨B, 2, none⟩) hB _).setCell (p := ⟨B, 3, none⟩) hB _).setCell (p := ⟨B, 4, none⟩) hB _).setCell (p := ⟨B, 5, none⟩) hB _
theorem neq_empty {s : ByteArray} (h : ¬ s = ByteArray.empty) : (s != ByteArray.empty) = true := by
  cases hb : (s == ByteArray.empty)
  · rw [bne, hb]; rfl
  · obtain ⟨d⟩ := s
    have hd : (d == #[]) = true := hb
    exact absurd (by rw [eq_of_beq hd]; rfl) h
/-- the error of a mark -/
def markErrM (m : Mark) (l : List ByteArray) : Int :=
  if ¬ (0 ≤ m.kind ∧ m.kind ≤ 3) then 7
  else if (kWr m.kind.toNat && !wordM m.word || !kWr m.kind.toNat && !(m.word.toList == [])) = true then 6
  else if l.length < kW m.kind.toNat then 4
  else if m.kind = 1 ∧ (l.headD ByteArray.empty).toList = m.word.toList then 5 else 0

set_option maxRecDepth 100000 in
set_option maxHeartbeats 1500000 in
theorem markError_any (v : Value) (m : Mark) (l : List ByteArray) (w : World) (hk : I64 m.kind) (hm : m.word.size ≤ 9223372036854775807) (hl : StrsAt w v l) :
    Calls Tryz.prog 113 #[.agg #[.int .i64 m.kind, .string m.word], v] w fun e w' => e = .returned (.int .i64 (markErrM m l)) ∧ Ext w w' := by
  obtain ⟨la, lc, rfl, hlc, hlm⟩ := hl.shape
  obtain ⟨kd, wd⟩ := m
  simp only at hk hm
  obtain ⟨er, her⟩ : ∃ er, markErrM ⟨kd, wd⟩ l = er := ⟨_, rfl⟩
  rw [her]
  have Her := Lib.hid her
  clear her
  go_enter Tryz.func113, Tryz.ntmps113
  go_wp2_with fail
  refine (within_any _ _ _ [kd] _ (IntsAt.oneAt (by simp) hk)).mono ?_
  rintro e w3 ⟨rfl, rfl⟩
  rw [withinM_one]
  cases hin : inM kd 0 3
  · have he : er = 7 := by
      rw [← Her.out, markErrM, if_pos]
      intro hh
      rw [show inM kd 0 3 = true from by simp [inM]; omega] at hin
      cases hin
    go_wp2_with fail
    go_ret
    exact ⟨by rw [he]; rfl, (by first | (with_reducible exact Ext.refl _) | (with_reducible assumption) | (show Below _ _ _; go_grown; done))⟩
  · have hin' := inM_true (by rw [hin]; decide)
    obtain ⟨k, rfl⟩ : ∃ k : Nat, kd = (k : Int) := ⟨kd.toNat, by omega⟩
    have hk3 : k ≤ 3 := by omega
    have k5 : (k : Int) < 5 := by omega
    obtain ⟨W, hW⟩ : ∃ W, W = (w.alloc (.cells #[.int .i64 (k : Int), .string wd] 115)).alloc (.cells #[.int .i64 (k : Int)] 3) := ⟨_, rfl⟩
    have xW : Ext w W := by rw [hW]; exact (ext_alloc _ _).alloc _
    have c0 : W.cell? ⟨w.heap.size, 0, none⟩ = some (.int .i64 (k : Int)) := by rw [hW]; simp [go_sem]
    have c1 : W.cell? ⟨w.heap.size, 1, none⟩ = some (.string wd) := by rw [hW]; simp [go_sem]
    have hlW := hl.ext xW
    rw [← hW]
    clear hW hin hin'
    go_wp2_with fail
    apply Facts.Peel.wp_regionL (⟨fun _ _ h => h, fun _ _ _ h k => h.trans k, fun _ _ _ h k => h.trans k, Ext.refl, fun a => ext_drew a⟩ : Facts.Piv.Two Ext Ext) 6 5 [.fact KindsV, .val _, .val (.int .i64 (k : Int)), .fact (KindPt k), .val (kindVal k), .fact (Box6 W.heap.size)] (by kernel_rfl) (by kernel_rfl) (by kernel_rfl) (by kernel_rfl) (by kernel_rfl) (by kernel_rfl) ?keep ?main
    case keep => exact ⟨fun u a c hx h => h.ext hx, fun _ _ u a c hx h => h.ext hx, fun u a c hx h => h.ext hx, fun _ _ u a c hx h => h.ext hx, fun u a c hx h => h.ext hx, fun _ _ u a c hx h => h.ext hx, trivial⟩
    case main =>
      simp only [List.take_succ_cons, List.take_zero, List.getD_cons_succ, List.getD_cons_zero]
      refine ⟨fun w1 hx hh => ?_, ?_⟩
      · clear hh
        go_simp
        refine (kinds_any w1).mono ?_
        rintro e w' ⟨⟨B, rfl, hkk⟩, hx2⟩
        exact ⟨_, rfl, hx2, B, rfl, hkk⟩
      intro u11
      iterate 2 (refine ⟨fun w1 hx hh => ?_, ?_⟩; focus (clear hh; (have f0 := hx.cell c0; have f1 := hx.cell c1); go_simp; first | exact ⟨Ext.refl _, rfl⟩ | exact Ext.refl _))
      refine ⟨fun w1 hx hh => ?_, ?_⟩
      · have h0 : KindsV u11 w1 := hh 0 _ List.mem_cons_self (by kernel_rfl)
        clear hh
        have s0 := h0.spec
        generalize h0.B = B at *
        have e0 := s0.1
        have g0 := s0.2.get k (by omega)
        clear s0 h0
        subst e0
        go_simp
        first | exact ⟨Ext.refl _, B, rfl, g0⟩ | exact ⟨B, rfl, g0⟩
      intro u14
      refine ⟨fun w1 hx hh => ?_, ?_⟩
      · have h3 : KindPt k u14 w1 := hh 3 _ List.mem_cons_self (by kernel_rfl)
        clear hh
        have s3 := h3.spec
        generalize h3.B = B at *
        have e3 := s3.1
        have g0 := s3.2.c0
        have g1 := s3.2.c1
        have g2 := s3.2.c2
        have g3 := s3.2.c3
        have g4 := s3.2.c4
        have g5 := s3.2.c5
        clear s3 h3
        subst e3
        go_simp
        first | exact ⟨Ext.refl _, rfl⟩ | exact Ext.refl _
      refine ⟨fun w1 hx hh => ?_, ?_⟩
      · clear hh
        have hsz := hx.size
        go_simp
        exact ⟨ext_alloc _ _, w1.heap.size, rfl, hsz, fun o ho => by
          have : o = 0 ∨ o = 1 ∨ o = 2 ∨ o = 3 ∨ o = 4 ∨ o = 5 := by omega
          rcases this with rfl | rfl | rfl | rfl | rfl | rfl <;> exact ⟨⟨_, by simp [go_sem]; rfl⟩, by simp [go_sem]⟩⟩
      intro u5
      intro w5 hx hh
      have h5 : Box6 W.heap.size u5 w5 := hh 5 _ List.mem_cons_self
      clear hh
      refine ⟨rfl, ?_⟩
      have s5 := h5.spec
      generalize h5.B = B at *
      have e5 := s5.1
      have hB := s5.2.1
      have hc := fun o ho => (s5.2.2 o ho).1
      have hf0 := (s5.2.2 0 (by omega)).2
      have hf1 := (s5.2.2 1 (by omega)).2
      have hf2 := (s5.2.2 2 (by omega)).2
      have hf3 := (s5.2.2 3 (by omega)).2
      have hf4 := (s5.2.2 4 (by omega)).2
      have hf5 := (s5.2.2 5 (by omega)).2
      have v0 := (hc 0 (by omega)).choose_spec
      have v1 := (hc 1 (by omega)).choose_spec
      have v2 := (hc 2 (by omega)).choose_spec
      have v3 := (hc 3 (by omega)).choose_spec
      have v4 := (hc 4 (by omega)).choose_spec
      have v5 := (hc 5 (by omega)).choose_spec
      generalize (hc 0 (by omega)).choose = y0 at *
      generalize (hc 1 (by omega)).choose = y1 at *
      generalize (hc 2 (by omega)).choose = y2 at *
      generalize (hc 3 (by omega)).choose = y3 at *
      generalize (hc 4 (by omega)).choose = y4 at *
      generalize (hc 5 (by omega)).choose = y5 at *
      have h6 := set6_cells hc (.int .i64 (kW k : Nat)) (.int .i64 (kS k : Nat)) (.int .i64 (kC k : Nat)) (.bool (kWr k)) (.func (.func (canF k)) #[] #[]) (.func (.func (becF k)) #[] #[])
      have x6 := hx.set6 hB (.int .i64 (kW k : Nat)) (.int .i64 (kS k : Nat)) (.int .i64 (kC k : Nat)) (.bool (kWr k)) (.func (.func (canF k)) #[] #[]) (.func (.func (becF k)) #[] #[])
      have zB := cell_lt v0
      clear s5 h5 hc
      subst e5
      unfold kindVal
      go_simp
      have d0 := x6.cell c0
      have d1 := x6.cell c1
      have hl6 := hlW.ext x6
      obtain ⟨W6, hW6⟩ : ∃ W6, W6 = set6 w5 B (.int .i64 (kW k : Nat)) (.int .i64 (kS k : Nat)) (.int .i64 (kC k : Nat)) (.bool (kWr k)) (.func (.func (canF k)) #[] #[]) (.func (.func (becF k)) #[] #[]) := ⟨_, rfl⟩
      have HW6 := Lib.hid hW6
      rw [← hW6] at h6 x6 d0 d1 hl6
      clear hW6
      rw [show (((((w5.setCell ⟨B, 0, none⟩ (.int .i64 (kW k : Nat))).setCell ⟨B, 1, none⟩ (.int .i64 (kS k : Nat))).setCell ⟨B, 2, none⟩ (.int .i64 (kC k : Nat))).setCell ⟨B, 3, none⟩ (.bool (kWr k))).setCell ⟨B, 4, none⟩ (.func (.func (canF k)) #[] #[])).setCell ⟨B, 5, none⟩ (.func (.func (becF k)) #[] #[]) = W6 from HW6.out.symm]
      have b0 := h6.1
      have b3 := h6.2.2.2.1
      have her : er = if (kWr k && !wordM wd || !kWr k && !(wd.toList == [])) = true then 6 else if l.length < kW k then 4 else if (k : Int) = 1 ∧ (l.headD ByteArray.empty).toList = wd.toList then 5 else 0 := by
        rw [← Her.out, markErrM, if_neg (by show ¬ ¬ ((0 : Int) ≤ (k : Int) ∧ (k : Int) ≤ 3); omega)]
        rfl
      clear h6 v0 v1 v2 v3 v4 v5 hf0 hf1 hf2 hf3 hf4 hf5 HW6 Her c0 c1 hlW hx hl zB
      have zB := cell_lt b0
      have zd := cell_lt d0
      have X6 := Lib.hid x6
      clear x6
      by_cases hk1 : (k : Int) = 1
      · obtain rfl : k = 1 := by omega
        simp only [kW, kWr, Bool.true_and, Bool.not_true, Bool.false_and, Bool.or_false] at her b0 b3
        simp only [Int.natCast_one] at *
        go_wp2_with fail
        refine (isWord_any wd _ hm).mono ?_
        rintro e w7 ⟨rfl, hx7⟩
        have X7 := Lib.hid (X6.out.trans hx7)
        have p0 := hx7.cell d0
        have p1 := hx7.cell d1
        have p2 := hx7.cell b0
        have p3 := hx7.cell b3
        have hl7 := Lib.hid (hl6.ext hx7)
        clear hx7 X6 d0 d1 b0 b3 hl6 hk1
        cases hwm : wordM wd
        · have h2 : er = 6 := by rw [her, hwm]; rfl
          go_wp2_with fail
          go_ret
          exact ⟨by first | rfl | (rw [h2]; rfl), xW.trans X7.out⟩
        · have her2 : er = if l.length < 1 then 4 else if (1 : Int) = 1 ∧ (l.headD ByteArray.empty).toList = wd.toList then 5 else 0 := by rw [her, hwm]; simp
          have Her2 := Lib.hid her2
          clear her her2
          by_cases hlw : l.length < 1
          · have h2 : er = 4 := by rw [Her2.out, if_pos hlw]
            have k2 : (l.length : Int) < 1 := by omega
            go_wp2_with fail
            go_ret
            exact ⟨by first | rfl | (rw [h2]; rfl), xW.trans X7.out⟩
          · have k2 : ¬ (l.length : Int) < 1 := by omega
            have hl0 : 0 < l.length := by omega
            have k3 : (0 : Int) < (l.length : Int) := by omega
            obtain ⟨sb, so, rfl, r0, -⟩ := (hl7.out).get hl0
            simp only [Nat.zero_mul, Nat.add_zero] at r0
            have hh0 : l.headD ByteArray.empty = l[0] := by cases l with | nil => simp at hl0 | cons x r => rfl
            rw [hh0] at Her2
            generalize l[0] = x0 at *
            have zs := cell_lt r0
            go_wp2_with fail
            apply Facts.wp_region [.val _, .val _, .val _, .val _, .val _, .val _, .val _, .val _, .val _, .val _, .val _] (by kernel_rfl) (by kernel_rfl) trivial ?main
            case main =>
              iterate 11 (refine ⟨fun w1 hx hh => ?_, ?_⟩; focus (clear hh; (have f0 := hx.cell p0; have f1 := hx.cell p1; have f2 := hx.cell r0); go_simp; first | exact ⟨Ext.refl _, rfl⟩ | exact Ext.refl _))
              intro w9 hx9 hh
              clear hh
              by_cases hxw : x0.toList = wd.toList
              · have h2 : er = 5 := by rw [Her2.out, if_neg hlw, if_pos (by simp [hxw])]
                have hxb : (x0.toList == wd.toList) = true := by simpa using hxw
                go_simp
                go_wp2
                go_ret
                exact ⟨by first | rfl | (rw [h2]; rfl), (xW.trans X7.out).trans hx9⟩
              · have h2 : er = 0 := by rw [Her2.out, if_neg hlw, if_neg (fun h => hxw h.2)]
                have hxb : (x0.toList == wd.toList) = false := by simpa using hxw
                go_simp
                go_wp2
                go_ret
                exact ⟨by first | rfl | (rw [h2]; rfl), (xW.trans X7.out).trans hx9⟩
      · generalize kW k = kw at *
        cases hkr : kWr k
        · rw [hkr] at her b3
          simp only [Bool.false_and, Bool.not_false, Bool.true_and, Bool.false_or] at her
          by_cases hwe : wd.toList = []
          · have hwb : (!(wd.toList == [])) = false := by rw [hwe]; rfl
            have hwl : (wd.toList == []) = true := by rw [hwe]; rfl
            rw [hwb] at her
            simp only [Bool.false_eq_true, if_false] at her
            have Her2 := Lib.hid her
            have X7 := X6
            have p0 := d0
            have p1 := d1
            clear her hwb
            by_cases hlw : l.length < kw
            · have h2 : er = 4 := by rw [Her2.out, if_pos hlw]
              have k2 : (l.length : Int) < (kw : Int) := by omega
              go_wp2_with fail
              go_ret
              exact ⟨by first | rfl | (rw [h2]; rfl), xW.trans X7.out⟩
            · have h2 : er = 0 := by rw [Her2.out, if_neg hlw, if_neg (fun h => hk1 h.1)]
              have k2 : ¬ (l.length : Int) < (kw : Int) := by omega
              have k3 : ((k : Int) == 1) = false := by simpa using hk1
              go_wp2_with fail
              apply Facts.wp_region [.val _, .val _, .val _, .val _, .val _, .val _, .val _, .val _, .val _, .val _, .val _] (by kernel_rfl) (by kernel_rfl) trivial ?main
              case main =>
                iterate 11 (refine ⟨fun w1 hx hh => ?_, ?_⟩; focus (clear hh; (have f0 := hx.cell p0; have f1 := hx.cell p1); go_simp; first | exact ⟨Ext.refl _, rfl⟩ | exact Ext.refl _))
                intro w9 hx9 hh
                clear hh
                go_simp
                go_wp2
                go_ret
                exact ⟨by first | rfl | (rw [h2]; rfl), (xW.trans X7.out).trans hx9⟩
          · have hwb : (!(wd.toList == [])) = true := by simpa using hwe
            have h2 : er = 6 := by rw [her, if_pos hwb]
            have hie : (!wd.toList.isEmpty) = true := by simpa using hwe
            clear hwb hwe her
            go_wp2_with fail
            go_ret
            exact ⟨by first | rfl | (rw [h2]; rfl), xW.trans X6.out⟩
        · rw [hkr] at her b3
          simp only [Bool.true_and, Bool.not_true, Bool.false_and, Bool.or_false] at her
          go_wp2_with fail
          refine (isWord_any wd _ hm).mono ?_
          rintro e w7 ⟨rfl, hx7⟩
          have X7 := Lib.hid (X6.out.trans hx7)
          have p0 := hx7.cell d0
          have p1 := hx7.cell d1
          have p2 := hx7.cell b0
          have p3 := hx7.cell b3
          clear hx7 X6 d0 d1 b0 b3 hl6
          cases hwm : wordM wd
          · have h2 : er = 6 := by rw [her, hwm]; rfl
            go_wp2_with fail
            go_ret
            exact ⟨by first | rfl | (rw [h2]; rfl), xW.trans X7.out⟩
          · rw [hwm] at her
            simp only [Bool.not_true, Bool.false_eq_true, if_false] at her
            have Her2 := Lib.hid her
            clear her
            by_cases hlw : l.length < kw
            · have h2 : er = 4 := by rw [Her2.out, if_pos hlw]
              have k2 : (l.length : Int) < (kw : Int) := by omega
              go_wp2_with fail
              go_ret
              exact ⟨by first | rfl | (rw [h2]; rfl), xW.trans X7.out⟩
            · have h2 : er = 0 := by rw [Her2.out, if_neg hlw, if_neg (fun h => hk1 h.1)]
              have k2 : ¬ (l.length : Int) < (kw : Int) := by omega
              have k3 : ((k : Int) == 1) = false := by simpa using hk1
              go_wp2_with fail
              apply Facts.wp_region [.val _, .val _, .val _, .val _, .val _, .val _, .val _, .val _, .val _, .val _, .val _] (by kernel_rfl) (by kernel_rfl) trivial ?main
              case main =>
                iterate 11 (refine ⟨fun w1 hx hh => ?_, ?_⟩; focus (clear hh; (have f0 := hx.cell p0; have f1 := hx.cell p1); go_simp; first | exact ⟨Ext.refl _, rfl⟩ | exact Ext.refl _))
                intro w9 hx9 hh
                clear hh
                go_simp
                go_wp2
                go_ret
                exact ⟨by first | rfl | (rw [h2]; rfl), (xW.trans X7.out).trans hx9⟩
end Go.Proofs.YtcamegaimleomaaGreat

namespace Go.Proofs.YtcamegaimleomaaGreat
set_option linter.unusedSimpArgs false
set_option linter.unusedVariables false
open Go.RowKit
set_option linter.unusedVariables false

def ButR (own : Option Nat) (w w' : World) : Prop := w.grownBy w' own
theorem ButR.of_ext {own : Option Nat} {w w' : World} (h : Ext w w') : ButR own w w' := ⟨Below.os h, Below.tape h, Below.output h, Below.size h, fun k hk _ => Below.block h k hk⟩
theorem two_butR (own : Option Nat) : Facts.Piv.Two Ext (ButR own) :=
  ⟨fun _ _ h => ButR.of_ext h, fun _ _ _ h k => h.trans k, fun _ _ _ h k => World.grownBy.trans h k, fun _ => Ext.refl _, fun w => ext_drew w⟩
/-- words that lie in no row of one's own -/
def NewL (own : Option Nat) (l : List ByteArray) (u : Value) (w : World) : Prop := ∃ sa sc, u = .slice sa l.length sc ∧ StrsAt w (.slice sa l.length sc) l ∧ ∀ ad, sa = some ad → some ad.block ≠ own
theorem NewL.ext {own : Option Nat} {l : List ByteArray} {u : Value} {w w' : World} (h : NewL own l u w) (hx : Ext w w') : NewL own l u w' := by
  obtain ⟨sa, sc, e, h1, h2⟩ := h
  exact ⟨sa, sc, e, h1.ext hx, h2⟩
theorem NewL.but {own : Option Nat} {l : List ByteArray} {u : Value} {w w' : World} (h : NewL own l u w) (hx : ButR own w w') : NewL own l u w' := by
  obtain ⟨sa, sc, e, h1, h2⟩ := h
  exact ⟨sa, sc, e, h1.grownBy hx h2, h2⟩
theorem NewL.at_ {own : Option Nat} {l : List ByteArray} {u : Value} {w : World} (h : NewL own l u w) : StrsAt w u l := by
  obtain ⟨sa, sc, rfl, h1, h2⟩ := h
  exact h1
theorem stepG_append_strs {ops : Array Oper} {o : Oper} {a : Act} {w : World} {S : Value → World → Prop} (hgd : o.guard = none) (s x : Operand) (t : TypeId)
    (ho : o.op = .call { callee := .builtin .append, args := #[s, x], argTypes := #[t, t] })
    (base : Nat) (i : TypeInfo) (ht : Tryz.prog.underlying t = some (.slice 9)) (hi : Tryz.prog.info? 9 = some i) (hz : i.zero = some (.string ByteArray.empty)) (hsize : i.size = 1) (hby : i.bytes = 16)
    (v : Value) (l0 : List ByteArray) (hs : a.eval s = v) (hown : RowW base l0 v w) (sv : Value) (hxv : a.eval x = sv) (l : List ByteArray) (hl : StrsAt w sv l) (hb : (l0.length + l.length) * 16 ≤ 140737488355328) (hbase : base ≤ w.heap.size)
    (h : ∀ v' w', RowW base (l0 ++ l) v' w' → w.grownBy w' v.ownBlock → S v' w') : Facts.stepG Tryz.prog ops o a w S := by
  obtain ⟨v', w', hr, h2, h3, h5⟩ := run_append_strs base t o.type i ht hi hz hsize hby v l0 hown sv l hl hb hbase
  unfold Facts.stepG
  rw [if_pos (by unfold Region.wanted; rw [hgd])]
  unfold execOp
  simp only [ho, resolve, invoke, builtin, Sem.run_bind, Sem.run_pure, Result.andThen_ok, List.map_toArray, List.map_cons, List.map_nil, hs, hxv, hr]
  exact h v' w' h2 h3
theorem comesNew_any (u : Value) (s : ByteArray) (hs : s.size ≤ 9223372036854775807) (w : World) : Calls Tryz.prog 148 #[u, .string s] w fun e w' => (∃ g, e = .returned (.slice (some ⟨g, 0, none⟩) 1 1) ∧ w.heap.size ≤ g ∧ StrsAt w' (.slice (some ⟨g, 0, none⟩) 1 1) [s]) ∧ Ext w w' := by
  go_enter Tryz.func148, Tryz.ntmps148
  go_wp2
  go_ret
  refine ⟨⟨_, rfl, by simp, _, _, rfl, by simp, by decide, fun i hi => ⟨_, _, rfl, ?_⟩⟩, (by first | (with_reducible exact Ext.refl _) | (with_reducible assumption) | (show Below _ _ _; go_grown; done))⟩
  obtain rfl : i = 0 := by simp at hi; omega
  exact ⟨by simp [go_sem], hs⟩
/-- what stands there instead -/
def becM : Nat → List ByteArray → ByteArray → List ByteArray
  | 0, ws, _ => ws.take 1
  | 1, _, s => [s]
  | 3, _, s => [s]
  | _, _, _ => []
theorem becF_enters (k : Nat) (hk : k < 4) : ∀ args w, (callFunc (becF k) args).run Tryz.prog w = .ok (.enter (becF k) args) w := by
  have : k = 0 ∨ k = 1 ∨ k = 2 ∨ k = 3 := by omega
  rcases this with rfl | rfl | rfl | rfl
  · exact enters_of Tryz.func146 (by kernel_rfl) rfl
  · exact enters_of Tryz.func148 (by kernel_rfl) rfl
  · exact enters_of Tryz.func147 (by kernel_rfl) rfl
  · exact enters_of Tryz.func148 (by kernel_rfl) rfl
theorem bec_any (k : Nat) (hk : k < 4) (own : Option Nat) (a : Option Addr) (n c : Nat) (ws : List ByteArray) (s : ByteArray) (hs : s.size ≤ 9223372036854775807) (w : World) (hu : StrsAt w (.slice a n c) (ws.take (kW k))) (h1 : kW k ≤ ws.length)
    (ha : k = 0 → ∀ ad, a = some ad → some ad.block ≠ own) (ho : ∀ b, own = some b → b < w.heap.size) :
    Calls Tryz.prog (becF k) #[.slice a n c, .string s] w fun e w' => ∃ r, e = .returned r ∧ NewL own (becM k ws s) r w' ∧ Ext w w' := by
  have : k = 0 ∨ k = 1 ∨ k = 2 ∨ k = 3 := by omega
  have come : ∀ u, Calls Tryz.prog 148 #[u, .string s] w fun e w' => ∃ r, e = .returned r ∧ NewL own [s] r w' ∧ Ext w w' := fun u => by
    refine (comesNew_any u s hs w).mono ?_
    rintro e w' ⟨⟨g, rfl, hg, h2⟩, hx⟩
    exact ⟨_, rfl, ⟨_, _, rfl, h2, fun ad e h => by
      obtain rfl := Option.some.inj e
      have := ho _ h.symm
      simp at this
      omega⟩, hx⟩
  rcases this with rfl | rfl | rfl | rfl
  · refine (stays_any a n c (.string s) w).mono ?_
    rintro e w' ⟨rfl, hx⟩
    have hn : n = (ws.take 1).length := hu.len.1
    subst hn
    exact ⟨_, rfl, ⟨a, c, rfl, hu.ext hx, ha rfl⟩, hx⟩
  · exact come _
  · refine (goes_any (.slice a n c) (.string s) w).mono ?_
    rintro e w' ⟨rfl, hx⟩
    exact ⟨_, rfl, ⟨none, 0, rfl, SliceAt.nil, fun ad e => by cases e⟩, hx⟩
  · exact come _
/-- what a letter becomes by marks: what is left, what it has become, and the first error -/
def markedF : List Mark → List ByteArray → List ByteArray → List ByteArray × List ByteArray × Int
  | [], left, out => (left, out, 0)
  | m :: r, left, out => if markErrM m left ≠ 0 then (left, out, markErrM m left) else markedF r (left.drop (kW m.kind.toNat)) (out ++ becM m.kind.toNat left m.word)
end Go.Proofs.YtcamegaimleomaaGreat

namespace Go.Proofs.YtcamegaimleomaaGreat
set_option linter.unusedSimpArgs false
set_option linter.unusedVariables false
open Go.RowKit
set_option linter.unusedVariables false

theorem no_falseB {b : Bool} (h : b = false) (h2 : b = true) : False := by rw [h] at h2; cases h2
theorem markErr_ok {m : Mark} {l : List ByteArray} (h : markErrM m l = 0) : ∃ k : Nat, k ≤ 3 ∧ m.kind = k ∧ kW k ≤ l.length := by
  unfold markErrM at h
  split at h
  · cases h
  rename_i h1
  split at h
  · cases h
  split at h
  · cases h
  rename_i h2
  have h1' : 0 ≤ m.kind ∧ m.kind ≤ 3 := Decidable.not_not.1 h1
  exact ⟨m.kind.toNat, by omega, by omega, by omega⟩
theorem strs_take {w : World} {a : Option Addr} {n c : Nat} {l : List ByteArray} (h : StrsAt w (.slice a n c) l) (k : Nat) (hk : k ≤ l.length) : StrsAt w (.slice a k c) (l.take k) := by
  obtain ⟨a', c', e, h2, h3, h4⟩ := h
  obtain ⟨rfl, rfl, rfl⟩ := Value.slice.inj e
  have hlen : (l.take k).length = k := by rw [List.length_take]; omega
  refine ⟨_, _, by rw [hlen], by rw [hlen]; omega, h3, fun j hj => ?_⟩
  rw [hlen] at hj
  obtain ⟨b, o, e2, r⟩ := h4 j (by omega)
  exact ⟨b, o, e2, by rw [List.getElem_take]; exact r⟩
theorem becM_len (k : Nat) (ws : List ByteArray) (s : ByteArray) : (becM k ws s).length ≤ 1 := by
  unfold becM
  split <;> simp <;> omega
/-- the words that lie below, and how they are handed on -/
def LieL (S : Nat) (l : List ByteArray) (u : Value) (w : World) : Prop := ∃ a c, u = .slice a l.length c ∧ StrsAt w (.slice a l.length c) l ∧ ∀ ad, a = some ad → l.length ≠ 0 → ad.block < S
theorem lie_drop {S : Nat} {l : List ByteArray} {a : Option Addr} {c : Nat} {w : World} (h : LieL S l (.slice a l.length c) w) (k : Nat) (hk : k ≤ l.length) : LieL S (l.drop k) (.slice (if c = k then a else a.map fun x => x.add (k * 1)) (l.length - k) (c - k)) w := by
  obtain ⟨a', c', e, h1, h2⟩ := h
  obtain ⟨rfl, -, rfl⟩ := Value.slice.inj e
  have h3 := StrsAt.sliced h1 k hk
  rw [show l.length - k = (l.drop k).length from by rw [List.length_drop]] at h3 ⊢
  refine ⟨_, _, rfl, h3, fun ad e h0 => ?_⟩
  rw [List.length_drop] at h0
  split at e
  · exact h2 ad e (by omega)
  · obtain ⟨ad', e2, rfl⟩ := Option.map_eq_some_iff.1 e
    have := h2 ad' e2 (by omega)
    simp only [Addr.add]
    split <;> exact this
structure MarkedR where
  words : List ByteArray
  err : Int
def markedM (ms : List Mark) (l : List ByteArray) : MarkedR :=
  if (markedF ms l []).2.2 ≠ 0 then ⟨[], (markedF ms l []).2.2⟩
  else if 0 < (markedF ms l []).1.length then ⟨[], 2⟩
  else if 15 < (markedF ms l []).2.1.length then ⟨[], 3⟩
  else ⟨(markedF ms l []).2.1, 0⟩
set_option maxRecDepth 100000 in
set_option maxHeartbeats 3000000 in
theorem marked_any (lv mv : Value) (l : List ByteArray) (ms : List Mark) (w : World) (hl : StrsAt w lv l) (hm : MarksAt w mv ms) (h30 : ms.length ≤ 30) :
    Calls Tryz.prog 60 #[lv, mv] w fun e w' => ∃ u, e = .returned (.tuple #[u, .int .i64 (markedM ms l).err]) ∧ RowW w.heap.size (markedM ms l).words u w' ∧ Ext w w' := by
  obtain ⟨ma, mc, rfl, hmc, hmm⟩ := hm.shape
  obtain ⟨la, lc, rfl, hlc, hlm⟩ := hl.shape
  obtain ⟨i0, hi, hz0, hz1, hz2⟩ := info_parts infoString
  obtain ⟨R, hR⟩ : ∃ R, markedM ms l = R := ⟨_, rfl⟩
  obtain ⟨F, ee⟩ := R
  rw [hR]
  have HR := Lib.hid hR
  clear hR
  simp only
  have hlie : LieL w.heap.size l (.slice la l.length lc) w := ⟨la, lc, rfl, hl, fun ad e h0 => by
    obtain ⟨b, o, e2, r⟩ := hl.get (i := 0) (by omega)
    rw [e2] at e
    obtain rfl := Option.some.inj e
    exact cell_lt r.1⟩
  go_enter Tryz.func60, Tryz.ntmps60
  go_wp2_with fail
  go_loopw [0, 6, 13] (fun lu v i wr => ∃ (k : Nat) (left out : List ByteArray), k ≤ ms.length ∧ i = .int .i64 k ∧ Ext w wr ∧ LieL w.heap.size left lu wr ∧ RowW w.heap.size out v wr ∧ out.length ≤ k ∧ markedF (ms.drop k) left out = markedF ms l []) (fun _ _ i _ => ms.length - (intOf i).toNat)
  case atStart => exact ⟨0, l, [], Nat.zero_le _, rfl, Ext.refl _, hlie, RowW.nil, Nat.le_refl _, rfl⟩
  case round =>
    obtain ⟨k0, left, out, hk0, rfl, hxr, ⟨xa, xc, rfl, hsl, hlow⟩, hrow, hout, hmk⟩ := hrel
    have hzr := hxr.size
    obtain ⟨-, hc1, hc2⟩ := hsl.len
    by_cases hlt : k0 < ms.length
    · have k1 : (k0 : Int) < (ms.length : Int) := by omega
      obtain ⟨mb, mo, rfl, r0, r1, hI, hS⟩ := (hm.ext hxr).get hlt
      have zm := cell_lt r0
      have hd : ms.drop k0 = ms[k0] :: ms.drop (k0 + 1) := List.drop_eq_getElem_cons hlt
      rw [hd] at hmk
      generalize ms[k0] = m at *
      obtain ⟨kd, wd⟩ := m
      simp only at r0 r1 hI hS
      rw [markedF] at hmk
      obtain ⟨W, hW⟩ : ∃ W, W = wr.alloc (.cells #[.int .i64 kd, .string wd] 115) := ⟨_, rfl⟩
      have xW : Ext wr W := by rw [hW]; exact ext_alloc _ _
      have c0 : W.cell? ⟨wr.heap.size, 0, none⟩ = some (.int .i64 kd) := by rw [hW]; simp [go_sem]
      have c1 : W.cell? ⟨wr.heap.size, 1, none⟩ = some (.string wd) := by rw [hW]; simp [go_sem]
      have hmE := markError_any (.slice xa left.length xc) ⟨kd, wd⟩ left W hI hS (hsl.ext xW)
      simp only at hmE
      rw [hW] at hmE
      have Hmk := Lib.hid hmk
      have Hd := Lib.hid hd
      have Hrow := Lib.hid hrow
      have Hsl := Lib.hid hsl
      have Hlow := Lib.hid hlow
      have Hout := Lib.hid hout
      have HW := Lib.hid hW
      clear hmk hd hrow hsl hlow hlie hl hout hW
      go_wp2_with fail
      refine hmE.mono ?_
      rintro e w2 ⟨rfl, hx2⟩
      rw [← HW.out] at hx2
      have x2 : Ext wr w2 := xW.trans hx2
      replace c0 := hx2.cell c0
      replace c1 := hx2.cell c1
      have z2 := cell_lt c0
      clear hmE hx2 xW HW
      obtain ⟨er, her⟩ : ∃ er, markErrM ⟨kd, wd⟩ left = er := ⟨_, rfl⟩
      have hmk2 := Hmk.out
      rw [her] at hmk2 ⊢
      by_cases h0 : er = 0
      · subst h0
        obtain ⟨k, hk3, hkd, hkW⟩ := markErr_ok her
        simp only at hkd
        subst hkd
        rw [if_neg (by simp)] at hmk2
        simp only [Int.toNat_natCast] at hmk2
        have Hmk2 := Lib.hid hmk2
        have k5 : (k : Int) < 5 := by omega
        clear hmk2 her Hmk
        go_wp2_with fail
        obtain ⟨W, hWW⟩ : ∃ W, W = w2 := ⟨_, rfl⟩
        subst hWW
        apply Facts.Peel.wp_regionL (⟨fun _ _ h => h, fun _ _ _ h k => h.trans k, fun _ _ _ h k => h.trans k, Ext.refl, fun a => ext_drew a⟩ : Facts.Piv.Two Ext Ext) 6 5 [.fact KindsV, .val _, .val (.int .i64 (k : Int)), .fact (KindPt k), .val (kindVal k), .fact (Box6 W.heap.size)] (by kernel_rfl) (by kernel_rfl) (by kernel_rfl) (by kernel_rfl) (by kernel_rfl) (by kernel_rfl) ?keep ?main
        case keep => exact ⟨fun u a c hx h => h.ext hx, fun _ _ u a c hx h => h.ext hx, fun u a c hx h => h.ext hx, fun _ _ u a c hx h => h.ext hx, fun u a c hx h => h.ext hx, fun _ _ u a c hx h => h.ext hx, trivial⟩
        case main =>
          simp only [List.take_succ_cons, List.take_zero, List.getD_cons_succ, List.getD_cons_zero]
          refine ⟨fun w1 hx hh => ?_, ?_⟩
          · clear hh
            go_simp
            refine (kinds_any w1).mono ?_
            rintro e w' ⟨⟨B, rfl, hkk⟩, hx2⟩
            exact ⟨_, rfl, hx2, B, rfl, hkk⟩
          intro u23
          iterate 2 (refine ⟨fun w1 hx hh => ?_, ?_⟩; focus (clear hh; (have f0 := hx.cell c0; have f1 := hx.cell c1); go_simp; first | exact ⟨Ext.refl _, rfl⟩ | exact Ext.refl _))
          refine ⟨fun w1 hx hh => ?_, ?_⟩
          · have h0 : KindsV u23 w1 := hh 0 _ List.mem_cons_self (by kernel_rfl)
            clear hh
            have s0 := h0.spec
            generalize h0.B = B at *
            have e0 := s0.1
            have g0 := s0.2.get k (by omega)
            clear s0 h0
            subst e0
            go_simp
            first | exact ⟨Ext.refl _, B, rfl, g0⟩ | exact ⟨B, rfl, g0⟩
          intro u26
          refine ⟨fun w1 hx hh => ?_, ?_⟩
          · have h3 : KindPt k u26 w1 := hh 3 _ List.mem_cons_self (by kernel_rfl)
            clear hh
            have s3 := h3.spec
            generalize h3.B = B at *
            have e3 := s3.1
            have g0 := s3.2.c0
            have g1 := s3.2.c1
            have g2 := s3.2.c2
            have g3 := s3.2.c3
            have g4 := s3.2.c4
            have g5 := s3.2.c5
            clear s3 h3
            subst e3
            go_simp
            first | exact ⟨Ext.refl _, rfl⟩ | exact Ext.refl _
          refine ⟨fun w1 hx hh => ?_, ?_⟩
          · clear hh
            have hsz := hx.size
            go_simp
            exact ⟨ext_alloc _ _, w1.heap.size, rfl, hsz, fun o ho => by
              have : o = 0 ∨ o = 1 ∨ o = 2 ∨ o = 3 ∨ o = 4 ∨ o = 5 := by omega
              rcases this with rfl | rfl | rfl | rfl | rfl | rfl <;> exact ⟨⟨_, by simp [go_sem]; rfl⟩, by simp [go_sem]⟩⟩
          intro u10
          intro w5 hx hh
          have h5 : Box6 W.heap.size u10 w5 := hh 5 _ List.mem_cons_self
          clear hh
          refine ⟨rfl, ?_⟩
          have s5 := h5.spec
          generalize h5.B = B at *
          have e5 := s5.1
          have hB := s5.2.1
          have hc := fun o ho => (s5.2.2 o ho).1
          have hf0 := (s5.2.2 0 (by omega)).2
          have hf1 := (s5.2.2 1 (by omega)).2
          have hf2 := (s5.2.2 2 (by omega)).2
          have hf3 := (s5.2.2 3 (by omega)).2
          have hf4 := (s5.2.2 4 (by omega)).2
          have hf5 := (s5.2.2 5 (by omega)).2
          have v0 := (hc 0 (by omega)).choose_spec
          have v1 := (hc 1 (by omega)).choose_spec
          have v2 := (hc 2 (by omega)).choose_spec
          have v3 := (hc 3 (by omega)).choose_spec
          have v4 := (hc 4 (by omega)).choose_spec
          have v5 := (hc 5 (by omega)).choose_spec
          generalize (hc 0 (by omega)).choose = y0 at *
          generalize (hc 1 (by omega)).choose = y1 at *
          generalize (hc 2 (by omega)).choose = y2 at *
          generalize (hc 3 (by omega)).choose = y3 at *
          generalize (hc 4 (by omega)).choose = y4 at *
          generalize (hc 5 (by omega)).choose = y5 at *
          have h6 := set6_cells hc (.int .i64 (kW k : Nat)) (.int .i64 (kS k : Nat)) (.int .i64 (kC k : Nat)) (.bool (kWr k)) (.func (.func (canF k)) #[] #[]) (.func (.func (becF k)) #[] #[])
          have x6 := hx.set6 hB (.int .i64 (kW k : Nat)) (.int .i64 (kS k : Nat)) (.int .i64 (kC k : Nat)) (.bool (kWr k)) (.func (.func (canF k)) #[] #[]) (.func (.func (becF k)) #[] #[])
          have zB := cell_lt v0
          clear s5 h5 hc
          subst e5
          unfold kindVal
          go_simp
          obtain ⟨W6, hW6⟩ : ∃ W6, W6 = set6 w5 B (.int .i64 (kW k : Nat)) (.int .i64 (kS k : Nat)) (.int .i64 (kC k : Nat)) (.bool (kWr k)) (.func (.func (canF k)) #[] #[]) (.func (.func (becF k)) #[] #[]) := ⟨_, rfl⟩
          have HW6 := Lib.hid hW6
          rw [← hW6] at h6 x6
          clear hW6
          rw [show (((((w5.setCell ⟨B, 0, none⟩ (.int .i64 (kW k : Nat))).setCell ⟨B, 1, none⟩ (.int .i64 (kS k : Nat))).setCell ⟨B, 2, none⟩ (.int .i64 (kC k : Nat))).setCell ⟨B, 3, none⟩ (.bool (kWr k))).setCell ⟨B, 4, none⟩ (.func (.func (canF k)) #[] #[])).setCell ⟨B, 5, none⟩ (.func (.func (becF k)) #[] #[]) = W6 from HW6.out.symm]
          have b0 := h6.1
          have b3 := h6.2.2.2.1
          have d1 := x6.cell c1
          have b0 := h6.1
          have b5 := h6.2.2.2.2.2
          have xw6 := x2.trans x6
          have z6 := xw6.size
          have zB := cell_lt b0
          have zd := cell_lt d1
          have row6 := Hrow.out.ext xw6
          have sl6 := Hsl.out.ext xw6
          have hownlt : ∀ b, u6.ownBlock = some b → w.heap.size ≤ b ∧ b < wr.heap.size := fun b hb => Hrow.out.lt b hb
          have x6z := x2.size
          have hzW : wr.heap.size ≤ B := by omega
          have hent := becF_enters k (by omega)
          have hlow := Hlow.out
          have hbl := becM_len k left wd
          have hbec := fun w1 (hx : Ext W6 w1) => bec_any k (by omega) u6.ownBlock xa (kW k) xc left wd hS w1 (strs_take (sl6.ext hx) _ hkW) hkW (fun hk ad e he => by
            have := (hownlt _ he.symm).1
            have := hlow ad e (by subst hk; simp [kW] at hkW; omega)
            omega) (fun b hb => by have := (hownlt b hb).2; have := hx.size; omega)
          have Hh6 := Lib.hid h6
          have Hhx := Lib.hid hx
          clear h6 v0 v1 v2 v3 v4 v5 hf0 hf1 hf2 hf3 hf4 hf5 HW6 hx c0 c1 x6
          obtain ⟨bl, hbl2⟩ : ∃ bl, becM k left wd = bl := ⟨_, rfl⟩
          rw [hbl2] at hbec hbl
          have Hbl2 := Lib.hid hbl2
          generalize hkw : kW k = kw at *
          generalize becF k = bf at *
          have Hkw := Lib.hid hkw
          clear hkw hbl2
          have kcap : (kw : Int) ≤ (xc : Int) := by omega
          have klen : (kw : Int) ≤ (left.length : Int) := by omega
          go_wp2_with fail
          apply Facts.Dep.Once.wp_region (two_butR u6.ownBlock) 10 [.val _, .val _, .val _, .val _, .val _, .val _, .val _, .val _, .val _, .fact (NewL u6.ownBlock bl), .fact (RowW w.heap.size (out ++ bl)), .fact (RowW w.heap.size (out ++ bl))] (by kernel_rfl) (by kernel_rfl) (by kernel_rfl) ?keep2 ?main2
          case keep2 => exact ⟨fun u a c hx h => h.ext hx, fun _ _ u a c hx h => h.but hx, fun u a c hx h => h.ext hx, fun h => absurd rfl h, fun u a c hx h => h.ext hx, fun _ h => (no_falseB h (by kernel_rfl)).elim, trivial⟩
          case main2 =>
            iterate 9 (refine ⟨fun w1 hE hC hh => ?_, ?_⟩; focus (have hx := hE (by kernel_rfl); clear hh hE hC; (have f0 := hx.cell b0; have f1 := hx.cell b5; have f2 := hx.cell d1); go_simp; first | exact ⟨Ext.refl _, rfl⟩ | exact Ext.refl _))
            refine ⟨fun w1 hE hC hh => ?_, ?_⟩
            · have hx := hE (by kernel_rfl)
              clear hh hE hC
              go_simp
              refine (hbec _ hx).mono ?_
              rintro e w' ⟨r, rfl, h1, hx2⟩
              exact ⟨_, rfl, hx2, h1⟩
            intro u37
            refine ⟨fun w1 hE hC hh => ?_, ?_⟩
            · have h9 : NewL u6.ownBlock bl u37 w1 := hh 9 _ List.mem_cons_self (by kernel_rfl)
              have hx := hE (by kernel_rfl)
              have hx1 := hx.size
              clear hh hE hC
              refine stepG_append_strs rfl (.tmp 28) (.tmp 37) 25 rfl w.heap.size i0 Tryz.underlying25 hi hz0 hz1 hz2 u6 out (by go_simp) (row6.ext hx) u37 (by go_simp) bl h9.at_ (by have := Hout.out; omega) (by omega) ?_
              intro v' w' ho hg
              exact ⟨hg, ho⟩
            intro u38
            refine ⟨fun w1 hE hC hh => ?_, ?_⟩
            · have h10 : RowW w.heap.size (out ++ bl) u38 w1 := hh 10 _ List.mem_cons_self (by kernel_rfl)
              clear hh hE hC
              go_simp
              first | exact ⟨Ext.refl _, h10⟩ | exact Ext.refl _
            intro u6' w8 hC hh
            have h11 : RowW w.heap.size (out ++ bl) u6' w8 := hh 11 _ List.mem_cons_self
            clear hh
            have g0 := hC.cell b0 (fun e => by have := (hownlt _ e.symm).2; simp at this; omega)
            have x8 : Ext w w8 := Ext.grown (hxr.trans xw6) hC fun k hk => (hownlt k hk).1
            have z8 := x8.size
            have zg := cell_lt g0
            have hl8 : LieL w.heap.size left (.slice xa left.length xc) w8 := by
              rcases Nat.eq_zero_or_pos left.length with hz | hz
              · exact ⟨xa, xc, rfl, ⟨xa, xc, rfl, hc1, hc2, fun i hi => by omega⟩, hlow⟩
              · exact ⟨xa, xc, rfl, sl6.grownBy hC (fun ad e e2 => by
                  have := (hownlt _ e2.symm).1
                  have := hlow ad e (by omega)
                  omega), hlow⟩
            have Hl8 := Lib.hid (lie_drop hl8 kw (by omega))
            clear hbec hent hC
            go_simp
            go_wp2
            go_roundw
            case rel => exact ⟨k0 + 1, left.drop kw, out ++ bl, by omega, by go_num, x8, by simpa only [Nat.mul_one] using Hl8.out, h11, by have := Hout.out; rw [List.length_append]; omega, by rw [← Hmk2.out, Hbl2.out]⟩
            case measure => simp [intOf]; omega
      · rw [if_pos h0] at hmk2
        have hM : markedM ms l = ⟨[], er⟩ := by
          unfold markedM
          rw [← hmk2]
          rw [if_pos h0]
        have h0' : (er != 0) = true := by simpa using h0
        have hinj := MarkedR.mk.inj (HR.out.symm.trans hM)
        obtain ⟨hF, hE⟩ := hinj
        subst hF
        subst hE
        have xw2 := hxr.trans x2
        clear h0 hM hmk2 HR her
        go_wp2_with fail
        go_ret2
        exact ⟨_, rfl, RowW.nil, xw2⟩
    · have hke : k0 = ms.length := by omega
      subst hke
      rw [List.drop_length, markedF] at hmk
      have hM : markedM ms l = if 0 < left.length then ⟨[], 2⟩ else if 15 < out.length then ⟨[], 3⟩ else ⟨out, 0⟩ := by
        unfold markedM
        rw [← hmk]
        rfl
      obtain ⟨va, vn, vc, rfl⟩ : ∃ va vn vc, u6 = .slice va vn vc := by
        rcases hrow.2 with ⟨rfl, -⟩ | ⟨g, cap, cur, rfl, -⟩ <;> exact ⟨_, _, _, rfl⟩
      have hvn : vn = out.length := by
        rcases hrow.2 with ⟨e, hn⟩ | ⟨g, cap, cur, e, -⟩
        · obtain ⟨-, rfl, -⟩ := Value.slice.inj e; exact hn.symm
        · exact (Value.slice.inj e).2.1
      subst hvn
      have HM := Lib.hid (HR.out.symm.trans hM)
      clear hM hmk HR hlie
      by_cases h1 : 0 < left.length
      · have k2 : (0 : Int) < (left.length : Int) := by omega
        have hM2 := HM.out
        rw [if_pos h1] at hM2
        obtain ⟨rfl, rfl⟩ := MarkedR.mk.inj hM2
        clear hM2 HM
        go_wp2_with fail
        go_ret2
        exact ⟨_, rfl, RowW.nil, hxr⟩
      · have k2 : ¬ (0 : Int) < (left.length : Int) := by omega
        by_cases h2 : 15 < out.length
        · have k3 : (15 : Int) < (out.length : Int) := by omega
          have hM2 := HM.out
          rw [if_neg h1, if_pos h2] at hM2
          obtain ⟨rfl, rfl⟩ := MarkedR.mk.inj hM2
          clear hM2 HM
          go_wp2_with fail
          go_ret2
          exact ⟨_, rfl, RowW.nil, hxr⟩
        · have k3 : ¬ (15 : Int) < (out.length : Int) := by omega
          have hM2 := HM.out
          rw [if_neg h1, if_neg h2] at hM2
          obtain ⟨rfl, rfl⟩ := MarkedR.mk.inj hM2
          clear hM2 HM
          go_wp2_with fail
          go_ret2
          exact ⟨_, rfl, hrow, hxr⟩
end Go.Proofs.YtcamegaimleomaaGreat

namespace Go.Proofs.YtcamegaimleomaaGreat
set_option linter.unusedSimpArgs false
set_option linter.unusedVariables false
open Go.RowKit
set_option linter.unusedVariables false

def applyM (ms : List Mark) (l : List ByteArray) : MarkedR :=
  if letterErrL l ≠ 0 then ⟨[], letterErrL l⟩ else if 30 < ms.length then ⟨[], 3⟩ else markedM ms l
set_option maxRecDepth 100000 in
set_option maxHeartbeats 1000000 in
theorem Apply_any (lv mv : Value) (l : List ByteArray) (ms : List Mark) (w : World) (hl : StrsAt w lv l) (hm : MarksAt w mv ms) :
    Calls Tryz.prog 18 #[lv, mv] w fun e w' => ∃ u, e = .returned (.tuple #[u, .int .i64 (applyM ms l).err]) ∧ RowW w.heap.size (applyM ms l).words u w' ∧ Ext w w' := by
  have hl0 := hl
  have hm0 := hm
  obtain ⟨ma, mc, rfl, hmc, hmm⟩ := hm.shape
  obtain ⟨la, lc, rfl, hlc, hlm⟩ := hl.shape
  obtain ⟨R, hR⟩ : ∃ R, applyM ms l = R := ⟨_, rfl⟩
  obtain ⟨F, ee⟩ := R
  rw [hR]
  have HR := Lib.hid hR
  clear hR
  simp only
  go_enter Tryz.func18, Tryz.ntmps18
  go_wp2_with fail
  refine (letterError_any' _ l _ hl0).mono ?_
  rintro e w1 ⟨rfl, hx1⟩
  obtain ⟨er, her⟩ : ∃ e, letterErrL l = e := ⟨_, rfl⟩
  rw [her]
  by_cases h0 : er = 0
  · subst h0
    by_cases h30 : 30 < ms.length
    · have k2 : (30 : Int) < (ms.length : Int) := by omega
      have hM : applyM ms l = ⟨[], 3⟩ := by unfold applyM; rw [if_neg (by rw [her]; simp), if_pos h30]
      obtain ⟨hF, hE⟩ := MarkedR.mk.inj (HR.out.symm.trans hM)
      subst hF
      subst hE
      clear hM HR her
      go_wp2_with fail
      go_ret2
      exact ⟨_, rfl, RowW.nil, hx1⟩
    · have k2 : ¬ (30 : Int) < (ms.length : Int) := by omega
      have hM : applyM ms l = markedM ms l := by unfold applyM; rw [if_neg (by rw [her]; simp), if_neg h30]
      have hma := marked_any _ _ l ms w1 (hl0.ext hx1) (hm0.ext hx1) (by omega)
      rw [hM.symm.trans HR.out] at hma
      simp only at hma
      clear hM HR her
      go_wp2_with fail
      refine hma.mono ?_
      rintro e w2 ⟨u, rfl, hrow, hx2⟩
      go_wp2
      go_ret2
      exact ⟨_, rfl, by
        refine ⟨hrow.1, ?_⟩
        rcases hrow.2 with h | ⟨g, cap, cur, e, h1, h2⟩
        · exact .inl h
        · exact .inr ⟨g, cap, cur, e, Nat.le_trans hx1.size h1, h2⟩, hx1.trans hx2⟩
  · have h0' : (er != 0) = true := by simpa using h0
    have hM : applyM ms l = ⟨[], er⟩ := by unfold applyM; rw [if_pos (by rw [her]; exact h0), her]
    obtain ⟨hF, hE⟩ := MarkedR.mk.inj (HR.out.symm.trans hM)
    subst hF
    subst hE
    clear hM HR her h0
    go_wp2_with fail
    go_ret2
    exact ⟨_, rfl, RowW.nil, hx1⟩
end Go.Proofs.YtcamegaimleomaaGreat

namespace Go.Proofs.YtcamegaimleomaaGreat
set_option linter.unusedSimpArgs false
set_option linter.unusedVariables false
set_option linter.unusedVariables false

theorem toList_loop (bs : ByteArray) : ∀ (n i : Nat) (r : List UInt8), bs.size - i = n → ByteArray.toList.loop bs i r = r.reverse ++ bs.data.toList.drop i
  | 0, i, r, h => by
    rw [ByteArray.toList.loop, if_neg (by omega), List.drop_of_length_le (by have : bs.size = bs.data.toList.length := rfl; omega), List.append_nil]
  | n + 1, i, r, h => by
    have hi : i < bs.data.toList.length := by have : bs.size = bs.data.toList.length := rfl; omega
    rw [ByteArray.toList.loop, if_pos (by omega), toList_loop bs n (i + 1) _ (by omega), List.drop_eq_getElem_cons hi, List.reverse_cons, List.append_assoc]
    have hi2 : i < bs.data.size := by simpa using hi
    have e : bs.get! i = bs.data.toList[i] := by
      show bs.data[i]! = _
      rw [getElem!_pos bs.data i hi2]
      simp
    rw [e]
    rfl
theorem toList_inj {a b : ByteArray} (h : a.toList = b.toList) : a = b := by
  have e : ∀ bs : ByteArray, bs.toList = bs.data.toList := fun bs => by
    unfold ByteArray.toList
    have := toList_loop bs _ 0 [] rfl
    simpa using this
  rw [e, e] at h
  obtain ⟨x⟩ := a
  obtain ⟨y⟩ := b
  exact congrArg _ (Array.toList_inj.1 h)
theorem toList_ne {s : ByteArray} (h : wordM s = true) : s.toList.isEmpty = false := by
  have hs := (word_size h).1
  cases hb : s.toList with
  | nil =>
    have : s = ByteArray.empty := toList_inj (by rw [hb]; simp)
    subst this
    simp at hs
  | cons x r => rfl
theorem givenM_drop (t : List ByteArray) (k : Nat) : (givenM t).drop k = givenM (t.drop k) := by simp [givenM, List.map_drop]
theorem markedF_marks : ∀ (n : Nat) (ws t out : List ByteArray), ws.length + t.length ≤ n → (∀ s ∈ t, wordM s = true) →
    markedF (marksF n ws (givenM t)) ws out = ([], out ++ t, 0)
  | 0, ws, t, out, h, hw => by
    have h1 : ws = [] := List.eq_nil_of_length_eq_zero (by omega)
    have h2 : t = [] := List.eq_nil_of_length_eq_zero (by omega)
    subst h1; subst h2
    simp [marksF, markedF]
  | n + 1, ws, t, out, h, hw => by
    have hgl : (givenM t).length = t.length := by simp [givenM]
    rw [marksF]
    by_cases h0 : ws.length + (givenM t).length = 0
    · rw [if_pos h0]
      have h1 : ws = [] := List.eq_nil_of_length_eq_zero (by omega)
      have h2 : t = [] := List.eq_nil_of_length_eq_zero (by omega)
      subst h1; subst h2
      simp [markedF]
    · rw [if_neg h0, markedF]
      obtain ⟨g1, g2, g3, g4, g5, -⟩ := costM_which ws (givenM t) (by omega)
      generalize (costM ws (givenM t)).1 = c at *
      have hrec := fun out' => markedF_marks n (ws.drop (kW c)) (t.drop (kS c)) out' (by rw [List.length_drop, List.length_drop]; omega) (fun s hs => hw s (List.mem_of_mem_drop hs))
      rw [givenM_drop]
      have hcn : ((c : Nat) : Int).toNat = c := Int.toNat_natCast c
      have : c = 0 ∨ c = 1 ∨ c = 2 ∨ c = 3 ∨ c = 4 := by omega
      rcases this with rfl | rfl | rfl | rfl | rfl
      · obtain ⟨x, ws, rfl⟩ : ∃ x r, ws = x :: r := by cases ws with | nil => simp [kW] at g2 | cons x r => exact ⟨x, r, rfl⟩
        obtain ⟨s, t, rfl⟩ : ∃ x r, t = x :: r := by cases t with | nil => simp [kS, givenM] at g3 | cons x r => exact ⟨x, r, rfl⟩
        have hs := hw s List.mem_cons_self
        have e : x = s := toList_inj (by have : takesM ⟨s, false⟩ x = true := by simpa [canM', givenM] using g5
                                         rw [takesM, toList_ne hs, Bool.false_or] at this
                                         exact (eq_of_beq this).symm)
        subst e
        simp only [hcn]
        rw [if_neg (by simp [markErrM, kWr, kW]), hrec]
        simp [becM, kS]
      · obtain ⟨x, ws, rfl⟩ : ∃ x r, ws = x :: r := by cases ws with | nil => simp [kW] at g2 | cons x r => exact ⟨x, r, rfl⟩
        obtain ⟨s, t, rfl⟩ : ∃ x r, t = x :: r := by cases t with | nil => simp [kS, givenM] at g3 | cons x r => exact ⟨x, r, rfl⟩
        have hs := hw s List.mem_cons_self
        have e : ¬ x.toList = s.toList := fun h => by
          have : takesM ⟨s, false⟩ x = false := by simpa [canM', givenM] using g5
          simp [takesM, h] at this
        simp only [hcn]
        rw [if_neg (by simp [markErrM, kWr, kW, givenM, hs, e]), hrec]
        simp [becM, kS, kWr, givenM]
      · simp only [hcn]
        obtain ⟨x, ws, rfl⟩ : ∃ x r, ws = x :: r := by cases ws with | nil => simp [kW] at g2 | cons x r => exact ⟨x, r, rfl⟩
        rw [if_neg (by simp [markErrM, kWr, kW]), hrec]
        simp [becM, kS]
      · obtain ⟨s, t, rfl⟩ : ∃ x r, t = x :: r := by cases t with | nil => simp [kS, givenM] at g3 | cons x r => exact ⟨x, r, rfl⟩
        have hs := hw s List.mem_cons_self
        simp only [hcn]
        rw [if_neg (by simp [markErrM, kWr, kW, givenM, hs]), hrec]
        simp [becM, kS, kWr, givenM]
      · exfalso
        cases t with
        | nil => simp [kS, givenM] at g3
        | cons s t => simp [canM', givenM] at g5
/-- by its marks a letter becomes the other one -/
theorem apply_few {f t : List ByteArray} (h : fewErrM f t = 0) : markedM (fewMarksM f t) f = ⟨t, 0⟩ := by
  obtain ⟨h1, h2⟩ := few_ok h
  obtain ⟨h15, hw⟩ := lettErr_ok h2
  have := markedF_marks _ f t [] (Nat.le_refl _) hw
  have hgl : (givenM t).length = t.length := by simp [givenM]
  unfold markedM fewMarksM
  rw [if_pos h]
  unfold marksM
  rw [hgl, this]
  simp
  omega
/-- how many corrections marks are -/
def corrM (ms : List Mark) : Nat := (ms.map fun m => kC m.kind.toNat).sum
theorem corr_marks : ∀ (n : Nat) (ws : List ByteArray) (ss : List Slot), ws.length + ss.length ≤ n → corrM (marksF n ws ss) = (costM ws ss).2
  | 0, ws, ss, h => by
    have h1 : ws = [] := List.eq_nil_of_length_eq_zero (by omega)
    have h2 : ss = [] := List.eq_nil_of_length_eq_zero (by omega)
    subst h1; subst h2
    rfl
  | n + 1, ws, ss, h => by
    rw [marksF]
    by_cases h0 : ws.length + ss.length = 0
    · rw [if_pos h0]
      have h1 : ws = [] := List.eq_nil_of_length_eq_zero (by omega)
      have h2 : ss = [] := List.eq_nil_of_length_eq_zero (by omega)
      subst h1; subst h2
      rfl
    · rw [if_neg h0]
      obtain ⟨g1, g2, g3, g4, g5, g6⟩ := costM_which ws ss (by omega)
      have ih := corr_marks n (ws.drop (kW (costM ws ss).1)) (ss.drop (kS (costM ws ss).1)) (by rw [List.length_drop, List.length_drop]; omega)
      unfold corrM at *
      rw [List.map_cons, List.sum_cons, ih]
      show kC (((costM ws ss).1 : Nat) : Int).toNat + _ = _
      rw [Int.toNat_natCast]
      exact g6.symm
theorem corr_few {f t : List ByteArray} (h : fewErrM f t = 0) : corrM (fewMarksM f t) = fewManyM f t := by
  unfold fewMarksM fewManyM marksM
  rw [if_pos h, if_pos h]
  exact corr_marks _ _ _ (Nat.le_refl _)
/-- .. and no marks by which it does have fewer -/
theorem marked_least : ∀ (ms : List Mark) (ws out res : List ByteArray), markedF ms ws out = ([], res, 0) → ∃ t, res = out ++ t ∧ (costM ws (givenM t)).2 ≤ corrM ms
  | [], ws, out, res, h => by
    rw [markedF] at h
    obtain ⟨h1, h2⟩ := Prod.mk.inj h
    obtain ⟨h2, -⟩ := Prod.mk.inj h2
    subst h1; subst h2
    exact ⟨[], by simp, Nat.le_refl _⟩
  | m :: r, ws, out, res, h => by
    rw [markedF] at h
    by_cases he : markErrM m ws = 0
    · rw [if_neg (by simpa using he)] at h
      obtain ⟨k, hk, hkd, hW⟩ := markErr_ok he
      obtain ⟨t', ht, hle⟩ := marked_least r _ _ _ h
      have hcr : corrM (m :: r) = kC k + corrM r := by simp [corrM, hkd]
      rw [hcr]
      rw [hkd, Int.toNat_natCast] at ht hle
      have : k = 0 ∨ k = 1 ∨ k = 2 ∨ k = 3 := by omega
      rcases this with rfl | rfl | rfl | rfl
      · obtain ⟨x, ws, rfl⟩ : ∃ x r, ws = x :: r := by cases ws with | nil => simp [kW] at hW | cons x r => exact ⟨x, r, rfl⟩
        refine ⟨x :: t', by rw [ht]; simp [becM], ?_⟩
        have htk : takesM ⟨x, false⟩ x = true := by simp [takesM]
        have e : givenM (x :: t') = ⟨x, false⟩ :: givenM t' := rfl
        rw [e, costM_all]
        refine Nat.le_trans (pickC_le _ (0, (costM ws (givenM t')).2) (by simp [htk])) ?_
        simpa [kC, kW] using hle
      · obtain ⟨x, ws, rfl⟩ : ∃ x r, ws = x :: r := by cases ws with | nil => simp [kW] at hW | cons x r => exact ⟨x, r, rfl⟩
        refine ⟨m.word :: t', by rw [ht]; simp [becM], ?_⟩
        have e : givenM (m.word :: t') = ⟨m.word, false⟩ :: givenM t' := rfl
        rw [e, costM_all]
        have hle' : (costM ws (givenM t')).2 ≤ corrM r := by simpa [kW] using hle
        cases htk : takesM ⟨m.word, false⟩ x
        · refine Nat.le_trans (pickC_le _ (1, 1 + (costM ws (givenM t')).2) (by simp [htk])) ?_
          show 1 + _ ≤ 1 + _
          omega
        · refine Nat.le_trans (pickC_le _ (0, (costM ws (givenM t')).2) (by simp [htk])) ?_
          show (costM ws (givenM t')).2 ≤ 1 + _
          omega
      · obtain ⟨x, ws, rfl⟩ : ∃ x r, ws = x :: r := by cases ws with | nil => simp [kW] at hW | cons x r => exact ⟨x, r, rfl⟩
        refine ⟨t', by rw [ht]; simp [becM], ?_⟩
        have hle' : (costM ws (givenM t')).2 ≤ corrM r := by simpa [kW] using hle
        cases t' with
        | nil =>
          show (costM (x :: ws) []).2 ≤ _
          rw [costM_drop]
          refine Nat.le_trans (pickC_le _ (2, 1 + (costM ws []).2) (by simp)) ?_
          show 1 + _ ≤ 1 + _
          exact Nat.add_le_add_left hle' 1
        | cons s t' =>
          have e : givenM (s :: t') = ⟨s, false⟩ :: givenM t' := rfl
          rw [e] at hle' ⊢
          rw [costM_all]
          refine Nat.le_trans (pickC_le _ (2, 1 + (costM ws (⟨s, false⟩ :: givenM t')).2) (by simp)) ?_
          exact Nat.add_le_add_left hle' 1
      · refine ⟨m.word :: t', by rw [ht]; simp [becM], ?_⟩
        have hle' : (costM ws (givenM t')).2 ≤ corrM r := by simpa [kW] using hle
        have e : givenM (m.word :: t') = ⟨m.word, false⟩ :: givenM t' := rfl
        rw [e]
        cases ws with
        | nil =>
          rw [costM_put]
          refine Nat.le_trans (pickC_le _ (3, 1 + (costM [] (givenM t')).2) (by simp)) ?_
          exact Nat.add_le_add_left hle' 1
        | cons x ws =>
          rw [costM_all]
          refine Nat.le_trans (pickC_le _ (3, 1 + (costM (x :: ws) (givenM t')).2) (by simp)) ?_
          exact Nat.add_le_add_left hle' 1
    · rw [if_pos he] at h
      obtain ⟨-, h2⟩ := Prod.mk.inj h
      exact absurd (Prod.mk.inj h2).2 he
/-- what marks make of a letter is no nearer than Fewest says -/
theorem fewest_least {ms : List Mark} {f t : List ByteArray} (h : applyM ms f = ⟨t, 0⟩) : (costM f (givenM t)).2 ≤ corrM ms := by
  unfold applyM at h
  split at h
  · rename_i h1; exact absurd (MarkedR.mk.inj h).2 h1
  · split at h
    · exact absurd (MarkedR.mk.inj h).2 (by decide)
    · unfold markedM at h
      split at h
      · rename_i h1; exact absurd (MarkedR.mk.inj h).2 h1
      · rename_i h1
        split at h
        · exact absurd (MarkedR.mk.inj h).2 (by decide)
        · rename_i h2
          split at h
          · exact absurd (MarkedR.mk.inj h).2 (by decide)
          · have e : markedF ms f [] = ([], t, 0) := by
              have a1 : (markedF ms f []).1 = [] := List.eq_nil_of_length_eq_zero (by omega)
              have a2 := (MarkedR.mk.inj h).1
              have a3 : (markedF ms f []).2.2 = 0 := by simpa using h1
              exact Prod.ext a1 (Prod.ext a2 a3)
            obtain ⟨t2, e2, hle⟩ := marked_least ms f [] t e
            rw [List.nil_append] at e2
            subst e2
            exact hle
end Go.Proofs.YtcamegaimleomaaGreat

namespace Go.Proofs.YtcamegaimleomaaGreat
set_option linter.unusedSimpArgs false
set_option linter.unusedVariables false
open Go.RowKit
set_option linter.unusedVariables false

def b14M (f t : List ByteArray) (i k nn : Nat) : Bool := decide (i < f.length) && ((lsAt f t (i + 1) k : Int) + 1 == (nn : Int))
theorem takes_word_is {s x : ByteArray} (h : wordM s = true) : takesM ⟨s, false⟩ x = (x.toList == s.toList) := by
  unfold takesM
  have : s.toList.isEmpty = false := toList_ne h
  show (s.toList.isEmpty || s.toList == x.toList) = _
  rw [this, Bool.false_or]
  exact Bool.beq_comm
/-- which mark comes first at a place -/
theorem val_kind {f t : List ByteArray} (ht : ∀ s ∈ t, wordM s = true) {i k : Nat} (hi : i ≤ f.length) (hk : k ≤ t.length) (hne : ¬ (i = f.length ∧ k = t.length)) :
    (valM f (givenM t) i k).1 = if b8M f t i k (lsAt f t i k) then 0 else if b11M f t i k (lsAt f t i k) then 1 else if b14M f t i k (lsAt f t i k) then 2 else 3 := by
  have hg : (givenM t).drop k = givenM (t.drop k) := by simp [givenM]
  unfold valM
  rw [hg]
  by_cases h1 : i < f.length
  · by_cases h2 : k < t.length
    · have e8 : b8M f t i k (lsAt f t i k) = true ↔ takesM ⟨t[k], false⟩ f[i] = true ∧ lsM (f.drop (i + 1)) (t.drop (k + 1)) = lsM (f[i] :: f.drop (i + 1)) (t[k] :: t.drop (k + 1)) := by
        unfold b8M lsAt
        rw [takes_word_is (ht _ (List.getElem_mem h2)), decide_eq_true h1, decide_eq_true h2, List.getD_eq_getElem?_getD, List.getElem?_eq_getElem h1, List.getD_eq_getElem?_getD, List.getElem?_eq_getElem h2, ← List.drop_eq_getElem_cons h1, ← List.drop_eq_getElem_cons h2]
        simp
        omega
      have e11 : b11M f t i k (lsAt f t i k) = true ↔ takesM ⟨t[k], false⟩ f[i] = false ∧ lsM (f.drop (i + 1)) (t.drop (k + 1)) + 1 = lsM (f[i] :: f.drop (i + 1)) (t[k] :: t.drop (k + 1)) := by
        unfold b11M lsAt
        rw [takes_word_is (ht _ (List.getElem_mem h2)), decide_eq_true h1, decide_eq_true h2, List.getD_eq_getElem?_getD, List.getElem?_eq_getElem h1, List.getD_eq_getElem?_getD, List.getElem?_eq_getElem h2, ← List.drop_eq_getElem_cons h1, ← List.drop_eq_getElem_cons h2]
        simp
        omega
      have e14 : b14M f t i k (lsAt f t i k) = true ↔ lsM (f.drop (i + 1)) (t[k] :: t.drop (k + 1)) + 1 = lsM (f[i] :: f.drop (i + 1)) (t[k] :: t.drop (k + 1)) := by
        unfold b14M lsAt
        rw [decide_eq_true h1, ← List.drop_eq_getElem_cons h1, ← List.drop_eq_getElem_cons h2]
        simp
        omega
      rw [List.drop_eq_getElem_cons h1, List.drop_eq_getElem_cons h2, cost_first]
      simp only [e8, e11, e14]
    · obtain rfl : k = t.length := by omega
      have e8 : b8M f t i t.length (lsAt f t i t.length) = false := by unfold b8M; rw [decide_eq_false h2]; simp
      have e11 : b11M f t i t.length (lsAt f t i t.length) = false := by unfold b11M; rw [decide_eq_false h2]; simp
      have e14 : b14M f t i t.length (lsAt f t i t.length) = true := by
        unfold b14M
        rw [lsAt_drop, lsAt_drop, decide_eq_true h1, Bool.true_and]
        simp
        omega
      rw [e8, e11, e14, List.drop_length, List.drop_eq_getElem_cons h1]
      show (costM (f[i] :: f.drop (i + 1)) []).1 = 2
      rw [costM_drop, pickC_one]
  · have h2 : k < t.length := by omega
    have e8 : b8M f t i k (lsAt f t i k) = false := by unfold b8M; rw [decide_eq_false h1]; simp
    have e11 : b11M f t i k (lsAt f t i k) = false := by unfold b11M; rw [decide_eq_false h1]; simp
    have e14 : b14M f t i k (lsAt f t i k) = false := by unfold b14M; rw [decide_eq_false h1]; simp
    obtain rfl : i = f.length := by omega
    rw [e8, e11, e14, List.drop_length, List.drop_eq_getElem_cons h2]
    show (costM [] (⟨t[k], false⟩ :: givenM (t.drop (k + 1)))).1 = 3
    rw [costM_put]
    simp [pickC_one]
/-- the next mark -/
theorem marks_next {f t : List ByteArray} {i k c : Nat} (hi : i ≤ f.length) (hk : k ≤ t.length) (hne : ¬ (i = f.length ∧ k = t.length)) (hc : (valM f (givenM t) i k).1 = c) :
    i + kW c ≤ f.length ∧ k + kS c ≤ t.length ∧ marksM (f.drop i) (givenM (t.drop k)) = ⟨(c : Nat), if kWr c then t.getD k ByteArray.empty else ByteArray.empty⟩ :: marksM (f.drop (i + kW c)) (givenM (t.drop (k + kS c))) := by
  have hl : (givenM t).length = t.length := by simp [givenM]
  have hg : ∀ k, (givenM t).drop k = givenM (t.drop k) := fun k => by simp [givenM]
  obtain ⟨h1, h2, h3, h4⟩ := marks_step f (givenM t) i k hi (by rw [hl]; exact hk) (fun e => hne (by rw [hl] at e; exact Prod.mk.inj e))
  unfold markAt at h4
  rw [hc, hl] at h3
  rw [hc] at h2 h4
  rw [hg, hg] at h4
  refine ⟨h2, h3, ?_⟩
  rw [h4]
  congr 2
  have : ((givenM t).getD k noSlot).word = t.getD k ByteArray.empty := by
    simp only [givenM, List.getD_eq_getElem?_getD, List.getElem?_map]
    cases t[k]? <;> rfl
  rw [this]
set_option maxRecDepth 100000 in
set_option maxHeartbeats 8000000 in
theorem refMarks_any (fv tv : Value) (f t : List ByteArray) (w : World) (hf : StrsAt w fv f) (ht : StrsAt w tv t) (hf1 : f.length ≤ 100) (ht1 : t.length ≤ 100) (hw : ∀ s ∈ t, wordM s = true) :
    Calls Tryz.prog 58 #[fv, tv] w fun e w' => ∃ u, e = .returned u ∧ RowK w.heap.size (marksM f (givenM t)) u w' ∧ Ext w w' := by
  obtain ⟨fa, fc, rfl, -⟩ := hf.shape
  obtain ⟨ta, tc, rfl, -⟩ := ht.shape
  obtain ⟨i0, hif, hz0, hz1, hz2⟩ := info_parts infoMark
  have hmlen : (marksM f (givenM t)).length ≤ 200 := Nat.le_trans (marksF_len _ _ _) (by simp [givenM]; omega)
  have Hw := Lib.hid hw
  clear hw
  go_enter Tryz.func58, Tryz.ntmps58
  go_wp2_with fail
  refine (least_any _ _ f t _ hf ht hf1 ht1).mono ?_
  rintro e w1 ⟨G, h, rfl, hrow, hrs, x1⟩
  replace hf := hf.ext x1
  replace ht := ht.ext x1
  go_wp2_with fail
  go_loopw [6, 7, 8] (fun ov iv kv wr => ∃ (i k : Nat) (done : List Mark), i ≤ f.length ∧ k ≤ t.length ∧ iv = .int .i64 i ∧ kv = .int .i64 k ∧ Ext w1 wr ∧ RowK w1.heap.size done ov wr ∧ done ++ marksM (f.drop i) (givenM (t.drop k)) = marksM f (givenM t)) (fun _ i k _ => (f.length - (intOf i).toNat) + (t.length - (intOf k).toNat))
  case atStart => exact ⟨0, 0, [], Nat.zero_le _, Nat.zero_le _, rfl, rfl, Ext.refl _, RowK.nil, rfl⟩
  case round =>
    obtain ⟨i, k, done, hi', hk', rfl, rfl, hxr, hown, hdone⟩ := hrel
    by_cases hend : i = f.length ∧ k = t.length
    · obtain ⟨rfl, rfl⟩ := hend
      have hd : done = marksM f (givenM t) := by
        rw [List.drop_length, List.drop_length] at hdone
        simpa [marksM, marksF, givenM] using hdone
      have Hd := Lib.hid hd
      clear hdone hd
      go_wp2
      go_ret
      exact ⟨_, rfl, by rw [← Hd.out]; exact hown.lower x1.size, x1.trans hxr⟩
    · have hvk := val_kind Hw.out hi' hk' hend
      obtain ⟨g, eg, hGg, hrg⟩ := hrs i (Nat.zero_le _) hi'
      have r0 := hxr.cell (hrow i (by omega)).1
      rw [eg] at r0
      have c0 := hxr.cell (hrg k (by omega)).1
      simp only at c0
      obtain ⟨nn, hnn⟩ : ∃ nn, lsAt f t i k = nn := ⟨_, rfl⟩
      rw [hnn] at c0 hvk
      have Hnn := Lib.hid hnn
      have hdl : done.length ≤ 200 := by
        have := congrArg List.length hdone
        rw [List.length_append] at this
        omega
      have li : (i : Int) < (f.length : Int) + 1 := by omega
      have lk : (k : Int) < (t.length : Int) + 1 := by omega
      have Hdone := Lib.hid hdone
      have Hend := Lib.hid hend
      have Hvk := Lib.hid hvk
      clear hvk eg hnn hdone hrg hend
      have hgo : ((i : Int) < (f.length : Int) ∨ (k : Int) < (t.length : Int)) := by have := Hend.out; omega
      have hcase : (i : Int) < (f.length : Int) ∨ ¬ (i : Int) < (f.length : Int) ∧ (k : Int) < (t.length : Int) := by omega
      clear hgo
      rcases hcase with l1 | ⟨l1, l2⟩
      · go_upto_region 8 with fail
        refine marks_r8 (hf.ext hxr) (ht.ext hxr) (hrow.ext hxr) (hrs.ext hxr) hf1 ht1 hi' hk' _ ?_
        intro v41 v42 v43 v44 v45 v46 v47 v48 v49 v50 v51 v52 v53 v54 v55 v56 v57 v58 v59 v60 v61 v62 v63 v64 v65 v66 v67 v68 v69 v70 v71 v72 v73 v74 wp hx
        replace hxr := hxr.trans hx
        replace hown := hown.ext hx
        have hownlt := fun q hq => World.ownsRow.lt hown q hq
        clear hx r0 c0
        cases hb8 : b8M f t i k nn
        · clear hownlt
          go_upto_region 11 with fail
          refine marks_r11 (hf.ext hxr) (ht.ext hxr) (hrow.ext hxr) (hrs.ext hxr) hf1 ht1 hi' hk' _ ?_
          intro y84 y85 y86 y87 y88 y89 y90 y91 y92 y93 y94 y95 y96 y97 y98 y99 y100 y101 y102 y103 y104 y105 y106 y107 y108 y109 y110 y111 y112 y113 y114 y115 y116 y117 y118 wp hx
          replace hxr := hxr.trans hx
          replace hown := hown.ext hx
          have hownlt := fun q hq => World.ownsRow.lt hown q hq
          clear hx
          cases hb11 : b11M f t i k nn
          · obtain ⟨g1, eg, -, hrg⟩ := hrs (i + 1) (Nat.zero_le _) (by omega)
            have r0 := hxr.cell (hrow (i + 1) (by omega)).1
            rw [eg] at r0
            have c10 := hxr.cell (hrg k (by omega)).1
            simp only at c10
            have hb14 : b14M f t i k nn = ((lsAt f t (i + 1) k : Int) + 1 == (nn : Int)) := by
              unfold b14M
              rw [decide_eq_true (by omega), Bool.true_and]
            have b10 := lsAt_le f t (i + 1) k
            generalize lsAt f t (i + 1) k = a10 at *
            obtain ⟨i1, hi1⟩ : ∃ i1, i1 = i + 1 := ⟨_, rfl⟩
            rw [← hi1] at r0
            have wi1 : IntKind.i64.wrap ((i : Int) + 1) = (i1 : Int) := by rw [hi1]; exact IntWalk.i64_in _ (by omega)
            have wa1 : IntKind.i64.wrap ((a10 : Int) + 1) = (a10 : Int) + 1 := IntWalk.i64_in _ (by omega)
            have li1 : (i1 : Int) < (f.length : Int) + 1 := by omega
            obtain ⟨bb, hbb⟩ : ∃ bb, ((a10 : Int) + 1 == (nn : Int)) = bb := ⟨_, rfl⟩
            rw [hbb] at hb14
            have HI1 := Lib.hid hi1
            clear eg hrg hi1
            cases bb
            · have hkd : (valM f (givenM t) i k).1 = 3 := by rw [Hvk.out, hb8, hb11, hb14]; rfl
              (obtain ⟨n1, n2, n3⟩ := marks_next hi' hk' Hend.out hkd; simp only [kW, kS] at n1 n2; obtain ⟨tb, qo, rfl, d1, -⟩ := SliceAt.get (ht.ext hxr) (i := k) (by omega); rw [Nat.mul_one] at d1; have N3 := Lib.hid (show done ++ (⟨3, t[k]⟩ :: marksM (f.drop (i + 0)) (givenM (t.drop (k + 1)))) = marksM f (givenM t) by rw [← Hdone.out, n3, List.getD_eq_getElem?_getD, List.getElem?_eq_getElem (by omega)]; try rfl); generalize t[k] = wd at *; have l2 : (k : Int) < (t.length : Int) := (by omega); clear hkd n3 hb8 hb11 hb14; (go_wp2_with (at_builtin; go_loud (refine wpList_append_own_at _ rfl _ _ 37 rfl w1.heap.size 115 i0 (.agg #[.int .i64 0, .string ByteArray.empty]) 2 24 Tryz.underlying37 hif hz0 hz1 hz2 rfl (by decide) u6 done.length (cellsK done) rfl (World.ownsRow.alloc hown _) ⟨wp.heap.size, 0, none⟩ 1 1 [.int .i64 3, .string wd] rfl rfl (cell_two_newS _ _ _ _) (by simp [Value.oneCell']) (by unfold maxLen; omega) (by omega) (by have := hxr.size; simp; omega) ?_; intro v' w2 hown' hgrow _ _))); (go_roundw; (case rel => exact ⟨i + 0, k + 1, done ++ [⟨3, wd⟩], by omega, by omega, by go_num, by go_num, Ext.grown (hxr.trans (ext_alloc _ _)) hgrow (fun q hq => (hownlt q hq).1), RowK.snoc hown', by rw [List.append_assoc]; exact N3.out⟩); (case measure => simp [intOf]; omega)))
            · have hkd : (valM f (givenM t) i k).1 = 2 := by rw [Hvk.out, hb8, hb11, hb14]; rfl
              obtain ⟨n1, n2, n3⟩ := marks_next hi' hk' Hend.out hkd
              have N3 := Lib.hid (show done ++ (⟨2, ByteArray.empty⟩ :: marksM (f.drop i1) (givenM (t.drop (k + 0)))) = marksM f (givenM t) by rw [← Hdone.out, n3, HI1.out]; rfl)
              simp only [kW, kS] at n1 n2
              clear hkd n3 hb8 hb11 hb14
              (go_wp2_with (at_builtin; go_loud (refine wpList_append_own_at _ rfl _ _ 37 rfl w1.heap.size 115 i0 (.agg #[.int .i64 0, .string ByteArray.empty]) 2 24 Tryz.underlying37 hif hz0 hz1 hz2 rfl (by decide) u6 done.length (cellsK done) rfl (World.ownsRow.alloc hown _) ⟨wp.heap.size, 0, none⟩ 1 1 [.int .i64 2, .string ByteArray.empty] rfl rfl (cell_two_newS _ _ _ _) (by simp [Value.oneCell']) (by unfold maxLen; omega) (by omega) (by have := hxr.size; simp; omega) ?_; intro v' w2 hown' hgrow _ _)))
              (go_roundw; (case rel => exact ⟨i1, k + 0, done ++ [⟨2, ByteArray.empty⟩], by have := HI1.out; omega, by omega, rfl, by go_num, Ext.grown (hxr.trans (ext_alloc _ _)) hgrow (fun q hq => (hownlt q hq).1), RowK.snoc hown', by rw [List.append_assoc]; exact N3.out⟩); (case measure => have := HI1.out; simp [intOf]; omega))
          · have hkd : (valM f (givenM t) i k).1 = 1 := by rw [Hvk.out, hb8, hb11]; rfl
            obtain ⟨n1, n2, n3⟩ := marks_next hi' hk' Hend.out hkd
            simp only [kW, kS] at n1 n2
            obtain ⟨tb, qo, rfl, d1, -⟩ := SliceAt.get (ht.ext hxr) (i := k) (by omega)
            rw [Nat.mul_one] at d1
            have N3 := Lib.hid (show done ++ (⟨1, t[k]⟩ :: marksM (f.drop (i + 1)) (givenM (t.drop (k + 1)))) = marksM f (givenM t) by rw [← Hdone.out, n3, List.getD_eq_getElem?_getD, List.getElem?_eq_getElem (by omega)]; rfl)
            generalize t[k] = wd at *
            have l2 : (k : Int) < (t.length : Int) := by omega
            clear hkd n3 hb8 hb11
            (go_wp2_with (at_builtin; go_loud (refine wpList_append_own_at _ rfl _ _ 37 rfl w1.heap.size 115 i0 (.agg #[.int .i64 0, .string ByteArray.empty]) 2 24 Tryz.underlying37 hif hz0 hz1 hz2 rfl (by decide) u6 done.length (cellsK done) rfl (World.ownsRow.alloc hown _) ⟨wp.heap.size, 0, none⟩ 1 1 [.int .i64 1, .string wd] rfl rfl (cell_two_newS _ _ _ _) (by simp [Value.oneCell']) (by unfold maxLen; omega) (by omega) (by have := hxr.size; simp; omega) ?_; intro v' w2 hown' hgrow _ _)))
            (go_roundw; (case rel => exact ⟨i + 1, k + 1, done ++ [⟨1, wd⟩], by omega, by omega, by go_num, by go_num, Ext.grown (hxr.trans (ext_alloc _ _)) hgrow (fun q hq => (hownlt q hq).1), RowK.snoc hown', by rw [List.append_assoc]; exact N3.out⟩); (case measure => simp [intOf]; omega))
        · have hkd : (valM f (givenM t) i k).1 = 0 := by rw [Hvk.out, if_pos hb8]
          obtain ⟨n1, n2, n3⟩ := marks_next hi' hk' Hend.out hkd
          have N3 := Lib.hid (show done ++ (⟨0, ByteArray.empty⟩ :: marksM (f.drop (i + 1)) (givenM (t.drop (k + 1)))) = marksM f (givenM t) by rw [← Hdone.out, n3]; rfl)
          simp only [kW, kS] at n1 n2
          clear hkd n3 hb8
          (go_wp2_with (at_builtin; go_loud (refine wpList_append_own_at _ rfl _ _ 37 rfl w1.heap.size 115 i0 (.agg #[.int .i64 0, .string ByteArray.empty]) 2 24 Tryz.underlying37 hif hz0 hz1 hz2 rfl (by decide) u6 done.length (cellsK done) rfl (World.ownsRow.alloc hown _) ⟨wp.heap.size, 0, none⟩ 1 1 [.int .i64 0, .string ByteArray.empty] rfl rfl (cell_two_newS _ _ _ _) (by simp [Value.oneCell']) (by unfold maxLen; omega) (by omega) (by have := hxr.size; simp; omega) ?_; intro v' w2 hown' hgrow _ _)))
          (go_roundw; (case rel => exact ⟨i + 1, k + 1, done ++ [⟨0, ByteArray.empty⟩], by omega, by omega, by go_num, by go_num, Ext.grown (hxr.trans (ext_alloc _ _)) hgrow (fun q hq => (hownlt q hq).1), RowK.snoc hown', by rw [List.append_assoc]; exact N3.out⟩); (case measure => simp [intOf]; omega))
      · have hb8 : b8M f t i k nn = false := by unfold b8M; rw [decide_eq_false (by omega)]; rfl
        have hb11 : b11M f t i k nn = false := by unfold b11M; rw [decide_eq_false (by omega)]; rfl
        have hb14 : b14M f t i k nn = false := by unfold b14M; rw [decide_eq_false (by omega)]; rfl
        have hkd : (valM f (givenM t) i k).1 = 3 := by rw [Hvk.out, hb8, hb11, hb14]; rfl
        go_upto_region 8 with fail
        refine marks_r8 (hf.ext hxr) (ht.ext hxr) (hrow.ext hxr) (hrs.ext hxr) hf1 ht1 hi' hk' _ ?_
        intro v41 v42 v43 v44 v45 v46 v47 v48 v49 v50 v51 v52 v53 v54 v55 v56 v57 v58 v59 v60 v61 v62 v63 v64 v65 v66 v67 v68 v69 v70 v71 v72 v73 v74 wp hx
        replace hxr := hxr.trans hx
        replace hown := hown.ext hx
        rw [hb8]
        clear hx r0 c0
        go_upto_region 11 with fail
        refine marks_r11 (hf.ext hxr) (ht.ext hxr) (hrow.ext hxr) (hrs.ext hxr) hf1 ht1 hi' hk' _ ?_
        intro y84 y85 y86 y87 y88 y89 y90 y91 y92 y93 y94 y95 y96 y97 y98 y99 y100 y101 y102 y103 y104 y105 y106 y107 y108 y109 y110 y111 y112 y113 y114 y115 y116 y117 y118 wp hx
        replace hxr := hxr.trans hx
        replace hown := hown.ext hx
        have hownlt := fun q hq => World.ownsRow.lt hown q hq
        clear hx
        rw [hb11]
        (obtain ⟨n1, n2, n3⟩ := marks_next hi' hk' Hend.out hkd; simp only [kW, kS] at n1 n2; obtain ⟨tb, qo, rfl, d1, -⟩ := SliceAt.get (ht.ext hxr) (i := k) (by omega); rw [Nat.mul_one] at d1; have N3 := Lib.hid (show done ++ (⟨3, t[k]⟩ :: marksM (f.drop (i + 0)) (givenM (t.drop (k + 1)))) = marksM f (givenM t) by rw [← Hdone.out, n3, List.getD_eq_getElem?_getD, List.getElem?_eq_getElem (by omega)]; try rfl); generalize t[k] = wd at *; have l2 : (k : Int) < (t.length : Int) := (by omega); clear hkd n3 hb8 hb11 hb14; (go_wp2_with (at_builtin; go_loud (refine wpList_append_own_at _ rfl _ _ 37 rfl w1.heap.size 115 i0 (.agg #[.int .i64 0, .string ByteArray.empty]) 2 24 Tryz.underlying37 hif hz0 hz1 hz2 rfl (by decide) u6 done.length (cellsK done) rfl (World.ownsRow.alloc hown _) ⟨wp.heap.size, 0, none⟩ 1 1 [.int .i64 3, .string wd] rfl rfl (cell_two_newS _ _ _ _) (by simp [Value.oneCell']) (by unfold maxLen; omega) (by omega) (by have := hxr.size; simp; omega) ?_; intro v' w2 hown' hgrow _ _))); (go_roundw; (case rel => exact ⟨i + 0, k + 1, done ++ [⟨3, wd⟩], by omega, by omega, by go_num, by go_num, Ext.grown (hxr.trans (ext_alloc _ _)) hgrow (fun q hq => (hownlt q hq).1), RowK.snoc hown', by rw [List.append_assoc]; exact N3.out⟩); (case measure => simp [intOf]; omega)))
end Go.Proofs.YtcamegaimleomaaGreat

namespace Go.Proofs.YtcamegaimleomaaGreat
set_option linter.unusedSimpArgs false
set_option linter.unusedVariables false
set_option linter.unusedVariables false

theorem pick3 (a b c : Ch) : (pickC ([a, b, c] ++ [])).2 = min a.2 (min b.2 c.2) := by
  simp only [pickC, pickB, List.append_nil, List.foldl_cons, List.foldl_nil, fewCh]
  simp
  split <;> split <;> (try simp only []) <;> omega
def sameW (x s : ByteArray) : Bool := x.toList == s.toList
def farM : Nat → List ByteArray → List ByteArray → Nat
  | 0, _, _ => 0
  | _ + 1, [], b => b.length
  | _ + 1, a, [] => a.length
  | n + 1, x :: a, s :: b => min (if sameW x s then farM n a b else 1 + farM n a b) (min (1 + farM n a (s :: b)) (1 + farM n (x :: a) b))
theorem cost_put_all : ∀ b : List ByteArray, (costM [] (givenM b)).2 = b.length
  | [] => rfl
  | s :: b => by
    have e : givenM (s :: b) = ⟨s, false⟩ :: givenM b := rfl
    rw [e, costM_put]
    show (pickC [(3, 1 + (costM [] (givenM b)).2)]).2 = _
    have : (pickC [(3, 1 + (costM [] (givenM b)).2)]).2 = 1 + (costM [] (givenM b)).2 := rfl
    rw [this, cost_put_all b, List.length_cons, Nat.add_comm]
theorem cost_drop_all : ∀ a : List ByteArray, (costM a []).2 = a.length
  | [] => rfl
  | x :: a => by
    rw [costM_drop]
    have : (pickC [(2, 1 + (costM a []).2)]).2 = 1 + (costM a []).2 := rfl
    rw [this, cost_drop_all a, List.length_cons, Nat.add_comm]
theorem cost_far : ∀ (n : Nat) (a b : List ByteArray), a.length + b.length < n → (∀ s ∈ b, wordM s = true) → (costM a (givenM b)).2 = farM n a b
  | 0, a, b, h, _ => by omega
  | n + 1, [], b, h, _ => by rw [cost_put_all, farM]
  | n + 1, x :: a, [], h, _ => by
    show (costM (x :: a) []).2 = _
    rw [cost_drop_all]; rfl
  | n + 1, x :: a, s :: b, h, hw => by
    have e : givenM (s :: b) = ⟨s, false⟩ :: givenM b := rfl
    simp only [List.length_cons] at h
    have hwb : ∀ s ∈ b, wordM s = true := fun y hy => hw y (List.mem_cons_of_mem _ hy)
    have i1 := cost_far n a b (by omega) hwb
    have i2 := cost_far n a (s :: b) (by simp only [List.length_cons]; omega) hw
    have i3 := cost_far n (x :: a) b (by simp only [List.length_cons]; omega) hwb
    rw [e] at i2 ⊢
    rw [costM_all]
    have ht : takesM ⟨s, false⟩ x = sameW x s := by
      simp only [takesM, toList_ne (hw s List.mem_cons_self), Bool.false_or, sameW]
      exact Bool.beq_comm
    rw [ht, farM, show (if (⟨s, false⟩ : Slot).free = true then [((4 : Nat), (costM (x :: a) (givenM b)).2)] else []) = [] from rfl, pick3, i1, i2, i3]
    cases sameW x s <;> rfl
theorem sameW_comm (x s : ByteArray) : sameW x s = sameW s x := by
  unfold sameW
  exact Bool.beq_comm
theorem far_comm : ∀ (n : Nat) (a b : List ByteArray), farM n a b = farM n b a
  | 0, _, _ => rfl
  | n + 1, [], [] => rfl
  | n + 1, [], s :: b => rfl
  | n + 1, x :: a, [] => rfl
  | n + 1, x :: a, s :: b => by
    rw [farM, farM, sameW_comm x s, far_comm n a b, far_comm n a (s :: b), far_comm n (x :: a) b]
    congr 1
    exact Nat.min_comm _ _
theorem far_zero : ∀ (n : Nat) (a b : List ByteArray), a.length + b.length < n → (farM n a b = 0 ↔ a = b)
  | 0, a, b, h => by omega
  | n + 1, [], b, h => by
    rw [farM]
    cases b <;> simp
  | n + 1, x :: a, [], h => by simp [farM]
  | n + 1, x :: a, s :: b, h => by
    simp only [List.length_cons] at h
    have ih := far_zero n a b (by omega)
    rw [farM]
    have e : sameW x s = true ↔ x = s := ⟨fun h => toList_inj (eq_of_beq h), fun h => by subst h; simp [sameW]⟩
    cases hs : sameW x s
    · have : ¬ x = s := fun h => by rw [e.2 h] at hs; cases hs
      simp [this]
    · have hx := e.1 hs
      subst hx
      simp only [if_true]
      constructor
      · intro h2
        have : farM n a b = 0 := by omega
        rw [ih.1 this]
      · intro h2
        have := ih.2 (List.cons.inj h2).2
        omega
/-- as many back, and none just if they are the same -/
theorem cost_comm {a b : List ByteArray} (ha : ∀ s ∈ a, wordM s = true) (hb : ∀ s ∈ b, wordM s = true) : (costM a (givenM b)).2 = (costM b (givenM a)).2 := by
  rw [cost_far (a.length + b.length + 1) a b (by omega) hb, cost_far (a.length + b.length + 1) b a (by omega) ha, far_comm]
theorem cost_zero {a b : List ByteArray} (hb : ∀ s ∈ b, wordM s = true) : (costM a (givenM b)).2 = 0 ↔ a = b := by
  rw [cost_far (a.length + b.length + 1) a b (by omega) hb]
  exact far_zero _ _ _ (by omega)
end Go.Proofs.YtcamegaimleomaaGreat

namespace Go.Proofs.YtcamegaimleomaaGreat
set_option linter.unusedSimpArgs false
set_option linter.unusedVariables false
open Go.RowKit
set_option linter.unusedVariables false

def dropN (d : Nat → Int) : Nat → Nat → List ByteArray → List ByteArray
  | _, 0, l => l
  | k, m + 1, l => dropN d (k + 1) m (l.drop (d k).toNat)
theorem dropN_last (d : Nat → Int) : ∀ (m k : Nat) (l : List ByteArray), dropN d k (m + 1) l = (dropN d k m l).drop (d (k + m)).toNat
  | 0, k, l => rfl
  | m + 1, k, l => by
    show dropN d (k + 1) (m + 1) (l.drop (d k).toNat) = (dropN d (k + 1) m (l.drop (d k).toNat)).drop (d (k + (m + 1))).toNat
    rw [dropN_last d m (k + 1), show k + 1 + m = k + (m + 1) from by omega]
theorem ways_fits : ∀ (ss : List (List Slot)) (k : Nat) (left : List ByteArray) (c d : Nat → Int), d ∈ waysF ss k left c → ∀ m, m < ss.length → 0 ≤ d (k + m) ∧ (d (k + m)).toNat ≤ (dropN d k m left).length
  | [], k, left, c, d, h, m, hm => by simp at hm
  | sl :: r, k, left, c, d, h, m, hm => by
    unfold waysF at h
    obtain ⟨n, hn, hs, hd⟩ := waysTo_mem h
    have dk : d k = (n : Int) := by
      rw [(waysF_fine r (k + 1) _ _ d hd).1 k (by omega)]
      simp [updC]
    cases m with
    | zero =>
      show 0 ≤ d k ∧ (d k).toNat ≤ left.length
      rw [dk]
      have := sizeOk_le hs
      exact ⟨by omega, by omega⟩
    | succ m =>
      have := ways_fits r (k + 1) (left.drop n) _ d hd m (by simpa using hm)
      show 0 ≤ d (k + (m + 1)) ∧ (d (k + (m + 1))).toNat ≤ (dropN d (k + 1) m (left.drop (d k).toNat)).length
      rw [dk, Int.toNat_natCast, show k + (m + 1) = k + 1 + m from by omega]
      exact this
theorem fillsTo_drop (ps : List Part) (d : Nat → Int) (l : List ByteArray) : ∀ k, (fillsTo ps d l k).2 = dropN d 0 k l
  | 0 => rfl
  | k + 1 => by
    rw [dropN_last, ← fillsTo_drop ps d l k, Nat.zero_add]
    rfl
/-- the counts of a way fit -/
theorem ways_FitsC {ps : List Part} {l : List ByteArray} {d : Nat → Int} (h : d ∈ formWays ps l) : FitsC ps d l := fun k hk => by
  have := ways_fits _ 0 l _ d h k (by simpa using hk)
  rw [Nat.zero_add] at this
  rw [fillsTo_drop]
  exact this
theorem firstWay_fits {ps : List Part} {l : List ByteArray} (h : (formWays ps l).length ≠ 0) : FitsC ps (firstWayM ps l) l := by
  rcases pickB_mem beforeM zeroC (formWays ps l) with ⟨-, e⟩ | e
  · rw [e] at h; exact absurd rfl h
  · exact ways_FitsC e
structure FillR where
  fills : List (List ByteArray)
  many : Nat
  err : Int
def fillRes (s : Shelf) (n : Int) (l : List ByteArray) : FillR :=
  if openForErrM s n l ≠ 0 then ⟨[], 0, openForErrM s n l⟩ else
  match s.forms[n.toNat]? with
  | none => ⟨[], 0, 0⟩
  | some f => if (formWays f.parts l).length = 0 then ⟨[], 0, 9⟩ else ⟨fillsM f.parts (firstWayM f.parts l) l, (formWays f.parts l).length, 0⟩
set_option maxRecDepth 100000 in
set_option maxHeartbeats 1500000 in
theorem Fills_any (sv v : Value) (s : Shelf) (n : Int) (hn : I64 n) (l : List ByteArray) (w : World) (hs : ShelfAt w sv s) (hl : StrsAt w v l) :
    Calls Tryz.prog 11 #[sv, .int .i64 n, v] w fun e w' => ∃ u, e = .returned (.tuple #[u, .int .i64 (fillRes s n l).many, .int .i64 (fillRes s n l).err]) ∧ FillsAt w' u (fillRes s n l).fills ∧ Ext w w' := by
  have hs0 := hs
  obtain ⟨a, c, rfl, hw, hc1, hc2, hf⟩ := hs.open
  obtain ⟨la, lc, rfl, -⟩ := hl.shape
  clear hf
  obtain ⟨R, hR⟩ : ∃ R, fillRes s n l = R := ⟨_, rfl⟩
  obtain ⟨F, mn, ee⟩ := R
  rw [hR]
  have HR := Lib.hid hR
  clear hR
  simp only
  go_enter Tryz.func11, Tryz.ntmps11
  go_wp2_with fail
  refine (openForH_any _ _ s n hn l w _ (by first | (with_reducible exact Ext.refl _) | (with_reducible assumption) | (show Below _ _ _; go_grown; done)) hs0 (hl.ext (by first | (with_reducible exact Ext.refl _) | (with_reducible assumption) | (show Below _ _ _; go_grown; done)))).mono ?_
  rintro e w1 ⟨uu, rfl, ⟨nm, pa, pn, pc, rfl, h1⟩, hx1⟩
  have x1 : Ext w w1 := Ext.trans (by first | (with_reducible exact Ext.refl _) | (with_reducible assumption) | (show Below _ _ _; go_grown; done)) hx1
  obtain ⟨er, herr⟩ : ∃ er, openForErrM s n l = er := ⟨_, rfl⟩
  rw [herr] at h1 ⊢
  clear hx1
  by_cases h0 : er = 0
  · subst h0
    obtain ⟨ho, hL⟩ := openFor_ok herr
    obtain ⟨i, hi, rfl, hF⟩ := h1 rfl
    have hV : ValidForm s.forms[i] := (openErr_ok ho).1.forms _ (List.getElem_mem hi)
    obtain ⟨h15, hwd⟩ := lettErr_ok hL
    have hm : fillRes s i l = if (formWays s.forms[i].parts l).length = 0 then ⟨[], 0, 9⟩ else ⟨fillsM s.forms[i].parts (firstWayM s.forms[i].parts l) l, (formWays s.forms[i].parts l).length, 0⟩ := by
      unfold fillRes
      rw [if_neg (by rw [herr]; simp)]
      simp [hi]
    have Hm := Lib.hid (HR.out.symm.trans hm)
    clear herr hm h1 HR
    generalize s.forms[i] = f at *
    have hfw := fun w' (hx : Ext w w') => firstWay_any (.agg #[.string nm, .slice pa pn pc]) (.slice la l.length lc) f l hV h15 w' (hx.form hF) (hl.ext hx)
    have hfi := fun w' (hx : Ext w w') hc => fills_any (.agg #[.string nm, .slice pa pn pc]) (.slice la l.length lc) f l (firstWayM f.parts l) hV h15 hc w' (hx.form hF) (hl.ext hx)
    have hff := fun h => firstWay_fits (ps := f.parts) (l := l) h
    have hlen := formWays_len hV.parts hV.n l
    generalize (formWays f.parts l).length = N at *
    generalize fillsM f.parts (firstWayM f.parts l) l = fl at *
    generalize firstWayM f.parts l = fw at *
    unfold countsV at hfw hfi
    go_wp2_with fail
    refine (hfw _ (x1.alloc _)).mono ?_
    rintro e w2 ⟨rfl, hx2⟩
    have x2 : Ext w w2 := Ext.trans (x1.alloc _) hx2
    have q0 : w2.cell? ⟨w1.heap.size, 0, none⟩ = some (.string nm) := hx2.cell (by simp [go_sem])
    have q1 : w2.cell? ⟨w1.heap.size, 1, none⟩ = some (.slice pa pn pc) := hx2.cell (by simp [go_sem])
    have zq := cell_lt q0
    clear hx2 hfw
    by_cases hz : N = 0
    · subst hz
      have hm2 := Hm.out
      rw [if_pos rfl] at hm2
      obtain ⟨rfl, rfl, rfl⟩ := FillR.mk.inj hm2
      clear hff hfi Hm hm2
      go_wp2_with fail
      go_ret3
      exact ⟨_, rfl, SliceAt.nil, x2.alloc _⟩
    · have hzb : ((N : Int) == 0) = false := by simpa using hz
      have hfi2 := fun w' hx => hfi w' hx (hff hz)
      have hm2 := Hm.out
      rw [if_neg hz] at hm2
      obtain ⟨rfl, rfl, rfl⟩ := FillR.mk.inj hm2
      clear hff hfi hz Hm hm2
      go_wp2_with fail
      refine (hfi2 _ (x2.alloc _)).mono ?_
      rintro e w3 ⟨u, rfl, hfl, hx3⟩
      go_wp2
      go_ret3
      exact ⟨u, rfl, hfl, (x2.alloc _).trans hx3⟩
  · have h0' : (er != 0) = true := by simpa using h0
    have hm : fillRes s n l = ⟨[], 0, er⟩ := by unfold fillRes; rw [if_pos (by rw [herr]; exact h0), herr]
    obtain ⟨rfl, rfl, rfl⟩ := FillR.mk.inj (HR.out.symm.trans hm)
    clear h0 h1 hm herr HR
    go_wp2_with fail
    go_ret3
    exact ⟨_, rfl, SliceAt.nil, x1.alloc _⟩
end Go.Proofs.YtcamegaimleomaaGreat
