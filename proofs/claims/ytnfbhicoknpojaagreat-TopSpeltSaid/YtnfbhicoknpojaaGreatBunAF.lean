/-
  THE ITERATOR OF THE WAYS IN WHICH A LETTER IS OF A FORM: its inner function, which divides what is left of the letter among the parts that are left.
  THE ITERATOR OF THE WAYS IN WHICH A LETTER IS OF A FORM, whole: what ways returns, and what that yields.
  THE FIRST OF SOME COUNTS: best of the program, for whatever iterator that yields a list of counts.
  THE FIRST WAY IN WHICH A LETTER IS OF A FORM, and how many there are: firstWay of the program.
  THE FORMS THAT A LETTER IS OF: Of of the program.
-/
import Derived.Test.YtnfbhicoknpojaaGreatBunAE
import Derived.RangeFuncCalls
import Derived.Shelf.RegionOpen
import Derived.OwnWalkIn
import Derived.Test.YtnfbhicoknpojaaGreatBunAC
namespace Go.Proofs.YtnfbhicoknpojaaGreat
set_option linter.unusedSimpArgs false
set_option linter.unusedVariables false
open Go.RowKit
set_option linter.unusedVariables false

def divideF (fb yb gb : Nat) : Value := .func (.func 143) #[] #[.pointer (some ⟨fb, 0, none⟩), .pointer (some ⟨yb, 0, none⟩), .pointer (some ⟨gb, 0, none⟩)]
/-- the captured variables of the inner function -/
structure CapW (W : World) (l fb yb gb : Nat) (pv : Value) : Prop where
  parts : W.cell? ⟨fb, 1, none⟩ = some pv
  yield : W.cell? ⟨yb, 0, none⟩ = some (.func (.yield l) #[] #[])
  give : W.cell? ⟨gb, 0, none⟩ = some (divideF fb yb gb)
theorem CapW.kept {lo hi : Nat} {W W' : World} {l fb yb gb : Nat} {pv : Value} (h : CapW W l fb yb gb pv) (hx : KeptO lo hi W W') (h1 : fb < lo) (h2 : hi ≤ yb) (h3 : hi ≤ gb) : CapW W' l fb yb gb pv :=
  ⟨hx.cell (.inl h1) h.parts, hx.cell (.inr h2) h.yield, hx.cell (.inr h3) h.give⟩
def DivPost (lo hi : Nat) (J : List (Nat → Int) → World → Prop) (all : List (Nat → Int)) (W : World) (e : Ending) (W' : World) : Prop := e = .returned (.bool true) ∧ J all W' ∧ KeptO lo hi W W'

set_option maxRecDepth 100000 in
set_option maxHeartbeats 4000000 in
theorem divide_end (m l fb yb gb lo hi B0 : Nat) (pv : Value) (ps : List Part) (Wd : World) (hWd : Wd.heap.size ≤ lo) (hP : PartsAt Wd pv ps) (all : List (Nat → Int)) (J : List (Nat → Int) → World → Prop)
    (hJ : ∀ s A B, Below B0 A B → J s A → J s B) (hlo : fb < lo) (hy0 : hi ≤ yb) (hg0 : hi ≤ gb) (h5 : ps.length ≤ 5)
    (hY : ∀ pre x W1, J pre W1 → pre ++ [x] <+: all → YieldAt Fence.wide m Tryz.prog l #[countsV x] W1 fun e W' => e = .returned (.bool true) ∧ J (pre ++ [x]) W' ∧ KeptO lo hi W1 W')
    (left : List ByteArray) (lv : Value) (c : Nat → Int) (pre : List (Nat → Int)) (W : World) (hl : StrsAt Wd lv left) (hB : B0 ≤ W.heap.size) (hK : KeptO lo hi Wd W) (hC : CapW W l fb yb gb pv) (hp : J pre W) (hall : pre ++ (if left.length = 0 then [c] else []) <+: all) :
    Calls Tryz.prog 143 #[.int .i64 ps.length, lv, countsV c, .pointer (some ⟨fb, 0, none⟩), .pointer (some ⟨yb, 0, none⟩), .pointer (some ⟨gb, 0, none⟩)] W (DivPost lo hi J (pre ++ (if left.length = 0 then [c] else [])) W) := by
  obtain ⟨a, cap, rfl, hlc, hcm⟩ := hP.shape
  obtain ⟨la, lcap, rfl, hllc, hlcm⟩ := hl.shape
  obtain ⟨cp, cy, cg⟩ := hC
  have z1 := cell_lt cp
  have z2 := cell_lt cy
  unfold countsV at *
  by_cases h0 : left.length = 0
  · rw [if_pos h0] at hall ⊢
    have xb : Ext W (W.alloc (.cells #[.int .i64 (c 0), .int .i64 (c 1), .int .i64 (c 2), .int .i64 (c 3), .int .i64 (c 4)] 146)) := ext_alloc _ _
    obtain ⟨fn, tmps, assign, body, hy, hR⟩ := hY pre c _ (hJ _ _ _ (xb.below.mono hB) hp) hall
    have k0 : ¬ (0 : Int) < (left.length : Int) := by omega
    clear hY hJ hall
    go_enter Tryz.func143, Tryz.ntmps143
    go_wp2_with fail
    go_step3
    refine (wpIn_wide (n := m + 1)).1 ?_
    gi_wp2
    refine hR.mono ?_
    rintro e W3 ⟨rfl, hJ3, hk3⟩
    gi_wp2
    go_ret
    exact ⟨rfl, hJ3, (xb.kept lo hi).trans hk3⟩
  · rw [if_neg h0, List.append_nil]
    have k0 : (0 : Int) < (left.length : Int) := by omega
    have hpj := hJ pre W (W.alloc (.cells #[.int .i64 (c 0), .int .i64 (c 1), .int .i64 (c 2), .int .i64 (c 3), .int .i64 (c 4)] 146)) ((ext_alloc _ _).below.mono hB) hp
    clear hY hJ hall
    go_enter Tryz.func143, Tryz.ntmps143
    go_wp2
    go_step3
    go_wp2
    go_ret
    exact ⟨rfl, hpj, (ext_alloc _ _).kept lo hi⟩

theorem sizeOk_many {sl : List Slot} {left : List ByteArray} {n : Nat} (h : left.length < n) : sizeOk sl left n = false := by
  unfold sizeOk
  rw [decide_eq_false (by omega)]; rfl
theorem sizeOk_shut {sl : List Slot} {left : List ByteArray} {n : Nat} (h : n < sl.length) (hf : (sl.getD n noSlot).free = false) : sizeOk sl left n = false := by
  unfold sizeOk
  rw [decide_eq_false (p := sl.length ≤ n) (by omega), hf]; simp
theorem sizeOk_not {sl : List Slot} {left : List ByteArray} {n i : Nat} (h : i < n) (ht : takesM (sl.getD i noSlot) (left.getD i ByteArray.empty) = false) : sizeOk sl left n = false := by
  unfold sizeOk
  rw [Bool.and_eq_false_iff]; right
  rw [List.all_eq_false]
  exact ⟨i, List.mem_range.2 h, by simpa using ht⟩
theorem sizeOk_yes {sl : List Slot} {left : List ByteArray} {n : Nat} (h : n ≤ left.length) (hf : n < sl.length → (sl.getD n noSlot).free = true) (ht : ∀ i, i < n → takesM (sl.getD i noSlot) (left.getD i ByteArray.empty) = true) : sizeOk sl left n = true := by
  unfold sizeOk
  rw [decide_eq_true h, Bool.true_and, Bool.and_eq_true, Bool.or_eq_true, List.all_eq_true]
  refine ⟨?_, fun i hi => ht i (List.mem_range.1 hi)⟩
  by_cases e : n < sl.length
  · exact .inr (hf e)
  · exact .inl (decide_eq_true (by omega))
/-- the counts of a call's own -/
def CellsC (w : World) (b : Nat) (c : Nat → Int) : Prop := ∀ j, j < 5 → w.cell? ⟨b, j, none⟩ = some (.int .i64 (c j))
theorem CellsC.kept {lo hi : Nat} {w w' : World} {b : Nat} {c : Nat → Int} (h : CellsC w b c) (hx : KeptO lo hi w w') (hb : hi ≤ b) : CellsC w' b c := fun j hj => hx.cell (.inr hb) (h j hj)
theorem CellsC.set {w : World} {b : Nat} {c : Nat → Int} (h : CellsC w b c) {k : Nat} (hk : k < 5) (v : Int) : CellsC (w.setCell ⟨b, k, none⟩ (.int .i64 v)) b (updC c k v) := by
  intro j hj
  have hb := cell_lt (h k hk)
  by_cases e : j = k
  · subst e
    simp only [updC, if_true]
    exact World.cell?_setCell_same _ _ _ (h j hj)
  · simp only [updC, if_neg e]
    exact (World.cell?_setCell_other _ _ _ _ (fun h => e (Addr.mk.inj h).2.1.symm)).trans (h j hj)
theorem updC_self (c : Nat → Int) (k : Nat) : updC c k (c k) = c := by
  funext j
  unfold updC
  split
  · rename_i h; rw [h]
  · rfl
theorem updC_twice (c : Nat → Int) (k : Nat) (x y : Int) : updC (updC c k x) k y = updC c k y := by
  funext j
  unfold updC
  split <;> rfl
set_option maxRecDepth 100000 in
set_option maxHeartbeats 8000000 in
theorem divide_step (m l fb yb gb lo hi B0 : Nat) (pv : Value) (ps : List Part) (Wd : World) (hWd : Wd.heap.size ≤ lo) (hlh : lo ≤ hi) (hhB : hi ≤ B0) (hP : PartsAt Wd pv ps) (all : List (Nat → Int)) (J : List (Nat → Int) → World → Prop)
    (hJ : ∀ s A B, Below B0 A B → J s A → J s B) (hlo : fb < lo) (hy0 : hi ≤ yb) (hg0 : hi ≤ gb) (h5 : ps.length ≤ 5)
    (at_ : Nat) (hat : at_ < ps.length) (hV : ValidPart ps[at_]) (rest : List (List Slot)) (left : List ByteArray) (h15 : left.length ≤ 15) (lv : Value) (c : Nat → Int) (pre : List (Nat → Int)) (W : World) (hl : StrsAt Wd lv left) (hB : B0 ≤ W.heap.size) (hK : KeptO lo hi Wd W) (hC : CapW W l fb yb gb pv) (hp : J pre W)
    (hall : pre ++ waysF (partSlotsM ps[at_] :: rest) at_ left c <+: all)
    (hih : ∀ (n : Nat) (lv' : Value) (pre : List (Nat → Int)) (w : World), n ≤ left.length → StrsAt Wd lv' (left.drop n) → B0 ≤ w.heap.size → KeptO lo hi Wd w → CapW w l fb yb gb pv → J pre w → pre ++ waysF rest (at_ + 1) (left.drop n) (updC c at_ n) <+: all →
      Calls Tryz.prog 143 #[.int .i64 ((at_ : Int) + 1), lv', countsV (updC c at_ n), .pointer (some ⟨fb, 0, none⟩), .pointer (some ⟨yb, 0, none⟩), .pointer (some ⟨gb, 0, none⟩)] w (DivPost lo hi J (pre ++ waysF rest (at_ + 1) (left.drop n) (updC c at_ n)) w)) :
    Calls Tryz.prog 143 #[.int .i64 at_, lv, countsV c, .pointer (some ⟨fb, 0, none⟩), .pointer (some ⟨yb, 0, none⟩), .pointer (some ⟨gb, 0, none⟩)] W (DivPost lo hi J (pre ++ waysF (partSlotsM ps[at_] :: rest) at_ left c) W) := by
  have hPl := hP.lies (hK.lies hWd)
  obtain ⟨a, cap, rfl, hlc, hcm⟩ := hP.shape
  obtain ⟨la, lcap, rfl, hllc, hlcm⟩ := hl.shape
  have hC0 := hC
  obtain ⟨cp, cy, cg⟩ := hC
  have z1 := cell_lt cp
  obtain ⟨pb, po, rfl, ⟨u, h1, hs⟩, h2, h3', hplo, hphi⟩ := hPl.get hat
  have z4 := cell_lt h1
  generalize ps[at_] = y at *
  obtain ⟨ua, uc, rfl, -⟩ := hs.shape
  have k1 : (at_ : Int) < (ps.length : Int) := by omega
  have k2 : ((at_ : Int) == (ps.length : Int)) = false := by simp; omega
  have wat : IntKind.i64.wrap ((at_ : Int) + 1) = (at_ : Int) + 1 := IntWalk.i64_in _ (by omega)
  obtain ⟨W1, hW1⟩ : ∃ W1, W1 = W.alloc (.cells #[.int .i64 (c 0), .int .i64 (c 1), .int .i64 (c 2), .int .i64 (c 3), .int .i64 (c 4)] 146) := ⟨_, rfl⟩
  have x1 : Ext W W1 := by rw [hW1]; exact ext_alloc _ _
  have hcc : CellsC W1 W.heap.size c := by
    subst hW1
    exact cells_five (by simp [go_sem]) (by simp [go_sem]) (by simp [go_sem]) (by simp [go_sem]) (by simp [go_sem])
  have hfr : W1.frozen? ⟨W.heap.size, at_, none⟩ = false := by subst hW1; simp [go_sem]
  have z3 : W.heap.size < W1.heap.size := cell_lt (hcc 0 (by omega))
  have hsl := partSlots_len hV
  have hps := fun w h => partSlots_any (.agg #[.slice ua y.words.length uc, .int .i64 y.lo, .int .i64 y.hi]) y hV.n (by
        by_cases hw : y.words = []
        · exact (hV.r hw).2.2.2
        · rw [(hV.z hw).2]; decide) w h
  have hpv : PartV W1 (.agg #[.slice ua y.words.length uc, .int .i64 y.lo, .int .i64 y.hi]) y := ⟨_, rfl, hs.ext x1, hplo, hphi⟩
  have hdef : waysF (partSlotsM y :: rest) at_ left c = waysTo (fun n => waysF rest (at_ + 1) (left.drop n) (updC c at_ n)) (partSlotsM y) left ((partSlotsM y).length + 1) := rfl
  rw [hdef] at hall ⊢
  generalize partSlotsM y = sl at *
  obtain ⟨step, hstep⟩ : ∃ step : Nat → List (Nat → Int), step = fun n => waysF rest (at_ + 1) (left.drop n) (updC c at_ n) := ⟨_, rfl⟩
  have Hstep := Lib.hid hstep
  rw [← hstep] at hall ⊢
  have hihs : ∀ (n : Nat) (lv' : Value) (pre : List (Nat → Int)) (w : World), n ≤ left.length → StrsAt Wd lv' (left.drop n) → B0 ≤ w.heap.size → KeptO lo hi Wd w → CapW w l fb yb gb (.slice (some ⟨pb, po, none⟩) ps.length cap) → J pre w → pre ++ step n <+: all →
      Calls Tryz.prog 143 #[.int .i64 ((at_ : Int) + 1), lv', countsV (updC c at_ n), .pointer (some ⟨fb, 0, none⟩), .pointer (some ⟨yb, 0, none⟩), .pointer (some ⟨gb, 0, none⟩)] w (DivPost lo hi J (pre ++ step n) w) := by
    rw [hstep]; exact hih
  clear hih hstep hdef hV hs
  have HW := Lib.hid hW1
  have Hall := Lib.hid hall
  clear hW1 hall
  unfold countsV at *
  go_enter Tryz.func143, Tryz.ntmps143
  go_wp2_with fail
  go_step3
  go_wp2_with fail
  rw [← HW.out]
  refine (hps _ hpv).mono ?_
  rintro e w1 ⟨sv, rfl, hsv, hx1⟩
  obtain ⟨g, gc, rfl, hgc, hgb, hgcell⟩ := rowS_lie hsv hsl.1
  have xk : Ext W w1 := x1.trans hx1
  replace hcc : CellsC w1 W.heap.size c := fun j hj => hx1.cell (hcc j hj)
  replace hfr : w1.frozen? ⟨W.heap.size, at_, none⟩ = false := by rw [hx1.frozen z3]; exact hfr
  have hC1 := hC0.kept (xk.kept lo hi) hlo hy0 hg0
  have hp1 := hJ pre W w1 (xk.below.mono hB) hp
  have hB1 : B0 ≤ w1.heap.size := Nat.le_trans hB xk.size
  have hK1 := hK.trans (xk.kept lo hi)
  have hcb : hi ≤ W.heap.size := Nat.le_trans hhB hB
  have hK0 := hK.size
  have hB0 := hB
  have hCset : ∀ w', KeptO lo hi W w' → CapW w' l fb yb gb (.slice (some ⟨pb, po, none⟩) ps.length cap) := fun w' h => hC0.kept h hlo hy0 hg0
  have HCs := Lib.hid hCset
  clear hCset
  have hgb2 : hi ≤ g := by have := x1.size; omega
  have zg : g < w1.heap.size := cell_lt (hgcell 0 hsl.1).1
  clear hsv hx1 x1 hpv hps hC0 hK hp cp cy cg h1 h2 h3'
  go_wp2
  go_step3
  go_wp2
  go_loopw [39] (fun i wr => ∃ k : Nat, k ≤ sl.length + 1 ∧ i = .int .i64 k ∧ KeptO lo hi W wr ∧ B0 ≤ wr.heap.size ∧ KeptO lo hi Wd wr ∧ CapW wr l fb yb gb (.slice (some ⟨pb, po, none⟩) ps.length cap) ∧
    (∃ x, CellsC wr W.heap.size (updC c at_ x)) ∧ wr.frozen? ⟨W.heap.size, at_, none⟩ = false ∧ (∀ i, i < sl.length → wr.cell? ⟨g, i * 2, none⟩ = some (.string (sl.getD i noSlot).word) ∧ wr.cell? ⟨g, i * 2 + 1, none⟩ = some (.bool (sl.getD i noSlot).free)) ∧ J (pre ++ waysTo step sl left k) wr) (fun i _ => sl.length + 1 - (intOf i).toNat)
  case atStart => exact ⟨0, Nat.zero_le _, rfl, xk.kept lo hi, hB1, hK1, hC1, ⟨c at_, by rw [updC_self]; exact hcc⟩, hfr, hgcell, by rw [waysTo, List.append_nil]; exact hp1⟩
  case round =>
    obtain ⟨k, hk, rfl, hxr, hBr, hKr, hCr, ⟨x0, hcr⟩, hfr', hgr, hjr⟩ := hrel
    have Hgr := Lib.hid hgr
    clear hgr
    have zw := hxr.size
    have z5 : W.heap.size < wr.heap.size := cell_lt (hcr 0 (by omega))
    have z6 := hCr.parts
    have wk : IntKind.i64.wrap ((k : Int) + 1) = (k : Int) + 1 := IntWalk.i64_in _ (by omega)
    by_cases hk1 : k < sl.length + 1
    · have kk : (k : Int) < (sl.length : Int) + 1 := by omega
      by_cases hm : left.length < k
      · have hst := waysTo_miss step sl left k (sizeOk_many hm)
        have km : (left.length : Int) < (k : Int) := by omega
        have Hst := Lib.hid hst
        clear hst
        go_wp2
        go_roundw
        case rel => exact ⟨k + 1, by omega, by go_num, hxr, hBr, hKr, hCr, ⟨x0, hcr⟩, hfr', Hgr.out, by rw [Hst.out]; exact hjr⟩
        case measure => simp [intOf]; omega
      · have km : ¬ (left.length : Int) < (k : Int) := by omega
        obtain ⟨free, hfree⟩ : ∃ free : Bool, (sl.getD k noSlot).free = free := ⟨_, rfl⟩
        have hfcell : k < sl.length → wr.cell? ⟨g, k * 2 + 1, none⟩ = some (.bool free) := fun h => by rw [← hfree]; exact (Hgr.out k h).2
        by_cases hks : k < sl.length
        · have ks : (k : Int) < (sl.length : Int) := by omega
          replace hfcell := hfcell hks
          cases free
          · have hst := waysTo_miss step sl left k (sizeOk_shut hks hfree)
            have Hst := Lib.hid hst
            clear hst hfree
            go_wp2
            go_roundw
            case rel => exact ⟨k + 1, by omega, by go_num, hxr, hBr, hKr, hCr, ⟨x0, hcr⟩, hfr', Hgr.out, by rw [Hst.out]; exact hjr⟩
            case measure => simp [intOf]; omega
          · have Hfree : Hid (k < sl.length → (sl.getD k noSlot).free = true) := Lib.hid fun _ => hfree
            clear hfree
            go_wp2
            have hkl : k ≤ left.length := by omega
            have hksl : k ≤ sl.length := by omega
            have HL := Lib.hid (hl.lies (hKr.lies hWd))
            obtain ⟨wo, hwo⟩ : ∃ wo : World, wo = wr := ⟨_, rfl⟩
            subst hwo
            go_loopw [61] (fun i wq => ∃ j : Nat, j ≤ k ∧ i = .int .i64 j ∧ (∀ i, i < j → takesM (sl.getD i noSlot) (left.getD i ByteArray.empty) = true) ∧ Ext wo wq) (fun i _ => k - (intOf i).toNat)
            case atStart => exact ⟨0, Nat.zero_le _, rfl, fun i hi => absurd hi (Nat.not_lt_zero _), Ext.refl _⟩
            case round =>
              obtain ⟨j, hj, rfl, hta, hxq⟩ := hrel
              have Hta := Lib.hid hta
              clear hta
              by_cases hjk : j < k
              · have jk : (j : Int) < (k : Int) := by omega
                have js : (j : Int) < (sl.length : Int) := by omega
                have jl : (j : Int) < (left.length : Int) := by omega
                obtain ⟨lb, lo', rfl, hlw, -⟩ := HL.out.get (i := j) (by omega)
                rw [Nat.mul_one] at hlw
                have hlg : left.getD j ByteArray.empty = left[j] := by rw [List.getD_eq_getElem?_getD, List.getElem?_eq_getElem (by omega)]; rfl
                rw [← hlg] at hlw
                clear hlg
                obtain ⟨gw, gf⟩ := Hgr.out j (by omega)
                replace hlw := hxq.cell hlw
                replace gw := hxq.cell gw
                replace gf := hxq.cell gf
                have htk := fun w => takes_any (sl.getD j noSlot) (left.getD j ByteArray.empty) w
                have Hno := Lib.hid (fun h => sizeOk_not (sl := sl) (left := left) hjk h)
                have Hyes := Lib.hid (fun (h : takesM (sl.getD j noSlot) (left.getD j ByteArray.empty) = true) => h)
                unfold slotV at htk
                obtain ⟨s, hsd⟩ : ∃ s, sl.getD j noSlot = s := ⟨_, rfl⟩
                obtain ⟨x, hxd⟩ : ∃ x, left.getD j ByteArray.empty = x := ⟨_, rfl⟩
                rw [hsd, hxd] at htk Hno Hyes
                rw [hsd] at gw gf
                rw [hxd] at hlw
                have Hsx := Lib.hid (And.intro hsd hxd)
                clear hsd hxd
                go_wp2_with fail
                refine (htk _).mono ?_
                rintro e w2 ⟨rfl, hx2⟩
                have hx3 := hxq.trans hx2
                cases ht : takesM s x
                · have hst := waysTo_miss step sl left k (Hno.out ht)
                  have Hst := Lib.hid hst
                  have hjr3 := hJ _ _ _ (hx3.below.mono hBr) hjr
                  have x3k := hx3.kept lo hi
                  have hfr3 : w2.frozen? ⟨W.heap.size, at_, none⟩ = false := by rw [hx3.frozen z5]; exact hfr'
                  clear hst ht htk
                  go_wp2
                  go_roundw
                  case rel => exact ⟨k + 1, by omega, by go_num, hxr.trans x3k, Nat.le_trans hBr hx3.size, hKr.trans x3k, hCr.kept x3k hlo hy0 hg0, ⟨x0, hcr.kept x3k hcb⟩, hfr3, fun i hi => ⟨hx3.cell (Hgr.out i hi).1, hx3.cell (Hgr.out i hi).2⟩, by rw [Hst.out]; exact hjr3⟩
                  case measure => simp [intOf]; omega
                · have Ht := Lib.hid (Hyes.out ht)
                  clear ht htk
                  go_wp2
                  go_roundw
                  case rel => exact ⟨j + 1, by omega, by go_num, fun i hi => by
                    rcases Nat.lt_or_ge i j with h | h
                    · exact Hta.out i h
                    · obtain rfl : i = j := by omega
                      rw [Hsx.out.1, Hsx.out.2]; exact Ht.out, hx3⟩
                  case measure => simp [intOf]; omega
              · have hje : j = k := by omega
                subst hje
                have hst := waysTo_hit step sl left j (sizeOk_yes hkl Hfree.out Hta.out)
                have Hst := Lib.hid hst
                have hmono := waysTo_mono step sl left (k := j + 1) (m := sl.length + 1) (by omega)
                have Hmono := Lib.hid hmono
                clear hst hmono
                have hjq := hJ _ _ _ (hxq.below.mono hBr) hjr
                have xqk := hxq.kept lo hi
                have zq := hxq.size
                have hcq := hcr.kept xqk hcb
                have hcs := hcq.set (k := at_) (by omega) (j : Int)
                rw [updC_twice] at hcs
                have hck := hcq at_ (by omega)
                have zcq := cell_lt hck
                have hfq : wr.frozen? ⟨W.heap.size, at_, none⟩ = false := by rw [hxq.frozen z5]; exact hfr'
                have hCq := hCr.kept xqk hlo hy0 hg0
                have hKs : KeptO lo hi W (wr.setCell ⟨W.heap.size, at_, none⟩ (.int .i64 j)) := (hxr.trans xqk).setNew (Nat.le_refl _) _
                have hKd : KeptO lo hi Wd (wr.setCell ⟨W.heap.size, at_, none⟩ (.int .i64 j)) := (hKr.trans xqk).setNew (by have := hK0; omega) _
                have hjs : J (pre ++ waysTo step sl left j) (wr.setCell ⟨W.heap.size, at_, none⟩ (.int .i64 j)) := hJ _ _ _ ((Below.refl _ _).setCell (p := ⟨W.heap.size, at_, none⟩) hB0 _) hjq
                have hfs : (wr.setCell ⟨W.heap.size, at_, none⟩ (.int .i64 j)).frozen? ⟨W.heap.size, at_, none⟩ = false := by simpa [go_sem] using hfq
                have hCs : CapW (wr.setCell ⟨W.heap.size, at_, none⟩ (.int .i64 j)) l fb yb gb (.slice (some ⟨pb, po, none⟩) ps.length cap) := HCs.out _ hKs
                have hgs : ∀ i, i < sl.length → (wr.setCell ⟨W.heap.size, at_, none⟩ (.int .i64 j)).cell? ⟨g, i * 2, none⟩ = some (.string (sl.getD i noSlot).word) ∧ (wr.setCell ⟨W.heap.size, at_, none⟩ (.int .i64 j)).cell? ⟨g, i * 2 + 1, none⟩ = some (.bool (sl.getD i noSlot).free) := fun i hi => by
                  have he := Below.heap_setCell wr ⟨W.heap.size, at_, none⟩ (.int .i64 j) g (show g ≠ W.heap.size by omega)
                  exact ⟨(World.cell?_of_block (w := wr) he).trans (hxq.cell (Hgr.out i hi).1), (World.cell?_of_block (w := wr) he).trans (hxq.cell (Hgr.out i hi).2)⟩
                have hzs : (wr.setCell ⟨W.heap.size, at_, none⟩ (.int .i64 j)).heap.size = wr.heap.size := by simp [World.setCell]
                have hpre : (pre ++ waysTo step sl left j) ++ step j <+: all := by
                  have h1 := Hmono.out
                  rw [Hst.out] at h1
                  rw [List.append_assoc]
                  exact ((List.prefix_append_right_inj pre).2 h1).trans Hall.out
                have hslc := hl.sliced j hkl
                have Hgs := Lib.hid hgs
                have Hpre := Lib.hid hpre
                have Hslc := Lib.hid hslc
                have HG := Lib.hid Hgr.out
                have jl : (j : Int) ≤ (left.length : Int) := by omega
                have wk1 : IntKind.i64.wrap ((j : Int) + 1) = (j : Int) + 1 := IntWalk.i64_in _ (by omega)
                clear hgs hpre hslc Hgr hjq hcq
                go_wp2_with fail
                generalize wr.setCell ⟨W.heap.size, at_, none⟩ (.int .i64 j) = Ws at *
                obtain ⟨cc, hccd⟩ : ∃ cc, updC c at_ (j : Int) = cc := ⟨_, rfl⟩
                rw [hccd] at hcs
                have d0 := hcs 0 (by omega)
                have d1 := hcs 1 (by omega)
                have d2 := hcs 2 (by omega)
                have d3 := hcs 3 (by omega)
                have d4 := hcs 4 (by omega)
                have dg := hCs.give
                unfold divideF at dg
                have hBs : B0 ≤ Ws.heap.size := by omega
                have hiv := fun (lv' : Value) (w : World) h1 h2 h3 h4 h5 => hihs j lv' (pre ++ waysTo step sl left j) w hkl h1 h2 h3 h4 h5 Hpre.out
                rw [hccd] at hiv
                rw [List.append_assoc, ← Hst.out] at hiv
                obtain ⟨G, hGi, hGo, hGk⟩ : ∃ G : World → Prop, (∀ w, J (pre ++ waysTo step sl left (j + 1)) w → KeptO lo hi Ws w → G w) ∧ (∀ w, G w → J (pre ++ waysTo step sl left (j + 1)) w ∧ KeptO lo hi Ws w) ∧ ∀ A B, Ext A B → G A → G B :=
                  ⟨fun w => J (pre ++ waysTo step sl left (j + 1)) w ∧ KeptO lo hi Ws w, fun _ h1 h2 => ⟨h1, h2⟩, fun _ h => h, fun _ _ hx h => ⟨hJ _ _ _ (hx.below.mono (Nat.le_trans hBs h.2.size)) h.1, h.2.trans (hx.kept lo hi)⟩⟩
                apply Facts.Piv.wp_region two_free 7 [.val _, .val _, .val _, .val _, .val _, .val _, .val _, .fact (Came G (.bool true)), .fact (Came G (.bool false))] (by kernel_rfl) (by kernel_rfl) (by kernel_rfl) ?keep ?main
                case keep =>
                  exact ⟨Came.keeps hGk, fun h => absurd h (Bool.eq_false_iff.1 (by kernel_rfl)), Came.keeps hGk, fun h => absurd h (Bool.eq_false_iff.1 (by kernel_rfl)), trivial⟩
                case main =>
                  iterate 7 (refine ⟨fun w1 hE hx hh => ?_, ?_⟩; focus (clear hh hx; replace hE := hE (by kernel_rfl); (have e0 := hE.cell d0; have e1 := hE.cell d1; have e2 := hE.cell d2; have e3 := hE.cell d3; have e4 := hE.cell d4; have e5 := hE.cell dg); go_simp; first | exact ⟨Ext.refl _, rfl⟩ | exact Ext.refl _))
                  refine ⟨fun w1 hE hx hh => ?_, ?_⟩
                  · clear hh hx
                    replace hE := hE (by kernel_rfl)
                    go_simp
                    refine (hiv _ w1 ?_ (Nat.le_trans hBs hE.size) (hKd.trans (hE.kept lo hi)) (hCs.kept (hE.kept lo hi) hlo hy0 hg0) (hJ _ _ _ (hE.below.mono hBs) hjs)).mono ?_
                    · simpa using Hslc.out
                    rintro e w' ⟨rfl, hj2, hk2⟩
                    exact ⟨_, rfl, rfl, hGi _ hj2 ((hE.kept lo hi).trans hk2)⟩
                  intro u7
                  refine ⟨fun w1 hE hx hh => ?_, ?_⟩
                  · have h7 : Came G (.bool true) u7 w1 := hh 7 _ List.mem_cons_self (by kernel_rfl)
                    clear hh hE hx
                    have e := h7.1
                    subst e
                    have h8 := h7.2
                    clear h7
                    go_simp
                    first | exact ⟨Ext.refl _, rfl, h8⟩ | exact ⟨rfl, h8⟩
                  intro u8 w1 hx1 hh
                  have h8 : Came G (.bool false) u8 w1 := hh 8 _ List.mem_cons_self
                  clear hh hx1
                  have e := h8.1
                  subst e
                  obtain ⟨hj2, hk2⟩ := hGo _ h8.2
                  clear hGi hGo hGk h8 hiv
                  go_simp
                  go_wp2
                  go_roundw
                  case rel => exact ⟨j + 1, by omega, by go_num, hKs.trans hk2, Nat.le_trans hBs hk2.size, hKd.trans hk2, hCs.kept hk2 hlo hy0 hg0, ⟨j, by rw [hccd]; exact hcs.kept hk2 hcb⟩, by rw [hk2.frozen (.inr hcb) (hcs at_ (by omega))]; exact hfs, fun i hi => ⟨hk2.cell (.inr hgb2) (Hgs.out i hi).1, hk2.cell (.inr hgb2) (Hgs.out i hi).2⟩, hj2⟩
                  case measure => simp [intOf]; omega
        · have ks : ¬ (k : Int) < (sl.length : Int) := by omega
          have Hfree : Hid (k < sl.length → (sl.getD k noSlot).free = true) := Lib.hid fun h => absurd h hks
          clear hfcell hfree
          go_wp2
          have hkl : k ≤ left.length := by omega
          have hksl : k ≤ sl.length := by omega
          have HL := Lib.hid (hl.lies (hKr.lies hWd))
          obtain ⟨wo, hwo⟩ : ∃ wo : World, wo = wr := ⟨_, rfl⟩
          subst hwo
          go_loopw [61] (fun i wq => ∃ j : Nat, j ≤ k ∧ i = .int .i64 j ∧ (∀ i, i < j → takesM (sl.getD i noSlot) (left.getD i ByteArray.empty) = true) ∧ Ext wo wq) (fun i _ => k - (intOf i).toNat)
          case atStart => exact ⟨0, Nat.zero_le _, rfl, fun i hi => absurd hi (Nat.not_lt_zero _), Ext.refl _⟩
          case round =>
            obtain ⟨j, hj, rfl, hta, hxq⟩ := hrel
            have Hta := Lib.hid hta
            clear hta
            by_cases hjk : j < k
            · have jk : (j : Int) < (k : Int) := by omega
              have js : (j : Int) < (sl.length : Int) := by omega
              have jl : (j : Int) < (left.length : Int) := by omega
              obtain ⟨lb, lo', rfl, hlw, -⟩ := HL.out.get (i := j) (by omega)
              rw [Nat.mul_one] at hlw
              have hlg : left.getD j ByteArray.empty = left[j] := by rw [List.getD_eq_getElem?_getD, List.getElem?_eq_getElem (by omega)]; rfl
              rw [← hlg] at hlw
              clear hlg
              obtain ⟨gw, gf⟩ := Hgr.out j (by omega)
              replace hlw := hxq.cell hlw
              replace gw := hxq.cell gw
              replace gf := hxq.cell gf
              have htk := fun w => takes_any (sl.getD j noSlot) (left.getD j ByteArray.empty) w
              have Hno := Lib.hid (fun h => sizeOk_not (sl := sl) (left := left) hjk h)
              have Hyes := Lib.hid (fun (h : takesM (sl.getD j noSlot) (left.getD j ByteArray.empty) = true) => h)
              unfold slotV at htk
              obtain ⟨s, hsd⟩ : ∃ s, sl.getD j noSlot = s := ⟨_, rfl⟩
              obtain ⟨x, hxd⟩ : ∃ x, left.getD j ByteArray.empty = x := ⟨_, rfl⟩
              rw [hsd, hxd] at htk Hno Hyes
              rw [hsd] at gw gf
              rw [hxd] at hlw
              have Hsx := Lib.hid (And.intro hsd hxd)
              clear hsd hxd
              go_wp2_with fail
              refine (htk _).mono ?_
              rintro e w2 ⟨rfl, hx2⟩
              have hx3 := hxq.trans hx2
              cases ht : takesM s x
              · have hst := waysTo_miss step sl left k (Hno.out ht)
                have Hst := Lib.hid hst
                have hjr3 := hJ _ _ _ (hx3.below.mono hBr) hjr
                have x3k := hx3.kept lo hi
                have hfr3 : w2.frozen? ⟨W.heap.size, at_, none⟩ = false := by rw [hx3.frozen z5]; exact hfr'
                clear hst ht htk
                go_wp2
                go_roundw
                case rel => exact ⟨k + 1, by omega, by go_num, hxr.trans x3k, Nat.le_trans hBr hx3.size, hKr.trans x3k, hCr.kept x3k hlo hy0 hg0, ⟨x0, hcr.kept x3k hcb⟩, hfr3, fun i hi => ⟨hx3.cell (Hgr.out i hi).1, hx3.cell (Hgr.out i hi).2⟩, by rw [Hst.out]; exact hjr3⟩
                case measure => simp [intOf]; omega
              · have Ht := Lib.hid (Hyes.out ht)
                clear ht htk
                go_wp2
                go_roundw
                case rel => exact ⟨j + 1, by omega, by go_num, fun i hi => by
                  rcases Nat.lt_or_ge i j with h | h
                  · exact Hta.out i h
                  · obtain rfl : i = j := by omega
                    rw [Hsx.out.1, Hsx.out.2]; exact Ht.out, hx3⟩
                case measure => simp [intOf]; omega
            · have hje : j = k := by omega
              subst hje
              have hst := waysTo_hit step sl left j (sizeOk_yes hkl Hfree.out Hta.out)
              have Hst := Lib.hid hst
              have hmono := waysTo_mono step sl left (k := j + 1) (m := sl.length + 1) (by omega)
              have Hmono := Lib.hid hmono
              clear hst hmono
              have hjq := hJ _ _ _ (hxq.below.mono hBr) hjr
              have xqk := hxq.kept lo hi
              have zq := hxq.size
              have hcq := hcr.kept xqk hcb
              have hcs := hcq.set (k := at_) (by omega) (j : Int)
              rw [updC_twice] at hcs
              have hck := hcq at_ (by omega)
              have zcq := cell_lt hck
              have hfq : wr.frozen? ⟨W.heap.size, at_, none⟩ = false := by rw [hxq.frozen z5]; exact hfr'
              have hCq := hCr.kept xqk hlo hy0 hg0
              have hKs : KeptO lo hi W (wr.setCell ⟨W.heap.size, at_, none⟩ (.int .i64 j)) := (hxr.trans xqk).setNew (Nat.le_refl _) _
              have hKd : KeptO lo hi Wd (wr.setCell ⟨W.heap.size, at_, none⟩ (.int .i64 j)) := (hKr.trans xqk).setNew (by have := hK0; omega) _
              have hjs : J (pre ++ waysTo step sl left j) (wr.setCell ⟨W.heap.size, at_, none⟩ (.int .i64 j)) := hJ _ _ _ ((Below.refl _ _).setCell (p := ⟨W.heap.size, at_, none⟩) hB0 _) hjq
              have hfs : (wr.setCell ⟨W.heap.size, at_, none⟩ (.int .i64 j)).frozen? ⟨W.heap.size, at_, none⟩ = false := by simpa [go_sem] using hfq
              have hCs : CapW (wr.setCell ⟨W.heap.size, at_, none⟩ (.int .i64 j)) l fb yb gb (.slice (some ⟨pb, po, none⟩) ps.length cap) := HCs.out _ hKs
              have hgs : ∀ i, i < sl.length → (wr.setCell ⟨W.heap.size, at_, none⟩ (.int .i64 j)).cell? ⟨g, i * 2, none⟩ = some (.string (sl.getD i noSlot).word) ∧ (wr.setCell ⟨W.heap.size, at_, none⟩ (.int .i64 j)).cell? ⟨g, i * 2 + 1, none⟩ = some (.bool (sl.getD i noSlot).free) := fun i hi => by
                have he := Below.heap_setCell wr ⟨W.heap.size, at_, none⟩ (.int .i64 j) g (show g ≠ W.heap.size by omega)
                exact ⟨(World.cell?_of_block (w := wr) he).trans (hxq.cell (Hgr.out i hi).1), (World.cell?_of_block (w := wr) he).trans (hxq.cell (Hgr.out i hi).2)⟩
              have hzs : (wr.setCell ⟨W.heap.size, at_, none⟩ (.int .i64 j)).heap.size = wr.heap.size := by simp [World.setCell]
              have hpre : (pre ++ waysTo step sl left j) ++ step j <+: all := by
                have h1 := Hmono.out
                rw [Hst.out] at h1
                rw [List.append_assoc]
                exact ((List.prefix_append_right_inj pre).2 h1).trans Hall.out
              have hslc := hl.sliced j hkl
              have Hgs := Lib.hid hgs
              have Hpre := Lib.hid hpre
              have Hslc := Lib.hid hslc
              have HG := Lib.hid Hgr.out
              have jl : (j : Int) ≤ (left.length : Int) := by omega
              have wk1 : IntKind.i64.wrap ((j : Int) + 1) = (j : Int) + 1 := IntWalk.i64_in _ (by omega)
              clear hgs hpre hslc Hgr hjq hcq
              go_wp2_with fail
              generalize wr.setCell ⟨W.heap.size, at_, none⟩ (.int .i64 j) = Ws at *
              obtain ⟨cc, hccd⟩ : ∃ cc, updC c at_ (j : Int) = cc := ⟨_, rfl⟩
              rw [hccd] at hcs
              have d0 := hcs 0 (by omega)
              have d1 := hcs 1 (by omega)
              have d2 := hcs 2 (by omega)
              have d3 := hcs 3 (by omega)
              have d4 := hcs 4 (by omega)
              have dg := hCs.give
              unfold divideF at dg
              have hBs : B0 ≤ Ws.heap.size := by omega
              have hiv := fun (lv' : Value) (w : World) h1 h2 h3 h4 h5 => hihs j lv' (pre ++ waysTo step sl left j) w hkl h1 h2 h3 h4 h5 Hpre.out
              rw [hccd] at hiv
              rw [List.append_assoc, ← Hst.out] at hiv
              obtain ⟨G, hGi, hGo, hGk⟩ : ∃ G : World → Prop, (∀ w, J (pre ++ waysTo step sl left (j + 1)) w → KeptO lo hi Ws w → G w) ∧ (∀ w, G w → J (pre ++ waysTo step sl left (j + 1)) w ∧ KeptO lo hi Ws w) ∧ ∀ A B, Ext A B → G A → G B :=
                ⟨fun w => J (pre ++ waysTo step sl left (j + 1)) w ∧ KeptO lo hi Ws w, fun _ h1 h2 => ⟨h1, h2⟩, fun _ h => h, fun _ _ hx h => ⟨hJ _ _ _ (hx.below.mono (Nat.le_trans hBs h.2.size)) h.1, h.2.trans (hx.kept lo hi)⟩⟩
              apply Facts.Piv.wp_region two_free 7 [.val _, .val _, .val _, .val _, .val _, .val _, .val _, .fact (Came G (.bool true)), .fact (Came G (.bool false))] (by kernel_rfl) (by kernel_rfl) (by kernel_rfl) ?keep ?main
              case keep =>
                exact ⟨Came.keeps hGk, fun h => absurd h (Bool.eq_false_iff.1 (by kernel_rfl)), Came.keeps hGk, fun h => absurd h (Bool.eq_false_iff.1 (by kernel_rfl)), trivial⟩
              case main =>
                iterate 7 (refine ⟨fun w1 hE hx hh => ?_, ?_⟩; focus (clear hh hx; replace hE := hE (by kernel_rfl); (have e0 := hE.cell d0; have e1 := hE.cell d1; have e2 := hE.cell d2; have e3 := hE.cell d3; have e4 := hE.cell d4; have e5 := hE.cell dg); go_simp; first | exact ⟨Ext.refl _, rfl⟩ | exact Ext.refl _))
                refine ⟨fun w1 hE hx hh => ?_, ?_⟩
                · clear hh hx
                  replace hE := hE (by kernel_rfl)
                  go_simp
                  refine (hiv _ w1 ?_ (Nat.le_trans hBs hE.size) (hKd.trans (hE.kept lo hi)) (hCs.kept (hE.kept lo hi) hlo hy0 hg0) (hJ _ _ _ (hE.below.mono hBs) hjs)).mono ?_
                  · simpa using Hslc.out
                  rintro e w' ⟨rfl, hj2, hk2⟩
                  exact ⟨_, rfl, rfl, hGi _ hj2 ((hE.kept lo hi).trans hk2)⟩
                intro u7
                refine ⟨fun w1 hE hx hh => ?_, ?_⟩
                · have h7 : Came G (.bool true) u7 w1 := hh 7 _ List.mem_cons_self (by kernel_rfl)
                  clear hh hE hx
                  have e := h7.1
                  subst e
                  have h8 := h7.2
                  clear h7
                  go_simp
                  first | exact ⟨Ext.refl _, rfl, h8⟩ | exact ⟨rfl, h8⟩
                intro u8 w1 hx1 hh
                have h8 : Came G (.bool false) u8 w1 := hh 8 _ List.mem_cons_self
                clear hh hx1
                have e := h8.1
                subst e
                obtain ⟨hj2, hk2⟩ := hGo _ h8.2
                clear hGi hGo hGk h8 hiv
                go_simp
                go_wp2
                go_roundw
                case rel => exact ⟨j + 1, by omega, by go_num, hKs.trans hk2, Nat.le_trans hBs hk2.size, hKd.trans hk2, hCs.kept hk2 hlo hy0 hg0, ⟨j, by rw [hccd]; exact hcs.kept hk2 hcb⟩, by rw [hk2.frozen (.inr hcb) (hcs at_ (by omega))]; exact hfs, fun i hi => ⟨hk2.cell (.inr hgb2) (Hgs.out i hi).1, hk2.cell (.inr hgb2) (Hgs.out i hi).2⟩, hj2⟩
                case measure => simp [intOf]; omega
    · have hke : k = sl.length + 1 := by omega
      subst hke
      have kk : ¬ ((sl.length + 1 : Nat) : Int) < (sl.length : Int) + 1 := by omega
      go_wp2
      go_ret
      exact ⟨rfl, hjr, hxr⟩
end Go.Proofs.YtnfbhicoknpojaaGreat

namespace Go.Proofs.YtnfbhicoknpojaaGreat
set_option linter.unusedSimpArgs false
set_option linter.unusedVariables false
open Go.RowKit
set_option linter.unusedVariables false

theorem divide_any (m l fb yb gb lo hi B0 : Nat) (pv : Value) (ps : List Part) (Wd : World) (hWd : Wd.heap.size ≤ lo) (hlh : lo ≤ hi) (hhB : hi ≤ B0) (hP : PartsAt Wd pv ps) (hV : ∀ p ∈ ps, ValidPart p) (all : List (Nat → Int)) (J : List (Nat → Int) → World → Prop)
    (hJ : ∀ s A B, Below B0 A B → J s A → J s B) (hlo : fb < lo) (hy0 : hi ≤ yb) (hg0 : hi ≤ gb) (h5 : ps.length ≤ 5)
    (hY : ∀ pre x W1, J pre W1 → pre ++ [x] <+: all → YieldAt Fence.wide m Tryz.prog l #[countsV x] W1 fun e W' => e = .returned (.bool true) ∧ J (pre ++ [x]) W' ∧ KeptO lo hi W1 W') :
    ∀ (rem at_ : Nat) (left : List ByteArray) (lv : Value) (c : Nat → Int) (pre : List (Nat → Int)) (W : World), at_ + rem = ps.length → left.length ≤ 15 → StrsAt Wd lv left → B0 ≤ W.heap.size → KeptO lo hi Wd W → CapW W l fb yb gb pv → J pre W → pre ++ waysF ((ps.drop at_).map partSlotsM) at_ left c <+: all →
      Calls Tryz.prog 143 #[.int .i64 at_, lv, countsV c, .pointer (some ⟨fb, 0, none⟩), .pointer (some ⟨yb, 0, none⟩), .pointer (some ⟨gb, 0, none⟩)] W (DivPost lo hi J (pre ++ waysF ((ps.drop at_).map partSlotsM) at_ left c) W) := by
  intro rem
  induction rem with
  | zero =>
    intro at_ left lv c pre W hat h15 hl hB hK hC hp hall
    obtain rfl : at_ = ps.length := by omega
    rw [List.drop_length] at hall ⊢
    exact divide_end m l fb yb gb lo hi B0 pv ps Wd hWd hP all J hJ hlo hy0 hg0 h5 hY left lv c pre W hl hB hK hC hp hall
  | succ rem ih =>
    intro at_ left lv c pre W hat h15 hl hB hK hC hp hall
    have hlt : at_ < ps.length := by omega
    have hd : ps.drop at_ = ps[at_] :: ps.drop (at_ + 1) := List.drop_eq_getElem_cons hlt
    rw [hd, List.map_cons] at hall ⊢
    refine divide_step m l fb yb gb lo hi B0 pv ps Wd hWd hlh hhB hP all J hJ hlo hy0 hg0 h5 at_ hlt (hV _ (List.getElem_mem hlt)) _ left h15 lv c pre W hl hB hK hC hp hall ?_
    intro n lv' pre w hn hl' hB' hK' hC' hp' hall'
    exact ih (at_ + 1) (left.drop n) lv' (updC c at_ n) pre w (by omega) (by rw [List.length_drop]; omega) hl' hB' hK' hC' hp' hall'

set_option maxRecDepth 100000 in
set_option maxHeartbeats 2000000 in
theorem ways_seq (n lo hi fb wb : Nat) (pv lv : Value) (ps : List Part) (l : List ByteArray) (Wd w : World) (hWd : Wd.heap.size ≤ lo) (hlh : lo ≤ hi) (hhw : hi ≤ w.heap.size) (hP : PartsAt Wd pv ps) (hV : ∀ p ∈ ps, ValidPart p) (h5 : ps.length ≤ 5) (h15 : l.length ≤ 15) (hl : StrsAt Wd lv l) (hK : KeptO lo hi Wd w)
    (hfb : fb < lo) (hwb : wb < lo) (hcf : w.cell? ⟨fb, 1, none⟩ = some pv) (hcw : w.cell? ⟨wb, 0, none⟩ = some lv) :
    SeqOwn n Tryz.prog 142 #[.pointer (some ⟨fb, 0, none⟩), .pointer (some ⟨wb, 0, none⟩)] (fun c => #[countsV c]) (KeptO lo hi) (formWays ps l) w := by
  intro y J W hW hJ hY h0
  have hxW : Ext w W := hW
  obtain ⟨W3, hW3⟩ : ∃ W3, W3 = (W.alloc (.cells #[.func (.yield y) #[] #[]] 214)).alloc (.cells #[divideF fb W.heap.size (W.heap.size + 1)] 233) := ⟨_, rfl⟩
  have hx3 : Ext W W3 := by rw [hW3]; exact (ext_alloc _ _).alloc _
  have hzW := hxW.size
  have hc : CapW W3 y fb W.heap.size (W.heap.size + 1) pv := ⟨hx3.cell (hxW.cell hcf), by rw [hW3]; simp [go_sem], by rw [hW3]; simp [go_sem]⟩
  have hd := divide_any (n - 1) y fb W.heap.size (W.heap.size + 1) lo hi W.heap.size pv ps Wd hWd hlh (by omega) hP hV (formWays ps l) J hJ hfb (by omega) (by omega) h5 hY ps.length 0 l lv (fun _ => 0) [] W3 (by omega) h15 hl hx3.size ((hK.trans (hxW.kept _ _)).trans (hx3.kept _ _)) hc (hJ _ _ _ hx3.below h0) (by rw [List.drop_zero, List.nil_append]; exact List.prefix_rfl)
  rw [List.drop_zero, List.nil_append] at hd
  replace hcw := hxW.cell hcw
  have zwb := cell_lt hcw
  have hcg3 := hc.give
  obtain ⟨la, lc, rfl, -⟩ := hl.shape
  have HW := Lib.hid hW3
  unfold countsV at hd
  simp only [Int.natCast_zero] at hd
  unfold divideF at HW hcg3
  change Calls _ _ _ _ (DivPost lo hi J (formWays ps l) W3) at hd
  clear hW3 hY hJ hc
  refine callsIn_wide.2 ?_
  simp only [List.append_toArray, List.cons_append, List.nil_append]
  go_enter Tryz.func142, Tryz.ntmps142
  go_wp2_with fail
  rw [← HW.out]
  refine hd.mono ?_
  rintro e W4 ⟨rfl, hj, hck⟩
  go_wp2
  go_end0
  exact ⟨⟨_, rfl⟩, hj⟩

set_option maxRecDepth 100000 in
theorem ways_any (fv lv : Value) (f : Form) (l : List ByteArray) (w : World) (hf : FormV w fv f) (hl : StrsAt w lv l) :
    Calls Tryz.prog 111 #[fv, lv] w fun e w' => ∃ fb wb pv, e = .returned (.func (.func 142) #[] #[.pointer (some ⟨fb, 0, none⟩), .pointer (some ⟨wb, 0, none⟩)]) ∧
      w'.cell? ⟨fb, 1, none⟩ = some pv ∧ PartsAt w' pv f.parts ∧ w'.cell? ⟨wb, 0, none⟩ = some lv ∧ Ext w w' := by
  obtain ⟨pv, rfl, hns, hp⟩ := hf
  obtain ⟨a, cap, rfl, hlc, hcm⟩ := hp.shape
  obtain ⟨la, lc, rfl, -⟩ := hl.shape
  go_enter Tryz.func111, Tryz.ntmps111
  go_wp2
  go_ret
  refine ⟨_, _, .slice a f.parts.length cap, rfl, by simp [go_sem], hp.ext (by first | (with_reducible exact Ext.refl _) | (with_reducible assumption) | (show Below _ _ _; go_grown; done)), by simp [go_sem], (by first | (with_reducible exact Ext.refl _) | (with_reducible assumption) | (show Below _ _ _; go_grown; done))⟩
end Go.Proofs.YtnfbhicoknpojaaGreat

namespace Go.Proofs.YtnfbhicoknpojaaGreat
set_option linter.unusedSimpArgs false
set_option linter.unusedVariables false
open Go.RowKit
set_option linter.unusedVariables false
attribute [local go_sem] Oper.semAt_some

theorem KeptO.setIn {lo hi : Nat} {a w : World} (h : KeptO lo hi a w) {p : Addr} (h1 : lo ≤ p.block) (h2 : p.block < hi) (v : Value) : KeptO lo hi a (w.setCell p v) := ⟨Nat.le_trans h.size (by simp [World.setCell]), fun q u hb hq => by
  obtain ⟨k1, k2⟩ := h.all q u hb hq
  have he := Below.heap_setCell w p v q.block (by omega)
  exact ⟨(World.cell?_of_block (w := w) he).trans k1, (World.frozen?_of_block (w := w) he).trans k2⟩⟩
theorem Ext.keepsFrom {w w' : World} (h : Ext w w') (B : Nat) : KeepsFrom B w w' := ⟨h.size, fun k o _ hk _ => (h.below.block k (Array.getElem?_eq_some_iff.1 hk).1).trans hk⟩
/-- five cells are written -/
def set5 (w : World) (b : Nat) (c : Nat → Int) : World := ((((w.setCell ⟨b, 0, none⟩ (.int .i64 (c 0))).setCell ⟨b, 1, none⟩ (.int .i64 (c 1))).setCell ⟨b, 2, none⟩ (.int .i64 (c 2))).setCell ⟨b, 3, none⟩ (.int .i64 (c 3))).setCell ⟨b, 4, none⟩ (.int .i64 (c 4))
theorem set5_cells {w : World} {b : Nat} {c : Nat → Int} (h : CellsC w b c) (d : Nat → Int) : CellsC (set5 w b d) b d := by
  have h0 := h.set (k := 0) (by omega) (d 0)
  have h1 := h0.set (k := 1) (by omega) (d 1)
  have h2 := h1.set (k := 2) (by omega) (d 2)
  have h3 := h2.set (k := 3) (by omega) (d 3)
  have h4 := h3.set (k := 4) (by omega) (d 4)
  unfold set5
  have e : ∀ j, j < 5 → updC (updC (updC (updC (updC c 0 (d 0)) 1 (d 1)) 2 (d 2)) 3 (d 3)) 4 (d 4) j = d j := by
    intro j hj
    have : j = 0 ∨ j = 1 ∨ j = 2 ∨ j = 3 ∨ j = 4 := by omega
    rcases this with rfl | rfl | rfl | rfl | rfl <;> simp [updC]
  generalize updC (updC (updC (updC (updC c 0 (d 0)) 1 (d 1)) 2 (d 2)) 3 (d 3)) 4 (d 4) = q at *
  intro j hj
  rw [← e j hj]
  exact h4 j hj
theorem set5_other {w : World} {b : Nat} {c : Nat → Int} {k : Nat} (h : k ≠ b) : (set5 w b c).heap[k]? = w.heap[k]? := by
  unfold set5
  iterate 4 rw [Below.heap_setCell _ _ _ _ (by simpa using h)]
  exact Below.heap_setCell _ _ _ _ (by simpa using h)
theorem set5_size {w : World} {b : Nat} {c : Nat → Int} : (set5 w b c).heap.size = w.heap.size := by simp [set5, World.setCell]
theorem set5_kept {lo hi : Nat} {a w : World} (h : KeptO lo hi a w) {b : Nat} (h1 : lo ≤ b) (h2 : b < hi) (c : Nat → Int) : KeptO lo hi a (set5 w b c) :=
  ((((h.setIn (p := ⟨b, 0, none⟩) h1 h2 _).setIn (p := ⟨b, 1, none⟩) h1 h2 _).setIn (p := ⟨b, 2, none⟩) h1 h2 _).setIn (p := ⟨b, 3, none⟩) h1 h2 _).setIn (p := ⟨b, 4, none⟩) h1 h2 _
theorem set5_keeps {B : Nat} {w : World} {b : Nat} {c : Nat → Int} : KeepsFrom B w (set5 w b c) :=
  ((((KeepsOthers.setCell w ⟨b, 0, none⟩ (.int .i64 (c 0))).trans (KeepsOthers.setCell _ ⟨b, 1, none⟩ (.int .i64 (c 1)))).trans (KeepsOthers.setCell _ ⟨b, 2, none⟩ (.int .i64 (c 2)))).trans (KeepsOthers.setCell _ ⟨b, 3, none⟩ (.int .i64 (c 3)))).trans (KeepsOthers.setCell _ ⟨b, 4, none⟩ (.int .i64 (c 4))) |>.from B
/-- what the loop of best holds between two rounds, its variables in the blocks f and m -/
structure BestI (w0 : World) (bb fb mb : Nat) (bf : Value) (s : (Nat → Int) × Nat) (W : World) : Prop where
  first : CellsC W fb s.1
  ffree : ∀ o, W.frozen? ⟨fb, o, none⟩ = false
  many : W.cell? ⟨mb, 0, none⟩ = some (.int .i64 s.2)
  mfree : W.frozen? ⟨mb, 0, none⟩ = false
  fn : W.cell? ⟨bb, 0, none⟩ = some bf
  ext : Below fb w0 W
theorem BestI.later {w0 : World} {bb fb mb B : Nat} {bf : Value} {s : (Nat → Int) × Nat} {A W : World} (h : BestI w0 bb fb mb bf s A) (hx : Below B A W) (h1 : bb < B) (h2 : fb < B) (h3 : mb < B) : BestI w0 bb fb mb bf s W :=
  ⟨fun j hj => (hx.cell (p := ⟨fb, j, none⟩) h2).trans (h.first j hj), fun o => (hx.frozen (p := ⟨fb, o, none⟩) h2).trans (h.ffree o), (hx.cell (p := ⟨mb, 0, none⟩) h3).trans h.many, (hx.frozen (p := ⟨mb, 0, none⟩) h3).trans h.mfree, (hx.cell (p := ⟨bb, 0, none⟩) h1).trans h.fn, h.ext.trans (hx.mono (Nat.le_of_lt h2))⟩
theorem frozen_set5 {w : World} {b : Nat} {c : Nat → Int} (p : Addr) : (set5 w b c).frozen? p = w.frozen? p := by simp [set5, go_sem]
theorem cell_set5_other {w : World} {b : Nat} {c : Nat → Int} {p : Addr} (h : p.block ≠ b) : (set5 w b c).cell? p = w.cell? p := World.cell?_of_block (set5_other h)
theorem BestI.kept {w0 : World} {bb fb mb : Nat} {bf : Value} {s : (Nat → Int) × Nat} {W : World} (h : BestI w0 bb fb mb bf s W) (h1 : bb < fb) (h2 : fb < mb) : BestI w0 bb fb mb bf (s.1, s.2 + 1) (W.setCell ⟨mb, 0, none⟩ (.int .i64 ((s.2 : Int) + 1))) :=
  ⟨fun j hj => (World.cell?_setCell_other _ _ _ _ (fun e => by have := (Addr.mk.inj e).1; omega)).trans (h.first j hj), fun o => by simpa [go_sem] using h.ffree o, World.cell?_setCell_same _ _ _ h.many, by simpa [go_sem] using h.mfree, (World.cell?_setCell_other _ _ _ _ (fun e => by have := (Addr.mk.inj e).1; omega)).trans h.fn, h.ext.setCell (p := ⟨mb, 0, none⟩) (Nat.le_of_lt h2) _⟩
theorem BestI.took {w0 : World} {bb fb mb : Nat} {bf : Value} {s : (Nat → Int) × Nat} {W : World} (h : BestI w0 bb fb mb bf s W) (h1 : bb < fb) (h2 : fb < mb) (x : Nat → Int) : BestI w0 bb fb mb bf (x, s.2) (set5 W fb x) :=
  ⟨set5_cells h.first x, fun o => (frozen_set5 _).trans (h.ffree o), (cell_set5_other (p := ⟨mb, 0, none⟩) (Nat.ne_of_gt h2)).trans h.many, (frozen_set5 _).trans h.mfree, (cell_set5_other (p := ⟨bb, 0, none⟩) (Nat.ne_of_lt h1)).trans h.fn, ((((h.ext.setCell (p := ⟨fb, 0, none⟩) (Nat.le_refl _) _).setCell (p := ⟨fb, 1, none⟩) (Nat.le_refl _) _).setCell (p := ⟨fb, 2, none⟩) (Nat.le_refl _) _).setCell (p := ⟨fb, 3, none⟩) (Nat.le_refl _) _).setCell (p := ⟨fb, 4, none⟩) (Nat.le_refl _) _⟩
def zeroC : Nat → Int := fun _ => 0
def beforeF : Value := .func (.func 112) #[] #[]

set_option maxRecDepth 100000 in
set_option maxHeartbeats 1000000 in
theorem bestC_any (gf : Nat) (lb : Array Value) (xs : List (Nat → Int)) (hxs : xs.length ≤ 100000) (w : World) (heg : ∀ args w, (callFunc gf args).run Tryz.prog w = .ok (.enter gf args) w)
    (hseq : ∀ w', Ext w w' → w.heap.size + 4 ≤ w'.heap.size → SeqOwn 3 Tryz.prog gf lb (fun c => #[countsV c]) (KeptO (w.heap.size + 2) (w.heap.size + 4)) xs w') :
    Calls Tryz.prog 110 #[.func (.func gf) #[] lb, beforeF] w fun e w' => e = .returned (.tuple #[countsV (pickB beforeM zeroC xs).1, .int .i64 xs.length]) ∧ Ext w w' := by
  refine (callsIn_wide (n := 4)).1 (callsIn_of_wp_marks Tryz.func110 rfl trivial ?_ rfl)
  simp only [Tryz.ntmps110, List.size_toArray, List.length_cons, List.length_nil, Nat.reduceAdd, Nat.reduceSub, Array.replicate_succ, Array.replicate_zero, List.push_toArray, List.append_toArray, List.nil_append, List.cons_append]
  refine wpIn_wide.2 ?_
  unfold beforeF
  go_wp2
  obtain ⟨W0, hW0⟩ : ∃ W0, W0 = ((((w.alloc (.cells #[.func (.func 112) #[] #[]] 213)).alloc (.cells #[.int .i64 0, .int .i64 0, .int .i64 0, .int .i64 0, .int .i64 0] 146)).alloc (.cells #[.int .i64 0, .int .i64 0, .int .i64 0, .int .i64 0, .int .i64 0] 146)).alloc (.cells #[.int .i64 0] 3)) := ⟨_, rfl⟩
  have x0 : Ext w W0 := by rw [hW0]; exact (((ext_alloc _ _).alloc _).alloc _).alloc _
  have z0 : W0.heap.size = w.heap.size + 4 := by rw [hW0]; simp
  have c0 : BestI W0 w.heap.size (w.heap.size + 2) (w.heap.size + 3) beforeF (pickB beforeM zeroC []) W0 := by
    refine ⟨?_, fun o => by rw [hW0]; simp [go_sem], by rw [hW0]; simp [go_sem, pickB], by rw [hW0]; simp [go_sem], by rw [hW0]; simp [go_sem, beforeF], Below.refl _ _⟩
    rw [hW0]
    exact cells_five (by simp [go_sem, pickB, zeroC]) (by simp [go_sem, pickB, zeroC]) (by simp [go_sem, pickB, zeroC]) (by simp [go_sem, pickB, zeroC]) (by simp [go_sem, pickB, zeroC])
  have r0 : CellsC W0 (w.heap.size + 1) zeroC := by
    rw [hW0]
    exact cells_five (by simp [go_sem, zeroC]) (by simp [go_sem, zeroC]) (by simp [go_sem, zeroC]) (by simp [go_sem, zeroC]) (by simp [go_sem, zeroC])
  have rf : ∀ o, W0.frozen? ⟨w.heap.size + 1, o, none⟩ = false := fun o => by rw [hW0]; simp [go_sem]
  rw [← hW0]
  clear hW0
  have hsq := hseq W0 x0 (by omega)
  refine (wpIn_wide (n := 4)).1 ?_
  refine wpIn_seqOwn (by omega) rfl heg hsq (fun h k => KeptO.trans h k) ?kb (Below.refl _ _) (fun _ => rfl)
    (fun pre W => BestI W0 w.heap.size (w.heap.size + 2) (w.heap.size + 3) beforeF (pickB beforeM zeroC pre) W) ?hI c0
    (fun x a' W => ∃ tb, w.heap.size + 4 ≤ tb ∧ a' = { tmps := #[.func (.func gf) #[] lb, .func (.func 112) #[] #[], undef, .pointer (some ⟨w.heap.size, 0, none⟩), .pointer (some ⟨w.heap.size + 1, 0, none⟩), .int .i64 0, .pointer (some ⟨w.heap.size + 1 + 1, 0, none⟩), .pointer (some ⟨w.heap.size + 1 + 1 + 1, 0, none⟩), .pointer (some ⟨tb, 0, none⟩), .func (.func gf) #[] lb, countsV x, undef, undef, undef, undef, undef, undef, undef, undef, undef, undef, undef, undef, undef], defers := [] } ∧ CellsC W tb x) ?hAx ?assign ?body ?done
  case kb => exact fun W l o o' _ h hc _ => KeptO.putObj h hc
  case hI => exact fun s A B hx h => h.later hx (by omega) (by omega) (by omega)
  case hAx =>
    rintro x a' A l o' hl ⟨o, ho, hc⟩ ⟨tb, h1, h2, h3⟩
    exact ⟨tb, h1, h2, h3.kept (lo := 0) (hi := 0) (KeptO.putObj ho hc) (by omega)⟩
  case assign =>
    intro l pre x W K hI hK
    have hz := hI.ext.size
    unfold countsV
    gi_wp2
    refine hK _ _ ((KeepsOthers.alloc _ _).from _) ((ext_alloc _ _).kept _ _) (hI.later ((ext_alloc _ _).below) (by omega) (by omega) (by omega)) ⟨W.heap.size, by omega, rfl, cells_five (by simp [go_sem]) (by simp [go_sem]) (by simp [go_sem]) (by simp [go_sem]) (by simp [go_sem])⟩
  case body =>
    rintro l pre x a' W hI ⟨tb, htb, rfl, htc⟩ hpre
    have hz := hI.ext.size
    have hple : pre.length < xs.length := by have := hpre.length_le; simp at this; omega
    have hpm := pickB_many beforeM zeroC pre
    have hnext := pickB_snoc beforeM zeroC pre x
    generalize hs : pickB beforeM zeroC pre = st at *
    obtain ⟨sf, sm⟩ := st
    simp only at hpm hnext
    subst hpm
    have Hnext := Lib.hid hnext
    have Hpre := Lib.hid hpre
    have hIk := hI
    obtain ⟨h1, h2, h3, h4, h5, h6⟩ := hI
    simp only at h1 h3
    have f0 : W.cell? ⟨w.heap.size + 1 + 1, 0, none⟩ = some (.int .i64 (sf 0)) := h1 0 (by omega)
    have f1 : W.cell? ⟨w.heap.size + 1 + 1, 1, none⟩ = some (.int .i64 (sf 1)) := h1 1 (by omega)
    have f2 : W.cell? ⟨w.heap.size + 1 + 1, 2, none⟩ = some (.int .i64 (sf 2)) := h1 2 (by omega)
    have f3 : W.cell? ⟨w.heap.size + 1 + 1, 3, none⟩ = some (.int .i64 (sf 3)) := h1 3 (by omega)
    have f4 : W.cell? ⟨w.heap.size + 1 + 1, 4, none⟩ = some (.int .i64 (sf 4)) := h1 4 (by omega)
    have ff : ∀ o, W.frozen? ⟨w.heap.size + 1 + 1, o, none⟩ = false := h2
    have g0 : W.cell? ⟨w.heap.size + 1 + 1 + 1, 0, none⟩ = some (.int .i64 pre.length) := h3
    have gf' : W.frozen? ⟨w.heap.size + 1 + 1 + 1, 0, none⟩ = false := h4
    have t0 := htc 0 (by omega)
    have t1 := htc 1 (by omega)
    have t2 := htc 2 (by omega)
    have t3 := htc 3 (by omega)
    have t4 := htc 4 (by omega)
    have wp : IntKind.i64.wrap ((pre.length : Int) + 1) = (pre.length : Int) + 1 := IntWalk.i64_in _ (by omega)
    clear hnext hpre hs h1 h2 h3 h4 hseq hsq c0 r0 rf hxs
    unfold countsV beforeF at *
    by_cases hp0 : pre.length = 0
    · have k0 : ((pre.length : Int) == 0) = true := by simp [hp0]
      have Hp0 := Lib.hid hp0
      clear hp0
      gi_wp2
      refine ⟨fun _ h => (by cases h), ?_⟩
      gi_wp2
      show goesOn _ _ _ _ _ .normal _ ((set5 W (w.heap.size + 2) x).setCell ⟨w.heap.size + 3, 0, none⟩ (.int .i64 ((pre.length : Int) + 1)))
      refine ⟨set5_keeps.trans ((KeepsOthers.setCell _ _ _).from _), (set5_kept (KeptO.refl _ _ _) (by omega) (by omega) x).setIn (by simp) (by simp) _, ?_⟩
      show BestI _ _ _ _ _ (pickB beforeM zeroC (pre ++ [x])) _
      rw [Hnext.out, if_pos (.inl Hp0.out)]
      exact (hIk.took (by omega) (by omega) x).kept (by omega) (by omega)
    · have k0 : ((pre.length : Int) == 0) = false := by simpa using hp0
      have Hp0 := Lib.hid hp0
      clear hp0
      have hbf := fun w => before_any x sf w
      unfold countsV at hbf
      gi_wp2_with fail
      refine ⟨trivial, ?_⟩
      refine (CallsIn.inRound l (callsIn_wide.2 (hbf W))).mono ?_
      rintro e w1 ⟨rfl, hx1⟩
      replace f0 := hx1.cell f0
      replace f1 := hx1.cell f1
      replace f2 := hx1.cell f2
      replace f3 := hx1.cell f3
      replace f4 := hx1.cell f4
      replace t0 := hx1.cell t0
      replace t1 := hx1.cell t1
      replace t2 := hx1.cell t2
      replace t3 := hx1.cell t3
      replace t4 := hx1.cell t4
      replace ff : ∀ o, w1.frozen? ⟨w.heap.size + 1 + 1, o, none⟩ = false := fun o => (hx1.frozen (p := ⟨w.heap.size + 1 + 1, o, none⟩) (by have := cell_lt g0; simp at this ⊢; omega)).trans (ff o)
      replace g0 := hx1.cell g0
      replace gf' : w1.frozen? ⟨w.heap.size + 1 + 1 + 1, 0, none⟩ = false := (hx1.frozen (p := ⟨w.heap.size + 1 + 1 + 1, 0, none⟩) (by simp; omega)).trans gf'
      have hI1 := hIk.later hx1.below (by omega) (by omega) (by omega)
      have hz1 := hx1.size
      cases hb : beforeM x sf
      · have Hb := Lib.hid hb
        clear hb hbf
        gi_wp2
        show goesOn _ _ _ _ _ .normal _ (w1.setCell ⟨w.heap.size + 3, 0, none⟩ (.int .i64 ((pre.length : Int) + 1)))
        refine ⟨(hx1.keepsFrom _).trans ((KeepsOthers.setCell _ _ _).from _), (hx1.kept _ _).setIn (by simp) (by simp) _, ?_⟩
        show BestI _ _ _ _ _ (pickB beforeM zeroC (pre ++ [x])) _
        rw [Hnext.out, if_neg (by rintro (h | h); exact Hp0.out h; rw [Hb.out] at h; cases h)]
        exact hI1.kept (by omega) (by omega)
      · have Hb := Lib.hid hb
        clear hb hbf
        gi_wp2
        show goesOn _ _ _ _ _ .normal _ ((set5 w1 (w.heap.size + 2) x).setCell ⟨w.heap.size + 3, 0, none⟩ (.int .i64 ((pre.length : Int) + 1)))
        refine ⟨(hx1.keepsFrom _).trans (set5_keeps.trans ((KeepsOthers.setCell _ _ _).from _)), (set5_kept (hx1.kept _ _) (by omega) (by omega) x).setIn (by simp) (by simp) _, ?_⟩
        show BestI _ _ _ _ _ (pickB beforeM zeroC (pre ++ [x])) _
        rw [Hnext.out, if_pos (.inr Hb.out)]
        exact (hI1.took (by omega) (by omega) x).kept (by omega) (by omega)
  case done =>
    intro D W hD hI hDm
    have hz := hI.ext.size
    have hpm := pickB_many beforeM zeroC xs
    generalize hs : pickB beforeM zeroC xs = st at *
    obtain ⟨sf, sm⟩ := st
    simp only at hpm
    subst hpm
    obtain ⟨h1, h2, h3, h4, h5, h6⟩ := hI
    simp only at h1 h3
    have f0 : W.cell? ⟨w.heap.size + 1 + 1, 0, none⟩ = some (.int .i64 (sf 0)) := h1 0 (by omega)
    have f1 : W.cell? ⟨w.heap.size + 1 + 1, 1, none⟩ = some (.int .i64 (sf 1)) := h1 1 (by omega)
    have f2 : W.cell? ⟨w.heap.size + 1 + 1, 2, none⟩ = some (.int .i64 (sf 2)) := h1 2 (by omega)
    have f3 : W.cell? ⟨w.heap.size + 1 + 1, 3, none⟩ = some (.int .i64 (sf 3)) := h1 3 (by omega)
    have f4 : W.cell? ⟨w.heap.size + 1 + 1, 4, none⟩ = some (.int .i64 (sf 4)) := h1 4 (by omega)
    have g0 : W.cell? ⟨w.heap.size + 1 + 1 + 1, 0, none⟩ = some (.int .i64 xs.length) := h3
    have hr : CellsC W (w.heap.size + 1) zeroC := fun j hj => (h6.cell (p := ⟨w.heap.size + 1, j, none⟩) (by simp)).trans (r0 j hj)
    have q0 := hr 0 (by omega)
    have q1 := hr 1 (by omega)
    have q2 := hr 2 (by omega)
    have q3 := hr 3 (by omega)
    have q4 := hr 4 (by omega)
    have hrf : ∀ o, W.frozen? ⟨w.heap.size + 1, o, none⟩ = false := fun o => (h6.frozen (p := ⟨w.heap.size + 1, o, none⟩) (by simp)).trans (rf o)
    have xW : Ext w W := ⟨h6.os.trans x0.os, h6.tape.trans x0.tape, h6.output.trans x0.output, by omega, fun k hk => (h6.block k (by omega)).trans (x0.block k hk)⟩
    have hset := set5_cells hr sf
    have hDs : ((set5 W (w.heap.size + 1) sf).drew).heap[D]? = some (.deferred (some [])) := (set5_other (by omega)).trans hDm
    have xs5 : Ext w (set5 W (w.heap.size + 1) sf) := ((((xW.setCell (p := ⟨w.heap.size + 1, 0, none⟩) (by simp) _).setCell (p := ⟨w.heap.size + 1, 1, none⟩) (by simp) _).setCell (p := ⟨w.heap.size + 1, 2, none⟩) (by simp) _).setCell (p := ⟨w.heap.size + 1, 3, none⟩) (by simp) _).setCell (p := ⟨w.heap.size + 1, 4, none⟩) (by simp) _
    obtain ⟨Ws, hWs⟩ : ∃ Ws, set5 W (w.heap.size + 1) sf = Ws := ⟨_, rfl⟩
    rw [hWs] at hset hDs xs5
    have hgr := grownBy_putObj' Ws.drew D (.deferred none)
    have hfin : ∀ j, j < 5 → (Ws.drew.putObj D (.deferred none)).cell? ⟨w.heap.size + 1, j, none⟩ = some (.int .i64 (sf j)) := fun j hj => cell_kept (show Ws.drew.cell? ⟨w.heap.size + 1, j, none⟩ = _ from hset j hj) hgr (fun r e => by cases e; exact ⟨_, hDs, rfl⟩)
    have x5 : Ext w (Ws.drew.putObj D (.deferred none)) := Ext.grown xs5.drew hgr (fun r e => by cases e; omega)
    have E0 := Lib.hid (hfin 0 (by omega))
    have E1 := Lib.hid (hfin 1 (by omega))
    have E2 := Lib.hid (hfin 2 (by omega))
    have E3 := Lib.hid (hfin 3 (by omega))
    have E4 := Lib.hid (hfin 4 (by omega))
    have HD := Lib.hid hDs
    have HX := Lib.hid x5
    unfold set5 at hWs
    have HWs := Lib.hid hWs
    clear hset hDs hgr xs5 hfin x5 hseq hsq c0 r0 rf h1 h2 h3 h4 h5 h6 hr hWs
    go_wp2_with fail
    go_region
    go_wp2
    rw [HWs.out]
    refine ⟨by simp, .inl ⟨D, _, rfl, run_takeDeferred HD.out, ?_⟩⟩
    have e0 := E0.out
    have e1 := E1.out
    have e2 := E2.out
    have e3 := E3.out
    have e4 := E4.out
    have hx := HX.out
    generalize (Ws.drew.putObj D (.deferred none)) = Wf at *
    refine ⟨.tuple #[countsV sf, .int .i64 xs.length], by simp [results, Tryz.results110, go_sem, e0, e1, e2, e3, e4, countsV], by rw [hs], hx⟩
end Go.Proofs.YtnfbhicoknpojaaGreat

namespace Go.Proofs.YtnfbhicoknpojaaGreat
set_option linter.unusedSimpArgs false
set_option linter.unusedVariables false
open Go.RowKit
set_option linter.unusedVariables false

def firstWayM (ps : List Part) (l : List ByteArray) : Nat → Int := (pickB beforeM zeroC (formWays ps l)).1
theorem formWays_len {ps : List Part} (hV : ∀ p ∈ ps, ValidPart p) (h5 : ps.length ≤ 5) (l : List ByteArray) : (formWays ps l).length ≤ 1024 := by
  have := waysF_len (ps.map partSlotsM) 0 l (fun _ => 0) (fun sl hs => by
    obtain ⟨p, hp, rfl⟩ := List.mem_map.1 hs
    exact (partSlots_len (hV p hp)).2)
  rw [List.length_map] at this
  exact Nat.le_trans this (Nat.le_trans (Nat.pow_le_pow_right (by omega) h5) (by decide))
set_option maxRecDepth 100000 in
set_option maxHeartbeats 1000000 in
theorem firstWay_any (fv lv : Value) (f : Form) (l : List ByteArray) (hV : ValidForm f) (h15 : l.length ≤ 15) (w : World) (hf : FormV w fv f) (hl : StrsAt w lv l) :
    Calls Tryz.prog 78 #[fv, lv] w fun e w' => e = .returned (.tuple #[countsV (firstWayM f.parts l), .int .i64 (formWays f.parts l).length]) ∧ Ext w w' := by
  have hf0 := hf
  have hlen := formWays_len hV.parts hV.n l
  obtain ⟨pv, rfl, hns, hp⟩ := hf
  obtain ⟨a, cap, rfl, hlc, hcm⟩ := hp.shape
  obtain ⟨la, lc, rfl, -⟩ := hl.shape
  have Hlen := Lib.hid hlen
  have HV := Lib.hid hV
  clear hlen hV
  go_enter Tryz.func78, Tryz.ntmps78
  go_wp2_with fail
  refine (ways_any _ _ f l _ (hf0.ext (by first | (with_reducible exact Ext.refl _) | (with_reducible assumption) | (show Below _ _ _; go_grown; done))) (hl.ext (by first | (with_reducible exact Ext.refl _) | (with_reducible assumption) | (show Below _ _ _; go_grown; done)))).mono ?_
  rintro e w1 ⟨fb, wb, pv, rfl, h1, h2, h3, hx1⟩
  have x1 : Ext w w1 := Ext.trans (by first | (with_reducible exact Ext.refl _) | (with_reducible assumption) | (show Below _ _ _; go_grown; done)) hx1
  have q0 : w1.cell? ⟨w.heap.size + 1, 0, none⟩ = some (.int .i64 0) := hx1.cell (by simp [go_sem])
  have q1 : w1.cell? ⟨w.heap.size + 1, 1, none⟩ = some (.int .i64 0) := hx1.cell (by simp [go_sem])
  have q2 : w1.cell? ⟨w.heap.size + 1, 2, none⟩ = some (.int .i64 0) := hx1.cell (by simp [go_sem])
  have q3 : w1.cell? ⟨w.heap.size + 1, 3, none⟩ = some (.int .i64 0) := hx1.cell (by simp [go_sem])
  have q4 : w1.cell? ⟨w.heap.size + 1, 4, none⟩ = some (.int .i64 0) := hx1.cell (by simp [go_sem])
  have qf : ∀ o, w1.frozen? ⟨w.heap.size + 1, o, none⟩ = false := fun o => by rw [hx1.frozen (by simp)]; simp [go_sem]
  have hl1 := hl.ext x1
  have zf := cell_lt h1
  have zw := cell_lt h3
  clear hx1
  have hb := bestC_any 142 #[.pointer (some ⟨fb, 0, none⟩), .pointer (some ⟨wb, 0, none⟩)] (formWays f.parts l) (by have := Hlen.out; omega) w1 (enters_of Tryz.func142 (by kernel_rfl) rfl)
    (fun w' hx hs => ways_seq 3 (w1.heap.size + 2) (w1.heap.size + 4) fb wb pv (.slice la l.length lc) f.parts l w1 w' (by omega) (by omega) hs h2 HV.out.parts HV.out.n h15 hl1 (hx.kept _ _) (by simp at zf; omega) (by simp at zw; omega) (hx.cell h1) (hx.cell h3))
  unfold beforeF at hb
  generalize hpk : (pickB beforeM zeroC (formWays f.parts l)).1 = pk at *
  have Hpk := Lib.hid hpk
  clear hpk h1 h2 h3
  unfold countsV at *
  go_wp2_with fail
  refine hb.mono ?_
  rintro e w2 ⟨rfl, hx2⟩
  have x2 := x1.trans hx2
  have zq : w.heap.size + 1 < w1.heap.size := cell_lt q0
  replace q0 := hx2.cell q0
  replace q1 := hx2.cell q1
  replace q2 := hx2.cell q2
  replace q3 := hx2.cell q3
  replace q4 := hx2.cell q4
  have hcc : CellsC w2 (w.heap.size + 1) zeroC := cells_five q0 q1 q2 q3 q4
  have hset := set5_cells hcc pk
  have xs5 : Ext w (set5 w2 (w.heap.size + 1) pk) := ((((x2.setCell (p := ⟨w.heap.size + 1, 0, none⟩) (by simp) _).setCell (p := ⟨w.heap.size + 1, 1, none⟩) (by simp) _).setCell (p := ⟨w.heap.size + 1, 2, none⟩) (by simp) _).setCell (p := ⟨w.heap.size + 1, 3, none⟩) (by simp) _).setCell (p := ⟨w.heap.size + 1, 4, none⟩) (by simp) _
  have qf2 : ∀ o, w2.frozen? ⟨w.heap.size + 1, o, none⟩ = false := fun o => by rw [hx2.frozen zq]; exact qf o
  obtain ⟨Ws, hWs⟩ : ∃ Ws, set5 w2 (w.heap.size + 1) pk = Ws := ⟨_, rfl⟩
  rw [hWs] at hset xs5
  have E0 := Lib.hid (hset 0 (by omega))
  have E1 := Lib.hid (hset 1 (by omega))
  have E2 := Lib.hid (hset 2 (by omega))
  have E3 := Lib.hid (hset 3 (by omega))
  have E4 := Lib.hid (hset 4 (by omega))
  have HX := Lib.hid xs5
  unfold set5 at hWs
  have HWs := Lib.hid hWs
  have zq2 : w.heap.size + 1 < w2.heap.size := cell_lt q0
  clear hset xs5 hWs hb hcc qf
  go_wp2_with fail
  rw [HWs.out]
  refine bodyPost_ret (v := .tuple #[countsV pk, .int .i64 (formWays f.parts l).length]) (by simp [results, Tryz.results78, go_sem, E0.out, E1.out, E2.out, E3.out, E4.out, countsV]) rfl ⟨?_, HX.out⟩
  rw [show firstWayM f.parts l = pk from Hpk.out]
end Go.Proofs.YtnfbhicoknpojaaGreat

namespace Go.Proofs.YtnfbhicoknpojaaGreat
set_option linter.unusedSimpArgs false
set_option linter.unusedVariables false
open Go.RowKit
set_option linter.unusedVariables false

/-- the forms that a letter is of, of the first k -/
def ofTo (fs : List Form) (l : List ByteArray) : Nat → List Int
  | 0 => []
  | k + 1 => ofTo fs l k ++ if 0 < (formWays (fs.getD k ⟨⟨#[]⟩, []⟩).parts l).length then [(k : Int)] else []
def ofM (s : Shelf) (l : List ByteArray) : List Int := ofTo s.forms l s.forms.length
theorem ofTo_len (fs : List Form) (l : List ByteArray) : ∀ k, (ofTo fs l k).length ≤ k
  | 0 => Nat.le_refl _
  | k + 1 => by
    have := ofTo_len fs l k
    rw [ofTo, List.length_append]
    split <;> simp <;> omega
theorem ofTo_I64 (fs : List Form) (l : List ByteArray) : ∀ k, k ≤ 1000 → ∀ x ∈ ofTo fs l k, I64 x
  | 0, _ => by simp [ofTo]
  | k + 1, hk => by
    intro x hx
    rw [ofTo] at hx
    rcases List.mem_append.1 hx with h | h
    · exact ofTo_I64 fs l k (by omega) x h
    · split at h
      · simp at h; subst h; exact ⟨by omega, by omega⟩
      · cases h
theorem cell_one_at {W : World} {b : Nat} {v : Value} (h : W.cell? ⟨b, 0, none⟩ = some v) : ∀ j u, [v][j]? = some u → W.cell? ((⟨b, 0, none⟩ : Addr).add j) = some u := by
  intro j u hu
  match j, hu with
  | 0, hu => simp at hu; subst hu; simpa [Addr.add] using h
  | j + 1, hu => simp at hu
/-- a list of numbers, if there is no error -/
def ListI (w : World) (l : List Int) (e : Int) (v : Value) : Prop := ∃ u, v = .tuple #[u, .int .i64 e] ∧ (e = 0 → IntsAt w u l) ∧ (e ≠ 0 → u = .slice none 0 0)
set_option maxRecDepth 100000 in
set_option maxHeartbeats 2000000 in
theorem of_any (sv lv : Value) (s : Shelf) (l : List ByteArray) (w : World) (hs : ShelfAt w sv s) (hl : StrsAt w lv l) :
    Calls Tryz.prog 35 #[sv, lv] w fun e w' => ∃ u, e = .returned u ∧ ListI w' (ofM s l) (shelfErrM s l) u ∧ Ext w w' := by
  have hs0 := hs
  obtain ⟨a, c, rfl, hw, hc1, hc2, hf⟩ := hs.open
  obtain ⟨la, lc, rfl, -⟩ := hl.shape
  obtain ⟨i0, hi, hz0, hz1, hz2⟩ := info_parts infoInt
  go_enter Tryz.func35, Tryz.ntmps35
  go_wp2_with fail
  refine (shelfError_any _ _ s l _ (hs0.ext (by first | (with_reducible exact Ext.refl _) | (with_reducible assumption) | (show Below _ _ _; go_grown; done))) (hl.ext (by first | (with_reducible exact Ext.refl _) | (with_reducible assumption) | (show Below _ _ _; go_grown; done)))).mono ?_
  rintro e w1 ⟨rfl, hx1⟩
  have x1 : Ext w w1 := Ext.trans (by first | (with_reducible exact Ext.refl _) | (with_reducible assumption) | (show Below _ _ _; go_grown; done)) hx1
  have q1 : w1.cell? ⟨w.heap.size, 1, none⟩ = some (.slice a s.forms.length c) := hx1.cell (by simp [go_sem])
  have zq : w.heap.size < w1.heap.size := cell_lt q1
  clear hx1
  obtain ⟨er, herr⟩ : ∃ er, shelfErrM s l = er := ⟨_, rfl⟩
  rw [herr]
  have Herr := Lib.hid herr
  by_cases h0 : er = 0
  · have hE : errS s = 0 ∧ letterErrL l = 0 := by
      subst h0
      unfold shelfErrM at herr
      split at herr
      · rename_i h; exact absurd herr h
      · rename_i h; exact ⟨by simpa using h, herr⟩
    have hV := errS_ok hE.1
    have h15 : l.length ≤ 15 := by
      have := hE.2
      unfold letterErrL at this
      split at this
      · cases this
      · omega
    have HV := Lib.hid hV
    subst h0
    clear hE hV
    have hn4 := HV.out.n
    go_wp2_with fail
    go_loopw [7, 21] (fun v i wr => ∃ k : Nat, k ≤ s.forms.length ∧ i = .int .i64 k ∧ Ext w1 wr ∧ wr.ownsRow w1.heap.size 3 1 v (ofTo s.forms l k).length ((ofTo s.forms l k).map (Value.int .i64))) (fun _ i _ => s.forms.length - (intOf i).toNat)
    case atStart => exact ⟨0, Nat.zero_le _, rfl, Ext.refl _, World.ownsRow_nil _ _ _ _⟩
    case round =>
      obtain ⟨k, hk, rfl, hxr, hown⟩ := hrel
      by_cases hlt : k < s.forms.length
      · have k1 : (k : Int) < (s.forms.length : Int) := by omega
        have hxw := x1.trans hxr
        obtain ⟨fb, fo, rfl, h1, hns, u, h2, hp⟩ := (hf.ext hxw).get hlt
        have hVf := HV.out.forms _ (List.getElem_mem hlt)
        have hst : ofTo s.forms l (k + 1) = ofTo s.forms l k ++ if 0 < (formWays (s.forms[k]).parts l).length then [(k : Int)] else [] := by
          rw [ofTo, List.getD_eq_getElem?_getD, List.getElem?_eq_getElem hlt]; rfl
        have hlk := ofTo_len s.forms l k
        generalize s.forms[k] = f at *
        obtain ⟨pa, pc, rfl, -⟩ := hp.shape
        generalize hO : ofTo s.forms l k = O at *
        have hw4 := formWays_len hVf.parts hVf.n l
        generalize hm : (formWays f.parts l).length = m at *
        have Hst := Lib.hid hst
        have Hown := Lib.hid hown
        have HO := Lib.hid hO
        have Hm := Lib.hid hm
        have hszr := hxr.size
        have hfw := firstWay_any (.agg #[.string f.name, .slice pa f.parts.length pc]) (.slice la l.length lc) f l hVf h15 (wr.alloc (.cells #[.string f.name, .slice pa f.parts.length pc] 44)) ⟨_, rfl, hns, hp.ext (by first | (with_reducible exact Ext.refl _) | (with_reducible assumption) | (show Below _ _ _; go_grown; done))⟩ ((hl.ext hxw).ext (by first | (with_reducible exact Ext.refl _) | (with_reducible assumption) | (show Below _ _ _; go_grown; done)))
        rw [hm] at hfw
        unfold countsV at hfw
        clear hst hown hO hm
        go_wp2_with fail
        refine hfw.mono ?_
        rintro e w2 ⟨rfl, hx2⟩
        have hx3 : Ext w1 w2 := hxr.trans (Ext.trans (by first | (with_reducible exact Ext.refl _) | (with_reducible assumption) | (show Below _ _ _; go_grown; done)) hx2)
        have own2 := Ext.owns Hown.out (Ext.trans (ext_alloc _ _) hx2)
        have Own2 := Lib.hid own2
        have hsz2 := hx3.size
        clear own2 hfw
        by_cases hm0 : 0 < m
        · have km : (0 : Int) < (m : Int) := by omega
          have hst2 := Hst.out
          rw [if_pos hm0] at hst2
          have Hst2 := Lib.hid hst2
          clear hst2 hm0
          go_wp2_with (at_builtin; go_loud (refine wpList_append_own_at _ rfl _ _ 45 rfl w1.heap.size 3 i0 (.int .i64 0) 1 8 Tryz.underlying45 hi hz0 hz1 hz2 rfl (by decide) u7 O.length (O.map (Value.int .i64)) rfl (World.ownsRow.alloc (World.ownsRow.alloc Own2.out _) _) ⟨w2.heap.size + 1, 0, none⟩ 1 1 [.int .i64 k] rfl rfl (cell_one_at (by simp [go_sem])) (by simp [Value.oneCell']) (by unfold maxLen; omega) (by omega) (by simp; omega) ?_; intro v' w3 hown' hgrow _ _))
          have hx4 : Ext w1 w3 := Ext.grown ((hx3.alloc _).alloc _) hgrow fun k hk => (Own2.out.lt k hk).1
          go_roundw
          case rel => exact ⟨k + 1, by omega, by go_num, hx4, by rw [Hst2.out, List.length_append, List.map_append]; exact hown'⟩
          case measure => simp [intOf]; omega
        · have km : ¬ (0 : Int) < (m : Int) := by omega
          have hst2 := Hst.out
          rw [if_neg hm0, List.append_nil] at hst2
          have Hst2 := Lib.hid hst2
          clear hst2 hm0
          go_wp2
          go_roundw
          case rel => exact ⟨k + 1, by omega, by go_num, hx3.alloc _, by rw [Hst2.out]; exact Own2.out.alloc _⟩
          case measure => simp [intOf]; omega
      · have hke : k = s.forms.length := by omega
        subst hke
        have hI := IntsAt.of_own hown (ofTo_I64 _ _ _ (by omega))
        obtain ⟨va, vc, rfl, -⟩ := hI.shape
        go_wp2
        go_ret2
        exact ⟨_, rfl, ⟨.slice va (ofTo s.forms l s.forms.length).length vc, by rw [Herr.out]; rfl, fun _ => hI, fun h => absurd Herr.out h⟩, x1.trans hxr⟩
  · have h0' : (er != 0) = true := by simpa using h0
    have H0 := Lib.hid h0
    clear h0
    go_wp2_with fail
    go_ret2
    exact ⟨_, rfl, ⟨.slice none 0 0, by rw [Herr.out]; rfl, fun h => absurd (Herr.out.symm.trans h) H0.out, fun _ => rfl⟩, x1⟩
end Go.Proofs.YtnfbhicoknpojaaGreat
