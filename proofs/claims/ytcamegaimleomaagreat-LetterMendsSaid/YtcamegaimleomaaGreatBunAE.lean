/-
  WHERE THE WORDS OF A LETTER OF A FORM CAN STAND: form.slots of the program.
  WHETHER A WORD CAN STAND IN A SLOT: slot.takes of the program.
  WHICH FILLS COME FIRST: counts.before of the program.
  WHAT IS DONE BY EACH KIND OF MARKS: kinds of the program.
  THE WAYS IN WHICH A LETTER IS OF A FORM, plain: how many words are in each part, one list of counts for each way, in their order.
  HOW THE WORDS OF A LETTER COME TO STAND IN SLOTS, plain: for what is left of the letter and of the slots, the first kind of mark with the fewest corrections from there on, and how many these are; and the marks.
  THE FEWEST CORRECTIONS BETWEEN WHAT IS LEFT OF A LETTER AND OF A SHAPE, plain: from the end, and the marks that they tell.
  THE TABLE OF THE FEWEST CORRECTIONS, of the reference: rows that the call makes itself, filled from the end.
  WHAT THE FUNCTIONS IN THE TABLE OF KINDS RETURN.
  A RANGE OVER A FUNCTION whose iterator has cells of its own, which it writes between two rounds: the list that it yields is known; the caller's invariant speaks of what was there when the loop began. No round leaves the loop.
-/
import Derived.Test.YtcamegaimleomaaGreatBunAD
import Derived.Laws.OwnMore
import Derived.Test.YtcamegaimleomaaGreatBunAA
import Derived.RangeFuncNested
import Derived.RangeFuncBound
import Derived.RangeFuncLeaves
import Derived.TacticsInMore
import Derived.LoopIn
namespace Go.Proofs.YtcamegaimleomaaGreat
set_option linter.unusedSimpArgs false
set_option linter.unusedVariables false
open Go.RowKit
set_option linter.unusedVariables false

/-- the slots of a form -/
def formSlotsM (ps : List Part) : List Slot := ps.flatMap partSlotsM
theorem partSlots_len {p : Part} (h : ValidPart p) : 1 ≤ (partSlotsM p).length ∧ (partSlotsM p).length ≤ 3 := by
  have e : (partSlotsM p).length = p.words.length + p.hi.toNat := by simp [partSlotsM, givenM, roomSlotsM]
  have hn := h.n
  rw [e]
  by_cases hw : p.words = []
  · have := h.r hw
    rw [hw]
    simp
    omega
  · have := h.z hw
    have hp : 0 < p.words.length := List.length_pos_iff.mpr hw
    rw [this.2]
    simp
    omega
theorem formSlots_step (ps : List Part) (k : Nat) (h : k < ps.length) : formSlotsM (ps.take (k + 1)) = formSlotsM (ps.take k) ++ partSlotsM ps[k] := by
  unfold formSlotsM
  rw [List.take_succ_eq_append_getElem h, List.flatMap_append]
  simp
theorem formSlots_len {ps : List Part} (h : ∀ p ∈ ps, ValidPart p) : (formSlotsM ps).length ≤ 3 * ps.length := by
  induction ps with
  | nil => simp [formSlotsM]
  | cons p r ih =>
    have h1 := ih fun q hq => h q (List.mem_cons_of_mem _ hq)
    have h2 := (partSlots_len (h p List.mem_cons_self)).2
    simp only [formSlotsM, List.flatMap_cons, List.length_append, List.length_cons] at *
    omega
theorem cellsS_one (l : List Slot) : ∀ u ∈ cellsS l, u.oneCell' = true := by
  intro u hu
  obtain ⟨s, -, hs⟩ := List.mem_flatMap.1 hu
  simp only [List.mem_cons, List.not_mem_nil, or_false] at hs
  rcases hs with rfl | rfl <;> rfl
/-- the block of a row that holds something -/
theorem RowS.some {base : Nat} {l : List Slot} {u : Value} {w : World} (h : RowS base l u w) (hn : 1 ≤ l.length) : ∃ g c, u = .slice (some ⟨g, 0, none⟩) l.length c ∧ ∀ j x, (cellsS l)[j]? = some x → w.cell? ((⟨g, 0, none⟩ : Addr).add j) = some x := by
  have hcells := fun g hg => h.cells (g := g) hg
  rcases h.2 with ⟨rfl, h0⟩ | ⟨g, cap, cur, rfl, -⟩
  · omega
  · exact ⟨g, cap, rfl, fun j x hx => hcells g rfl j x hx⟩

set_option maxRecDepth 100000 in
set_option maxHeartbeats 2000000 in
theorem formSlots_any (fv : Value) (f : Form) (hV : ValidForm f) (w : World) (hf : FormV w fv f) :
    Calls Tryz.prog 62 #[fv] w fun e w' => ∃ u, e = .returned u ∧ RowS w.heap.size (formSlotsM f.parts) u w' ∧ Ext w w' := by
  obtain ⟨pv, rfl, hns, hp⟩ := hf
  obtain ⟨a, cap, rfl, hlc, hcm⟩ := hp.shape
  obtain ⟨i0, hi, hz0, hz1, hz2⟩ := info_parts infoSlot
  have h5 := hV.n
  go_enter Tryz.func62, Tryz.ntmps62
  go_wp2_with fail
  go_loopw [3, 10] (fun v i wr => ∃ k : Nat, k ≤ f.parts.length ∧ i = .int .i64 k ∧ Ext w wr ∧ RowS w.heap.size (formSlotsM (f.parts.take k)) v wr) (fun _ i _ => f.parts.length - (intOf i).toNat)
  case atStart => exact ⟨0, Nat.zero_le _, rfl, ext_alloc _ _, RowS.nil⟩
  case round =>
    obtain ⟨k, hk, rfl, hxr, hown⟩ := hrel
    by_cases hlt : k < f.parts.length
    · have k1 : (k : Int) < (f.parts.length : Int) := by omega
      obtain ⟨b, o, rfl, ⟨u, h1, hs⟩, h2, h3, hlo, hhi⟩ := hp.get hlt
      replace h1 := hxr.cell h1
      replace h2 := hxr.cell h2
      replace h3 := hxr.cell h3
      have hst := formSlots_step f.parts k hlt
      have hvp := hV.parts _ (List.getElem_mem hlt)
      have hgl : (formSlotsM (f.parts.take k)).length ≤ 15 := by
        have := formSlots_len (ps := f.parts.take k) fun p hp => hV.parts p (List.mem_of_mem_take hp)
        rw [List.length_take] at this
        omega
      generalize f.parts[k] = y at *
      obtain ⟨ua, uc, rfl, -⟩ := hs.shape
      have hc2 := cellsS_len (formSlotsM (f.parts.take k))
      generalize hG : formSlotsM (f.parts.take k) = G at *
      have Hst := Lib.hid hst
      have Hown := Lib.hid hown
      have Hvp := Lib.hid hvp
      have hszr := hxr.size
      clear hG hst hown hvp
      go_wp2_with fail
      refine (partSlots_any _ y Hvp.out.n (by
        by_cases hw : y.words = []
        · exact (Hvp.out.r hw).2.2.2
        · rw [(Hvp.out.z hw).2]; decide) _ ⟨_, rfl, (hs.ext hxr).ext (by first | (with_reducible exact Ext.refl _) | (with_reducible assumption) | (show Below _ _ _; go_grown; done)), hlo, hhi⟩).mono ?_
      rintro e w1 ⟨sv, rfl, hsv, hx1⟩
      have hx2 : Ext wr w1 := Ext.trans (by first | (with_reducible exact Ext.refl _) | (with_reducible assumption) | (show Below _ _ _; go_grown; done)) hx1
      have own1 := Hown.out.ext hx2
      obtain ⟨hl1, hl2⟩ := partSlots_len Hvp.out
      obtain ⟨g, c, rfl, hcs⟩ := hsv.some hl1
      have hcl := cellsS_len (partSlotsM y)
      have hz := hx2.size
      have Hcs := Lib.hid hcs
      have Own1 := Lib.hid own1
      generalize hP : partSlotsM y = P at *
      clear hcs own1 hsv hx1 hP h1 h2 h3
      go_wp2_with (at_builtin; go_loud (refine wpList_append_own_at _ rfl _ _ 104 rfl w.heap.size 189 i0 (.agg #[.string ByteArray.empty, .bool false]) 2 24 Tryz.underlying104 hi hz0 hz1 hz2 rfl (by decide) u3 G.length (cellsS G) rfl Own1.out ⟨g, 0, none⟩ P.length c (cellsS P) rfl hcl Hcs.out (cellsS_one _) (by unfold maxLen; omega) (by omega) (by omega) ?_; intro v' w2 hown' hgrow _ _))
      have hx3 : Ext w w2 := Ext.grown (hxr.trans hx2) hgrow fun k hk => (Own1.out.lt k hk).1
      go_roundw
      case rel => exact ⟨k + 1, by omega, by go_num, hx3, by rw [Hst.out]; unfold RowS; rw [List.length_append, cellsS_app]; exact hown'⟩
      case measure => simp [intOf]; omega
    · have hke : k = f.parts.length := by omega
      subst hke
      rw [List.take_length] at hown
      go_wp2
      go_ret
      exact ⟨_, rfl, hown, hxr⟩
end Go.Proofs.YtcamegaimleomaaGreat

namespace Go.Proofs.YtcamegaimleomaaGreat
set_option linter.unusedSimpArgs false
set_option linter.unusedVariables false
open Go.RowKit
set_option linter.unusedVariables false

def takesM (s : Slot) (x : ByteArray) : Bool := s.word.toList.isEmpty || s.word.toList == x.toList
/-- a slot, handed in -/
def slotV (s : Slot) : Value := .agg #[.string s.word, .bool s.free]
set_option maxRecDepth 100000 in
theorem takes_any (s : Slot) (x : ByteArray) (w : World) :
    Calls Tryz.prog 142 #[slotV s, .string x] w fun e w' => e = .returned (.bool (takesM s x)) ∧ Ext w w' := by
  unfold slotV
  go_enter Tryz.func142, Tryz.ntmps142
  go_wp2_with fail
  · go_ret
    rename_i h
    exact ⟨ret_bool (by rw [takesM, h]; rfl), (by first | (with_reducible exact Ext.refl _) | (with_reducible assumption) | (show Below _ _ _; go_grown; done))⟩
  · go_ret
    exact ⟨rfl, (by first | (with_reducible exact Ext.refl _) | (with_reducible assumption) | (show Below _ _ _; go_grown; done))⟩
end Go.Proofs.YtcamegaimleomaaGreat

namespace Go.Proofs.YtcamegaimleomaaGreat
set_option linter.unusedSimpArgs false
set_option linter.unusedVariables false
open Go.RowKit
set_option linter.unusedVariables false

set_option maxHeartbeats 1000000 in
theorem eq_counts (a b c d e a' b' c' d' e' : Int) (k : Nat) (w : World) :
    (Op.equalIn (k + 2) 89 (.agg #[.int .i64 a, .int .i64 b, .int .i64 c, .int .i64 d, .int .i64 e]) (.agg #[.int .i64 a', .int .i64 b', .int .i64 c', .int .i64 d', .int .i64 e'])).run Tryz.prog w =
      .ok (a == a' && (b == b' && (c == c' && (d == d' && e == e')))) w := by
  have ha : ∀ w, (isAgg 3).run Tryz.prog w = .ok false w := fun _ => by kernel_rfl
  rw [Op.equalIn]
  simp only [go_sem]
  simp [List.range', go_sem]
  by_cases h1 : a = a' <;> by_cases h2 : b = b' <;> by_cases h3 : c = c' <;> by_cases h4 : d = d' <;> by_cases h5 : e = e' <;> simp [h1, h2, h3, h4, h5]
/-- how many words are in each part -/
def countsV (c : Nat → Int) : Value := .agg #[.int .i64 (c 0), .int .i64 (c 1), .int .i64 (c 2), .int .i64 (c 3), .int .i64 (c 4)]
def lexL : List Int → List Int → Bool
  | x :: xs, y :: ys => if x = y then lexL xs ys else decide (x < y)
  | _, _ => false
def beforeM (c o : Nat → Int) : Bool := lexL [c 0, c 1, c 2, c 3, c 4] [o 0, o 1, o 2, o 3, o 4]
def sameC (c o : Nat → Int) : Bool := c 0 == o 0 && (c 1 == o 1 && (c 2 == o 2 && (c 3 == o 3 && c 4 == o 4)))
theorem before_same {c o : Nat → Int} (h : sameC c o = true) : beforeM c o = false := by
  simp [sameC] at h
  simp [beforeM, lexL, h]
theorem before_hit {c o : Nat → Int} {k : Nat} (hk : k < 5) (h : ∀ j, j < k → c j = o j) (hne : c k ≠ o k) : beforeM c o = decide (c k < o k) := by
  unfold beforeM
  match k, hk with
  | 0, _ => simp [lexL, hne]
  | 1, _ => simp [lexL, h 0 (by omega), hne]
  | 2, _ => simp [lexL, h 0 (by omega), h 1 (by omega), hne]
  | 3, _ => simp [lexL, h 0 (by omega), h 1 (by omega), h 2 (by omega), hne]
  | 4, _ => simp [lexL, h 0 (by omega), h 1 (by omega), h 2 (by omega), h 3 (by omega), hne]
  | n + 5, h => omega
theorem before_stop {c o : Nat → Int} (h : sameC c o = false) (k : Nat) (hk : k < 5) (h1 : ∀ j, j < k → c j = o j) (he : c k = o k) : k + 1 < 5 := by
  rcases Nat.lt_or_ge (k + 1) 5 with h2 | h2
  · exact h2
  · obtain rfl : k = 4 := by omega
    simp [sameC, h1 0 (by omega), h1 1 (by omega), h1 2 (by omega), h1 3 (by omega), he] at h
theorem cells_five {w : World} {B : Nat} {c : Nat → Int} (h0 : w.cell? ⟨B, 0, none⟩ = some (.int .i64 (c 0))) (h1 : w.cell? ⟨B, 1, none⟩ = some (.int .i64 (c 1))) (h2 : w.cell? ⟨B, 2, none⟩ = some (.int .i64 (c 2))) (h3 : w.cell? ⟨B, 3, none⟩ = some (.int .i64 (c 3))) (h4 : w.cell? ⟨B, 4, none⟩ = some (.int .i64 (c 4))) (k : Nat) (hk : k < 5) : w.cell? ⟨B, k, none⟩ = some (.int .i64 (c k)) := by
  match k, hk with
  | 0, _ => exact h0
  | 1, _ => exact h1
  | 2, _ => exact h2
  | 3, _ => exact h3
  | 4, _ => exact h4
  | n + 5, h => omega
set_option maxHeartbeats 1000000 in
set_option maxRecDepth 100000 in
theorem before_any (c o : Nat → Int) (w : World) :
    Calls Tryz.prog 100 #[countsV c, countsV o] w fun e w' => e = .returned (.bool (beforeM c o)) ∧ Ext w w' := by
  unfold countsV
  go_enter Tryz.func100, Tryz.ntmps100
  go_wp2_with fail
  rw [eq_counts]
  change Oper.upon _ _ _ _ _ ((Result.ok (sameC c o) _).andThen _ |>.andThen _)
  cases hs : sameC c o
  · go_simp
    go_wp2_with fail
    have g0 := cells_five (w := (w.alloc (.cells #[.int .i64 (c 0), .int .i64 (c 1), .int .i64 (c 2), .int .i64 (c 3), .int .i64 (c 4)] 89)).alloc (.cells #[.int .i64 (o 0), .int .i64 (o 1), .int .i64 (o 2), .int .i64 (o 3), .int .i64 (o 4)] 89)) (B := w.heap.size) (c := c) (by simp [go_sem]) (by simp [go_sem]) (by simp [go_sem]) (by simp [go_sem]) (by simp [go_sem])
    have g1 := cells_five (w := (w.alloc (.cells #[.int .i64 (c 0), .int .i64 (c 1), .int .i64 (c 2), .int .i64 (c 3), .int .i64 (c 4)] 89)).alloc (.cells #[.int .i64 (o 0), .int .i64 (o 1), .int .i64 (o 2), .int .i64 (o 3), .int .i64 (o 4)] 89)) (B := w.heap.size + 1) (c := o) (by simp [go_sem]) (by simp [go_sem]) (by simp [go_sem]) (by simp [go_sem]) (by simp [go_sem])
    have Hs := Lib.hid hs
    clear hs
    go_loopw [5] (fun i wr => ∃ k : Nat, k < 5 ∧ i = .int .i64 k ∧ (∀ j, j < k → c j = o j) ∧ (∀ j, j < 5 → wr.cell? ⟨w.heap.size, j, none⟩ = some (.int .i64 (c j))) ∧ (∀ j, j < 5 → wr.cell? ⟨w.heap.size + 1, j, none⟩ = some (.int .i64 (o j))) ∧ Ext w wr) (fun i _ => 5 - (intOf i).toNat)
    case atStart => exact ⟨0, by omega, rfl, fun j h => by omega, g0, g1, (by first | (with_reducible exact Ext.refl _) | (with_reducible assumption) | (show Below _ _ _; go_grown; done))⟩
    case round =>
      obtain ⟨k, hk, rfl, hj, e0, e1, hx⟩ := hrel
      have k0 := e0 k hk
      have k1 := e1 k hk
      have k5 : (k : Int) < 5 := by omega
      have Hj := Lib.hid hj
      have E0 := Lib.hid e0
      have E1 := Lib.hid e1
      clear hj e0 e1 g0 g1
      go_wp2_with fail
      apply Facts.wp_region [.val _, .val _, .val _, .val _, .val _, .val _, .val _] (by kernel_rfl) (by kernel_rfl) trivial ?main
      case main =>
        iterate 7 (refine ⟨fun w1 hx hh => ?_, ?_⟩; focus (clear hh; have a0 := hx.cell k0; have a1 := hx.cell k1; go_simp; exact ⟨Ext.refl _, rfl⟩))
        intro w1 hx1 hh
        clear hh
        go_simp
        by_cases he : c k = o k
        · have hb : (c k == o k) = true := by simpa using he
          have hn := before_stop Hs.out k hk Hj.out he
          have He := Lib.hid he
          clear he
          rw [hb]
          go_wp2
          go_roundw
          case rel => exact ⟨k + 1, hn, by go_num, fun j h => by
            rcases Nat.lt_or_ge j k with h1 | h1
            · exact Hj.out j h1
            · obtain rfl : j = k := by omega
              exact He.out, fun j h => hx1.cell (E0.out j h), fun j h => hx1.cell (E1.out j h), hx.trans hx1⟩
          case measure => simp [intOf]; omega
        · have hb : (c k == o k) = false := by simpa using he
          have ho := before_hit hk Hj.out he
          have Ho := Lib.hid ho
          clear he ho
          replace k0 := hx1.cell k0
          replace k1 := hx1.cell k1
          rw [hb]
          go_wp2_with fail
          apply Facts.wp_region [.val _, .val _, .val _, .val _, .val _, .val _, .val _, .val _] (by kernel_rfl) (by kernel_rfl) trivial ?main
          case main =>
            iterate 8 (refine ⟨fun w1 hx hh => ?_, ?_⟩; focus (clear hh; have a0 := hx.cell k0; have a1 := hx.cell k1; go_simp; exact ⟨Ext.refl _, rfl⟩))
            intro w2 hx2 hh
            clear hh
            go_simp
            go_wp2
            go_ret
            exact ⟨ret_bool Ho.out.symm, hx.trans (hx1.trans hx2)⟩
  · go_simp
    go_wp2_with fail
    go_ret
    exact ⟨ret_bool (before_same hs).symm, (by first | (with_reducible exact Ext.refl _) | (with_reducible assumption) | (show Below _ _ _; go_grown; done))⟩
end Go.Proofs.YtcamegaimleomaaGreat

namespace Go.Proofs.YtcamegaimleomaaGreat
set_option linter.unusedSimpArgs false
set_option linter.unusedVariables false
open Go.RowKit
set_option linter.unusedVariables false

/-- what lies in the table for each kind: keep, turn, drop, put, pass -/
def kindV : Nat → List Value
  | 0 => [.int .i64 1, .int .i64 1, .int .i64 0, .bool false, .func (.func 149) #[] #[], .func (.func 146) #[] #[]]
  | 1 => [.int .i64 1, .int .i64 1, .int .i64 1, .bool true, .func (.func 150) #[] #[], .func (.func 148) #[] #[]]
  | 2 => [.int .i64 1, .int .i64 0, .int .i64 1, .bool false, .func (.func 145) #[] #[], .func (.func 147) #[] #[]]
  | 3 => [.int .i64 0, .int .i64 1, .int .i64 1, .bool true, .func (.func 145) #[] #[], .func (.func 148) #[] #[]]
  | _ => [.int .i64 0, .int .i64 1, .int .i64 0, .bool false, .func (.func 151) #[] #[], .func (.func 147) #[] #[]]
def KindsAt (w : World) (B : Nat) : Prop := ∀ k j u, k < 5 → (kindV k)[j]? = some u → w.cell? ⟨B, k * 6 + j, none⟩ = some u
theorem KindsAt.ext {w w' : World} {B : Nat} (h : KindsAt w B) (hx : Ext w w') : KindsAt w' B := fun k j u hk hu => hx.cell (h k j u hk hu)
theorem kinds_laid {w : World} {B : Nat} (h : ∀ i u, (kindV 0 ++ kindV 1 ++ kindV 2 ++ kindV 3 ++ kindV 4)[i]? = some u → w.cell? ⟨B, i, none⟩ = some u) : KindsAt w B := by
  intro k j u hk hu
  refine h _ _ ?_
  have hj : j < 6 := by
    rcases Nat.lt_or_ge j 6 with h | h
    · exact h
    · rw [List.getElem?_eq_none (by match k, hk with
        | 0, _ => exact h
        | 1, _ => exact h
        | 2, _ => exact h
        | 3, _ => exact h
        | 4, _ => exact h)] at hu; cases hu
  rw [← hu]
  have : ∀ k : Fin 5, ∀ j : Fin 6, (kindV 0 ++ kindV 1 ++ kindV 2 ++ kindV 3 ++ kindV 4)[k.1 * 6 + j.1]? = (kindV k.1)[j.1]? := by
    intro k j
    match k, j with
    | ⟨0, _⟩, ⟨0, _⟩ | ⟨0, _⟩, ⟨1, _⟩ | ⟨0, _⟩, ⟨2, _⟩ | ⟨0, _⟩, ⟨3, _⟩ | ⟨0, _⟩, ⟨4, _⟩ | ⟨0, _⟩, ⟨5, _⟩ => rfl
    | ⟨1, _⟩, ⟨0, _⟩ | ⟨1, _⟩, ⟨1, _⟩ | ⟨1, _⟩, ⟨2, _⟩ | ⟨1, _⟩, ⟨3, _⟩ | ⟨1, _⟩, ⟨4, _⟩ | ⟨1, _⟩, ⟨5, _⟩ => rfl
    | ⟨2, _⟩, ⟨0, _⟩ | ⟨2, _⟩, ⟨1, _⟩ | ⟨2, _⟩, ⟨2, _⟩ | ⟨2, _⟩, ⟨3, _⟩ | ⟨2, _⟩, ⟨4, _⟩ | ⟨2, _⟩, ⟨5, _⟩ => rfl
    | ⟨3, _⟩, ⟨0, _⟩ | ⟨3, _⟩, ⟨1, _⟩ | ⟨3, _⟩, ⟨2, _⟩ | ⟨3, _⟩, ⟨3, _⟩ | ⟨3, _⟩, ⟨4, _⟩ | ⟨3, _⟩, ⟨5, _⟩ => rfl
    | ⟨4, _⟩, ⟨0, _⟩ | ⟨4, _⟩, ⟨1, _⟩ | ⟨4, _⟩, ⟨2, _⟩ | ⟨4, _⟩, ⟨3, _⟩ | ⟨4, _⟩, ⟨4, _⟩ | ⟨4, _⟩, ⟨5, _⟩ => rfl
  exact this ⟨k, hk⟩ ⟨j, hj⟩

set_option maxHeartbeats 1000000 in
set_option maxRecDepth 100000 in
theorem kinds_any (w : World) :
    Calls Tryz.prog 109 #[] w fun e w' => (∃ B, e = .returned (.slice (some ⟨B, 0, none⟩) 5 5) ∧ KindsAt w' B) ∧ Ext w w' := by
  go_enter Tryz.func109, Tryz.ntmps109
  go_wp2_with fail
  go_ret
  refine ⟨⟨_, rfl, kinds_laid fun i u hu => ?_⟩, (by first | (with_reducible exact Ext.refl _) | (with_reducible assumption) | (show Below _ _ _; go_grown; done))⟩
  rw [← hu]
  exact (World.cell?_alloc_new w _ _ _).trans (by first | (rw [List.getElem?_toArray]; rfl) | simp [kindV])
end Go.Proofs.YtcamegaimleomaaGreat

namespace Go.Proofs.YtcamegaimleomaaGreat
set_option linter.unusedSimpArgs false
set_option linter.unusedVariables false
set_option linter.unusedVariables false

def noSlot : Slot := ⟨ByteArray.empty, false⟩
/-- whether the first n words of a letter can be those of a part -/
def sizeOk (sl : List Slot) (left : List ByteArray) (n : Nat) : Bool :=
  decide (n ≤ left.length) && (decide (sl.length ≤ n) || (sl.getD n noSlot).free) && (List.range n).all fun i => takesM (sl.getD i noSlot) (left.getD i ByteArray.empty)
def updC (c : Nat → Int) (k : Nat) (v : Int) : Nat → Int := fun j => if j = k then v else c j
/-- what comes of the first k sizes of a part -/
def waysTo (step : Nat → List (Nat → Int)) (sl : List Slot) (left : List ByteArray) : Nat → List (Nat → Int)
  | 0 => []
  | k + 1 => waysTo step sl left k ++ if sizeOk sl left k then step k else []
def waysF : List (List Slot) → Nat → List ByteArray → (Nat → Int) → List (Nat → Int)
  | [], _, left, c => if left.length = 0 then [c] else []
  | sl :: r, k, left, c => waysTo (fun n => waysF r (k + 1) (left.drop n) (updC c k n)) sl left (sl.length + 1)
theorem waysTo_mono (step : Nat → List (Nat → Int)) (sl : List Slot) (left : List ByteArray) {k m : Nat} (h : k ≤ m) : waysTo step sl left k <+: waysTo step sl left m := by
  obtain ⟨d, rfl⟩ := Nat.exists_eq_add_of_le h
  clear h
  induction d with
  | zero => exact List.prefix_rfl
  | succ d ih => exact ih.trans ⟨_, rfl⟩
theorem waysTo_hit (step : Nat → List (Nat → Int)) (sl : List Slot) (left : List ByteArray) (k : Nat) (h : sizeOk sl left k = true) : waysTo step sl left (k + 1) = waysTo step sl left k ++ step k := by
  rw [waysTo, if_pos h]
theorem waysTo_miss (step : Nat → List (Nat → Int)) (sl : List Slot) (left : List ByteArray) (k : Nat) (h : sizeOk sl left k = false) : waysTo step sl left (k + 1) = waysTo step sl left k := by
  rw [waysTo, if_neg (by rw [h]; decide), List.append_nil]
theorem waysTo_mem {step : Nat → List (Nat → Int)} {sl : List Slot} {left : List ByteArray} {c : Nat → Int} : ∀ {k : Nat}, c ∈ waysTo step sl left k → ∃ n, n < k ∧ sizeOk sl left n = true ∧ c ∈ step n
  | 0, h => by simp [waysTo] at h
  | k + 1, h => by
    rw [waysTo] at h
    rcases List.mem_append.1 h with h | h
    · obtain ⟨n, h1, h2⟩ := waysTo_mem h
      exact ⟨n, by omega, h2⟩
    · by_cases hs : sizeOk sl left k = true
      · rw [if_pos hs] at h; exact ⟨k, by omega, hs, h⟩
      · rw [if_neg hs] at h; cases h
theorem sizeOk_le {sl : List Slot} {left : List ByteArray} {n : Nat} (h : sizeOk sl left n = true) : n ≤ left.length := by
  simp [sizeOk] at h; exact h.1.1
/-- what is counted is what there is -/
theorem waysF_fine : ∀ (ss : List (List Slot)) (k : Nat) (left : List ByteArray) (c d : Nat → Int), d ∈ waysF ss k left c → (∀ j, j < k → d j = c j) ∧ (∀ j, k + ss.length ≤ j → d j = c j) ∧ (∀ j, k ≤ j → j < k + ss.length → 0 ≤ d j ∧ d j ≤ left.length)
  | [], k, left, c, d, h => by
    unfold waysF at h
    split at h
    · simp only [List.mem_singleton] at h; subst h; exact ⟨fun _ _ => rfl, fun _ _ => rfl, fun j h1 h2 => by simp at h2; omega⟩
    · cases h
  | sl :: r, k, left, c, d, h => by
    unfold waysF at h
    obtain ⟨n, hn, hs, hd⟩ := waysTo_mem h
    obtain ⟨h1, h2, h3⟩ := waysF_fine r (k + 1) _ _ d hd
    have hle := sizeOk_le hs
    refine ⟨fun j hj => (h1 j (by omega)).trans (by simp [updC]; omega), fun j hj => (h2 j (by simp at hj; omega)).trans (by simp at hj; simp [updC]; omega), fun j hj hj2 => ?_⟩
    simp only [List.length_cons] at hj2
    by_cases e : j = k
    · subst e
      rw [h1 j (by omega)]
      simp only [updC, if_true]
      omega
    · have := h3 j (by omega) (by omega)
      simp only [List.length_drop] at this
      omega
theorem waysTo_len {step : Nat → List (Nat → Int)} {sl : List Slot} {left : List ByteArray} {N : Nat} (h : ∀ n, (step n).length ≤ N) : ∀ k, (waysTo step sl left k).length ≤ k * N
  | 0 => by simp [waysTo]
  | k + 1 => by
    have ih := waysTo_len (sl := sl) (left := left) h k
    have hk := h k
    rw [waysTo, List.length_append, Nat.succ_mul]
    split
    · omega
    · simp; omega
theorem waysF_len : ∀ (ss : List (List Slot)) (k : Nat) (left : List ByteArray) (c : Nat → Int), (∀ sl ∈ ss, sl.length ≤ 3) → (waysF ss k left c).length ≤ 4 ^ ss.length
  | [], k, left, c, _ => by unfold waysF; split <;> simp
  | sl :: r, k, left, c, h => by
    have h3 := h sl List.mem_cons_self
    have := waysTo_len (sl := sl) (left := left) (N := 4 ^ r.length) (step := fun n => waysF r (k + 1) (left.drop n) (updC c k n)) (fun n => waysF_len r (k + 1) _ _ fun s hs => h s (List.mem_cons_of_mem _ hs)) (sl.length + 1)
    rw [waysF, List.length_cons, Nat.pow_succ]
    refine Nat.le_trans this ?_
    rw [Nat.mul_comm]
    exact Nat.mul_le_mul_left _ (by omega)
/-- the ways of a form -/
def formWays (ps : List Part) (l : List ByteArray) : List (Nat → Int) := waysF (ps.map partSlotsM) 0 l (fun _ => 0)
/-- the first of some things that none comes before, and how many there are -/
def pickB {α : Type} (bf : α → α → Bool) (z : α) (xs : List α) : α × Nat := xs.foldl (fun s x => (if s.2 = 0 ∨ bf x s.1 = true then x else s.1, s.2 + 1)) (z, 0)
theorem pickB_snoc {α : Type} (bf : α → α → Bool) (z : α) (xs : List α) (x : α) : pickB bf z (xs ++ [x]) = (if (pickB bf z xs).2 = 0 ∨ bf x (pickB bf z xs).1 = true then x else (pickB bf z xs).1, (pickB bf z xs).2 + 1) := by
  unfold pickB
  rw [List.foldl_append]
  rfl
theorem snoc_ind {α : Type} {p : List α → Prop} (h0 : p []) (h1 : ∀ xs x, p xs → p (xs ++ [x])) (xs : List α) : p xs := by
  have h : ∀ ys : List α, p ys.reverse := by
    intro ys
    induction ys with
    | nil => exact h0
    | cons y ys ih => rw [List.reverse_cons]; exact h1 _ _ ih
  have := h xs.reverse
  rwa [List.reverse_reverse] at this
theorem pickB_many {α : Type} (bf : α → α → Bool) (z : α) (xs : List α) : (pickB bf z xs).2 = xs.length := by
  refine snoc_ind (p := fun xs => (pickB bf z xs).2 = xs.length) rfl (fun xs x ih => ?_) xs
  show (pickB bf z (xs ++ [x])).2 = (xs ++ [x]).length
  rw [pickB_snoc, List.length_append]; simp [ih]
theorem pickB_mem {α : Type} (bf : α → α → Bool) (z : α) (xs : List α) : (pickB bf z xs).1 = z ∧ xs = [] ∨ (pickB bf z xs).1 ∈ xs := by
  refine snoc_ind (p := fun xs => (pickB bf z xs).1 = z ∧ xs = [] ∨ (pickB bf z xs).1 ∈ xs) (.inl ⟨rfl, rfl⟩) (fun xs x ih => .inr ?_) xs
  rw [pickB_snoc]
  by_cases h : (pickB bf z xs).2 = 0 ∨ bf x (pickB bf z xs).1 = true
  · rw [if_pos h]; simp
  · rw [if_neg h]
    rcases ih with ⟨-, rfl⟩ | ih
    · exact absurd (.inl rfl) h
    · exact List.mem_append_left _ ih
end Go.Proofs.YtcamegaimleomaaGreat

namespace Go.Proofs.YtcamegaimleomaaGreat
set_option linter.unusedSimpArgs false
set_option linter.unusedVariables false
set_option linter.unusedVariables false

/-- a choice: which kind, and how many corrections -/
abbrev Ch := Nat × Nat
def fewCh (a b : Ch) : Bool := decide (a.2 < b.2)
def pickC (l : List Ch) : Ch := (pickB fewCh (0, 0) l).1
def lastRow : List Slot → List Ch
  | [] => [(0, 0)]
  | s :: ss => pickC ([(3, 1 + ((lastRow ss).headD (0, 0)).2)] ++ if s.free then [(4, ((lastRow ss).headD (0, 0)).2)] else []) :: lastRow ss
def nextRow (x : ByteArray) : List Slot → List Ch → List Ch
  | [], below => [pickC [(2, 1 + (below.headD (0, 0)).2)]]
  | s :: ss, below => pickC ([if takesM s x then (0, (below.tail.headD (0, 0)).2) else (1, 1 + (below.tail.headD (0, 0)).2), (2, 1 + (below.headD (0, 0)).2), (3, 1 + ((nextRow x ss below.tail).headD (0, 0)).2)] ++ if s.free then [(4, ((nextRow x ss below.tail).headD (0, 0)).2)] else []) :: nextRow x ss below.tail
def rowM : List ByteArray → List Slot → List Ch
  | [], ss => lastRow ss
  | x :: ws, ss => nextRow x ss (rowM ws ss)
/-- the choice for what is left -/
def costM (ws : List ByteArray) (ss : List Slot) : Ch := (rowM ws ss).headD (0, 0)
theorem rowM_ne (ws : List ByteArray) (ss : List Slot) : rowM ws ss ≠ [] := by
  cases ws with
  | nil => cases ss <;> simp [rowM, lastRow]
  | cons x ws => cases ss <;> simp [rowM, nextRow]
theorem rowM_tail (ws : List ByteArray) (s : Slot) (ss : List Slot) : (rowM ws (s :: ss)).tail = rowM ws ss := by
  induction ws with
  | nil => rfl
  | cons x ws ih => show nextRow x ss (rowM ws (s :: ss)).tail = _; rw [ih]; rfl
theorem costM_end : costM [] [] = (0, 0) := rfl
theorem costM_put (s : Slot) (ss : List Slot) : costM [] (s :: ss) = pickC ([(3, 1 + (costM [] ss).2)] ++ if s.free then [(4, (costM [] ss).2)] else []) := rfl
theorem costM_drop (x : ByteArray) (ws : List ByteArray) : costM (x :: ws) [] = pickC [(2, 1 + (costM ws []).2)] := rfl
theorem costM_all (x : ByteArray) (ws : List ByteArray) (s : Slot) (ss : List Slot) :
    costM (x :: ws) (s :: ss) = pickC ([if takesM s x then (0, (costM ws ss).2) else (1, 1 + (costM ws ss).2), (2, 1 + (costM ws (s :: ss)).2), (3, 1 + (costM (x :: ws) ss).2)] ++ if s.free then [(4, (costM (x :: ws) ss).2)] else []) := by
  show (nextRow x (s :: ss) (rowM ws (s :: ss))).headD (0, 0) = _
  rw [nextRow, rowM_tail]
  rfl
/-- how many words, slots and corrections each kind takes, and whether it writes -/
def kW : Nat → Nat
  | 0 | 1 | 2 => 1
  | _ => 0
def kS : Nat → Nat
  | 2 => 0
  | _ => 1
def kC : Nat → Nat
  | 1 | 2 | 3 => 1
  | _ => 0
def kWr : Nat → Bool
  | 1 | 3 => true
  | _ => false
/-- whether it can be done, so that these words come to these slots -/
def canM' : Nat → List ByteArray → List Slot → Bool
  | 0, ws, ss => takesM (ss.headD noSlot) (ws.headD ByteArray.empty)
  | 1, ws, ss => !takesM (ss.headD noSlot) (ws.headD ByteArray.empty)
  | 4, _, ss => (ss.headD noSlot).free
  | _, _, _ => true
/-- what can be done by one kind at a place, if what is found is F -/
def choiceK (F : Nat → Nat → Option Ch) (ws : List ByteArray) (ss : List Slot) (i j k : Nat) : List Ch :=
  match F (i + kW k) (j + kS k) with
  | none => []
  | some b => if canM' k (ws.drop i) (ss.drop j) then [(k, kC k + b.2)] else []
def choicesTo (F : Nat → Nat → Option Ch) (ws : List ByteArray) (ss : List Slot) (i j : Nat) : Nat → List Ch
  | 0 => []
  | k + 1 => choicesTo F ws ss i j k ++ choiceK F ws ss i j k
def choicesM (F : Nat → Nat → Option Ch) (ws : List ByteArray) (ss : List Slot) (i j : Nat) : List Ch := choicesTo F ws ss i j 5
/-- the choice at a place -/
def valM (ws : List ByteArray) (ss : List Slot) (i j : Nat) : Ch := costM (ws.drop i) (ss.drop j)
/-- a place at which all that can be done is found gets what is due -/
theorem choices_val (F : Nat → Nat → Option Ch) (ws : List ByteArray) (ss : List Slot) (i j : Nat) (hi : i ≤ ws.length) (hj : j ≤ ss.length)
    (hF : ∀ a b, (i < a ∧ j ≤ b ∨ i ≤ a ∧ j < b) → F a b = if a ≤ ws.length ∧ b ≤ ss.length then some (valM ws ss a b) else none) : pickC (choicesM F ws ss i j) = valM ws ss i j := by
  have e1 := hF (i + 1) (j + 1) (by omega)
  have e2 := hF (i + 1) j (by omega)
  have e3 := hF i (j + 1) (by omega)
  have hd : choicesM F ws ss i j = choiceK F ws ss i j 0 ++ choiceK F ws ss i j 1 ++ choiceK F ws ss i j 2 ++ choiceK F ws ss i j 3 ++ choiceK F ws ss i j 4 := by simp [choicesM, choicesTo]
  rw [hd]
  unfold choiceK
  simp only [kW, kS, Nat.add_zero, e1, e2, e3]
  unfold valM
  by_cases h1 : i < ws.length
  · have d1 : ws.drop i = ws[i] :: ws.drop (i + 1) := List.drop_eq_getElem_cons h1
    by_cases h2 : j < ss.length
    · have d2 : ss.drop j = ss[j] :: ss.drop (j + 1) := List.drop_eq_getElem_cons h2
      rw [if_pos (by omega), if_pos (by omega), if_pos (by omega)]
      simp only [d1, d2, costM_all, canM', List.headD_cons, kC]
      congr 1
      cases takesM ss[j] ws[i] <;> cases (ss[j]).free <;> simp
    · have d2 : ss.drop j = [] := List.drop_eq_nil_of_le (by omega)
      have d3 : ss.drop (j + 1) = [] := List.drop_eq_nil_of_le (by omega)
      rw [if_neg (by omega), if_pos (by omega), if_neg (by omega)]
      simp only [d1, d2, d3, costM_drop, canM', kC]
      congr 1
  · have d1 : ws.drop i = [] := List.drop_eq_nil_of_le (by omega)
    by_cases h2 : j < ss.length
    · have d2 : ss.drop j = ss[j] :: ss.drop (j + 1) := List.drop_eq_getElem_cons h2
      rw [if_neg (by omega), if_neg (by omega), if_pos (by omega)]
      simp only [d1, d2, costM_put, canM', List.headD_cons, kC]
      congr 1
      cases (ss[j]).free <;> simp
    · have d2 : ss.drop j = [] := List.drop_eq_nil_of_le (by omega)
      rw [if_neg (by omega), if_neg (by omega), if_neg (by omega)]
      simp only [d1, d2, costM_end]
      rfl
/-- the fewest corrections are no more than all that is left -/
theorem pickC_le (l : List Ch) (x : Ch) (h : x ∈ l) : (pickC l).2 ≤ x.2 := by
  unfold pickC
  revert h
  refine snoc_ind (p := fun l => x ∈ l → (pickB fewCh (0, 0) l).1.2 ≤ x.2) (by simp) (fun l y ih h => ?_) l
  rw [pickB_snoc, pickB_many]
  by_cases hc : l.length = 0 ∨ fewCh y (pickB fewCh (0, 0) l).1 = true
  · rw [if_pos hc]
    rcases List.mem_append.1 h with h | h
    · rcases hc with hc | hc
      · rw [List.eq_nil_of_length_eq_zero hc] at h; cases h
      · have := ih h
        simp [fewCh] at hc
        show y.2 ≤ x.2
        omega
    · simp at h; subst h; exact Nat.le_refl _
  · rw [if_neg hc]
    rcases List.mem_append.1 h with h | h
    · exact ih h
    · simp at h; subst h
      simp [fewCh] at hc
      exact hc.2
theorem pickC_mem (l : List Ch) (h : l ≠ []) : pickC l ∈ l := by
  rcases pickB_mem fewCh (0, 0) l with ⟨-, e⟩ | e
  · exact absurd e h
  · exact e
theorem costM_le : ∀ (ws : List ByteArray) (ss : List Slot), (costM ws ss).2 ≤ ws.length + ss.length
  | [], [] => by rw [costM_end]; exact Nat.zero_le _
  | [], s :: ss => by
    have ih := costM_le [] ss
    have := pickC_le ([(3, 1 + (costM [] ss).2)] ++ if s.free then [(4, (costM [] ss).2)] else []) (3, 1 + (costM [] ss).2) (by simp)
    rw [costM_put]
    simp only [List.length_nil, List.length_cons] at *
    omega
  | x :: ws, [] => by
    have ih := costM_le ws []
    have := pickC_le [(2, 1 + (costM ws []).2)] (2, 1 + (costM ws []).2) (by simp)
    rw [costM_drop]
    simp only [List.length_nil, List.length_cons] at *
    omega
  | x :: ws, s :: ss => by
    have ih := costM_le ws (s :: ss)
    have := pickC_le ([if takesM s x then (0, (costM ws ss).2) else (1, 1 + (costM ws ss).2), (2, 1 + (costM ws (s :: ss)).2), (3, 1 + (costM (x :: ws) ss).2)] ++ if s.free then [(4, (costM (x :: ws) ss).2)] else []) (2, 1 + (costM ws (s :: ss)).2) (by simp)
    rw [costM_all]
    simp only [List.length_cons] at *
    omega
/-- what is done first can be done -/
theorem costM_which (ws : List ByteArray) (ss : List Slot) (h : 0 < ws.length + ss.length) : (costM ws ss).1 ≤ 4 ∧ kW (costM ws ss).1 ≤ ws.length ∧ kS (costM ws ss).1 ≤ ss.length ∧ 0 < kW (costM ws ss).1 + kS (costM ws ss).1 ∧ canM' (costM ws ss).1 ws ss = true ∧ (costM ws ss).2 = kC (costM ws ss).1 + (costM (ws.drop (kW (costM ws ss).1)) (ss.drop (kS (costM ws ss).1))).2 := by
  have key : ∀ l : List Ch, l ≠ [] → pickC l = costM ws ss → (∀ c ∈ l, c.1 ≤ 4 ∧ kW c.1 ≤ ws.length ∧ kS c.1 ≤ ss.length ∧ 0 < kW c.1 + kS c.1 ∧ canM' c.1 ws ss = true ∧ c.2 = kC c.1 + (costM (ws.drop (kW c.1)) (ss.drop (kS c.1))).2) → _ := fun l hl e hc => by
    have := hc _ (pickC_mem l hl)
    rwa [e] at this
  cases ws with
  | nil =>
    cases ss with
    | nil => simp at h
    | cons s ss =>
      refine key _ (by simp) (costM_put s ss).symm ?_
      intro c hc
      cases hf : s.free <;> simp [hf] at hc
      · subst hc; simp [kW, kS, kC, canM']
      · rcases hc with rfl | rfl <;> simp [kW, kS, kC, canM', hf]
  | cons x ws =>
    cases ss with
    | nil =>
      refine key _ (by simp) (costM_drop x ws).symm ?_
      intro c hc
      simp at hc
      subst hc; simp [kW, kS, kC, canM']
    | cons s ss =>
      refine key _ (by simp) (costM_all x ws s ss).symm ?_
      intro c hc
      cases ht : takesM s x <;> cases hf : s.free <;> simp [hf, ht] at hc
      · rcases hc with rfl | rfl | rfl <;> simp [kW, kS, kC, canM', ht]
      · rcases hc with rfl | rfl | rfl | rfl <;> simp [kW, kS, kC, canM', hf, ht]
      · rcases hc with rfl | rfl | rfl <;> simp [kW, kS, kC, canM', ht]
      · rcases hc with rfl | rfl | rfl | rfl <;> simp [kW, kS, kC, canM', hf, ht]
/-- the first marks with the fewest corrections -/
def marksF : Nat → List ByteArray → List Slot → List Mark
  | 0, _, _ => []
  | n + 1, ws, ss => if ws.length + ss.length = 0 then [] else
    ⟨((costM ws ss).1 : Nat), if kWr (costM ws ss).1 then (ss.headD noSlot).word else ByteArray.empty⟩ :: marksF n (ws.drop (kW (costM ws ss).1)) (ss.drop (kS (costM ws ss).1))
def marksM (ws : List ByteArray) (ss : List Slot) : List Mark := marksF (ws.length + ss.length) ws ss
end Go.Proofs.YtcamegaimleomaaGreat

namespace Go.Proofs.YtcamegaimleomaaGreat
set_option linter.unusedSimpArgs false
set_option linter.unusedVariables false
set_option linter.unusedVariables false

def lsM (ws ss : List ByteArray) : Nat := (costM ws (givenM ss)).2
theorem pickC_one (a : Ch) : pickC [a] = a := rfl
theorem pickC_three (a b c : Ch) : pickC [a, b, c] = if a.2 ≤ b.2 ∧ a.2 ≤ c.2 then a else if b.2 ≤ c.2 then b else c := by
  unfold pickC pickB fewCh
  simp only [List.foldl_cons, List.foldl_nil, true_or, if_true, Nat.zero_add]
  by_cases h1 : b.2 < a.2
  · rw [if_neg (show ¬ (a.2 ≤ b.2 ∧ a.2 ≤ c.2) from by omega)]
    simp only [h1, decide_true, or_true, if_true]
    by_cases h2 : c.2 < b.2
    · rw [if_neg (show ¬ (b.2 ≤ c.2) from by omega)]
      simp [h2]
    · rw [if_pos (show b.2 ≤ c.2 from by omega)]
      simp [h2]
  · simp only [h1, decide_false, Nat.one_ne_zero, Bool.false_eq_true, or_self, if_false]
    by_cases h2 : c.2 < a.2
    · rw [if_neg (show ¬ (a.2 ≤ b.2 ∧ a.2 ≤ c.2) from by omega), if_neg (show ¬ (b.2 ≤ c.2) from by omega)]
      simp [h2]
    · rw [if_pos (show a.2 ≤ b.2 ∧ a.2 ≤ c.2 from by omega)]
      simp [h2]
theorem ls_end : ∀ ss : List ByteArray, lsM [] ss = ss.length
  | [] => rfl
  | s :: ss => by
    have ih := ls_end ss
    unfold lsM at ih ⊢
    show (costM [] (⟨s, false⟩ :: givenM ss)).2 = _
    rw [costM_put]
    simp only [Bool.false_eq_true, if_false, List.append_nil, pickC_one, ih, List.length_cons]
    omega
theorem ls_drop : ∀ ws : List ByteArray, lsM ws [] = ws.length
  | [] => rfl
  | x :: ws => by
    have ih := ls_drop ws
    unfold lsM at ih ⊢
    show (costM (x :: ws) []).2 = _
    rw [costM_drop, pickC_one]
    show 1 + (costM ws []).2 = _
    rw [show (costM ws []).2 = ws.length from ih, List.length_cons]
    omega
theorem cost_three (x : ByteArray) (ws : List ByteArray) (s : ByteArray) (ss : List ByteArray) :
    costM (x :: ws) (givenM (s :: ss)) = pickC [if takesM ⟨s, false⟩ x then (0, lsM ws ss) else (1, 1 + lsM ws ss), (2, 1 + lsM ws (s :: ss)), (3, 1 + lsM (x :: ws) ss)] := by
  show costM (x :: ws) (⟨s, false⟩ :: givenM ss) = _
  rw [costM_all]
  rfl
theorem ls_all (x : ByteArray) (ws : List ByteArray) (s : ByteArray) (ss : List ByteArray) :
    lsM (x :: ws) (s :: ss) = if takesM ⟨s, false⟩ x then min (1 + min (min (lsM ws (s :: ss)) (lsM (x :: ws) ss)) (lsM ws ss)) (lsM ws ss) else 1 + min (min (lsM ws (s :: ss)) (lsM (x :: ws) ss)) (lsM ws ss) := by
  show (costM (x :: ws) (givenM (s :: ss))).2 = _
  rw [cost_three]
  generalize lsM ws ss = p
  generalize lsM ws (s :: ss) = q
  generalize lsM (x :: ws) ss = r
  cases takesM ⟨s, false⟩ x
  · simp only [Bool.false_eq_true, if_false, pickC_three]
    split
    · show 1 + p = _; omega
    · split
      · show 1 + q = _; omega
      · show 1 + r = _; omega
  · simp only [if_true, pickC_three]
    split
    · show p = _; omega
    · split
      · show 1 + q = _; omega
      · show 1 + r = _; omega
/-- which mark comes first -/
theorem cost_first (x : ByteArray) (ws : List ByteArray) (s : ByteArray) (ss : List ByteArray) :
    (costM (x :: ws) (givenM (s :: ss))).1 = if takesM ⟨s, false⟩ x = true ∧ lsM ws ss = lsM (x :: ws) (s :: ss) then 0 else if takesM ⟨s, false⟩ x = false ∧ lsM ws ss + 1 = lsM (x :: ws) (s :: ss) then 1 else if lsM ws (s :: ss) + 1 = lsM (x :: ws) (s :: ss) then 2 else 3 := by
  have e : lsM (x :: ws) (s :: ss) = (costM (x :: ws) (givenM (s :: ss))).2 := rfl
  rw [e, cost_three]
  generalize lsM ws ss = p
  generalize lsM ws (s :: ss) = q
  generalize lsM (x :: ws) ss = r
  cases takesM ⟨s, false⟩ x
  · simp only [Bool.false_eq_true, if_false, pickC_three, false_and, true_and]
    by_cases h1 : 1 + p ≤ 1 + q ∧ 1 + p ≤ 1 + r
    · rw [if_pos h1, if_pos (by show p + 1 = 1 + p; omega)]
    · rw [if_neg h1]
      by_cases h2 : 1 + q ≤ 1 + r
      · rw [if_pos h2, if_neg (by show ¬ p + 1 = 1 + q; omega), if_pos (by show q + 1 = 1 + q; omega)]
      · rw [if_neg h2, if_neg (by show ¬ p + 1 = 1 + r; omega), if_neg (by show ¬ q + 1 = 1 + r; omega)]
  · simp only [if_true, pickC_three, Bool.true_eq_false, false_and, true_and, if_false]
    by_cases h1 : p ≤ 1 + q ∧ p ≤ 1 + r
    · rw [if_pos h1, if_pos rfl]
    · rw [if_neg h1]
      by_cases h2 : 1 + q ≤ 1 + r
      · rw [if_pos h2, if_neg (by show ¬ p = 1 + q; omega), if_pos (by show q + 1 = 1 + q; omega)]
      · rw [if_neg h2, if_neg (by show ¬ p = 1 + r; omega), if_neg (by show ¬ q + 1 = 1 + r; omega)]
theorem ls_le (ws ss : List ByteArray) : lsM ws ss ≤ ws.length + ss.length := by
  have := costM_le ws (givenM ss)
  rw [show (givenM ss).length = ss.length from by simp [givenM]] at this
  exact this
/-- at a place -/
def lsAt (from_ shape : List ByteArray) (i k : Nat) : Nat := lsM (from_.drop i) (shape.drop k)
theorem lsAt_end (f s : List ByteArray) (k : Nat) : lsAt f s f.length k = s.length - k := by
  unfold lsAt; rw [List.drop_length, ls_end, List.length_drop]
theorem lsAt_drop (f s : List ByteArray) (i : Nat) : lsAt f s i s.length = f.length - i := by
  unfold lsAt; rw [List.drop_length, ls_drop, List.length_drop]
theorem lsAt_all (f s : List ByteArray) {i k : Nat} (hi : i < f.length) (hk : k < s.length) :
    lsAt f s i k = if takesM ⟨s[k], false⟩ f[i] then min (1 + min (min (lsAt f s (i + 1) k) (lsAt f s i (k + 1))) (lsAt f s (i + 1) (k + 1))) (lsAt f s (i + 1) (k + 1)) else 1 + min (min (lsAt f s (i + 1) k) (lsAt f s i (k + 1))) (lsAt f s (i + 1) (k + 1)) := by
  unfold lsAt
  rw [List.drop_eq_getElem_cons hi, List.drop_eq_getElem_cons hk, ls_all]
theorem lsAt_le (f s : List ByteArray) (i k : Nat) : lsAt f s i k ≤ f.length + s.length := by
  have := ls_le (f.drop i) (s.drop k)
  rw [List.length_drop, List.length_drop] at this
  unfold lsAt; omega
end Go.Proofs.YtcamegaimleomaaGreat

namespace Go.Proofs.YtcamegaimleomaaGreat
set_option linter.unusedSimpArgs false
set_option linter.unusedVariables false
open Go.RowKit
set_option linter.unusedVariables false

set_option maxRecDepth 100000 in
theorem fits_any (s x : ByteArray) (w : World) :
    Calls Tryz.prog 104 #[.string s, .string x] w fun e w' => e = .returned (.bool (takesM ⟨s, false⟩ x)) ∧ Ext w w' := by
  have hk : takesM ⟨s, false⟩ x = (s.toList == [] || s.toList == x.toList) := by
    unfold takesM
    show (s.toList.isEmpty || _) = _
    cases s.toList <;> rfl
  rw [hk]
  cases h : s.toList == []
  · go_enter Tryz.func104, Tryz.ntmps104
    go_wp2
    go_ret
    exact ⟨ret_bool (by simp), (by first | (with_reducible exact Ext.refl _) | (with_reducible assumption) | (show Below _ _ _; go_grown; done))⟩
  · go_enter Tryz.func104, Tryz.ntmps104
    go_wp2
    go_ret
    exact ⟨ret_bool (by simp), (by first | (with_reducible exact Ext.refl _) | (with_reducible assumption) | (show Below _ _ _; go_grown; done))⟩
/-- a row of one's own, cell by cell -/
def RowAtV (w : World) (g n : Nat) (f : Nat → Value) : Prop := ∀ d, d < n → w.cell? ⟨g, d, none⟩ = some (f d) ∧ w.frozen? ⟨g, d, none⟩ = false
theorem RowAtV.ext {w w' : World} {g n : Nat} {f : Nat → Value} (h : RowAtV w g n f) (hx : Ext w w') : RowAtV w' g n f := fun d hd =>
  ⟨hx.cell (h d hd).1, by rw [hx.frozen (cell_lt (h d hd).1)]; exact (h d hd).2⟩
theorem RowAtV.set {w : World} {g n : Nat} {f : Nat → Value} (h : RowAtV w g n f) {j : Nat} (hj : j < n) (u : Value) : RowAtV (w.setCell ⟨g, j, none⟩ u) g n (fun d => if d = j then u else f d) := by
  intro d hd
  refine ⟨?_, by rw [World.frozen?_setCell]; exact (h d hd).2⟩
  by_cases e : d = j
  · subst e; simp only [if_true]; exact set_cell (h d hd).1 _
  · simp only [if_neg e]; exact set_other (h d hd).1 (.inr (fun e' => e e'.symm)) _
theorem RowAtV.other {w : World} {g n : Nat} {f : Nat → Value} (h : RowAtV w g n f) {p : Addr} (hp : p.block ≠ g) (u : Value) : RowAtV (w.setCell p u) g n f := fun d hd =>
  ⟨set_other (h d hd).1 (.inl hp) _, by rw [World.frozen?_setCell]; exact (h d hd).2⟩
/-- make -/
theorem make_row {t e : TypeId} {z : Value} {bytes : Nat} (ht : Tryz.prog.underlying t = some (.slice e)) (hinfo : (Tryz.prog.info? e).map (fun i => (i.zero, i.size, i.bytes)) = some (some z, 1, bytes)) (hz : z.cells = #[z]) (hb : bytes ≤ 24) (w : World) (n : Nat) (hn : n ≤ 1000) :
    ∃ w', (Instr.makeSlice t (.int .i64 (n : Int)) (.int .i64 (n : Int))).run Tryz.prog w = .ok (.slice (some ⟨w.heap.size, 0, none⟩) n n) w' ∧ RowAtV w' w.heap.size n (fun _ => z) ∧ Ext w w' ∧ w'.heap.size = w.heap.size + 1 := by
  obtain ⟨i0, hi, hz0, hz1, hz2⟩ := info_parts hinfo
  have hr := run_make (P := Tryz.prog) w t e i0 z ht hi hz0 .i64 .i64 n n (by omega) (Int.le_refl _) (by
    have : i0.bytes * n ≤ 24 * 1000 := Nat.mul_le_mul (by omega) hn
    have h2 : ((i0.bytes * n : Nat) : Int) ≤ 24 * 1000 := by omega
    rw [Int.natCast_mul] at h2
    omega) (by omega)
  refine ⟨_, hr, ?_, ext_alloc _ _, by simp⟩
  intro d hd
  have hsz : (madeCells z.cells ((n : Int).toNat * i0.size)).toList = List.replicate n z := by
    rw [hz, hz1, Nat.mul_one, Int.toNat_natCast]; exact toList_madeCells_one _ _
  refine ⟨?_, frozen_of_row _ _ _ _ e (heap_alloc_new w _)⟩
  have : (madeCells z.cells ((n : Int).toNat * i0.size))[d]? = some z := by
    rw [← Array.getElem?_toList, hsz, List.getElem?_replicate, if_pos hd]
  simpa [go_sem] using this
theorem infoRow : (Tryz.prog.info? 26).map (fun i => (i.zero, i.size, i.bytes)) = some (some (.slice none 0 0), 1, 24) := by kernel_rfl
/-- the rows: those behind the place i are filled -/
def RowsF (from_ shape : List ByteArray) (w : World) (G : Nat) (f : Nat → Value) (i : Nat) : Prop :=
  ∀ j, i ≤ j → j ≤ from_.length → ∃ g, f j = .slice (some ⟨g, 0, none⟩) (shape.length + 1) (shape.length + 1) ∧ G < g ∧ RowAtV w g (shape.length + 1) (fun k => .int .i64 (lsAt from_ shape j k : Nat))
theorem RowsF.ext {from_ shape : List ByteArray} {w w' : World} {G : Nat} {f : Nat → Value} {i : Nat} (h : RowsF from_ shape w G f i) (hx : Ext w w') : RowsF from_ shape w' G f i := fun j h1 h2 => by
  obtain ⟨g, e, h3, h4⟩ := h j h1 h2
  exact ⟨g, e, h3, h4.ext hx⟩
theorem RowsF.step {from_ shape : List ByteArray} {w : World} {G : Nat} {f : Nat → Value} {i g : Nat} (h : RowsF from_ shape w G f (i + 1)) (hG : G < g) (hr : RowAtV w g (shape.length + 1) (fun k => .int .i64 (lsAt from_ shape i k : Nat))) :
    RowsF from_ shape (w.setCell ⟨G, i, none⟩ (.slice (some ⟨g, 0, none⟩) (shape.length + 1) (shape.length + 1))) G (fun d => if d = i then .slice (some ⟨g, 0, none⟩) (shape.length + 1) (shape.length + 1) else f d) i := fun j h1 h2 => by
  by_cases e : j = i
  · subst e
    exact ⟨g, by simp, hG, hr.other (by show G ≠ g; omega) _⟩
  · obtain ⟨g', e', h3, h4⟩ := h j (by omega) h2
    exact ⟨g', by simp only [if_neg e]; exact e', h3, h4.other (by show G ≠ g'; omega) _⟩
set_option maxRecDepth 100000 in
set_option maxHeartbeats 8000000 in
theorem least_any (fv sv : Value) (f s : List ByteArray) (w : World) (hf : StrsAt w fv f) (hs : StrsAt w sv s) (hfn : f.length ≤ 100) (hsn : s.length ≤ 100) :
    Calls Tryz.prog 112 #[fv, sv] w fun e w' => ∃ G h, e = .returned (.slice (some ⟨G, 0, none⟩) (f.length + 1) (f.length + 1)) ∧ RowAtV w' G (f.length + 1) h ∧ RowsF f s w' G h 0 ∧ Ext w w' := by
  obtain ⟨fa, fc, rfl, -⟩ := hf.shape
  obtain ⟨sa, sc, rfl, -⟩ := hs.shape
  obtain ⟨n, hn⟩ : ∃ n, n = f.length := ⟨_, rfl⟩
  obtain ⟨m, hm⟩ : ∃ m, m = s.length := ⟨_, rfl⟩
  have hn1 : n ≤ 100 := by omega
  have hm1 : m ≤ 100 := by omega
  have Hn := Lib.hid hn
  have Hm := Lib.hid hm
  obtain ⟨w1, mk1, rows1, x1, z1⟩ := make_row Tryz.underlying176 infoRow rfl (by decide) w (n + 1) (by omega)
  have wn : IntKind.i64.wrap ((n : Int) + 1) = (n : Int) + 1 := IntWalk.i64_in _ (by omega)
  have wm : IntKind.i64.wrap ((m : Int) + 1) = (m : Int) + 1 := IntWalk.i64_in _ (by omega)
  rw [show ((n + 1 : Nat) : Int) = (n : Int) + 1 from by omega] at mk1
  rw [← hn] at hf ⊢
  rw [← hm] at hs ⊢
  clear hn hm
  go_enter Tryz.func112, Tryz.ntmps112
  go_wp2_with fail
  go_loopw [6] (fun iv wr => ∃ (r : Nat) (h : Nat → Value), r ≤ n + 1 ∧ iv = .int .i64 ((n : Int) - r) ∧ RowAtV wr w.heap.size (n + 1) h ∧ RowsF f s wr w.heap.size h (n + 1 - r) ∧ Ext w wr) (fun i _ => (intOf i + 1).toNat)
  case atStart => exact ⟨0, _, Nat.zero_le _, by simp, rows1, fun j h1 h2 => by have := Hn.out; omega, x1⟩
  case round =>
    obtain ⟨r, h, hr, rfl, hrow, hrs, hxr⟩ := hrel
    by_cases hlt : r ≤ n
    · obtain ⟨i, hi⟩ : ∃ i : Nat, i + r = n := ⟨n - r, by omega⟩
      have ei : (n : Int) - r = (i : Int) := by omega
      have ei2 : n + 1 - r = i + 1 := by omega
      rw [ei]
      rw [ei2] at hrs
      have ge0 : (0 : Int) ≤ (i : Int) := by omega
      obtain ⟨w2, mk2, row2, x2, z2⟩ := make_row Tryz.underlying26 infoInt rfl (by decide) wr (m + 1) (by omega)
      rw [show ((m + 1 : Nat) : Int) = (m : Int) + 1 from by omega] at mk2
      have Hi := Lib.hid hi
      obtain ⟨wo, hwo⟩ : ∃ wo : World, wo = wr := ⟨_, rfl⟩
      subst hwo
      clear ei ei2 hr
      go_wp2_with fail
      go_loopw [8] (fun kv wi => ∃ (q : Nat) (u : Nat → Nat), q ≤ m + 1 ∧ kv = .int .i64 ((m : Int) - q) ∧ RowAtV wi wo.heap.size (m + 1) (fun k => .int .i64 (u k : Nat)) ∧ (∀ k, m + 1 ≤ k + q → k ≤ m → u k = lsAt f s i k) ∧ Ext wo wi) (fun k _ => (intOf k + 1).toNat)
      case atStart => exact ⟨0, fun _ => 0, Nat.zero_le _, by simp, row2, fun k h1 h2 => by omega, x2⟩
      case round =>
        obtain ⟨q, u, hq, rfl, hrw, hu, hxi⟩ := hrel
        by_cases hltq : q ≤ m
        · obtain ⟨k, hk⟩ : ∃ k : Nat, k + q = m := ⟨m - q, by omega⟩
          have ek : (m : Int) - q = (k : Int) := by omega
          rw [ek]
          have ge1 : (0 : Int) ≤ (k : Int) := by omega
          have Hk := Lib.hid hk
          clear ek hq
          obtain ⟨c1, f1⟩ := hrw k (by omega)
          have hfin : ∀ (wz : World), Ext wr wz → ∀ V : Int, V = (lsAt f s i k : Nat) → ∃ (q : Nat) (u : Nat → Nat), q ≤ m + 1 ∧ Value.int .i64 ((k : Int) - 1) = .int .i64 ((m : Int) - q) ∧ RowAtV (wz.setCell ⟨wo.heap.size, k, none⟩ (.int .i64 V)) wo.heap.size (m + 1) (fun k => .int .i64 (u k : Nat)) ∧ (∀ k, m + 1 ≤ k + q → k ≤ m → u k = lsAt f s i k) ∧ Ext wo (wz.setCell ⟨wo.heap.size, k, none⟩ (.int .i64 V)) := fun wz hz V hV => by
            subst hV
            refine ⟨q + 1, fun d => if d = k then lsAt f s i k else u d, by omega, by congr 1; omega, ?_, fun d h1 h2 => ?_, (hxi.trans hz).setCell (Nat.le_refl _) _⟩
            · have := (hrw.ext hz).set (j := k) (by omega) (.int .i64 (lsAt f s i k : Nat))
              intro d hd
              obtain ⟨g1, g2⟩ := this d hd
              refine ⟨?_, g2⟩
              rw [g1]
              by_cases e : d = k
              · simp [e]
              · simp [e]
            · by_cases e : d = k
              · simp [e]
              · simp only [if_neg e]; exact hu d (by omega) h2
          have Hfin := Lib.hid hfin
          clear hfin
          by_cases h1 : i = n
          · have h1' : ((i : Int) == (n : Int)) = true := by rw [h1]; simp
            have wv : IntKind.i64.wrap ((m : Int) - k) = (m : Int) - k := IntWalk.i64_in _ (by omega)
            have hval : (m : Int) - k = (lsAt f s i k : Nat) := by
              rw [h1, Hn.out, lsAt_end, ← Hm.out]; omega
            have Hval := Lib.hid hval
            clear hval h1
            go_wp2_with fail
            exact ⟨Hfin.out _ (Ext.refl _) _ Hval.out, by simp [intOf]⟩
          · have h1' : ((i : Int) == (n : Int)) = false := by simp; omega
            by_cases h2 : k = m
            · have h2' : ((k : Int) == (m : Int)) = true := by rw [h2]; simp
              have wv : IntKind.i64.wrap ((n : Int) - i) = (n : Int) - i := IntWalk.i64_in _ (by omega)
              have hval : (n : Int) - i = (lsAt f s i k : Nat) := by
                rw [h2, Hm.out, lsAt_drop, ← Hn.out]; have := Hi.out; omega
              have Hval := Lib.hid hval
              clear hval h1 h2
              go_wp2_with fail
              exact ⟨Hfin.out _ (Ext.refl _) _ Hval.out, by simp [intOf]⟩
            · have h2' : ((k : Int) == (m : Int)) = false := by simp; omega
              have hiN : i < n := by have := Hi.out; omega
              have hkM : k < m := by have := Hk.out; omega
              obtain ⟨g, eg, hGg, hrg⟩ := (hrs.ext hxi) (i + 1) (Nat.le_refl _) (by have := Hn.out; omega)
              have r0 := hxi.cell (hrow (i + 1) (by omega)).1
              rw [eg] at r0
              have c10 := (hrg k (by have := Hm.out; omega)).1
              have c11 := (hrg (k + 1) (by have := Hm.out; omega)).1
              have c01 := (hrw (k + 1) (by omega)).1
              simp only at c10 c11 c01
              rw [hu (k + 1) (by have := Hk.out; omega) (by omega)] at c01
              rw [← Hm.out] at r0
              have hv := lsAt_all f s (i := i) (k := k) (by have := Hn.out; omega) (by have := Hm.out; omega)
              have b10 := lsAt_le f s (i + 1) k
              have b11 := lsAt_le f s (i + 1) (k + 1)
              have b01 := lsAt_le f s i (k + 1)
              obtain ⟨sb, so, rfl, d0, -⟩ := SliceAt.get (hs.ext (hxr.trans hxi)) (i := k) (by have := Hm.out; omega)
              obtain ⟨fb, fo, rfl, d1, -⟩ := SliceAt.get (hf.ext (hxr.trans hxi)) (i := i) (by have := Hn.out; omega)
              rw [Nat.mul_one] at d0 d1
              generalize lsAt f s (i + 1) k = a10 at *
              generalize lsAt f s (i + 1) (k + 1) = a11 at *
              generalize lsAt f s i (k + 1) = a01 at *
              generalize s[k] = sw at *
              generalize f[i] = fw at *
              obtain ⟨i1, hi1⟩ : ∃ i1, i1 = i + 1 := ⟨_, rfl⟩
              obtain ⟨k1, hk1⟩ : ∃ k1, k1 = k + 1 := ⟨_, rfl⟩
              rw [← hi1] at r0
              rw [← hk1] at c11 c01
              have wi1 : IntKind.i64.wrap ((i : Int) + 1) = (i1 : Int) := by rw [hi1]; exact IntWalk.i64_in _ (by omega)
              have wk1 : IntKind.i64.wrap ((k : Int) + 1) = (k1 : Int) := by rw [hk1]; exact IntWalk.i64_in _ (by omega)
              have li1 : (i1 : Int) < (n : Int) + 1 := by omega
              have lk1 : (k1 : Int) < (m : Int) + 1 := by omega
              have lk : (k : Int) < (m : Int) + 1 := by omega
              have li : (i : Int) < (n : Int) := by omega
              have lkm : (k : Int) < (m : Int) := by omega
              obtain ⟨mn, hmn⟩ : ∃ mn, mn = min (min a10 a01) a11 := ⟨_, rfl⟩
              rw [← hmn] at hv
              have Hmn := Lib.hid hmn
              obtain ⟨m1, hm1'⟩ : ∃ m1, m1 = 1 + mn := ⟨_, rfl⟩
              have wm1 : IntKind.i64.wrap (1 + (mn : Int)) = (m1 : Int) := by rw [hm1']; exact IntWalk.i64_in _ (by omega)
              rw [← hm1'] at hv
              have Hm1 := Lib.hid hm1'
              have Hv := Lib.hid hv
              clear h1 h2 hrg hrow hrs hrw hu hv eg hi1 hk1 hmn hm1'
              go_wp2_with fail
              apply Facts.wp_region [.val _, .val _, .val _, .val _, .val _, .val _, .val _, .val _, .val _, .val _, .val _, .val _, .val _, .val _, .val _, .val _, .val _, .val _, .val _, .val _, .val _, .val _, .val (.int .i64 (mn : Nat)), .val _, .val _] (by kernel_rfl) (by kernel_rfl) trivial ?main
              case main =>
                iterate 22 (refine ⟨fun w1 hx hh => ?_, ?_⟩; focus (clear hh; have e0 := hx.cell r0; have e1 := hx.cell c10; have e2 := hx.cell c11; have e3 := hx.cell c01; go_simp; first | exact ⟨Ext.refl _, rfl⟩ | exact Ext.refl _))
                refine ⟨fun w1 hx hh => ?_, ?_⟩
                · clear hh
                  go_simp
                  exact ⟨Ext.refl _, by have := Hmn.out; congr 1; split <;> split <;> omega⟩
                iterate 2 (refine ⟨fun w1 hx hh => ?_, ?_⟩; focus (clear hh; skip; go_simp; first | exact ⟨Ext.refl _, rfl⟩ | exact Ext.refl _))
                intro w4 hx4 hh
                clear hh
                replace f1 := (hx4.frozen (cell_lt c1)).trans f1
                replace c1 := hx4.cell c1
                replace d0 := hx4.cell d0
                replace d1 := hx4.cell d1
                replace r0 := hx4.cell r0
                replace c11 := hx4.cell c11
                clear c10 c01
                go_simp
                go_wp2_with fail
                apply Facts.wp_region [.val _, .val _, .val _, .val _, .val _, .val _, .val _, .val _, .val (.bool (takesM ⟨sw, false⟩ fw))] (by kernel_rfl) (by kernel_rfl) trivial ?main
                case main =>
                  iterate 8 (refine ⟨fun w1 hx hh => ?_, ?_⟩; focus (clear hh; have e0 := hx.cell d0; have e1 := hx.cell d1; go_simp; first | exact ⟨Ext.refl _, rfl⟩ | exact Ext.refl _))
                  refine ⟨fun w1 hx hh => ?_, ?_⟩
                  · clear hh
                    go_simp
                    refine (fits_any sw fw _).mono ?_
                    rintro e w' ⟨rfl, hx'⟩
                    exact ⟨_, rfl, hx', rfl⟩
                  intro w5 hx5 hh
                  clear hh
                  replace f1 := (hx5.frozen (cell_lt c1)).trans f1
                  replace c1 := hx5.cell c1
                  replace r0 := hx5.cell r0
                  replace c11 := hx5.cell c11
                  have hx45 := hx4.trans hx5
                  clear d0 d1 hx4 hx5
                  go_simp
                  cases ht : takesM ⟨sw, false⟩ fw
                  · have hval : (m1 : Int) = (lsAt f s i k : Nat) := by
                      have := Hv.out; rw [ht] at this; simp only [Bool.false_eq_true, if_false] at this; omega
                    have Hval := Lib.hid hval
                    clear hval ht
                    go_wp2_with fail
                    exact ⟨Hfin.out _ hx45 _ Hval.out, by simp [intOf]⟩
                  · have hval : lsAt f s i k = min m1 a11 := by
                      have := Hv.out; rw [ht] at this; simpa using this
                    have Hval := Lib.hid hval
                    clear hval ht
                    go_wp2_with fail
                    refine ⟨Hfin.out _ hx45 _ ?_, by simp [intOf]⟩
                    have := Hval.out
                    split <;> omega
        · obtain rfl : q = m + 1 := by omega
          have ek : (m : Int) - ((m + 1 : Nat) : Int) = -1 := by omega
          rw [ek]
          obtain ⟨cG, fG⟩ := hrow i (by have := Hi.out; omega)
          have zG := cell_lt cG
          have fG' := (hxi.frozen zG).trans fG
          have cG' := hxi.cell cG
          have hrow2 : RowAtV wr wo.heap.size (s.length + 1) (fun k => .int .i64 (lsAt f s i k : Nat)) := fun d hd => by
            have hd' : d < m + 1 := by rw [Hm.out]; exact hd
            obtain ⟨g1, g2⟩ := hrw d hd'
            exact ⟨by rw [g1]; show some (Value.int .i64 (u d : Nat)) = _; rw [hu d (by omega) (by omega)], g2⟩
          have hst := (hrs.ext hxi).step zG hrow2
          rw [← Hm.out] at hst
          have hset := (hrow.ext hxi).set (j := i) (by have := Hi.out; omega) (.slice (some ⟨wo.heap.size, 0, none⟩) (m + 1) (m + 1))
          have hxs := (hxr.trans hxi).setCell (p := ⟨w.heap.size, i, none⟩) (Nat.le_refl _) (.slice (some ⟨wo.heap.size, 0, none⟩) (m + 1) (m + 1))
          have eir : n + 1 - (r + 1) = i := by have := Hi.out; omega
          have li : (i : Int) < (n : Int) + 1 := by have := Hi.out; omega
          have er : (i : Int) - 1 = (n : Int) - ((r + 1 : Nat) : Int) := by have := Hi.out; omega
          have Hst := Lib.hid hst
          have Hset := Lib.hid hset
          have Hxs := Lib.hid hxs
          have Er := Lib.hid er
          clear hrow hrs hrw hu cG fG hst hset hxs hrow2 er
          go_wp2_with fail
          exact ⟨⟨r + 1, _, by omega, by rw [Er.out], Hset.out, by rw [eir]; exact Hst.out, Hxs.out⟩, by simp [intOf]⟩
    · obtain rfl : r = n + 1 := by omega
      have ei : (n : Int) - ((n + 1 : Nat) : Int) = -1 := by omega
      rw [ei]
      rw [show n + 1 - (n + 1) = 0 from by omega] at hrs
      go_wp2
      go_ret
      exact ⟨_, h, rfl, hrow, hrs, hxr⟩
end Go.Proofs.YtcamegaimleomaaGreat

namespace Go.Proofs.YtcamegaimleomaaGreat
set_option linter.unusedSimpArgs false
set_option linter.unusedVariables false
open Go.RowKit
set_option linter.unusedVariables false

theorem always_any (u v : Value) (w : World) : Calls Tryz.prog 145 #[u, v] w fun e w' => e = .returned (.bool true) ∧ Ext w w' := by
  go_enter Tryz.func145, Tryz.ntmps145
  go_wp2
  go_ret
  exact ⟨rfl, (by first | (with_reducible exact Ext.refl _) | (with_reducible assumption) | (show Below _ _ _; go_grown; done))⟩
theorem stays_any (a : Option Addr) (n c : Nat) (v : Value) (w : World) : Calls Tryz.prog 146 #[.slice a n c, v] w fun e w' => e = .returned (.slice a n c) ∧ Ext w w' := by
  go_enter Tryz.func146, Tryz.ntmps146
  go_wp2
  go_ret
  exact ⟨rfl, (by first | (with_reducible exact Ext.refl _) | (with_reducible assumption) | (show Below _ _ _; go_grown; done))⟩
theorem goes_any (u v : Value) (w : World) : Calls Tryz.prog 147 #[u, v] w fun e w' => e = .returned (.slice none 0 0) ∧ Ext w w' := by
  go_enter Tryz.func147, Tryz.ntmps147
  go_wp2
  go_ret
  exact ⟨rfl, (by first | (with_reducible exact Ext.refl _) | (with_reducible assumption) | (show Below _ _ _; go_grown; done))⟩
theorem comes_any (u : Value) (s : ByteArray) (hs : s.size ≤ 9223372036854775807) (w : World) : Calls Tryz.prog 148 #[u, .string s] w fun e w' => (∃ g, e = .returned (.slice (some ⟨g, 0, none⟩) 1 1) ∧ StrsAt w' (.slice (some ⟨g, 0, none⟩) 1 1) [s]) ∧ Ext w w' := by
  go_enter Tryz.func148, Tryz.ntmps148
  go_wp2
  go_ret
  refine ⟨⟨_, rfl, _, _, rfl, by simp, by decide, fun i hi => ⟨_, _, rfl, ?_⟩⟩, (by first | (with_reducible exact Ext.refl _) | (with_reducible assumption) | (show Below _ _ _; go_grown; done))⟩
  obtain rfl : i = 0 := by simp at hi; omega
  exact ⟨by simp [go_sem], hs⟩
theorem slot_head {w : World} {v : Value} {ss : List Slot} (h : SlotsAt w v ss) (h0 : 0 < ss.length) : ∃ b o c, v = .slice (some ⟨b, o, none⟩) ss.length c ∧ ss.length ≤ c ∧ w.cell? ⟨b, o, none⟩ = some (.string (ss.headD noSlot).word) ∧ w.cell? ⟨b, o + 1, none⟩ = some (.bool (ss.headD noSlot).free) := by
  obtain ⟨a, c, rfl, hc, -⟩ := h.shape
  obtain ⟨b, o, rfl, h1, h2, -⟩ := h.get h0
  cases ss with
  | nil => simp at h0
  | cons s ss => exact ⟨b, o, c, rfl, hc, by simpa using h1, by simpa using h2⟩
theorem word_head {w : World} {v : Value} {ws : List ByteArray} (h : StrsAt w v ws) (h0 : 0 < ws.length) : ∃ b o c, v = .slice (some ⟨b, o, none⟩) ws.length c ∧ ws.length ≤ c ∧ w.cell? ⟨b, o, none⟩ = some (.string (ws.headD ByteArray.empty)) := by
  obtain ⟨a, c, rfl, hc, -⟩ := h.shape
  obtain ⟨b, o, rfl, h1, -⟩ := h.get h0
  cases ws with
  | nil => simp at h0
  | cons s ws => exact ⟨b, o, c, rfl, hc, by simpa using h1⟩
set_option maxHeartbeats 1000000 in
set_option maxRecDepth 100000 in
theorem keepCan_any (u v : Value) (ws : List ByteArray) (ss : List Slot) (w : World) (hu : StrsAt w u ws) (hv : SlotsAt w v ss) (h1 : 0 < ws.length) (h2 : 0 < ss.length) :
    Calls Tryz.prog 149 #[u, v] w fun e w' => e = .returned (.bool (canM' 0 ws ss)) ∧ Ext w w' := by
  obtain ⟨b, o, c, rfl, hc, c0, c1⟩ := slot_head hv h2
  obtain ⟨b', o', c', rfl, hc', c2⟩ := word_head hu h1
  have k1 : (0 : Int) < (ws.length : Int) := by omega
  have k2 : (0 : Int) < (ss.length : Int) := by omega
  have hcan : canM' 0 ws ss = takesM (ss.headD noSlot) (ws.headD ByteArray.empty) := rfl
  rw [hcan]
  generalize ss.headD noSlot = s at *
  generalize ws.headD ByteArray.empty = x at *
  have ht := fun w => takes_any s x w
  unfold slotV at ht
  go_enter Tryz.func149, Tryz.ntmps149
  go_wp2_with fail
  apply Facts.wp_region [.val _, .val _, .val _, .val _, .val _, .val _, .val (.bool (takesM s x)), .val _] (by kernel_rfl) (by kernel_rfl) trivial ?main
  case main =>
    iterate 6 (refine ⟨fun w1 hx hh => ?_, ?_⟩; focus (clear hh; have e0 := hx.cell c0; have e1 := hx.cell c1; have e2 := hx.cell c2; go_simp; first | exact ⟨Ext.refl _, rfl⟩ | exact Ext.refl _))
    refine ⟨fun w1 hx hh => ?_, ?_⟩
    · clear hh
      go_simp
      refine (ht _).mono ?_
      rintro e w' ⟨rfl, hx2⟩
      exact ⟨_, rfl, hx2, rfl⟩
    iterate 1 (refine ⟨fun w1 hx hh => ?_, ?_⟩; focus (clear hh; skip; go_simp; first | exact ⟨Ext.refl _, rfl⟩ | exact Ext.refl _))
    intro w1 hx1 hh
    clear hh
    go_simp
    go_wp2
    go_ret
    exact ⟨rfl, hx1⟩
set_option maxHeartbeats 1000000 in
set_option maxRecDepth 100000 in
theorem turnCan_any (u v : Value) (ws : List ByteArray) (ss : List Slot) (w : World) (hu : StrsAt w u ws) (hv : SlotsAt w v ss) (h1 : 0 < ws.length) (h2 : 0 < ss.length) :
    Calls Tryz.prog 150 #[u, v] w fun e w' => e = .returned (.bool (canM' 1 ws ss)) ∧ Ext w w' := by
  obtain ⟨b, o, c, rfl, hc, c0, c1⟩ := slot_head hv h2
  obtain ⟨b', o', c', rfl, hc', c2⟩ := word_head hu h1
  have k1 : (0 : Int) < (ws.length : Int) := by omega
  have k2 : (0 : Int) < (ss.length : Int) := by omega
  have hcan : canM' 1 ws ss = !takesM (ss.headD noSlot) (ws.headD ByteArray.empty) := rfl
  rw [hcan]
  generalize ss.headD noSlot = s at *
  generalize ws.headD ByteArray.empty = x at *
  have ht := fun w => takes_any s x w
  unfold slotV at ht
  go_enter Tryz.func150, Tryz.ntmps150
  go_wp2_with fail
  apply Facts.wp_region [.val _, .val _, .val _, .val _, .val _, .val _, .val (.bool (takesM s x)), .val (.bool !takesM s x), .val _] (by kernel_rfl) (by kernel_rfl) trivial ?main
  case main =>
    iterate 6 (refine ⟨fun w1 hx hh => ?_, ?_⟩; focus (clear hh; have e0 := hx.cell c0; have e1 := hx.cell c1; have e2 := hx.cell c2; go_simp; first | exact ⟨Ext.refl _, rfl⟩ | exact Ext.refl _))
    refine ⟨fun w1 hx hh => ?_, ?_⟩
    · clear hh
      go_simp
      refine (ht _).mono ?_
      rintro e w' ⟨rfl, hx2⟩
      exact ⟨_, rfl, hx2, rfl⟩
    iterate 2 (refine ⟨fun w1 hx hh => ?_, ?_⟩; focus (clear hh; skip; go_simp; first | exact ⟨Ext.refl _, rfl⟩ | exact Ext.refl _))
    intro w1 hx1 hh
    clear hh
    go_simp
    go_wp2
    go_ret
    exact ⟨rfl, hx1⟩
set_option maxRecDepth 100000 in
theorem passCan_any (u v : Value) (ss : List Slot) (w : World) (hv : SlotsAt w v ss) (h2 : 0 < ss.length) :
    Calls Tryz.prog 151 #[u, v] w fun e w' => e = .returned (.bool (ss.headD noSlot).free) ∧ Ext w w' := by
  obtain ⟨b, o, c, rfl, hc, c0, c1⟩ := slot_head hv h2
  have k2 : (0 : Int) < (ss.length : Int) := by omega
  generalize ss.headD noSlot = s at *
  go_enter Tryz.func151, Tryz.ntmps151
  go_wp2
  go_ret
  exact ⟨rfl, (by first | (with_reducible exact Ext.refl _) | (with_reducible assumption) | (show Below _ _ _; go_grown; done))⟩
end Go.Proofs.YtcamegaimleomaaGreat

namespace Go.Proofs.YtcamegaimleomaaGreat
set_option linter.unusedSimpArgs false
set_option linter.unusedVariables false
open Go.RowKit
set_option linter.unusedVariables false

/-- AN ITERATOR THAT YIELDS JUST THESE, and may turn whatever has been laid since its call began; a round keeps what Kp says. -/
def SeqOwn {α : Type} (n : Nat) (P : Program) (g : Nat) (lb : Array Value) (encs : α → Array Value) (Kp : World → World → Prop) (xs : List α) (w : World) : Prop :=
  ∀ (l : Nat) (J : List α → World → Prop) (W : World), Below w.heap.size w W → (∀ s X Y, Below W.heap.size X Y → J s X → J s Y) →
    (∀ pre x W1, J pre W1 → pre ++ [x] <+: xs → YieldAt Fence.wide (n - 1) P l (encs x) W1 fun e W' => e = .returned (.bool true) ∧ J (pre ++ [x]) W' ∧ Kp W1 W') →
    J [] W → CallsIn Fence.wide n P g (#[.func (.yield l) #[] #[]] ++ lb) W fun e W' => (∃ v, e = .returned v) ∧ J xs W'

/-- how a round ends: it goes on -/
def goesOn {α : Type} (B : Nat) (Kp : World → World → Prop) (I : List α → World → Prop) (s : List α) (W : World) : Exit → Act → World → Prop
  | .normal, _, W' => KeepsFrom B W W' ∧ Kp W W' ∧ I s W'
  | _, _, _ => False

theorem below_put {B : Nat} {A : World} {l : Nat} {o : Obj} (h : B ≤ l) : Below B A (A.putObj l o) :=
  ⟨rfl, rfl, rfl, by simp [World.putObj], fun k hk => World.putObj_heap_other (by omega)⟩

theorem wpIn_seqOwn {P : Program} {α : Type} {n : Nat} {w : World} {g : Operand} {ps : Array Tmp} {assign body : Code} {Q : Exit → Act → World → Prop} {a : Act} (h1 : 1 ≤ n)
    {gf : Nat} {lb : Array Value} (hg : a.eval g = .func (.func gf) #[] lb) (eg : ∀ args w, (callFunc gf args).run P w = .ok (.enter gf args) w)
    {encs : α → Array Value} {Kp : World → World → Prop} {xs : List α} {w0 : World} (hseq : SeqOwn (n - 1) P gf lb encs Kp xs w0)
    (hKt : ∀ {A B C : World}, Kp A B → Kp B C → Kp A C) (hKb : ∀ (W : World) (l : Nat) (o o' : Obj), w.heap.size ≤ l → W.heap[l]? = some o → o.isCells = false → o.isWalk = false → Kp W (W.putObj l o')) (hb0 : Below w0.heap.size w0 w) (hps : ∀ x, (encs x).size = ps.size)
    (I : List α → World → Prop) (hI : ∀ s A B, Below w.heap.size A B → I s A → I s B) (h0 : I [] w) (Ax : α → Act → World → Prop) (hAx : ∀ x a' (A : World) l o', w.heap.size ≤ l → (∃ o, A.heap[l]? = some o ∧ o.isCells = false) → Ax x a' A → Ax x a' (A.putObj l o'))
    (hassign : ∀ (l : Nat) (pre : List α) (x : α) (W : World) (K : Act → World → Prop), I pre W → (∀ a' W', KeepsFrom w.heap.size W W' → Kp W W' → I pre W' → Ax x a' W' → K a' W') →
      assign.wpIn (Fence.wide.inRound l) (n - 1 - 1) P (Exit.then K (fun _ _ _ => False)) { tmps := (ps.zip (encs x)).foldl (fun t (p, v) => t.setIfInBounds p v) a.tmps, defers := [] } W)
    (hbody : ∀ (l : Nat) (pre : List α) (x : α) (a' : Act) (W : World), I pre W → Ax x a' W → pre ++ [x] <+: xs → body.wpIn (Fence.wide.inRound l) (n - 1 - 1) P (goesOn w.heap.size Kp I (pre ++ [x]) W) a' W)
    (hdone : ∀ (D : Nat) (W : World), w.heap.size ≤ D → I xs W → W.heap[D]? = some (.deferred (some [])) → Q .normal { a with defers := { target := .collected D, args := #[] } :: a.defers } W) :
    (Code.rangeFunc g ps assign body).wpIn Fence.wide n P Q a w := by
  refine wpIn_rangeFunc fun fn hfn => ?_
  let rec_ : LoopState → Option Code → Loop := fun st pe => { state := st, pending := pe, fn, tmps := a.tmps, params := ps, assign, body, defers := w.heap.size }
  have hrec : rec_ = fun st pe => { state := st, pending := pe, fn, tmps := a.tmps, params := ps, assign, body, defers := w.heap.size } := rfl
  clear_value rec_
  obtain ⟨W1, hW1⟩ : ∃ W1, (w.alloc (.deferred (some []))).alloc (.loop (rec_ .ready none)) = W1 := ⟨_, rfl⟩
  have z1 : W1.heap.size = w.heap.size + 1 + 1 := by rw [← hW1]; simp
  have hB1 : Below w.heap.size w W1 := by rw [← hW1]; exact ((Below.refl _ w).alloc (Nat.le_refl _) _).alloc (by simp) _
  have hL1 : W1.heap[w.heap.size + 1]? = some (.loop (rec_ .ready none)) := by
    have := World.alloc_heap_new (w.alloc (.deferred (some []))) (.loop (rec_ .ready none))
    rw [World.size_alloc, hW1] at this; exact this
  have hK1 : W1.heap[w.heap.size]? = some (.deferred (some [])) := by
    rw [← hW1]; exact (Below.heap_alloc _ _ _ (by simp)).trans (World.alloc_heap_new w _)
  -- what the law itself knows between two rounds
  let J : List α → World → Prop := fun pre W => I pre W ∧ W.heap[w.heap.size + 1]? = some (.loop (rec_ .ready none)) ∧ W.heap[w.heap.size]? = some (.deferred (some []))
  have hJ : ∀ s X Y, Below W1.heap.size X Y → J s X → J s Y := fun s X Y hx h =>
    ⟨hI s X Y (hx.mono (by omega)) h.1, (hx.block _ (by omega)).trans h.2.1, (hx.block _ (by omega)).trans h.2.2⟩
  refine ⟨w.heap.size + 1, [{ target := .collected w.heap.size, args := #[] }], W1, { target := .fn (.func gf) lb, args := #[.func (.yield (w.heap.size + 1)) #[] #[]] }, W1, gf,
    #[.func (.yield (w.heap.size + 1)) #[] #[]] ++ lb, W1, ?_, ?_, ?_, ?_, fun _ => h1, ?_⟩
  · rw [← hW1, hrec]; exact run_enterLoop_outer _ _ _ _ _
  · simp only [resolve, hg]; simp [go_sem]
  · exact fun f' hf' => trivial
  · simp [invoke, go_sem, eg]
  refine (hseq (w.heap.size + 1) J W1 (hb0.trans (hB1.mono hb0.size)) hJ ?round ⟨hI _ _ _ hB1 h0, hL1, hK1⟩).mono ?_
  case round =>
    rintro pre x W ⟨hi, hl, hk⟩ hpre
    have hy := run_yield (P := P) (args := encs x) hl (by rw [hrec]; exact hps x)
    rw [hrec] at hy
    refine ⟨fn, _, assign, body, hy, roundIn_of_wpIn hfn (hassign _ pre x W _ hi fun a' Wa hkf hkp hia hax => ?_)⟩
    clear hy
    have hla := hkf.same _ _ (by omega) hl rfl
    have hka := hkf.same _ _ (Nat.le_refl _) hk rfl
    have hlt : w.heap.size + 1 < Wa.heap.size := (Array.getElem?_eq_some_iff.1 hla).1
    refine ⟨_, run_beginRound hla (by rw [hrec]), ?_⟩
    obtain ⟨Wb, hWb⟩ : ∃ Wb, Wa.putObj (w.heap.size + 1) (.loop { rec_ .ready none with state := .busy }) = Wb := ⟨_, rfl⟩
    have hlb : Wb.heap[w.heap.size + 1]? = some (.loop { rec_ .ready none with state := .busy }) := by rw [← hWb]; exact World.putObj_heap_same hlt
    have hkb : Wb.heap[w.heap.size]? = some (.deferred (some [])) := by rw [← hWb]; exact (World.putObj_heap_other (by omega)).trans hka
    have hab : Kp Wa Wb := by rw [← hWb]; exact hKb _ _ _ _ (by omega) hla rfl rfl
    have hib : I pre Wb := by rw [← hWb]; exact hI _ _ _ (below_put (by omega)) hia
    have haxb : Ax x a' Wb := by rw [← hWb]; exact hAx _ _ _ _ _ (by omega) ⟨_, hla, rfl⟩ hax
    rw [hWb]
    refine wpIn_mono (hbody _ pre x a' Wb hib haxb hpre) ?_
    rintro e a3 W3 hp
    cases e with
    | normal =>
      obtain ⟨hk3, hkp3, hi3⟩ := hp
      have hl3 := hk3.same _ _ (by omega) hlb rfl
      have hd3 := hk3.same _ _ (Nat.le_refl _) hkb rfl
      have hr := run_endRound (P := P) none hl3
      refine ⟨_, _, hr, rfl, ⟨hI _ _ _ (below_put (by omega)) hi3, ?_, (World.putObj_heap_other (by omega)).trans hd3⟩, hKt hkp (hKt hab (hKt hkp3 (hKb _ _ _ _ (by omega) hl3 rfl rfl)))⟩
      rw [World.putObj_heap_same (Array.getElem?_eq_some_iff.1 hl3).1, hrec]
      rfl
    | _ => exact hp.elim
  rintro e W2 ⟨⟨v, rfl⟩, hi, hl, hk⟩
  refine ⟨none, _, by have := run_endLoop (P := P) hl (by rw [hrec]; simp); rw [hrec] at this; exact this, hdone _ _ (Nat.le_refl _) (hI _ _ _ (below_put (by omega)) hi) ((World.putObj_heap_other (by omega)).trans hk)⟩
end Go.Proofs.YtcamegaimleomaaGreat
