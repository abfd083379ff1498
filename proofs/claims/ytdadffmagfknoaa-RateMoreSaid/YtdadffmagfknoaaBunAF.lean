/-
  THE ENTRIES OF EACH DAY that are told, and not left out: toldWithout of the program.
  WHAT IS KEPT ACROSS A ROUND OF A LOOP OVER AN ITERATOR: all cells but those of some blocks, the loop's own variables; and the maps that lay before them.
  A RANGE OVER A FUNCTION whose iterator has cells of its own, which it writes between two rounds: the list that it yields is known; the caller's invariant speaks of what was there when the loop began. A round may return.
  WHAT THE ITERATOR OF A HOUSE's TRUTHS YIELDS: each truth, in order, until a round leaves. Its inner function.
  WHAT THE ITERATOR OF A HOUSE's TRUTHS YIELDS: one more day.
  THE ITERATOR OF A HOUSE's TRUTHS, whole: what truths returns, and what that yields.
  THE ITERATOR OF THE WAYS IN WHICH A LETTER IS OF A FORM: its inner function, which divides what is left of the letter among the parts that are left.
  THE ITERATOR OF THE WAYS IN WHICH A LETTER IS OF A FORM, whole: what ways returns, and what that yields.
  THE FIRST OF SOME COUNTS: best of the program, for whatever iterator that yields a list of counts.
-/
import Derived.Test.YtdadffmagfknoaaBunAE
import Derived.Test.YtdadffmagfknoaaBunAD
import Derived.Test.YtdadffmagfknoaaBunAC
import Derived.TacticsInMore
import Derived.LoopIn
import Derived.RangeFuncCalls
import Derived.Shelf.RegionOpen
import Derived.OwnWalkIn
namespace Go.Proofs.Ytdadffmagfknoaa
set_option linter.unusedSimpArgs false
set_option linter.unusedVariables false
open Go.RowKit
set_option linter.unusedVariables false
set_option maxRecDepth 100000

def outB (s : Nat) : Nat → Bool := fun i => s.testBit i
/-- the first entries of a day that are told and not left out -/
def entsTo (h : House) (out : Nat → Bool) (d k : Nat) : List Nat := (List.range k).filter fun i => toldE (entAt h i) && !out i && decide ((entAt h i).day = (d : Nat))
theorem entsTo_len (h : House) (out : Nat → Bool) (d : Nat) : entsTo h out d h.entries.length = entsOf h out d := rfl
theorem entsTo_succ (h : House) (out : Nat → Bool) (d k : Nat) : entsTo h out d (k + 1) = entsTo h out d k ++ (if (toldE (entAt h k) && !out k && decide ((entAt h k).day = (d : Nat))) = true then [k] else []) := by
  unfold entsTo
  rw [List.range_succ, List.filter_append]
  cases hb : (toldE (entAt h k) && !out k && decide ((entAt h k).day = (d : Nat))) <;> simp [hb]
theorem entsTo_le (h : House) (out : Nat → Bool) (d k : Nat) : (entsTo h out d k).length ≤ k := by
  have := List.length_filter_le (fun i => toldE (entAt h i) && !out i && decide ((entAt h i).day = (d : Nat))) (List.range k)
  simpa [entsTo] using this
theorem entsOf_lt {h : House} {out : Nat → Bool} {d x : Nat} (hx : x ∈ entsOf h out d) : x < h.entries.length := by
  unfold entsOf at hx
  rw [List.mem_filter, List.mem_range] at hx
  exact hx.1
theorem rints_I64 {l : List Nat} (h : ∀ x ∈ l, x < 1000000) : ∀ x ∈ ints l, I64 x := by
  intro x hx
  unfold ints at hx
  rw [List.mem_map] at hx
  obtain ⟨y, hy, rfl⟩ := hx
  have := h y hy
  unfold I64; omega
/-- three rows of a call's own, in a block -/
structure Days3 (E base : Nat) (L : Nat → List Nat) (u : Nat → Value) (w : World) : Prop where
  cell : ∀ d, d < 3 → w.cell? ⟨E, d, none⟩ = some (u d)
  row : ∀ d, d < 3 → w.ownsRow base 3 1 (u d) (L d).length ((ints (L d)).map (Value.int .i64))
  apart : ∀ d d', d < 3 → d' < 3 → d ≠ d' → (u d).ownBlock = none ∨ (u d).ownBlock ≠ (u d').ownBlock
  free : ∀ d, w.frozen? ⟨E, d, none⟩ = false
  lt : E < base
theorem Days3.ext {E base : Nat} {L : Nat → List Nat} {u : Nat → Value} {w w' : World} (h : Days3 E base L u w) (hx : Ext w w') : Days3 E base L u w' :=
  ⟨fun d hd => hx.cell (h.cell d hd), fun d hd => Ext.owns (h.row d hd) hx, h.apart, fun d => (hx.frozen (p := ⟨E, d, none⟩) (by have := cell_lt (h.cell 0 (by omega)); exact this)).trans (h.free d), h.lt⟩
def updV (u : Nat → Value) (d : Nat) (v : Value) : Nat → Value := fun j => if j = d then v else u j
def updL (L : Nat → List Nat) (d n : Nat) : Nat → List Nat := fun j => if j = d then L d ++ [n] else L j
theorem Days3.step {E base : Nat} {L : Nat → List Nat} {u : Nat → Value} {W w : World} (h : Days3 E base L u W) {d n : Nat} (hd : d < 3) {v : Value} (hC : Facts.App.But (u d).ownBlock W w) (hrow : w.ownsRow base 3 1 v ((L d).length + 1) ((ints (L d)).map (Value.int .i64) ++ [.int .i64 (n : Nat)]))
    (hv : v.ownBlock = (u d).ownBlock ∨ ∃ g, v.ownBlock = some g ∧ W.heap.size ≤ g) : Days3 E base (updL L d n) (updV u d v) (w.setCell ⟨E, d, none⟩ v) := by
  have hE : ∀ j, j < 3 → w.cell? ⟨E, j, none⟩ = some (u j) := fun j hj => World.grownBy.cell hC (h.cell j hj) (fun e => by
    have h1 := ((h.row d hd).lt _ e.symm).1
    have := h.lt
    simp at h1; omega)
  refine ⟨fun j hj => ?_, fun j hj => ?_, fun j j' hj hj' hne => ?_, fun j => ?_, h.lt⟩
  · unfold updV
    by_cases e : j = d
    · subst e; rw [if_pos rfl]; exact set_cell (hE j hj) v
    · rw [if_neg e]; exact set_other (hE j hj) (.inr (fun e' => e e'.symm)) v
  · unfold updV updL
    by_cases e : j = d
    · subst e
      rw [if_pos rfl, if_pos rfl]
      have := ownsRow_setCell_below hrow (a := ⟨E, j, none⟩) h.lt v
      simpa [ints] using this
    · rw [if_neg e, if_neg e]
      exact ownsRow_setCell_below ((h.row j hj).kept hC (h.apart j d hj hd e)) (a := ⟨E, d, none⟩) h.lt v
  · unfold updV
    have key : ∀ j, j < 3 → j ≠ d → (u j).ownBlock = none ∨ (u j).ownBlock ≠ v.ownBlock := fun j hj e => by
      rcases hv with hv | ⟨g, hv, hg⟩
      · rw [hv]; exact h.apart j d hj hd e
      · cases hu : (u j).ownBlock with
        | none => exact .inl rfl
        | some g' =>
          refine .inr (fun e' => ?_)
          have h1 := ((h.row j hj).lt g' hu).2
          rw [hv] at e'
          have := Option.some.inj e'
          omega
    by_cases e : j = d
    · subst e
      rw [if_pos rfl, if_neg (fun e => hne e.symm)]
      rcases key j' hj' (fun e => hne e.symm) with h1 | h1
      · cases hvo : v.ownBlock with
        | none => exact .inl rfl
        | some g => rw [h1]; exact .inr (by simp)
      · exact .inr (fun e => h1 e.symm)
    · rw [if_neg e]
      by_cases e' : j' = d
      · rw [if_pos e']; exact key j hj e
      · rw [if_neg e']; exact h.apart j j' hj hj' hne
  · have hf : w.frozen? ⟨E, j, none⟩ = false := by
      have hb := hC.block E (by have := cell_lt (h.cell 0 (by omega)); exact this) (fun e => by
        have h1 := ((h.row d hd).lt _ e.symm).1
        have := h.lt
        omega)
      rw [World.frozen?_of_block (w := W) (a := ⟨E, j, none⟩) hb]; exact h.free j
    simpa [go_sem] using hf
/-- one number, in a block of its own -/
def NewRr (own : Option Nat) (a : Value) (u : Value) (w : World) : Prop := ∃ B, u = .slice (some ⟨B, 0, none⟩) 1 1 ∧ w.cell? ⟨B, 0, none⟩ = some a ∧ some B ≠ own
noncomputable def NewRr.B {own : Option Nat} {a u : Value} {w : World} (h : NewRr own a u w) : Nat := Exists.choose h
theorem NewRr.spec {own : Option Nat} {a u : Value} {w : World} (h : NewRr own a u w) : u = .slice (some ⟨h.B, 0, none⟩) 1 1 ∧ w.cell? ⟨h.B, 0, none⟩ = some a ∧ some h.B ≠ own := Exists.choose_spec h
theorem NewRr.ext {own : Option Nat} {a u : Value} {w w' : World} (h : NewRr own a u w) (hx : Ext w w') : NewRr own a u w' := by
  obtain ⟨B, h1, h2, h3⟩ := h; exact ⟨B, h1, hx.cell h2, h3⟩
theorem NewRr.but {own : Option Nat} {a u : Value} {w w' : World} (h : NewRr own a u w) (hx : Facts.App.But own w w') : NewRr own a u w' := by
  obtain ⟨B, h1, h2, h3⟩ := h; exact ⟨B, h1, World.grownBy.cell hx h2 h3, h3⟩
theorem one_cellsR {a : Value} {w : World} {B : Nat} (h2 : w.cell? ⟨B, 0, none⟩ = some a) : ∀ j v, [a][j]? = some v → w.cell? ((⟨B, 0, none⟩ : Addr).add j) = some v := by
  intro j v hj
  match j, hj with
  | 0, hj => simp at hj; subst hj; simpa [Addr.add] using h2
/-- the row with one number more -/
def AppR (W : World) (base : Nat) (own : Option Nat) (l : List Nat) (n : Nat) (v : Value) (w : World) : Prop :=
  w.ownsRow base 3 1 v (l.length + 1) ((ints l).map (Value.int .i64) ++ [.int .i64 (n : Nat)]) ∧ (v.ownBlock = own ∨ ∃ g, v.ownBlock = some g ∧ W.heap.size ≤ g)
theorem AppR.ext {W : World} {base : Nat} {own : Option Nat} {l : List Nat} {n : Nat} {v : Value} {w w' : World} (h : AppR W base own l n v w) (hx : Ext w w') : AppR W base own l n v w' := ⟨Ext.owns h.1 hx, h.2⟩
/-- a list of numbers in new memory -/
def IntsN (n : Nat) (w : World) (v : Value) (l : List Int) : Prop := ∃ a c, v = .slice a l.length c ∧ l.length ≤ c ∧ c ≤ 9223372036854775807 ∧ ∀ i (hi : i < l.length), ∃ b off, a = some ⟨b, off, none⟩ ∧ n ≤ b ∧ intR w b (off + i * 1) l[i]
theorem IntsN.at {n : Nat} {w : World} {v : Value} {l : List Int} (h : IntsN n w v l) : IntsAt w v l := by
  obtain ⟨a, c, e, h1, h2, h3⟩ := h
  exact ⟨a, c, e, h1, h2, fun i hi => by obtain ⟨b, o, e1, -, r⟩ := h3 i hi; exact ⟨b, o, e1, r⟩⟩
theorem IntsN.ext {n : Nat} {w w' : World} {v : Value} {l : List Int} (h : IntsN n w v l) (hx : Ext w w') : IntsN n w' v l := by
  obtain ⟨a, c, e, h1, h2, h3⟩ := h
  exact ⟨a, c, e, h1, h2, fun i hi => by obtain ⟨b, o, e1, hb, r⟩ := h3 i hi; exact ⟨b, o, e1, hb, intR.keeps _ _ _ _ _ hx r⟩⟩
theorem IntsN.of_own {n : Nat} {w : World} {B : Nat} {e : TypeId} {v : Value} {l : List Int} (h : w.ownsRow B e 1 v l.length (l.map (Value.int .i64))) (hB : n ≤ B) (hI : ∀ x ∈ l, I64 x) : IntsN n w v l := by
  have hA := IntsAt.of_own h hI
  obtain ⟨a, c, e1, h1, h2, h3⟩ := hA
  refine ⟨a, c, e1, h1, h2, fun i hi => ?_⟩
  obtain ⟨b, o, ea, r⟩ := h3 i hi
  refine ⟨b, o, ea, ?_, r⟩
  have := (World.ownsRow.lt h b (by rw [e1, ea]; rfl)).1
  omega
set_option maxHeartbeats 4000000 in
theorem toldWithout_any (hv : Value) (h : House) (hV : ValidH h) (s : Nat) (hs : s < 32) (w : World) (hl : LookAt w hv h) :
    Calls Try.prog 101 #[hv, .int .i64 s] w fun e w' => ∃ u0 u1 u2, e = .returned (.agg #[u0, u1, u2]) ∧ IntsN w.heap.size w' u0 (ints (entsOf h (outB s) 0)) ∧ IntsN w.heap.size w' u1 (ints (entsOf h (outB s) 1)) ∧ IntsN w.heap.size w' u2 (ints (entsOf h (outB s) 2)) ∧ Ext w w' := by
  have hl0 := hl
  obtain ⟨ra, rc, aa, ac, ea, ec, B, M, rfl, hra, ha, he, hM, hP⟩ := hl
  have hle := hV.entries
  obtain ⟨tin, hi, hz0, hz1, hz2⟩ := info_parts infoInt
  have htd := fun w i hi hl => isTold_any (houseV h ra aa ea rc ac ec (.map (some B))) h i hi w hl
  unfold houseV at *
  go_enter Try.func101, Try.ntmps101
  go_wp2_with fail
  obtain ⟨W0, hW0⟩ : ∃ W0, W0 = (((w.alloc (.cells #[.int .i64 h.days, .slice ra h.rates.length rc, .int .i64 h.step, .slice aa h.agents.length ac, .slice ea h.entries.length ec, .map (some B)] 85)).alloc (.cells #[.slice none 0 0, .slice none 0 0, .slice none 0 0] 141)).alloc (.cells #[.slice none 0 0, .slice none 0 0, .slice none 0 0] 141)) := ⟨_, rfl⟩
  have x0 : Ext w W0 := by rw [hW0]; exact ((ext_alloc _ _).alloc _).alloc _
  have hH : BoxIs W0 w.heap.size [.int .i64 h.days, .slice ra h.rates.length rc, .int .i64 h.step, .slice aa h.agents.length ac, .slice ea h.entries.length ec, .map (some B)] := by
    intro j v hj
    rw [hW0]
    match j, hj with
    | 0, hj => simp at hj; subst hj; simp [go_sem]
    | 1, hj => simp at hj; subst hj; simp [go_sem]
    | 2, hj => simp at hj; subst hj; simp [go_sem]
    | 3, hj => simp at hj; subst hj; simp [go_sem]
    | 4, hj => simp at hj; subst hj; simp [go_sem]
    | 5, hj => simp at hj; subst hj; simp [go_sem]
  have hR : BoxIs W0 (w.heap.size + 1) [.slice none 0 0, .slice none 0 0, .slice none 0 0] := by
    intro j v hj
    rw [hW0]
    match j, hj with
    | 0, hj => simp at hj; subst hj; simp [go_sem]
    | 1, hj => simp at hj; subst hj; simp [go_sem]
    | 2, hj => simp at hj; subst hj; simp [go_sem]
  have fR : ∀ j, W0.frozen? ⟨w.heap.size + 1, j, none⟩ = false := fun j => by rw [hW0]; simp [go_sem]
  have hD : Days3 (w.heap.size + 2) (w.heap.size + 3) (fun d => entsTo h (outB s) d 0) (fun _ => .slice none 0 0) W0 := by
    refine ⟨fun d hd => ?_, fun d _ => World.ownsRow_nil _ _ _ _, fun d d' _ _ _ => .inl rfl, fun d => by rw [hW0]; simp [go_sem], by omega⟩
    rw [hW0]
    have : d = 0 ∨ d = 1 ∨ d = 2 := by omega
    rcases this with rfl | rfl | rfl <;> simp [go_sem]
  rw [← hW0]
  clear hW0
  go_loopw [12] (fun ix wr => ∃ (k : Nat) (u : Nat → Value), k ≤ h.entries.length ∧ ix = .int .i64 k ∧ Ext w wr ∧ BoxIs wr w.heap.size [.int .i64 h.days, .slice ra h.rates.length rc, .int .i64 h.step, .slice aa h.agents.length ac, .slice ea h.entries.length ec, .map (some B)] ∧ BoxIs wr (w.heap.size + 1) [.slice none 0 0, .slice none 0 0, .slice none 0 0] ∧ (∀ j, wr.frozen? ⟨w.heap.size + 1, j, none⟩ = false) ∧ Days3 (w.heap.size + 2) (w.heap.size + 3) (fun d => entsTo h (outB s) d k) u wr) (fun ix _ => h.entries.length - (intOf ix).toNat)
  case atStart => exact ⟨0, _, Nat.zero_le _, rfl, x0, hH, hR, fR, hD⟩
  case round =>
    clear hH hR fR hD
    obtain ⟨k, u, hk, rfl, hx, hH, hR, fR, hD⟩ := hrel
    have d0 := hH 0 _ rfl
    have d1 := hH 1 _ rfl
    have d2 := hH 2 _ rfl
    have d3 := hH 3 _ rfl
    have d4 := hH 4 _ rfl
    have d5 := hH 5 _ rfl
    have zH := hH.lt
    by_cases hlt : k < h.entries.length
    · obtain ⟨xb, xo, rfl, e0, e1, e2, e3, i0, i1, i2, i3⟩ := (he.ext hx).get hlt
      have k1 : (k : Int) < (h.entries.length : Int) := by omega
      have hen := hV.entry _ (List.getElem_mem hlt)
      have hea : entAt h k = h.entries[k] := entAt_get hlt
      have hlr := hl0.ext hx
      have hsu := fun d => entsTo_succ h (outB s) d k
      rw [← hea] at hen e0 e1 e2 e3
      generalize hxx : entAt h k = x at *
      have hdd : (0 ≤ x.day ∧ x.day < 3) := by have := hV.days; omega
      obtain ⟨di, hdi⟩ : ∃ di : Nat, x.day = di := ⟨x.day.toNat, by omega⟩
      have hdi3 : di < 3 := by omega
      have htk := fun w hl => htd w k hlt hl
      rw [hxx] at htk
      have Hsu := Lib.hid hsu
      have Hea := Lib.hid hea
      have Hen := Lib.hid hen
      clear hsu hea hen htd hxx
      cases ht : toldE x
      · rw [ht] at htk
        go_wp2_with fail
        refine (htk _ (hlr.ext (ext_alloc _ _))).mono ?_
        rintro e w5 ⟨rfl, hx5⟩
        have x5 := hx5.of_alloc
        go_wp2
        go_roundw
        case rel => exact ⟨k + 1, u, by omega, by go_num, hx.trans x5, hH.ext x5, hR.ext x5, fun j => (x5.frozen (p := ⟨w.heap.size + 1, j, none⟩) hR.lt).trans (fR j), by
          have hD5 := hD.ext x5
          have : (fun d => entsTo h (outB s) d (k + 1)) = fun d => entsTo h (outB s) d k := by funext d; rw [Hsu.out d, ht]; simp
          rw [this]; exact hD5⟩
        case measure => simp [intOf]; omega
      · rw [ht] at htk
        have hk5 : k < 5 := by omega
        have hbt := bits_any (.slice (some ⟨0, 0, none⟩) 0 0) [k] (by simpa using hk5)
        have hb1 : bitsM [k] = 2 ^ k := by simp [bitsM]
        have hbits := fun B t (w1 : World) (hB : w1.heap.size = B) => bits_any _ [k] (by simpa using hk5) _ (IntsAt.oneAt (w := w1) (n := (k : Int)) (t := t) hB (by omega))
        rw [hb1] at hbits
        clear hbt hb1
        cases hb : s.testBit k
        · have hand : bits BinOp.and IntKind.i64 (s : Int) ((2 ^ k : Nat) : Int) = 0 := and_no ⟨s, hs⟩ ⟨k, hk5⟩ hb
          generalize 2 ^ k = p2 at *
          have Hb := Lib.hid hb
          have Ht := Lib.hid ht
          clear hb ht
          go_wp2_with fail
          refine (htk _ (hlr.ext (ext_alloc _ _))).mono ?_
          rintro e w5 ⟨rfl, hx5⟩
          have x5 : Ext wr w5 := hx5.of_alloc
          have q1 : w5.cell? ⟨wr.heap.size, 1, none⟩ = some (.int .i64 di) := hx5.cell (by simp [go_sem])
          have hD5 := hD.ext x5
          have hH5 := hH.ext x5
          have hR5 := hR.ext x5
          have fR5 : ∀ j, w5.frozen? ⟨w.heap.size + 1, j, none⟩ = false := fun j => (x5.frozen (p := ⟨w.heap.size + 1, j, none⟩) hR.lt).trans (fR j)
          replace d4 := x5.cell d4
          have zE : w.heap.size + 2 < w5.heap.size := cell_lt (hD5.cell 0 (by omega))
          have zq : w.heap.size + 3 ≤ wr.heap.size := by have := cell_lt (hD.cell 0 (by omega)); simp at this; omega
          have hob : ∀ g, (u di).ownBlock = some g → w.heap.size + 3 ≤ g ∧ g < wr.heap.size := (hD.row di hdi3).lt
          clear hx5 htk hlr hD hH hR fR d0 d1 d2 d3 d5
          go_wp2_with fail
          refine (hbits _ _ _ (by simp)).mono ?_
          rintro e w6 ⟨rfl, rfl⟩
          go_wp2_with fail
          obtain ⟨W, hW⟩ : ∃ W, W = w5.alloc (.cells #[.int .i64 (k : Int)] 3) := ⟨_, rfl⟩
          have xW : Ext w5 W := by rw [hW]; exact ext_alloc _ _
          rw [← hW]
          clear hW
          replace q1 := xW.cell q1
          have hDW := hD5.ext xW
          have hHW := hH5.ext xW
          have hRW := hR5.ext xW
          have fRW : ∀ j, W.frozen? ⟨w.heap.size + 1, j, none⟩ = false := fun j => (xW.frozen (p := ⟨w.heap.size + 1, j, none⟩) hR5.lt).trans (fR5 j)
          have hxW : Ext w W := (hx.trans x5).trans xW
          have hrow := hDW.row di hdi3
          have hcell := hDW.cell di hdi3
          have hlen := entsTo_le h (outB s) di k
          have hzW := xW.size
          have hz5 := x5.size
          have kdi : (di : Int) < 3 := by omega
          generalize hud : u di = ud at *
          generalize hL : entsTo h (outB s) di k = L at *
          have HL := Lib.hid hL
          have Hud := Lib.hid hud
          have HD := Lib.hid hDW
          clear hD5 hH5 hR5 fR5 xW hL hud hDW
          apply Facts.Peel.wp_regionL (Facts.App.two_butG ud.ownBlock (w.heap.size + 3) L.length) 10 8 [.val (.pointer (some ⟨wr.heap.size, 1, none⟩)), .val (.int .i64 di), .val (.pointer (some ⟨wr.heap.size, 1, none⟩)), .val (.int .i64 di), .val (.pointer (some ⟨w.heap.size + 2, di, none⟩)), .val ud, .val (.int .i64 k), .fact (NewRr ud.ownBlock (.int .i64 k)), .fact (AppR W (w.heap.size + 3) ud.ownBlock L k), .val (.pointer (some ⟨w.heap.size + 2, di, none⟩))] (by kernel_rfl) (by kernel_rfl) (by kernel_rfl) (by kernel_rfl) (by kernel_rfl) (by kernel_rfl) ?keep ?main
          case keep => exact ⟨fun u a c hx h => h.ext hx, fun _ _ u a c hx h => h.but hx.1, fun u a c hx h => h.ext hx, fun h => absurd rfl h, trivial⟩
          case main =>
            simp only [List.take_succ_cons, List.take_zero, List.getD_cons_succ, List.getD_cons_zero]
            have nX : ∀ {w1 : World}, Facts.App.ButG ud.ownBlock (w.heap.size + 3) L.length W w1 → w1.cell? ⟨wr.heap.size, 1, none⟩ = some (.int .i64 di) := fun hC => World.grownBy.cell hC.1 q1 (fun e => Nat.lt_irrefl _ (hob _ e.symm).2)
            have nE : ∀ {w1 : World}, Facts.App.ButG ud.ownBlock (w.heap.size + 3) L.length W w1 → w1.cell? ⟨w.heap.size + 2, di, none⟩ = some ud := fun hC => World.grownBy.cell hC.1 hcell (fun e => by have := (hob _ e.symm).1; simp at this <;> omega)
            iterate 7 (refine ⟨fun w1 hC hh => ?_, ?_⟩; focus (clear hh; (have f0 := nX hC; have f1 := nE hC); clear hC; go_simp; first | exact ⟨Ext.refl _, rfl⟩ | exact Ext.refl _))
            refine ⟨fun w1 hC hh => ?_, ?_⟩
            · clear hh
              have hsz := hC.1.size
              clear hC
              go_simp
              exact ⟨ext_alloc _ _, w1.heap.size, rfl, by simp [go_sem], fun e => by have := (hob _ e.symm).2; omega⟩
            intro u7
            refine ⟨fun w1 hC hh => ?_, ?_⟩
            · have h7 : NewRr ud.ownBlock (.int .i64 k) u7 w1 := hh 7 _ List.mem_cons_self (by kernel_rfl)
              clear hh
              have s7 := h7.spec
              generalize h7.B = B7 at *
              have e7 := s7.1
              have c7 := s7.2.1
              clear s7 h7
              subst e7
              have hsz := hC.1.size
              have hll : (ints L).length = L.length := by simp [ints]
              refine Facts.App.stepG_append_both rfl (.tmp 33) (.tmp 35) 30 rfl (w.heap.size + 3) 3 tin (.int .i64 0) 1 8 Try.underlying30 hi hz0 hz1 hz2 rfl (by decide) ud L.length ((ints L).map (Value.int .i64)) (by go_simp) (hC.2.owns hrow (by omega)) ⟨B7, 0, none⟩ 1 1 [.int .i64 k] (by go_simp) rfl (one_cellsR c7) (by simp [Value.oneCell']) (by unfold maxLen; omega) (by omega) (by omega) ?_
              intro v' w' ho hg hb
              rw [Nat.mul_one] at hg
              exact ⟨hg, ho, hb.imp id (fun e => ⟨_, e, hsz⟩)⟩
            intro u8
            iterate 1 (refine ⟨fun w1 hC hh => ?_, ?_⟩; focus (clear hh; (have f0 := nX hC; have f1 := nE hC); clear hC; go_simp; first | exact ⟨Ext.refl _, rfl⟩ | exact Ext.refl _))
            intro w7 hC hh
            have h8 : AppR W (w.heap.size + 3) ud.ownBlock L k u8 w7 := hh 8 _ List.mem_cons_self
            clear hh
            obtain ⟨g8, c8, rfl⟩ := ownsRow_succ h8.1
            have hE7 := nE hC
            have fE7 : w7.frozen? ⟨w.heap.size + 2, di, none⟩ = false := by
              have hb := hC.1.block (w.heap.size + 2) (by omega) (fun e => by have := (hob _ e.symm).1; omega)
              rw [World.frozen?_of_block (w := W) (a := ⟨w.heap.size + 2, di, none⟩) hb]; exact HD.out.free di
            have hst := HD.out.step (n := k) hdi3 (by rw [Hud.out]; exact hC.1) (v := .slice (some ⟨g8, 0, none⟩) (L.length + 1) c8) (by have := h8.1; rw [← HL.out] at this ⊢; exact this) (by rw [Hud.out]; exact h8.2)
            have x7 : Ext w w7 := Ext.grown hxW hC.1 (fun g e => by have := (hob g e).1; omega)
            have hH7 : BoxIs w7 w.heap.size _ := fun j v hj => World.grownBy.cell hC.1 (hHW j v hj) (fun e => by have := (hob _ e.symm).1; simp at this <;> omega)
            have hR7 : BoxIs w7 (w.heap.size + 1) _ := fun j v hj => World.grownBy.cell hC.1 (hRW j v hj) (fun e => by have := (hob _ e.symm).1; simp at this <;> omega)
            have fR7 : ∀ j, w7.frozen? ⟨w.heap.size + 1, j, none⟩ = false := fun j => by
              have hb := hC.1.block (w.heap.size + 1) (by have := hRW.lt; exact this) (fun e => by have := (hob _ e.symm).1; omega)
              rw [World.frozen?_of_block (w := W) (a := ⟨w.heap.size + 1, j, none⟩) hb]; exact fRW j
            have Hst := Lib.hid hst
            have HH7 := Lib.hid hH7
            have HR7 := Lib.hid hR7
            have FR7 := Lib.hid fR7
            have X7 := Lib.hid x7
            clear hst hH7 hR7 fR7 x7 nX nE hC h8 hHW hRW fRW hrow hcell
            refine ⟨rfl, ?_⟩
            go_simp
            go_wp2
            go_roundw
            case rel => exact ⟨k + 1, _, by omega, by go_num, X7.out.setCell (by simp) _, HH7.out.other (by simp) _, HR7.out.other (by simp) _, fun j => by simpa [go_sem] using FR7.out j, by
              have hh := Hst.out
              have : (fun d => entsTo h (outB s) d (k + 1)) = updL (fun d => entsTo h (outB s) d k) di k := by
                funext d
                unfold updL
                rw [Hsu.out d, Ht.out, hdi]
                by_cases e : d = di
                · subst e; simp [outB, Hb.out]
                · rw [if_neg e]; simp [outB, Hb.out]; omega
              rw [this]; exact hh⟩
            case measure => simp [intOf]; omega
        · have hand : bits BinOp.and IntKind.i64 (s : Int) ((2 ^ k : Nat) : Int) = ((2 ^ k : Nat) : Int) := and_yes ⟨s, hs⟩ ⟨k, hk5⟩ hb
          have hp0 : (((2 ^ k : Nat) : Int) == 0) = false := by rw [beq_eq_false_iff_ne]; have := Nat.two_pow_pos k; omega
          generalize 2 ^ k = p2 at *
          have Hb := Lib.hid hb
          have Ht := Lib.hid ht
          clear hb ht
          go_wp2_with fail
          refine (htk _ (hlr.ext (ext_alloc _ _))).mono ?_
          rintro e w5 ⟨rfl, hx5⟩
          have x5 : Ext wr w5 := hx5.of_alloc
          clear hx5 htk
          go_wp2_with fail
          refine (hbits _ _ _ (by simp)).mono ?_
          rintro e w6 ⟨rfl, rfl⟩
          have x6 := x5.alloc (.cells #[.int .i64 (k : Int)] 3)
          go_wp2
          go_roundw
          case rel => exact ⟨k + 1, u, by omega, by go_num, hx.trans x6, hH.ext x6, hR.ext x6, fun j => (x6.frozen (p := ⟨w.heap.size + 1, j, none⟩) hR.lt).trans (fR j), by
            have hD5 := hD.ext x6
            have : (fun d => entsTo h (outB s) d (k + 1)) = fun d => entsTo h (outB s) d k := by funext d; rw [Hsu.out d, Ht.out]; simp [outB, Hb.out]
            rw [this]; exact hD5⟩
          case measure => simp [intOf]; omega
    · have hke : k = h.entries.length := by omega
      subst hke
      have v0 := hD.cell 0 (by omega)
      have v1 := hD.cell 1 (by omega)
      have v2 := hD.cell 2 (by omega)
      have q0 := hR 0 _ rfl
      have q1 := hR 1 _ rfl
      have q2 := hR 2 _ rfl
      have key : ∀ a b c : Value, ∀ d, d < 3 → IntsN w.heap.size (((wr.setCell ⟨w.heap.size + 1, 0, none⟩ a).setCell ⟨w.heap.size + 1, 1, none⟩ b).setCell ⟨w.heap.size + 1, 2, none⟩ c) (u d) (ints (entsOf h (outB s) d)) := fun a b c d hd => by
        have h1 := ownsRow_setCell_below (hD.row d hd) (a := ⟨w.heap.size + 1, 0, none⟩) (by simp) a
        have h2 := ownsRow_setCell_below h1 (a := ⟨w.heap.size + 1, 1, none⟩) (by simp) b
        have h3 := ownsRow_setCell_below h2 (a := ⟨w.heap.size + 1, 2, none⟩) (by simp) c
        exact IntsN.of_own (by simpa [ints, entsTo_len] using h3) (by omega) (rints_I64 (fun x hx => by have := entsOf_lt hx; omega))
      have xS : ∀ a b c : Value, Ext w (((wr.setCell ⟨w.heap.size + 1, 0, none⟩ a).setCell ⟨w.heap.size + 1, 1, none⟩ b).setCell ⟨w.heap.size + 1, 2, none⟩ c) := fun a b c => ((hx.setCell (by simp) _).setCell (by simp) _).setCell (by simp) _
      have j0 := key (u 0) (u 1) (u 2) 0 (by omega)
      have j1 := key (u 0) (u 1) (u 2) 1 (by omega)
      have j2 := key (u 0) (u 1) (u 2) 2 (by omega)
      have hS := xS (u 0) (u 1) (u 2)
      have r := three_cells q0 q1 q2 (u 0) (u 1) (u 2)
      clear key xS hD hR hH
      generalize u 0 = u0 at *
      generalize u 1 = u1 at *
      generalize u 2 = u2 at *
      obtain ⟨a0, c0, rfl, -⟩ := j0.at.shape
      obtain ⟨a1, c1, rfl, -⟩ := j1.at.shape
      obtain ⟨a2, c2, rfl, -⟩ := j2.at.shape
      have HS := Lib.hid hS
      have J0 := Lib.hid j0
      have J1 := Lib.hid j1
      have J2 := Lib.hid j2
      clear j0 j1 j2 hS
      go_wp2_with fail
      refine bodyPost_ret (v := .agg #[.slice a0 (ints (entsOf h (outB s) 0)).length c0, .slice a1 (ints (entsOf h (outB s) 1)).length c1, .slice a2 (ints (entsOf h (outB s) 2)).length c2]) (by simp [results, Try.results101, go_sem, r.1, r.2.1, r.2.2]) rfl ⟨_, _, _, rfl, J0.out, J1.out, J2.out, HS.out⟩
end Go.Proofs.Ytdadffmagfknoaa

namespace Go.Proofs.Ytdadffmagfknoaa
set_option linter.unusedSimpArgs false
set_option linter.unusedVariables false
open Go.RowKit
set_option linter.unusedVariables false

structure KeptN (lo hi : Nat) (w w' : World) : Prop where
  o : KeptO lo hi w w'
  n : ∀ k x, k < lo → w.heap[k]? = some x → x.isCells = false → w'.heap[k]? = some x
  m : ∀ (k : Nat) es c, w.heap[k]? = some (Obj.map es c) → w'.heap[k]? = some (Obj.map es c)
theorem map_setCell {w : World} {k : Nat} {es : Array MapEntry} {c : Nat} (p : Addr) (v : Value) (h : w.heap[k]? = some (Obj.map es c)) : (w.setCell p v).heap[k]? = some (Obj.map es c) := by
  by_cases e : k = p.block
  · subst e; simp [World.setCell, Array.getElem?_modify, h]
  · rw [Below.heap_setCell w p v k e]; exact h
theorem KeptN.refl (lo hi : Nat) (w : World) : KeptN lo hi w w := ⟨KeptO.refl _ _ _, fun _ _ _ h _ => h, fun _ _ _ h => h⟩
theorem KeptN.trans {lo hi : Nat} {a b c : World} (h : KeptN lo hi a b) (k : KeptN lo hi b c) : KeptN lo hi a c := ⟨h.o.trans k.o, fun i x hi hx hc => k.n i x hi (h.n i x hi hx hc) hc, fun i es c hi => k.m i es c (h.m i es c hi)⟩
theorem Ext.keptN {w w' : World} (lo hi : Nat) (h : Ext w w') : KeptN lo hi w w' := ⟨h.kept lo hi, fun k x _ hx _ => (h.below.block k (Array.getElem?_eq_some_iff.1 hx).1).trans hx, fun k es c hx => (h.below.block k (Array.getElem?_eq_some_iff.1 hx).1).trans hx⟩
theorem KeptN.cell {lo hi : Nat} {w w' : World} (h : KeptN lo hi w w') {p : Addr} {v : Value} (hb : p.block < lo ∨ hi ≤ p.block) (hc : w.cell? p = some v) : w'.cell? p = some v := h.o.cell hb hc
theorem KeptN.box {lo hi : Nat} {w w' : World} (h : KeptN lo hi w w') {B : Nat} {l : List Value} (hb : B < lo ∨ hi ≤ B) (hc : BoxIs w B l) : BoxIs w' B l := fun j v hj => h.o.cell hb (hc j v hj)
theorem KeptN.frozen {lo hi : Nat} {w w' : World} (h : KeptN lo hi w w') {p : Addr} {v : Value} (hb : p.block < lo ∨ hi ≤ p.block) (hc : w.cell? p = some v) : w'.frozen? p = w.frozen? p := h.o.frozen hb hc
theorem KeptN.setNew {lo hi : Nat} {a w : World} (h : KeptN lo hi a w) {p : Addr} (hp : a.heap.size ≤ p.block) (hl : lo ≤ p.block) (v : Value) : KeptN lo hi a (w.setCell p v) :=
  ⟨h.o.setNew hp v, fun k x hk hx hc => (Below.heap_setCell w p v k (by omega)).trans (h.n k x hk hx hc), fun k es c hx => map_setCell p v (h.m k es c hx)⟩
theorem KeptN.setIn {lo hi : Nat} {a w : World} (h : KeptN lo hi a w) {p : Addr} (h1 : lo ≤ p.block) (h2 : p.block < hi) (v : Value) : KeptN lo hi a (w.setCell p v) :=
  ⟨⟨Nat.le_trans h.o.size (by simp [World.setCell]), fun q u hb hq => by
    obtain ⟨k1, k2⟩ := h.o.all q u hb hq
    have he := Below.heap_setCell w p v q.block (by omega)
    exact ⟨(World.cell?_of_block (w := w) he).trans k1, (World.frozen?_of_block (w := w) he).trans k2⟩⟩, fun k x hk hx hc => (Below.heap_setCell w p v k (by omega)).trans (h.n k x hk hx hc), fun k es c hx => map_setCell p v (h.m k es c hx)⟩
theorem KeptN.putObj {lo hi : Nat} {W : World} {l : Nat} {o o' : Obj} (h : W.heap[l]? = some o) (hc : o.isCells = false) (hm : ∀ es k, o ≠ Obj.map es k) (hl : lo ≤ l) : KeptN lo hi W (W.putObj l o') :=
  ⟨KeptO.putObj h hc, fun k x hk hx _ => (World.putObj_heap_other (by omega)).trans hx, fun k es c hx => (World.putObj_heap_other (fun e => by subst e; rw [h] at hx; exact hm _ _ (Option.some.inj hx))).trans hx⟩
theorem KeptN.size {lo hi : Nat} {w w' : World} (h : KeptN lo hi w w') : w.heap.size ≤ w'.heap.size := h.o.size
theorem KeptN.lies {lo hi : Nat} {w w' : World} (h : KeptN lo hi w w') (hw : w.heap.size ≤ lo) : Lies w w' := h.o.lies hw
end Go.Proofs.Ytdadffmagfknoaa

namespace Go.Proofs.Ytdadffmagfknoaa
set_option linter.unusedSimpArgs false
set_option linter.unusedVariables false
open Go.RowKit
set_option linter.unusedVariables false

/-- AN ITERATOR THAT YIELDS JUST THESE, one after the other, until a round leaves; it may turn whatever has been laid since its call began; a round keeps what Kp says. -/
def SeqBoth {α : Type} (n : Nat) (P : Program) (g : Nat) (lb : Array Value) (encs : α → Array Value) (Kp : World → World → Prop) (xs : List α) (w : World) : Prop :=
  ∀ (l : Nat) (J Jx : List α → World → Prop) (W : World), Below w.heap.size w W → (∀ s X Y, Below W.heap.size X Y → J s X → J s Y) → (∀ s X Y, Below W.heap.size X Y → Jx s X → Jx s Y) →
    (∀ pre x W1, J pre W1 → pre ++ [x] <+: xs → YieldAt Fence.wide (n - 1) P l (encs x) W1 fun e W' => (e = .returned (.bool true) ∧ J (pre ++ [x]) W' ∧ Kp W1 W') ∨ (e = .returned (.bool false) ∧ Jx (pre ++ [x]) W')) →
    J [] W → CallsIn Fence.wide n P g (#[.func (.yield l) #[] #[]] ++ lb) W fun e W' => (∃ v, e = .returned v) ∧ (J xs W' ∨ ∃ pre, pre <+: xs ∧ Jx pre W')
theorem SeqBoth.own {α : Type} {n : Nat} {P : Program} {g : Nat} {lb : Array Value} {encs : α → Array Value} {Kp : World → World → Prop} {xs : List α} {w : World} (h : SeqBoth n P g lb encs Kp xs w) : SeqOwn n P g lb encs Kp xs w := by
  intro l J W hW hJ hY h0
  refine (h l J (fun _ _ => False) W hW hJ (fun _ _ _ _ h => h) (fun pre x W1 h1 h2 => YieldAt.mono (hY pre x W1 h1 h2) fun e w h => .inl h) h0).mono ?_
  rintro e W' ⟨h1, h2 | ⟨_, _, h⟩⟩
  · exact ⟨h1, h2⟩
  · exact h.elim

/-- how a round ends: it goes on, or returns -/
def goesOr {α : Type} (B : Nat) (Kp : World → World → Prop) (I Ix : List α → World → Prop) (s : List α) (W : World) : Exit → Act → World → Prop
  | .normal, _, W' => KeepsFrom B W W' ∧ Kp W W' ∧ I s W'
  | .ret, _, W' => KeepsFrom B W W' ∧ Ix s W'
  | _, _, _ => False

theorem wpIn_seqBoth {P : Program} {α : Type} {n : Nat} {w : World} {g : Operand} {ps : Array Tmp} {assign body : Code} {Q : Exit → Act → World → Prop} {a : Act} (h1 : 1 ≤ n)
    {gf : Nat} {lb : Array Value} (hg : a.eval g = .func (.func gf) #[] lb) (eg : ∀ args w, (callFunc gf args).run P w = .ok (.enter gf args) w)
    {encs : α → Array Value} {Kp : World → World → Prop} {xs : List α} {w0 : World} (hseq : SeqBoth (n - 1) P gf lb encs Kp xs w0)
    (hKt : ∀ {A B C : World}, Kp A B → Kp B C → Kp A C) (hKb : ∀ (W : World) (l : Nat) (o o' : Obj), w.heap.size ≤ l → W.heap[l]? = some o → o.isCells = false → o.isWalk = false → (∀ es k, o ≠ Obj.map es k) → Kp W (W.putObj l o')) (hb0 : Below w0.heap.size w0 w) (hps : ∀ x, (encs x).size = ps.size)
    (I Ix : List α → World → Prop) (hI : ∀ s A B, Below w.heap.size A B → I s A → I s B) (hIx : ∀ s A B, Below w.heap.size A B → Ix s A → Ix s B) (h0 : I [] w) (Ax : α → Act → World → Prop) (hAx : ∀ x a' (A : World) l o', w.heap.size ≤ l → (∃ o, A.heap[l]? = some o ∧ o.isCells = false) → Ax x a' A → Ax x a' (A.putObj l o'))
    (hassign : ∀ (l : Nat) (pre : List α) (x : α) (W : World) (K : Act → World → Prop), I pre W → (∀ a' W', KeepsFrom w.heap.size W W' → Kp W W' → I pre W' → Ax x a' W' → K a' W') →
      assign.wpIn (Fence.wide.inRound l) (n - 1 - 1) P (Exit.then K (fun _ _ _ => False)) { tmps := (ps.zip (encs x)).foldl (fun t (p, v) => t.setIfInBounds p v) a.tmps, defers := [] } W)
    (hbody : ∀ (l : Nat) (pre : List α) (x : α) (a' : Act) (W : World), I pre W → Ax x a' W → pre ++ [x] <+: xs → body.wpIn (Fence.wide.inRound l) (n - 1 - 1) P (goesOr w.heap.size Kp I Ix (pre ++ [x]) W) a' W)
    (hdone : ∀ (D : Nat) (W : World), w.heap.size ≤ D → I xs W → W.heap[D]? = some (.deferred (some [])) → Q .normal { a with defers := { target := .collected D, args := #[] } :: a.defers } W)
    (hstop : ∀ (D : Nat) (pre : List α) (W : World), w.heap.size ≤ D → pre <+: xs → Ix pre W → W.heap[D]? = some (.deferred (some [])) → Code.ret.wpIn Fence.wide n P Q { a with defers := { target := .collected D, args := #[] } :: a.defers } W) :
    (Code.rangeFunc g ps assign body).wpIn Fence.wide n P Q a w := by
  refine wpIn_rangeFunc fun fn hfn => ?_
  let rec_ : LoopState → Option Code → Loop := fun st pe => { state := st, pending := pe, fn, tmps := a.tmps, params := ps, assign, body, defers := w.heap.size }
  have hrec : rec_ = fun st pe => { state := st, pending := pe, fn, tmps := a.tmps, params := ps, assign, body, defers := w.heap.size } := rfl
  clear_value rec_
  obtain ⟨W1, hW1⟩ : ∃ W1, (w.alloc (.deferred (some []))).alloc (.loop (rec_ .ready none)) = W1 := ⟨_, rfl⟩
  have z1 : W1.heap.size = w.heap.size + 1 + 1 := by rw [← hW1]; simp
  have hB1 : Below w.heap.size w W1 := by rw [← hW1]; exact ((Below.refl _ w).alloc (Nat.le_refl _) _).alloc (by simp) _
  have hL1 : W1.heap[w.heap.size + 1]? = some (.loop (rec_ .ready none)) := by
    have := World.alloc_heap_new (w.alloc (.deferred (some []))) (.loop (rec_ .ready none))
    rw [World.size_alloc, hW1] at this; exact this
  have hK1 : W1.heap[w.heap.size]? = some (.deferred (some [])) := by
    rw [← hW1]; exact (Below.heap_alloc _ _ _ (by simp)).trans (World.alloc_heap_new w _)
  -- what the law itself knows between two rounds, and behind a round that left
  let J : List α → World → Prop := fun pre W => I pre W ∧ W.heap[w.heap.size + 1]? = some (.loop (rec_ .ready none)) ∧ W.heap[w.heap.size]? = some (.deferred (some []))
  have hJ : ∀ s X Y, Below W1.heap.size X Y → J s X → J s Y := fun s X Y hx h =>
    ⟨hI s X Y (hx.mono (by omega)) h.1, (hx.block _ (by omega)).trans h.2.1, (hx.block _ (by omega)).trans h.2.2⟩
  let Jx : List α → World → Prop := fun pre W => Ix pre W ∧ W.heap[w.heap.size + 1]? = some (.loop (rec_ .done (some .ret))) ∧ W.heap[w.heap.size]? = some (.deferred (some []))
  have hJx : ∀ s X Y, Below W1.heap.size X Y → Jx s X → Jx s Y := fun s X Y hx h =>
    ⟨hIx s X Y (hx.mono (by omega)) h.1, (hx.block _ (by omega)).trans h.2.1, (hx.block _ (by omega)).trans h.2.2⟩
  refine ⟨w.heap.size + 1, [{ target := .collected w.heap.size, args := #[] }], W1, { target := .fn (.func gf) lb, args := #[.func (.yield (w.heap.size + 1)) #[] #[]] }, W1, gf,
    #[.func (.yield (w.heap.size + 1)) #[] #[]] ++ lb, W1, ?_, ?_, ?_, ?_, fun _ => h1, ?_⟩
  · rw [← hW1, hrec]; exact run_enterLoop_outer _ _ _ _ _
  · simp only [resolve, hg]; simp [go_sem]
  · exact fun f' hf' => trivial
  · simp [invoke, go_sem, eg]
  refine (hseq (w.heap.size + 1) J Jx W1 (hb0.trans (hB1.mono hb0.size)) hJ hJx ?round ⟨hI _ _ _ hB1 h0, hL1, hK1⟩).mono ?_
  case round =>
    rintro pre x W ⟨hi, hl, hk⟩ hpre
    have hy := run_yield (P := P) (args := encs x) hl (by rw [hrec]; exact hps x)
    rw [hrec] at hy
    refine ⟨fn, _, assign, body, hy, roundIn_of_wpIn hfn (hassign _ pre x W _ hi fun a' Wa hkf hkp hia hax => ?_)⟩
    clear hy
    have hla := hkf.same _ _ (by omega) hl rfl
    have hka := hkf.same _ _ (Nat.le_refl _) hk rfl
    have hlt : w.heap.size + 1 < Wa.heap.size := (Array.getElem?_eq_some_iff.1 hla).1
    refine ⟨_, run_beginRound hla (by rw [hrec]), ?_⟩
    obtain ⟨Wb, hWb⟩ : ∃ Wb, Wa.putObj (w.heap.size + 1) (.loop { rec_ .ready none with state := .busy }) = Wb := ⟨_, rfl⟩
    have hlb : Wb.heap[w.heap.size + 1]? = some (.loop { rec_ .ready none with state := .busy }) := by rw [← hWb]; exact World.putObj_heap_same hlt
    have hkb : Wb.heap[w.heap.size]? = some (.deferred (some [])) := by rw [← hWb]; exact (World.putObj_heap_other (by omega)).trans hka
    have hab : Kp Wa Wb := by rw [← hWb]; exact hKb _ _ _ _ (by omega) hla rfl rfl (fun _ _ e => by cases e)
    have hib : I pre Wb := by rw [← hWb]; exact hI _ _ _ (below_put (by omega)) hia
    have haxb : Ax x a' Wb := by rw [← hWb]; exact hAx _ _ _ _ _ (by omega) ⟨_, hla, rfl⟩ hax
    rw [hWb]
    refine wpIn_mono (hbody _ pre x a' Wb hib haxb hpre) ?_
    rintro e a3 W3 hp
    cases e with
    | normal =>
      obtain ⟨hk3, hkp3, hi3⟩ := hp
      have hl3 := hk3.same _ _ (by omega) hlb rfl
      have hd3 := hk3.same _ _ (Nat.le_refl _) hkb rfl
      have hr := run_endRound (P := P) none hl3
      refine ⟨_, _, hr, .inl ⟨rfl, ⟨hI _ _ _ (below_put (by omega)) hi3, ?_, (World.putObj_heap_other (by omega)).trans hd3⟩, hKt hkp (hKt hab (hKt hkp3 (hKb _ _ _ _ (by omega) hl3 rfl rfl (fun _ _ e => by cases e))))⟩⟩
      rw [World.putObj_heap_same (Array.getElem?_eq_some_iff.1 hl3).1, hrec]
      rfl
    | ret =>
      obtain ⟨hk3, hi3⟩ := hp
      have hl3 := hk3.same _ _ (by omega) hlb rfl
      have hd3 := hk3.same _ _ (Nat.le_refl _) hkb rfl
      have hr := run_endRound (P := P) (some .ret) hl3
      refine ⟨_, _, hr, .inr ⟨rfl, hIx _ _ _ (below_put (by omega)) hi3, ?_, (World.putObj_heap_other (by omega)).trans hd3⟩⟩
      rw [World.putObj_heap_same (Array.getElem?_eq_some_iff.1 hl3).1, hrec]
      rfl
    | _ => exact hp.elim
  rintro e W2 ⟨⟨v, rfl⟩, ⟨hi, hl, hk⟩ | ⟨pre, hpre, hi, hl, hk⟩⟩
  · exact ⟨none, _, by have := run_endLoop (P := P) hl (by rw [hrec]; simp); rw [hrec] at this; exact this, hdone _ _ (Nat.le_refl _) (hI _ _ _ (below_put (by omega)) hi) ((World.putObj_heap_other (by omega)).trans hk)⟩
  · exact ⟨some .ret, _, by have := run_endLoop (P := P) hl (by rw [hrec]; simp); rw [hrec] at this; exact this, hstop _ _ _ (Nat.le_refl _) hpre (hIx _ _ _ (below_put (by omega)) hi) ((World.putObj_heap_other (by omega)).trans hk)⟩
/-- .. where no round returns -/
theorem wpIn_seqOnly {P : Program} {α : Type} {n : Nat} {w : World} {g : Operand} {ps : Array Tmp} {assign body : Code} {Q : Exit → Act → World → Prop} {a : Act} (h1 : 1 ≤ n)
    {gf : Nat} {lb : Array Value} (hg : a.eval g = .func (.func gf) #[] lb) (eg : ∀ args w, (callFunc gf args).run P w = .ok (.enter gf args) w)
    {encs : α → Array Value} {Kp : World → World → Prop} {xs : List α} {w0 : World} (hseq : SeqBoth (n - 1) P gf lb encs Kp xs w0)
    (hKt : ∀ {A B C : World}, Kp A B → Kp B C → Kp A C) (hKb : ∀ (W : World) (l : Nat) (o o' : Obj), w.heap.size ≤ l → W.heap[l]? = some o → o.isCells = false → o.isWalk = false → (∀ es k, o ≠ Obj.map es k) → Kp W (W.putObj l o')) (hb0 : Below w0.heap.size w0 w) (hps : ∀ x, (encs x).size = ps.size)
    (I : List α → World → Prop) (hI : ∀ s A B, Below w.heap.size A B → I s A → I s B) (h0 : I [] w) (Ax : α → Act → World → Prop) (hAx : ∀ x a' (A : World) l o', w.heap.size ≤ l → (∃ o, A.heap[l]? = some o ∧ o.isCells = false) → Ax x a' A → Ax x a' (A.putObj l o'))
    (hassign : ∀ (l : Nat) (pre : List α) (x : α) (W : World) (K : Act → World → Prop), I pre W → (∀ a' W', KeepsFrom w.heap.size W W' → Kp W W' → I pre W' → Ax x a' W' → K a' W') →
      assign.wpIn (Fence.wide.inRound l) (n - 1 - 1) P (Exit.then K (fun _ _ _ => False)) { tmps := (ps.zip (encs x)).foldl (fun t (p, v) => t.setIfInBounds p v) a.tmps, defers := [] } W)
    (hbody : ∀ (l : Nat) (pre : List α) (x : α) (a' : Act) (W : World), I pre W → Ax x a' W → pre ++ [x] <+: xs → body.wpIn (Fence.wide.inRound l) (n - 1 - 1) P (goesOn w.heap.size Kp I (pre ++ [x]) W) a' W)
    (hdone : ∀ (D : Nat) (W : World), w.heap.size ≤ D → I xs W → W.heap[D]? = some (.deferred (some [])) → Q .normal { a with defers := { target := .collected D, args := #[] } :: a.defers } W) :
    (Code.rangeFunc g ps assign body).wpIn Fence.wide n P Q a w := by
  refine wpIn_seqBoth h1 hg eg hseq hKt hKb hb0 hps I (fun _ _ => False) hI (fun _ _ _ _ h => h) h0 Ax hAx hassign ?_ hdone (fun _ _ _ _ _ h _ => h.elim)
  intro l pre x a' W hi hax hp
  refine wpIn_mono (hbody l pre x a' W hi hax hp) ?_
  rintro e a3 W3 hg
  cases e <;> first | exact hg | exact hg.elim
end Go.Proofs.Ytdadffmagfknoaa

namespace Go.Proofs.Ytdadffmagfknoaa
set_option linter.unusedSimpArgs false
set_option linter.unusedVariables false
open Go.RowKit
set_option linter.unusedVariables false
set_option maxRecDepth 100000

theorem LookAt.keptN {lo hi : Nat} {w w' : World} {v : Value} {h : House} (hh : LookAt w v h) (hx : KeptN lo hi w w') (hw : w.heap.size ≤ lo) : LookAt w' v h := by
  obtain ⟨ra, rc, aa, ac, ea, ec, B, M, e, h1, h2, h3, ⟨es, n, hb, h4⟩, h5⟩ := hh
  have hl := hx.lies hw
  exact ⟨ra, rc, aa, ac, ea, ec, B, M, e, h1.lies hl, h2.lies hl, h3.lies hl, ⟨es, n, hx.n B _ (by have := (Array.getElem?_eq_some_iff.1 hb).1; omega) hb rfl, h4⟩, h5⟩
theorem IntsAt.lies {w w' : World} {v : Value} {l : List Int} (h : IntsAt w v l) (hx : Lies w w') : IntsAt w' v l :=
  SliceAt.lies (fun _ _ _ _ _ hx h => ⟨hx _ _ h.1, h.2⟩) h hx
/-- the function that calls itself -/
def giveF (kb yb eb gb : Nat) : Value := .func (.func 103) #[] #[.pointer (some ⟨kb, 0, none⟩), .pointer (some ⟨yb, 0, none⟩), .pointer (some ⟨eb, 0, none⟩), .pointer (some ⟨gb, 0, none⟩)]
/-- the captured variables, as they lie in memory -/
structure CapT (W : World) (l kb yb eb gb : Nat) (hc : List Value) (ev : Nat → Value) : Prop where
  house : BoxIs W kb hc
  ents : ∀ d, d < 3 → W.cell? ⟨eb, d, none⟩ = some (ev d)
  yield : W.cell? ⟨yb, 0, none⟩ = some (.func (.yield l) #[] #[])
  give : W.cell? ⟨gb, 0, none⟩ = some (giveF kb yb eb gb)
theorem CapT.keptN {lo hi : Nat} {W W' : World} {l kb yb eb gb : Nat} {hc : List Value} {ev : Nat → Value} (h : CapT W l kb yb eb gb hc ev) (hx : KeptN lo hi W W') (hk : kb < lo ∨ hi ≤ kb) (he : eb < lo ∨ hi ≤ eb) (hy : hi ≤ yb) (hg : hi ≤ gb) : CapT W' l kb yb eb gb hc ev :=
  ⟨hx.box hk h.house, fun d hd => hx.cell he (h.ents d hd), hx.cell (.inr hy) h.yield, hx.cell (.inr hg) h.give⟩
def GivePostR (lo hi : Nat) (J Jx : List (List Int) → World → Prop) (all : List (List Int)) (pre : List (List Int)) (W : World) (e : Ending) (W' : World) : Prop :=
  (e = .returned (.bool true) ∧ J pre W' ∧ KeptN lo hi W W') ∨ (e = .returned (.bool false) ∧ ∃ p, p <+: all ∧ Jx p W')
def GoodR (r : List Int) : Prop := ∀ j, 0 ≤ r.getD j 0 ∧ r.getD j 0 ≤ 20
set_option maxHeartbeats 2000000 in
theorem give_end (m l kb yb eb gb lo hi B0 : Nat) (hc : List Value) (ev : Nat → Value) (h : House) (all : List (List Int)) (J Jx : List (List Int) → World → Prop) (hJ : ∀ s A B, Below B0 A B → J s A → J s B) (hk0 : ∀ v rest, hc = v :: rest → v = .int .i64 h.days) (hcne : hc ≠ [])
    (hY : ∀ pre x W1, J pre W1 → pre ++ [x] <+: all → YieldAt Fence.wide m Try.prog l #[rateV x] W1 fun e W' => (e = .returned (.bool true) ∧ J (pre ++ [x]) W' ∧ KeptN lo hi W1 W') ∨ (e = .returned (.bool false) ∧ Jx (pre ++ [x]) W'))
    (d : Nat) (hd : (d : Int) = h.days) (r : List Int) (pre : List (List Int)) (W : World) (hB : B0 ≤ W.heap.size) (hC : CapT W l kb yb eb gb hc ev) (hp : J pre W) (hall : pre ++ [r] <+: all) :
    Calls Try.prog 103 #[.int .i64 d, rateV r, .pointer (some ⟨kb, 0, none⟩), .pointer (some ⟨yb, 0, none⟩), .pointer (some ⟨eb, 0, none⟩), .pointer (some ⟨gb, 0, none⟩)] W (GivePostR lo hi J Jx all (pre ++ [r]) W) := by
  obtain ⟨c0, rest, rfl⟩ : ∃ c0 rest, hc = c0 :: rest := by cases hc with
    | nil => exact absurd rfl hcne
    | cons a b => exact ⟨a, b, rfl⟩
  obtain rfl := hk0 _ _ rfl
  have cd := hC.house 0 _ rfl
  have cy := hC.yield
  have z1 := cell_lt cd
  have z2 := cell_lt cy
  obtain ⟨r0, hr0⟩ : ∃ r0, r.getD 0 0 = r0 := ⟨_, rfl⟩
  obtain ⟨r1, hr1⟩ : ∃ r1, r.getD 1 0 = r1 := ⟨_, rfl⟩
  obtain ⟨r2, hr2⟩ : ∃ r2, r.getD 2 0 = r2 := ⟨_, rfl⟩
  have hrv : rateV r = .agg #[.int .i64 r0, .int .i64 r1, .int .i64 r2] := by unfold rateV; rw [hr0, hr1, hr2]
  obtain ⟨fn, tmps, assign, body, hy, hR⟩ := hY pre r (W.alloc (.cells #[.int .i64 r0, .int .i64 r1, .int .i64 r2] 94)) (hJ _ _ _ ((ext_alloc _ _).below.mono hB) hp) hall
  rw [hrv] at hy ⊢
  rw [hd]
  clear hr0 hr1 hr2
  go_enter Try.func103, Try.ntmps103
  go_wp2_with fail
  go_step3
  refine (wpIn_wide (n := m + 1)).1 ?_
  gi_wp2
  refine hR.mono ?_
  rintro e W3 (⟨rfl, hJ3, hk3⟩ | ⟨rfl, hJx3⟩)
  · gi_wp2
    go_ret
    exact .inl ⟨rfl, hJ3, ((ext_alloc _ _).keptN _ _).trans hk3⟩
  · gi_wp2
    go_ret
    exact .inr ⟨rfl, _, hall, hJx3⟩
end Go.Proofs.Ytdadffmagfknoaa

namespace Go.Proofs.Ytdadffmagfknoaa
set_option linter.unusedSimpArgs false
set_option linter.unusedVariables false
open Go.RowKit
set_option linter.unusedVariables false
set_option maxRecDepth 100000

theorem okDay_all {h : House} {out : Nat → Bool} {d : Nat} {q : List Int} (hh : ∀ t (ht : t < (entsOf h out d).length), agreesM h (entAt h (entsOf h out d)[t]) q = true) : okDay h out d q = true := by
  unfold okDay
  rw [List.all_eq_true]
  intro i hi
  obtain ⟨t, ht, rfl⟩ := List.getElem_of_mem hi
  exact hh t ht
theorem okDay_no {h : House} {out : Nat → Bool} {d : Nat} {q : List Int} {t : Nat} (ht : t < (entsOf h out d).length) (hn : agreesM h (entAt h (entsOf h out d)[t]) q = false) : okDay h out d q = false := by
  unfold okDay
  rw [List.all_eq_false]
  exact ⟨_, List.getElem_mem ht, by rw [hn]; decide⟩
theorem entsOf_day {h : House} {out : Nat → Bool} {d x : Nat} (hx : x ∈ entsOf h out d) : (entAt h x).day = (d : Nat) := by
  unfold entsOf at hx
  rw [List.mem_filter] at hx
  have := hx.2
  simp only [Bool.and_eq_true, decide_eq_true_eq] at this
  exact this.2
theorem getD_snoc_lt (r : List Int) (x : Int) (j : Nat) (hj : j < r.length) : (r ++ [x]).getD j 0 = r.getD j 0 := by
  simp only [List.getD_eq_getElem?_getD]
  rw [List.getElem?_append_left hj]
theorem getD_snoc_eq (r : List Int) (x : Int) : (r ++ [x]).getD r.length 0 = x := by
  simp [List.getD_eq_getElem?_getD]
theorem getD_snoc_gt (r : List Int) (x : Int) (j : Nat) (hj : r.length < j) : (r ++ [x]).getD j 0 = 0 := by
  simp only [List.getD_eq_getElem?_getD]
  rw [List.getElem?_eq_none (by simp; omega)]; rfl
theorem GoodR.snoc {r : List Int} (h : GoodR r) {x : Int} (hx : 0 ≤ x ∧ x ≤ 20) : GoodR (r ++ [x]) := by
  intro j
  rcases Nat.lt_trichotomy j r.length with hj | hj | hj
  · rw [getD_snoc_lt r x j hj]; exact h j
  · subst hj; rw [getD_snoc_eq]; exact hx
  · rw [getD_snoc_gt r x j hj]; omega
/-- the rates so far, in their box: a place of one day is written -/
def RBox (w : World) (B : Nat) (a : Nat → Int) : Prop := BoxIs w B [.int .i64 (a 0), .int .i64 (a 1), .int .i64 (a 2)]
theorem RBox.set {w : World} {B d : Nat} {a : Nat → Int} (h : RBox w B a) (hd : d < 3) {r : List Int} (hr : r.length = d) (h1 : ∀ j, j < d → a j = r.getD j 0) (h2 : ∀ j, d < j → a j = 0) (x : Int) : RBox (w.setCell ⟨B, d, none⟩ (.int .i64 x)) B (fun j => (r ++ [x]).getD j 0) := by
  have hs := BoxIs.set h d (by simpa using hd) (.int .i64 x)
  have e : ([Value.int .i64 (a 0), .int .i64 (a 1), .int .i64 (a 2)].set d (.int .i64 x)) = [Value.int .i64 ((r ++ [x]).getD 0 0), .int .i64 ((r ++ [x]).getD 1 0), .int .i64 ((r ++ [x]).getD 2 0)] := by
    subst hr
    have hd3 : r.length = 0 ∨ r.length = 1 ∨ r.length = 2 := by omega
    rcases hd3 with h0 | h0 | h0
    · have e0 : (r ++ [x]).getD 0 0 = x := by have := getD_snoc_eq r x; rwa [h0] at this
      rw [e0, getD_snoc_gt r x 1 (by omega), getD_snoc_gt r x 2 (by omega), h2 1 (by omega), h2 2 (by omega), h0]; rfl
    · have e0 : (r ++ [x]).getD 1 0 = x := by have := getD_snoc_eq r x; rwa [h0] at this
      rw [e0, getD_snoc_lt r x 0 (by omega), getD_snoc_gt r x 2 (by omega), h1 0 (by omega), h2 2 (by omega), h0]; rfl
    · have e0 : (r ++ [x]).getD 2 0 = x := by have := getD_snoc_eq r x; rwa [h0] at this
      rw [e0, getD_snoc_lt r x 0 (by omega), getD_snoc_lt r x 1 (by omega), h1 0 (by omega), h1 1 (by omega), h0]; rfl
  unfold RBox
  rw [← e]; exact hs
theorem RBox.ext {w w' : World} {B : Nat} {a : Nat → Int} (h : RBox w B a) (hx : Ext w w') : RBox w' B a := BoxIs.ext h hx
theorem RBox.keptN {lo hi : Nat} {w w' : World} {B : Nat} {a : Nat → Int} (h : RBox w B a) (hx : KeptN lo hi w w') (hb : hi ≤ B) : RBox w' B a := hx.box (.inr hb) h
set_option maxHeartbeats 8000000 in
theorem give_step (m l kb yb eb gb lo hi B0 : Nat) (ra aa ea : Option Addr) (rc ac ec Bm : Nat) (ev : Nat → Value) (h : House) (hV : ValidH h) (s : Nat) (Wd : World) (hlh : lo ≤ hi) (hhB : hi ≤ B0)
    (hLk : ∀ w', KeptN lo hi Wd w' → LookAt w' (houseV h ra aa ea rc ac ec (.map (some Bm))) h) (hE : ∀ w', KeptN lo hi Wd w' → ∀ d, d < 3 → IntsAt w' (ev d) (ints (entsOf h (outB s) d))) (all : List (List Int)) (J Jx : List (List Int) → World → Prop) (hJ : ∀ s A B, Below B0 A B → J s A → J s B)
    (hk0 : kb < lo ∨ hi ≤ kb) (he0 : eb < lo ∨ hi ≤ eb) (hy0 : hi ≤ yb) (hg0 : hi ≤ gb)
    (d n : Nat) (hd : (d : Int) < h.days) (r : List Int) (hr : r.length = d) (hgr : GoodR r) (pre : List (List Int)) (W : World) (hB : B0 ≤ W.heap.size) (hK : KeptN lo hi Wd W) (hC : CapT W l kb yb eb gb [.int .i64 h.days, .slice ra h.rates.length rc, .int .i64 h.step, .slice aa h.agents.length ac, .slice ea h.entries.length ec, .map (some Bm)] ev) (hp : J pre W)
    (hall : pre ++ truTo h (outB s) (n + 1) d r <+: all)
    (hih : ∀ (x : Int) (pre : List (List Int)) (w : World), 0 ≤ x ∧ x ≤ 20 → B0 ≤ w.heap.size → KeptN lo hi Wd w → CapT w l kb yb eb gb [.int .i64 h.days, .slice ra h.rates.length rc, .int .i64 h.step, .slice aa h.agents.length ac, .slice ea h.entries.length ec, .map (some Bm)] ev → J pre w → pre ++ truTo h (outB s) n (d + 1) (r ++ [x]) <+: all →
      Calls Try.prog 103 #[.int .i64 ((d : Int) + 1), rateV (r ++ [x]), .pointer (some ⟨kb, 0, none⟩), .pointer (some ⟨yb, 0, none⟩), .pointer (some ⟨eb, 0, none⟩), .pointer (some ⟨gb, 0, none⟩)] w (GivePostR lo hi J Jx all (pre ++ truTo h (outB s) n (d + 1) (r ++ [x])) w)) :
    Calls Try.prog 103 #[.int .i64 d, rateV r, .pointer (some ⟨kb, 0, none⟩), .pointer (some ⟨yb, 0, none⟩), .pointer (some ⟨eb, 0, none⟩), .pointer (some ⟨gb, 0, none⟩)] W (GivePostR lo hi J Jx all (pre ++ truTo h (outB s) (n + 1) d r) W) := by
  have hdy := hV.days
  have hd3 : d < 3 := by omega
  have hdr : d < h.rates.length := by have := hV.many; omega
  have hro := fun w hw => ratesOf_any (houseV h ra aa ea rc ac ec (.map (some Bm))) h hV d hdr r hgr w hw
  have hlo := loAt_ge (h := h) d r
  have hhi := hiAt_le (h := h) d r
  have hsp := hV.span hdr
  have hag := fun i hi q hq w hw => agrees_any (houseV h ra aa ea rc ac ec (.map (some Bm))) h hV i hi q hq w hw
  unfold houseV at hro hag
  obtain ⟨r0, hr0⟩ : ∃ r0, r.getD 0 0 = r0 := ⟨_, rfl⟩
  obtain ⟨r1, hr1⟩ : ∃ r1, r.getD 1 0 = r1 := ⟨_, rfl⟩
  obtain ⟨r2, hr2⟩ : ∃ r2, r.getD 2 0 = r2 := ⟨_, rfl⟩
  have hrv : rateV r = .agg #[.int .i64 r0, .int .i64 r1, .int .i64 r2] := by unfold rateV; rw [hr0, hr1, hr2]
  obtain ⟨W1, hW1⟩ : ∃ W1, W1 = W.alloc (.cells #[.int .i64 r0, .int .i64 r1, .int .i64 r2] 94) := ⟨_, rfl⟩
  have x1 : Ext W W1 := by rw [hW1]; exact ext_alloc _ _
  have hbox : RBox W1 W.heap.size (fun j => r.getD j 0) := by
    intro j v hj
    rw [hW1]
    match j, hj with
    | 0, hj => simp only [List.getElem?_cons_zero, Option.some.injEq] at hj; subst hj; simp only [hr0]; simp [go_sem]
    | 1, hj => simp only [List.getElem?_cons_succ, List.getElem?_cons_zero, Option.some.injEq] at hj; subst hj; simp only [hr1]; simp [go_sem]
    | 2, hj => simp only [List.getElem?_cons_succ, List.getElem?_cons_zero, Option.some.injEq] at hj; subst hj; simp only [hr2]; simp [go_sem]
  have hfr : W1.frozen? ⟨W.heap.size, d, none⟩ = false := by rw [hW1]; simp [go_sem]
  have hC0 := hC
  have d0 := hC.house 0 _ rfl
  have d1 := hC.house 1 _ rfl
  have d2 := hC.house 2 _ rfl
  have d3 := hC.house 3 _ rfl
  have d4 := hC.house 4 _ rfl
  have d5 := hC.house 5 _ rfl
  have z1 := cell_lt d0
  have k2 : ((d : Int) == h.days) = false := by simp; omega
  have HW := Lib.hid hW1
  have Hrv := Lib.hid hrv
  rw [hrv] at hro ⊢
  clear hr0 hr1 hr2 hW1 hrv
  go_enter Try.func103, Try.ntmps103
  go_wp2_with fail
  go_step3
  go_wp2_with fail
  rw [← HW.out]
  refine (hro W1 ((hLk _ hK).ext x1)).mono ?_
  rintro e w1 ⟨rfl, hx1⟩
  have xk : Ext W w1 := x1.trans hx1
  replace hbox : RBox w1 W.heap.size (fun j => r.getD j 0) := BoxIs.ext hbox hx1
  have zR : W.heap.size < w1.heap.size := BoxIs.lt hbox
  replace hfr : w1.frozen? ⟨W.heap.size, d, none⟩ = false := by rw [hx1.frozen (by have := x1.size; have := cell_lt (show W1.cell? ⟨W.heap.size, 0, none⟩ = _ from by rw [HW.out]; simp [go_sem]; rfl); exact this)]; exact hfr
  have hp1 := hJ pre W w1 (xk.below.mono hB) hp
  have hpart := truPart_all h (outB s) n d r
  have hpre := truPart_prefix h (outB s) n d r
  have hyes := truPart_yes h (outB s) n d r
  have hno := truPart_no h (outB s) n d r
  have hzero := truPart_zero h (outB s) n d r
  have hKe := xk.keptN lo hi
  obtain ⟨xa, xc, hev, -⟩ := (hE _ hK d hd3).shape
  have hents := fun w' hw => hE w' hw d hd3
  rw [hev] at hents
  generalize hl1 : loAt h d r = L at *
  generalize hh1 : hiAt h d r = H at *
  unfold spanV
  obtain ⟨SB, hSB⟩ : ∃ SB, w1.heap.size = SB := ⟨_, rfl⟩
  obtain ⟨W2, hW2⟩ : ∃ W2, W2 = w1.alloc (.cells #[.int .i64 L, .int .i64 H] 35) := ⟨_, rfl⟩
  have x2 : Ext w1 W2 := by rw [hW2]; exact ext_alloc _ _
  have hsb : BoxIs W2 SB [.int .i64 L, .int .i64 H] := by
    intro j v hj
    rw [hW2]
    match j, hj with
    | 0, hj => simp at hj; subst hj; rw [← hSB]; simp [go_sem]
    | 1, hj => simp at hj; subst hj; rw [← hSB]; simp [go_sem]
  have hSBW : W.heap.size < SB := by omega
  have HW2 := Lib.hid hW2
  have HSB := Lib.hid hSB
  have s0 := hsb 0 _ rfl
  have s1 := hsb 1 _ rfl
  clear hro x1 hx1 hW2 hSB d0 d1 d2 d3 d4 d5
  go_wp2
  go_step3
  rw [← HW2.out, HSB.out]
  go_wp2
  go_loopw [10] (fun i wr => ∃ (k : Nat) (a : Nat → Int), k ≤ numI L H ∧ i = .int .i64 (L + k) ∧ KeptN lo hi W wr ∧ RBox wr W.heap.size a ∧ (∀ j, j < d → a j = r.getD j 0) ∧ (∀ j, d < j → a j = 0) ∧ wr.frozen? ⟨W.heap.size, d, none⟩ = false ∧ BoxIs wr SB [.int .i64 L, .int .i64 H] ∧ J (pre ++ truPart h (outB s) n d r k) wr) (fun i _ => (H + 1 - intOf i).toNat)
  case atStart => exact ⟨0, _, Nat.zero_le _, by simp, hKe.trans (x2.keptN lo hi), hbox.ext x2, fun j hj => rfl, fun j hj => by
    show r.getD j 0 = 0
    rw [List.getD_eq_getElem?_getD, List.getElem?_eq_none (by omega)]; rfl, (x2.frozen (p := ⟨W.heap.size, d, none⟩) zR).trans hfr, hsb, by rw [hzero, List.append_nil]; exact hJ pre w1 W2 (x2.below.mono (by have := xk.size; omega)) hp1⟩
  case round =>
    clear hbox hfr hp1 hsb s0 s1 x2
    obtain ⟨k, a, hk, rfl, hKr, hbx, ha1, ha2, hfr, hsb, hj⟩ := hrel
    obtain ⟨wo, hwo⟩ : ∃ wo : World, wo = wr := ⟨_, rfl⟩
    subst hwo
    have s0 := hsb 0 _ rfl
    have s1 := hsb 1 _ rfl
    have hCr := hC0.keptN hKr hk0 he0 hy0 hg0
    have hWr := hKr.size
    obtain ⟨x, hx⟩ : ∃ x, L + (k : Int) = x := ⟨_, rfl⟩
    have hyk := hyes k
    have hnk := hno k
    rw [hx] at hyk hnk ⊢
    clear hyes hno
    have Hx := Lib.hid hx
    clear hx
    by_cases hle : x ≤ H
    · have hkl : k < numI L H := by have := Hx.out; unfold numI; omega
      have hx20 : 0 ≤ x ∧ x ≤ 20 := by have := Hx.out; omega
      have wx : IntKind.i64.wrap (x + 1) = x + 1 := IntWalk.i64_in _ (by omega)
      have kd3 : (d : Int) < 3 := by omega
      obtain ⟨u0, hu0⟩ : ∃ u, wo.cell? ⟨W.heap.size, d, none⟩ = some u := ⟨_, hbx d _ (List.getElem?_eq_getElem (by simpa using hd3))⟩
      obtain ⟨w3, hw3⟩ : ∃ w3, wo.setCell ⟨W.heap.size, d, none⟩ (.int .i64 x) = w3 := ⟨_, rfl⟩
      have hb3 : RBox w3 W.heap.size (fun j => (r ++ [x]).getD j 0) := by rw [← hw3]; exact hbx.set hd3 hr ha1 ha2 x
      have hK3 : KeptN lo hi W w3 := by rw [← hw3]; exact hKr.setNew (Nat.le_refl _) (by simp; omega) _
      have hj3 : J (pre ++ truPart h (outB s) n d r k) w3 := by rw [← hw3]; exact hJ _ _ _ ((Below.refl _ _).setCell hB _) hj
      have hsb3 : BoxIs w3 SB [.int .i64 L, .int .i64 H] := by rw [← hw3]; exact hsb.other (by simp; omega) _
      have hfr3 : w3.frozen? ⟨W.heap.size, d, none⟩ = false := by rw [← hw3]; simpa [go_sem] using hfr
      have hC3 := hC0.keptN hK3 hk0 he0 hy0 hg0
      have hents3 := hC3.ents d hd3
      rw [hev] at hents3
      have hes : (wo.setCell ⟨W.heap.size, d, none⟩ (.int .i64 x)).cell? ⟨eb, d, none⟩ = some (.slice xa (ints (entsOf h (outB s) d)).length xc) := by rw [hw3]; exact hents3
      have hz3 : W.heap.size ≤ w3.heap.size := hK3.size
      have ze : eb < wo.heap.size := by have := cell_lt (hCr.ents d hd3); exact this
      obtain ⟨ln, hln⟩ : ∃ ln, (ints (entsOf h (outB s) d)).length = ln := ⟨_, rfl⟩
      rw [hln] at hes hents3 hents
      have Hln := Lib.hid hln
      have HW3 := Lib.hid hw3
      have HB3 := Lib.hid hb3
      have HJ3 := Lib.hid hj3
      have HYK := Lib.hid hyk
      have HNK := Lib.hid hnk
      have HE := Lib.hid hents
      clear hb3 hj3 hyk hnk hln hents3 hpart hpre hzero hbx ha1 ha2 hj hw3 hents
      go_wp2
      rw [HW3.out]
      obtain ⟨q0, hq0⟩ : ∃ q0, (r ++ [x]).getD 0 0 = q0 := ⟨_, rfl⟩
      obtain ⟨q1, hq1⟩ : ∃ q1, (r ++ [x]).getD 1 0 = q1 := ⟨_, rfl⟩
      obtain ⟨q2, hq2⟩ : ∃ q2, (r ++ [x]).getD 2 0 = q2 := ⟨_, rfl⟩
      have hqv : rateV (r ++ [x]) = .agg #[.int .i64 q0, .int .i64 q1, .int .i64 q2] := by unfold rateV; rw [hq0, hq1, hq2]
      have b0 : w3.cell? ⟨W.heap.size, 0, none⟩ = some (.int .i64 q0) := by rw [← hq0]; exact HB3.out 0 _ rfl
      have b1 : w3.cell? ⟨W.heap.size, 1, none⟩ = some (.int .i64 q1) := by rw [← hq1]; exact HB3.out 1 _ rfl
      have b2 : w3.cell? ⟨W.heap.size, 2, none⟩ = some (.int .i64 q2) := by rw [← hq2]; exact HB3.out 2 _ rfl
      have hl3 := hLk _ (hK.trans hK3)
      have hag3 := fun i (hi : i ∈ entsOf h (outB s) d) w hw => hag i (entsOf_lt hi) (r ++ [x]) (by
        unfold RateIn
        rw [entsOf_day hi, Int.toNat_natCast]
        have e : (r ++ [x]).getD d 0 = x := by rw [← hr]; exact getD_snoc_eq r x
        rw [e]
        have := Hx.out
        omega) w hw
      have hih3 := hih x
      rw [hqv] at hih3 hag3
      clear hq0 hq1 hq2 hqv hag hih
      have d0 := hC3.house 0 _ rfl
      have d1 := hC3.house 1 _ rfl
      have d2 := hC3.house 2 _ rfl
      have d3 := hC3.house 3 _ rfl
      have d4 := hC3.house 4 _ rfl
      have d5 := hC3.house 5 _ rfl
      go_loopw [40] (fun jv wj => ∃ t : Nat, t ≤ ln ∧ jv = .int .i64 t ∧ Ext w3 wj ∧ ∀ i (hi : i < (entsOf h (outB s) d).length), i < t → agreesM h (entAt h (entsOf h (outB s) d)[i]) (r ++ [x]) = true) (fun jv _ => ln - (intOf jv).toNat)
      case atStart => exact ⟨0, Nat.zero_le _, rfl, Ext.refl _, fun i _ hi => by omega⟩
      case round =>
        obtain ⟨t, ht, rfl, hxj, hok⟩ := hrel
        have Hok := Lib.hid hok
        clear hok
        have hlen : (entsOf h (outB s) d).length = ln := by rw [← Hln.out]; simp [ints]
        have hl5 : (entsOf h (outB s) d).length ≤ 5 := Nat.le_trans (entsTo_le h (outB s) d h.entries.length) hV.entries
        have wt : IntKind.i64.wrap ((t : Int) + 1) = (t : Int) + 1 := IntWalk.i64_in _ (by omega)
        by_cases htl : t < ln
        · have htl' : t < (entsOf h (outB s) d).length := by omega
          have hK4 := hK3.trans (hxj.keptN lo hi)
          obtain ⟨ib, io, rfl, c9, -⟩ := (HE.out _ (hK.trans hK4)).get (show t < (ints (entsOf h (outB s) d)).length by rw [Hln.out]; exact htl)
          have hix : (ints (entsOf h (outB s) d))[t]'(by rw [Hln.out]; exact htl) = (((entsOf h (outB s) d)[t] : Nat) : Int) := by simp [ints]
          rw [hix, Nat.mul_one] at c9
          have hmem : (entsOf h (outB s) d)[t] ∈ entsOf h (outB s) d := List.getElem_mem htl'
          have hagt := fun w hw => hag3 _ hmem w hw
          have hokt : agreesM h (entAt h (entsOf h (outB s) d)[t]) (r ++ [x]) = false → okDay h (outB s) d (r ++ [x]) = false := fun hn => okDay_no htl' hn
          have hokn := Hok.out
          have hnext : agreesM h (entAt h (entsOf h (outB s) d)[t]) (r ++ [x]) = true → ∀ i (hi : i < (entsOf h (outB s) d).length), i < t + 1 → agreesM h (entAt h (entsOf h (outB s) d)[i]) (r ++ [x]) = true := fun hy i hi h1 => by
            by_cases e : i = t
            · subst e; exact hy
            · exact hokn i hi (by omega)
          have Hnext := Lib.hid hnext
          have Hokt := Lib.hid hokt
          have kt : (t : Int) < (ln : Int) := by omega
          generalize hag9 : agreesM h (entAt h (entsOf h (outB s) d)[t]) (r ++ [x]) = ag at *
          generalize (entsOf h (outB s) d)[t] = at_ at *
          clear hix hmem hokt hnext hokn hag9
          replace d0 := hxj.cell d0
          replace d1 := hxj.cell d1
          replace d2 := hxj.cell d2
          replace d3 := hxj.cell d3
          replace d4 := hxj.cell d4
          replace d5 := hxj.cell d5
          replace b0 := hxj.cell b0
          replace b1 := hxj.cell b1
          replace b2 := hxj.cell b2
          go_wp2_with fail
          refine (hagt _ (hl3.ext hxj)).mono ?_
          rintro e w9 ⟨rfl, hx9⟩
          have xj9 := hxj.trans hx9
          cases ag
          · have hn := Hokt.out rfl
            have hstp := HNK.out hkl hn
            have Hstp := Lib.hid hstp
            clear hn hstp
            go_wp2
            go_roundw
            case rel => exact ⟨k + 1, fun j => (r ++ [x]).getD j 0, by omega, by rw [show L + ((k + 1 : Nat) : Int) = x + 1 from by have := Hx.out; omega], hK3.trans (xj9.keptN lo hi), HB3.out.ext xj9, fun j hj => getD_snoc_lt r x j (by omega), fun j hj => getD_snoc_gt r x j (by omega), (xj9.frozen (p := ⟨W.heap.size, d, none⟩) (BoxIs.lt HB3.out)).trans hfr3, hsb3.ext xj9, by rw [Hstp.out]; exact hJ _ _ _ (xj9.below.mono (by omega)) HJ3.out⟩
            case measure => have := Hx.out; simp [intOf]; omega
          · have hn := Hnext.out rfl
            go_wp2
            go_roundw
            case rel => exact ⟨t + 1, by omega, by go_num, xj9, hn⟩
            case measure => simp [intOf]; omega
        · have hok2 : okDay h (outB s) d (r ++ [x]) = true := okDay_all fun i hi => Hok.out i hi (by omega)
          have hstp := HYK.out hkl hok2
          have hpx : pre ++ truPart h (outB s) n d r k ++ truTo h (outB s) n (d + 1) (r ++ [x]) <+: all := by
            rw [List.append_assoc, ← hstp]
            refine List.IsPrefix.trans ?_ hall
            exact List.prefix_append_right_inj _ |>.2 (truPart_prefix h (outB s) n d r (k + 1))
          have hKj := hK3.trans (hxj.keptN lo hi)
          have hcl := hih3 (pre ++ truPart h (outB s) n d r k) wr hx20 (by have := hxj.size; omega) (hK.trans hKj) (hC0.keptN hKj hk0 he0 hy0 hg0) (hJ _ _ _ (hxj.below.mono (by omega)) HJ3.out) hpx
          rw [List.append_assoc, ← hstp] at hcl
          have cg : wr.cell? ⟨gb, 0, none⟩ = some (giveF kb yb eb gb) := (hC0.keptN hKj hk0 he0 hy0 hg0).give
          unfold giveF at cg
          have wd : IntKind.i64.wrap ((d : Int) + 1) = (d : Int) + 1 := IntWalk.i64_in _ (by omega)
          replace b0 := hxj.cell b0
          replace b1 := hxj.cell b1
          replace b2 := hxj.cell b2
          have hb4 : RBox wr W.heap.size (fun j => (r ++ [x]).getD j 0) := HB3.out.ext hxj
          have hsb4 := hsb3.ext hxj
          have hfr4 : wr.frozen? ⟨W.heap.size, d, none⟩ = false := (hxj.frozen (p := ⟨W.heap.size, d, none⟩) (BoxIs.lt HB3.out)).trans hfr3
          have Hb4 := Lib.hid hb4
          have Hsb4 := Lib.hid hsb4
          have Hstp := Lib.hid hstp
          have HKj := Lib.hid hKj
          have hRBhi : hi ≤ W.heap.size := by omega
          clear hok2 hstp hpx hih3 hag3 hb4 hsb4 hKj d0 d1 d2 d3 d4 d5
          go_wp2_with fail
          refine hcl.mono ?_
          rintro e w9 (⟨rfl, hj9, hK9⟩ | ⟨rfl, hq9⟩)
          · have hKW := HKj.out.trans hK9
            have hb9 := Hb4.out.keptN hK9 hRBhi
            have hsb9 := hK9.box (.inr (by omega)) Hsb4.out
            have hfr9 : w9.frozen? ⟨W.heap.size, d, none⟩ = false := by
              obtain ⟨u1, hu1⟩ : ∃ u, wr.cell? ⟨W.heap.size, d, none⟩ = some u := ⟨_, Hb4.out d _ (List.getElem?_eq_getElem (by simpa using hd3))⟩
              rw [hK9.frozen (.inr hRBhi) hu1]; exact hfr4
            have HKW := Lib.hid hKW
            have Hb9 := Lib.hid hb9
            have Hsb9 := Lib.hid hsb9
            clear hKW hb9 hsb9
            go_wp2
            go_roundw
            case rel => exact ⟨k + 1, fun j => (r ++ [x]).getD j 0, by omega, by rw [show L + ((k + 1 : Nat) : Int) = x + 1 from by have := Hx.out; omega], HKW.out, Hb9.out, fun j hj => getD_snoc_lt r x j (by omega), fun j hj => getD_snoc_gt r x j (by omega), hfr9, Hsb9.out, hj9⟩
            case measure => have := Hx.out; simp [intOf]; omega
          · go_wp2
            go_ret
            exact .inr ⟨rfl, hq9⟩
    · have hke : k = numI L H := by have := Hx.out; unfold numI at hk ⊢; omega
      have hfin : truPart h (outB s) n d r k = truTo h (outB s) (n + 1) d r := by rw [hke]; exact hpart
      rw [hfin] at hj
      clear hyk hnk hpart hzero hpre
      go_wp2
      go_ret
      exact .inl ⟨rfl, hj, hKr⟩
end Go.Proofs.Ytdadffmagfknoaa

namespace Go.Proofs.Ytdadffmagfknoaa
set_option linter.unusedSimpArgs false
set_option linter.unusedVariables false
open Go.RowKit
set_option linter.unusedVariables false
set_option maxRecDepth 100000

theorem rgive_any (m l kb yb eb gb lo hi B0 : Nat) (ra aa ea : Option Addr) (rc ac ec Bm : Nat) (ev : Nat → Value) (h : House) (hV : ValidH h) (s : Nat) (Wd : World) (hlh : lo ≤ hi) (hhB : hi ≤ B0)
    (hLk : ∀ w', KeptN lo hi Wd w' → LookAt w' (houseV h ra aa ea rc ac ec (.map (some Bm))) h) (hE : ∀ w', KeptN lo hi Wd w' → ∀ d, d < 3 → IntsAt w' (ev d) (ints (entsOf h (outB s) d))) (all : List (List Int)) (J Jx : List (List Int) → World → Prop) (hJ : ∀ s A B, Below B0 A B → J s A → J s B)
    (hk0 : kb < lo ∨ hi ≤ kb) (he0 : eb < lo ∨ hi ≤ eb) (hy0 : hi ≤ yb) (hg0 : hi ≤ gb)
    (hY : ∀ pre x W1, J pre W1 → pre ++ [x] <+: all → YieldAt Fence.wide m Try.prog l #[rateV x] W1 fun e W' => (e = .returned (.bool true) ∧ J (pre ++ [x]) W' ∧ KeptN lo hi W1 W') ∨ (e = .returned (.bool false) ∧ Jx (pre ++ [x]) W')) :
    ∀ (rem d : Nat) (r : List Int) (pre : List (List Int)) (W : World), ((d + rem : Nat) : Int) = h.days → r.length = d → GoodR r → B0 ≤ W.heap.size → KeptN lo hi Wd W → CapT W l kb yb eb gb [.int .i64 h.days, .slice ra h.rates.length rc, .int .i64 h.step, .slice aa h.agents.length ac, .slice ea h.entries.length ec, .map (some Bm)] ev → J pre W → pre ++ truTo h (outB s) rem d r <+: all →
      Calls Try.prog 103 #[.int .i64 d, rateV r, .pointer (some ⟨kb, 0, none⟩), .pointer (some ⟨yb, 0, none⟩), .pointer (some ⟨eb, 0, none⟩), .pointer (some ⟨gb, 0, none⟩)] W (GivePostR lo hi J Jx all (pre ++ truTo h (outB s) rem d r) W) := by
  intro rem
  induction rem with
  | zero =>
    intro d r pre W hd hr hg hB hK hC hp hall
    exact give_end m l kb yb eb gb lo hi B0 _ ev h all J Jx hJ (fun v rest e => (List.cons.inj e).1.symm) (by simp) hY d (by simpa using hd) r pre W hB hC hp hall
  | succ rem ih =>
    intro d r pre W hd hr hg hB hK hC hp hall
    refine give_step m l kb yb eb gb lo hi B0 ra aa ea rc ac ec Bm ev h hV s Wd hlh hhB hLk hE all J Jx hJ hk0 he0 hy0 hg0 d rem (by omega) r hr hg pre W hB hK hC hp hall ?_
    intro x pre w hx hB' hK' hC' hp' hall'
    exact ih (d + 1) (r ++ [x]) pre w (by rw [← hd]; congr 1; omega) (by simp [hr]) (hg.snoc hx) hB' hK' hC' hp' hall'
set_option maxHeartbeats 2000000 in
theorem truths_seq (n lo hi kb eb : Nat) (ra aa ea : Option Addr) (rc ac ec Bm : Nat) (ev : Nat → Value) (h : House) (hV : ValidH h) (s : Nat) (Wd w : World) (hlh : lo ≤ hi) (hhw : hi ≤ w.heap.size)
    (hLk : ∀ w', KeptN lo hi Wd w' → LookAt w' (houseV h ra aa ea rc ac ec (.map (some Bm))) h) (hE : ∀ w', KeptN lo hi Wd w' → ∀ d, d < 3 → IntsAt w' (ev d) (ints (entsOf h (outB s) d))) (hK : KeptN lo hi Wd w) (hk0 : kb < lo ∨ hi ≤ kb) (he0 : eb < lo ∨ hi ≤ eb) (hcb : BoxIs w kb [.int .i64 h.days, .slice ra h.rates.length rc, .int .i64 h.step, .slice aa h.agents.length ac, .slice ea h.entries.length ec, .map (some Bm)]) (hce : ∀ d, d < 3 → w.cell? ⟨eb, d, none⟩ = some (ev d)) :
    SeqBoth n Try.prog 102 #[.pointer (some ⟨kb, 0, none⟩), .pointer (some ⟨eb, 0, none⟩)] (fun r => #[rateV r]) (KeptN lo hi) (truL h (outB s)) w := by
  intro y J Jx W hW hJ hJx hY h0
  have hxW : Ext w W := hW
  obtain ⟨W3, hW3⟩ : ∃ W3, W3 = (W.alloc (.cells #[.func (.yield y) #[] #[]] 123)).alloc (.cells #[giveF kb W.heap.size eb (W.heap.size + 1)] 122) := ⟨_, rfl⟩
  have hx3 : Ext W W3 := by rw [hW3]; exact (ext_alloc _ _).alloc _
  have hzW := hxW.size
  have hc : CapT W3 y kb W.heap.size eb (W.heap.size + 1) [.int .i64 h.days, .slice ra h.rates.length rc, .int .i64 h.step, .slice aa h.agents.length ac, .slice ea h.entries.length ec, .map (some Bm)] ev := ⟨(hcb.ext hxW).ext hx3, fun d hd => hx3.cell (hxW.cell (hce d hd)), by rw [hW3]; simp [go_sem], by rw [hW3]; simp [go_sem]⟩
  have hdy := hV.days
  have hd := rgive_any (n - 1) y kb W.heap.size eb (W.heap.size + 1) lo hi W.heap.size ra aa ea rc ac ec Bm ev h hV s Wd hlh (by omega) hLk hE (truL h (outB s)) J Jx hJ hk0 he0 (by omega) (by omega) hY h.days.toNat 0 [] [] W3 (by omega) rfl (fun j => by simp [List.getD_eq_getElem?_getD]) hx3.size ((hK.trans (hxW.keptN _ _)).trans (hx3.keptN _ _)) hc (hJ _ _ _ hx3.below h0) (by rw [List.nil_append]; exact List.prefix_rfl)
  rw [List.nil_append] at hd
  have hrv : rateV [] = .agg #[.int .i64 0, .int .i64 0, .int .i64 0] := rfl
  rw [hrv] at hd
  have hcg3 := hc.give
  have c1 := hcb.lt
  have HW := Lib.hid hW3
  simp only [Int.natCast_zero] at hd
  unfold giveF at HW hcg3
  change Calls _ _ _ _ (GivePostR lo hi J Jx (truL h (outB s)) (truL h (outB s)) W3) at hd
  clear hW3 hY hJ hJx hc
  refine callsIn_wide.2 ?_
  simp only [List.append_toArray, List.cons_append, List.nil_append]
  go_enter Try.func102, Try.ntmps102
  go_wp2_with fail
  rw [← HW.out]
  refine hd.mono ?_
  rintro e W4 (⟨rfl, hj, hck⟩ | ⟨rfl, p, hp1, hp2⟩)
  · go_wp2
    go_end0
    exact ⟨⟨_, rfl⟩, .inl hj⟩
  · go_wp2
    go_end0
    exact ⟨⟨_, rfl⟩, .inr ⟨p, hp1, hp2⟩⟩
theorem IntsN.weak {n m : Nat} {w : World} {v : Value} {l : List Int} (h : IntsN n w v l) (hm : m ≤ n) : IntsN m w v l := by
  obtain ⟨a, c, e, h1, h2, h3⟩ := h
  exact ⟨a, c, e, h1, h2, fun i hi => by obtain ⟨b, o, e1, hb, r⟩ := h3 i hi; exact ⟨b, o, e1, by omega, r⟩⟩
theorem IntsN.keptN {n lo hi : Nat} {w w' : World} {v : Value} {l : List Int} (h : IntsN n w v l) (hn : hi ≤ n) (hx : KeptN lo hi w w') : IntsAt w' v l := by
  obtain ⟨a, c, e, h1, h2, h3⟩ := h
  exact ⟨a, c, e, h1, h2, fun i hi' => by obtain ⟨b, o, e1, hb, r⟩ := h3 i hi'; exact ⟨b, o, e1, hx.cell (.inr (by show hi ≤ b; omega)) r.1, r.2⟩⟩
theorem LookG.keptN {w0 w w' : World} {n lo hi : Nat} {v : Value} {h : House} (hh : LookG w0 n w v h) (h0 : w0.heap.size ≤ lo) (hx0 : Ext w0 w) (hx : KeptN lo hi w w') : LookAt w' v h := by
  have h1 := (hx0.keptN lo hi).trans hx
  obtain ⟨ra, rc, aa, ac, ea, ec, B, M, e, g1, g2, g3, -, ⟨es, k, hb, g4⟩, g5⟩ := hh
  exact ⟨ra, rc, aa, ac, ea, ec, B, M, e, g1.lies (h1.lies h0), g2.lies (h1.lies h0), g3.lies (h1.lies h0), ⟨es, k, hx.m _ _ _ hb, g4⟩, g5⟩
/-- a function that yields the truths without some entries -/
def SeqG (w0 : World) (n : Nat) (w : World) (v : Value) (h : House) (s : Nat) : Prop :=
  ∃ (ra aa ea : Option Addr) (rc ac ec Bm kb eb : Nat) (ev : Nat → Value), v = .func (.func 102) #[] #[.pointer (some ⟨kb, 0, none⟩), .pointer (some ⟨eb, 0, none⟩)] ∧ n ≤ kb ∧ n ≤ eb ∧ BoxIs w kb [.int .i64 h.days, .slice ra h.rates.length rc, .int .i64 h.step, .slice aa h.agents.length ac, .slice ea h.entries.length ec, .map (some Bm)] ∧
    (∀ d, d < 3 → w.cell? ⟨eb, d, none⟩ = some (ev d)) ∧ (∀ d, d < 3 → IntsN n w (ev d) (ints (entsOf h (outB s) d))) ∧ LookG w0 0 w (houseV h ra aa ea rc ac ec (.map (some Bm))) h
theorem SeqG.seq {w0 : World} {n : Nat} {w : World} {v : Value} {h : House} (hV : ValidH h) {s : Nat} (hh : SeqG w0 n w v h s) (hx0 : Ext w0 w) : ∃ lb, v = .func (.func 102) #[] lb ∧
    ∀ m lo hi w', w0.heap.size ≤ lo → lo ≤ hi → hi ≤ n → hi ≤ w'.heap.size → KeptN lo hi w w' → SeqBoth m Try.prog 102 lb (fun r => #[rateV r]) (KeptN lo hi) (truL h (outB s)) w' := by
  obtain ⟨ra, aa, ea, rc, ac, ec, Bm, kb, eb, ev, e, k1, k2, h1, h2, h3, h4⟩ := hh
  exact ⟨_, e, fun m lo hi w' hw hlh hn hhw hK => truths_seq m lo hi kb eb ra aa ea rc ac ec Bm ev h hV s w w' hlh hhw (fun w2 h => h4.keptN hw hx0 h) (fun w2 h d hd => (h3 d hd).keptN hn h) hK (.inr (by omega)) (.inr (by omega)) (hK.box (.inr (by omega)) h1) (fun d hd => hK.cell (.inr (by show hi ≤ eb; omega)) (h2 d hd))⟩
/-- a function that yields the truths without some entries -/
def SeqT (w : World) (v : Value) (h : House) (s : Nat) : Prop :=
  ∃ (ra aa ea : Option Addr) (rc ac ec Bm kb eb : Nat) (ev : Nat → Value), v = .func (.func 102) #[] #[.pointer (some ⟨kb, 0, none⟩), .pointer (some ⟨eb, 0, none⟩)] ∧ BoxIs w kb [.int .i64 h.days, .slice ra h.rates.length rc, .int .i64 h.step, .slice aa h.agents.length ac, .slice ea h.entries.length ec, .map (some Bm)] ∧
    (∀ d, d < 3 → w.cell? ⟨eb, d, none⟩ = some (ev d)) ∧ (∀ d, d < 3 → IntsAt w (ev d) (ints (entsOf h (outB s) d))) ∧ LookAt w (houseV h ra aa ea rc ac ec (.map (some Bm))) h
theorem SeqT.ext {w w' : World} {v : Value} {h : House} {s : Nat} (hh : SeqT w v h s) (hx : Ext w w') : SeqT w' v h s := by
  obtain ⟨ra, aa, ea, rc, ac, ec, Bm, kb, eb, ev, e, h1, h2, h3, h4⟩ := hh
  exact ⟨ra, aa, ea, rc, ac, ec, Bm, kb, eb, ev, e, h1.ext hx, fun d hd => hx.cell (h2 d hd), fun d hd => (h3 d hd).ext hx, h4.ext hx⟩
theorem SeqT.seq {w : World} {v : Value} {h : House} (hV : ValidH h) {s : Nat} (hh : SeqT w v h s) : ∃ lb, v = .func (.func 102) #[] lb ∧
    ∀ n lo hi w', w.heap.size ≤ lo → lo ≤ hi → hi ≤ w'.heap.size → KeptN lo hi w w' → SeqBoth n Try.prog 102 lb (fun r => #[rateV r]) (KeptN lo hi) (truL h (outB s)) w' := by
  obtain ⟨ra, aa, ea, rc, ac, ec, Bm, kb, eb, ev, e, h1, h2, h3, h4⟩ := hh
  have z1 : kb < w.heap.size := h1.lt
  have z2 : eb < w.heap.size := cell_lt (h2 0 (by omega))
  exact ⟨_, e, fun n lo hi w' hw hlh hhw hK => truths_seq n lo hi kb eb ra aa ea rc ac ec Bm ev h hV s w w' hlh hhw (fun w2 h => h4.keptN h hw) (fun w2 h d hd => (h3 d hd).lies (h.lies hw)) hK (.inl (by omega)) (.inl (by omega)) (hK.box (.inl (by omega)) h1) (fun d hd => hK.cell (.inl (by simp; omega)) (h2 d hd))⟩
theorem SeqG.t {w0 : World} {n : Nat} {w : World} {v : Value} {h : House} {s : Nat} (hh : SeqG w0 n w v h s) (hx0 : Ext w0 w) : SeqT w v h s := by
  obtain ⟨ra, aa, ea, rc, ac, ec, Bm, kb, eb, ev, e, k1, k2, h1, h2, h3, h4⟩ := hh
  exact ⟨ra, aa, ea, rc, ac, ec, Bm, kb, eb, ev, e, h1, h2, fun d hd => (h3 d hd).at, h4.look hx0⟩
set_option maxHeartbeats 1000000 in
theorem truths2_any (hv : Value) (h : House) (hV : ValidH h) (s : Nat) (hs : s < 32) (w0 w : World) (hx0 : Ext w0 w) (hg : LookG w0 0 w hv h) :
    Calls Try.prog 62 #[hv, .int .i64 s] w fun e w' => ∃ v, e = .returned v ∧ SeqG w0 w.heap.size w' v h s ∧ Ext w w' := by
  have hl := hg.look hx0
  have hl0 := hl
  have hg0 := hg
  obtain ⟨ra, rc, aa, ac, ea, ec, Bm, M, rfl, -, -, -, -, -, -⟩ := hg
  have HG0 := Lib.hid hg0
  have htw := fun w hl => toldWithout_any (houseV h ra aa ea rc ac ec (.map (some Bm))) h hV s hs w hl
  have HL := Lib.hid hl0
  clear hl0 hl hg0
  unfold houseV at htw ⊢
  go_enter Try.func62, Try.ntmps62
  go_wp2_with fail
  refine (htw _ (HL.out.ext (ext_alloc _ _))).mono ?_
  rintro e w1 ⟨u0, u1, u2, rfl, i0, i1, i2, hx1⟩
  have x1 := hx1.of_alloc
  have hb : BoxIs w1 w.heap.size [.int .i64 h.days, .slice ra h.rates.length rc, .int .i64 h.step, .slice aa h.agents.length ac, .slice ea h.entries.length ec, .map (some Bm)] := BoxIs.ext (fun j v hj => by
    match j, hj with
    | 0, hj => simp at hj; subst hj; simp [go_sem]
    | 1, hj => simp at hj; subst hj; simp [go_sem]
    | 2, hj => simp at hj; subst hj; simp [go_sem]
    | 3, hj => simp at hj; subst hj; simp [go_sem]
    | 4, hj => simp at hj; subst hj; simp [go_sem]
    | 5, hj => simp at hj; subst hj; simp [go_sem]) hx1
  obtain ⟨a0, c0, rfl, -⟩ := i0.at.shape
  obtain ⟨a1, c1, rfl, -⟩ := i1.at.shape
  obtain ⟨a2, c2, rfl, -⟩ := i2.at.shape
  have I0 := Lib.hid i0
  have I1 := Lib.hid i1
  have I2 := Lib.hid i2
  have HB := Lib.hid hb
  clear i0 i1 i2 hb hx1 htw
  go_wp2
  go_ret
  refine ⟨_, rfl, ⟨ra, aa, ea, rc, ac, ec, Bm, w.heap.size, w1.heap.size, fun d => if d = 0 then .slice a0 (ints (entsOf h (outB s) 0)).length c0 else if d = 1 then .slice a1 (ints (entsOf h (outB s) 1)).length c1 else .slice a2 (ints (entsOf h (outB s) 2)).length c2, rfl, Nat.le_refl _, x1.size, HB.out.ext (ext_alloc _ _), fun d hd => ?_, fun d hd => ?_, HG0.out.kept (x1.alloc _).maps⟩, x1.alloc _⟩
  · have : d = 0 ∨ d = 1 ∨ d = 2 := by omega
    rcases this with rfl | rfl | rfl <;> simp [go_sem]
  · have : d = 0 ∨ d = 1 ∨ d = 2 := by omega
    rcases this with rfl | rfl | rfl
    · exact (I0.out.ext (ext_alloc _ _)).weak (by simp)
    · exact (I1.out.ext (ext_alloc _ _)).weak (by simp)
    · exact (I2.out.ext (ext_alloc _ _)).weak (by simp)
theorem truths_any (hv : Value) (h : House) (hV : ValidH h) (s : Nat) (hs : s < 32) (w : World) (hl : LookAt w hv h) :
    Calls Try.prog 62 #[hv, .int .i64 s] w fun e w' => ∃ v, e = .returned v ∧ SeqT w' v h s ∧ Ext w w' := by
  have hg : LookG w 0 w hv h := by
    obtain ⟨ra, rc, aa, ac, ea, ec, B, M, e, h1, h2, h3, h4, h5⟩ := hl
    exact ⟨ra, rc, aa, ac, ea, ec, B, M, e, h1, h2, h3, Nat.zero_le _, h4, h5⟩
  refine (truths2_any hv h hV s hs w w (Ext.refl _) hg).mono ?_
  rintro e w' ⟨v, rfl, hG, hx⟩
  exact ⟨v, rfl, hG.t hx, hx⟩
end Go.Proofs.Ytdadffmagfknoaa

namespace Go.Proofs.Ytdadffmagfknoaa
set_option linter.unusedSimpArgs false
set_option linter.unusedVariables false
open Go.RowKit
set_option linter.unusedVariables false

def DivPost (lo hi : Nat) (J : List (Nat → Int) → World → Prop) (all : List (Nat → Int)) (W : World) (e : Ending) (W' : World) : Prop := e = .returned (.bool true) ∧ J all W' ∧ KeptO lo hi W W'

theorem sizeOk_many {sl : List Slot} {left : List ByteArray} {n : Nat} (h : left.length < n) : sizeOk sl left n = false := by
  unfold sizeOk
  rw [decide_eq_false (by omega)]; rfl
theorem sizeOk_shut {sl : List Slot} {left : List ByteArray} {n : Nat} (h : n < sl.length) (hf : (sl.getD n noSlot).free = false) : sizeOk sl left n = false := by
  unfold sizeOk
  rw [decide_eq_false (p := sl.length ≤ n) (by omega), hf]; simp
theorem sizeOk_not {sl : List Slot} {left : List ByteArray} {n i : Nat} (h : i < n) (ht : takesM (sl.getD i noSlot) (left.getD i ByteArray.empty) = false) : sizeOk sl left n = false := by
  unfold sizeOk
  rw [Bool.and_eq_false_iff]; right
  rw [List.all_eq_false]
  exact ⟨i, List.mem_range.2 h, by simpa using ht⟩
theorem sizeOk_yes {sl : List Slot} {left : List ByteArray} {n : Nat} (h : n ≤ left.length) (hf : n < sl.length → (sl.getD n noSlot).free = true) (ht : ∀ i, i < n → takesM (sl.getD i noSlot) (left.getD i ByteArray.empty) = true) : sizeOk sl left n = true := by
  unfold sizeOk
  rw [decide_eq_true h, Bool.true_and, Bool.and_eq_true, Bool.or_eq_true, List.all_eq_true]
  refine ⟨?_, fun i hi => ht i (List.mem_range.1 hi)⟩
  by_cases e : n < sl.length
  · exact .inr (hf e)
  · exact .inl (decide_eq_true (by omega))
/-- the counts of a call's own -/
def CellsC (w : World) (b : Nat) (c : Nat → Int) : Prop := ∀ j, j < 5 → w.cell? ⟨b, j, none⟩ = some (.int .i64 (c j))
theorem CellsC.kept {lo hi : Nat} {w w' : World} {b : Nat} {c : Nat → Int} (h : CellsC w b c) (hx : KeptO lo hi w w') (hb : hi ≤ b) : CellsC w' b c := fun j hj => hx.cell (.inr hb) (h j hj)
theorem CellsC.set {w : World} {b : Nat} {c : Nat → Int} (h : CellsC w b c) {k : Nat} (hk : k < 5) (v : Int) : CellsC (w.setCell ⟨b, k, none⟩ (.int .i64 v)) b (updC c k v) := by
  intro j hj
  have hb := cell_lt (h k hk)
  by_cases e : j = k
  · subst e
    simp only [updC, if_true]
    exact World.cell?_setCell_same _ _ _ (h j hj)
  · simp only [updC, if_neg e]
    exact (World.cell?_setCell_other _ _ _ _ (fun h => e (Addr.mk.inj h).2.1.symm)).trans (h j hj)
theorem updC_self (c : Nat → Int) (k : Nat) : updC c k (c k) = c := by
  funext j
  unfold updC
  split
  · rename_i h; rw [h]
  · rfl
theorem updC_twice (c : Nat → Int) (k : Nat) (x y : Int) : updC (updC c k x) k y = updC c k y := by
  funext j
  unfold updC
  split <;> rfl
end Go.Proofs.Ytdadffmagfknoaa

namespace Go.Proofs.Ytdadffmagfknoaa
set_option linter.unusedSimpArgs false
set_option linter.unusedVariables false
open Go.RowKit
set_option linter.unusedVariables false

end Go.Proofs.Ytdadffmagfknoaa

namespace Go.Proofs.Ytdadffmagfknoaa
set_option linter.unusedSimpArgs false
set_option linter.unusedVariables false
open Go.RowKit
set_option linter.unusedVariables false
attribute [local go_sem] Oper.semAt_some

theorem KeptO.setIn {lo hi : Nat} {a w : World} (h : KeptO lo hi a w) {p : Addr} (h1 : lo ≤ p.block) (h2 : p.block < hi) (v : Value) : KeptO lo hi a (w.setCell p v) := ⟨Nat.le_trans h.size (by simp [World.setCell]), fun q u hb hq => by
  obtain ⟨k1, k2⟩ := h.all q u hb hq
  have he := Below.heap_setCell w p v q.block (by omega)
  exact ⟨(World.cell?_of_block (w := w) he).trans k1, (World.frozen?_of_block (w := w) he).trans k2⟩⟩
theorem Ext.keepsFrom {w w' : World} (h : Ext w w') (B : Nat) : KeepsFrom B w w' := ⟨h.size, fun k o _ hk _ => (h.below.block k (Array.getElem?_eq_some_iff.1 hk).1).trans hk⟩
/-- five cells are written -/
def set5 (w : World) (b : Nat) (c : Nat → Int) : World := ((((w.setCell ⟨b, 0, none⟩ (.int .i64 (c 0))).setCell ⟨b, 1, none⟩ (.int .i64 (c 1))).setCell ⟨b, 2, none⟩ (.int .i64 (c 2))).setCell ⟨b, 3, none⟩ (.int .i64 (c 3))).setCell ⟨b, 4, none⟩ (.int .i64 (c 4))
theorem set5_cells {w : World} {b : Nat} {c : Nat → Int} (h : CellsC w b c) (d : Nat → Int) : CellsC (set5 w b d) b d := by
  have h0 := h.set (k := 0) (by omega) (d 0)
  have h1 := h0.set (k := 1) (by omega) (d 1)
  have h2 := h1.set (k := 2) (by omega) (d 2)
  have h3 := h2.set (k := 3) (by omega) (d 3)
  have h4 := h3.set (k := 4) (by omega) (d 4)
  unfold set5
  have e : ∀ j, j < 5 → updC (updC (updC (updC (updC c 0 (d 0)) 1 (d 1)) 2 (d 2)) 3 (d 3)) 4 (d 4) j = d j := by
    intro j hj
    have : j = 0 ∨ j = 1 ∨ j = 2 ∨ j = 3 ∨ j = 4 := by omega
    rcases this with rfl | rfl | rfl | rfl | rfl <;> simp [updC]
  generalize updC (updC (updC (updC (updC c 0 (d 0)) 1 (d 1)) 2 (d 2)) 3 (d 3)) 4 (d 4) = q at *
  intro j hj
  rw [← e j hj]
  exact h4 j hj
theorem set5_other {w : World} {b : Nat} {c : Nat → Int} {k : Nat} (h : k ≠ b) : (set5 w b c).heap[k]? = w.heap[k]? := by
  unfold set5
  iterate 4 rw [Below.heap_setCell _ _ _ _ (by simpa using h)]
  exact Below.heap_setCell _ _ _ _ (by simpa using h)
theorem set5_size {w : World} {b : Nat} {c : Nat → Int} : (set5 w b c).heap.size = w.heap.size := by simp [set5, World.setCell]
theorem set5_kept {lo hi : Nat} {a w : World} (h : KeptO lo hi a w) {b : Nat} (h1 : lo ≤ b) (h2 : b < hi) (c : Nat → Int) : KeptO lo hi a (set5 w b c) :=
  ((((h.setIn (p := ⟨b, 0, none⟩) h1 h2 _).setIn (p := ⟨b, 1, none⟩) h1 h2 _).setIn (p := ⟨b, 2, none⟩) h1 h2 _).setIn (p := ⟨b, 3, none⟩) h1 h2 _).setIn (p := ⟨b, 4, none⟩) h1 h2 _
theorem set5_keeps {B : Nat} {w : World} {b : Nat} {c : Nat → Int} : KeepsFrom B w (set5 w b c) :=
  ((((KeepsOthers.setCell w ⟨b, 0, none⟩ (.int .i64 (c 0))).trans (KeepsOthers.setCell _ ⟨b, 1, none⟩ (.int .i64 (c 1)))).trans (KeepsOthers.setCell _ ⟨b, 2, none⟩ (.int .i64 (c 2)))).trans (KeepsOthers.setCell _ ⟨b, 3, none⟩ (.int .i64 (c 3)))).trans (KeepsOthers.setCell _ ⟨b, 4, none⟩ (.int .i64 (c 4))) |>.from B
/-- what the loop of best holds between two rounds, its variables in the blocks f and m -/
structure BestI (w0 : World) (bb fb mb : Nat) (bf : Value) (s : (Nat → Int) × Nat) (W : World) : Prop where
  first : CellsC W fb s.1
  ffree : ∀ o, W.frozen? ⟨fb, o, none⟩ = false
  many : W.cell? ⟨mb, 0, none⟩ = some (.int .i64 s.2)
  mfree : W.frozen? ⟨mb, 0, none⟩ = false
  fn : W.cell? ⟨bb, 0, none⟩ = some bf
  ext : Below fb w0 W
theorem BestI.later {w0 : World} {bb fb mb B : Nat} {bf : Value} {s : (Nat → Int) × Nat} {A W : World} (h : BestI w0 bb fb mb bf s A) (hx : Below B A W) (h1 : bb < B) (h2 : fb < B) (h3 : mb < B) : BestI w0 bb fb mb bf s W :=
  ⟨fun j hj => (hx.cell (p := ⟨fb, j, none⟩) h2).trans (h.first j hj), fun o => (hx.frozen (p := ⟨fb, o, none⟩) h2).trans (h.ffree o), (hx.cell (p := ⟨mb, 0, none⟩) h3).trans h.many, (hx.frozen (p := ⟨mb, 0, none⟩) h3).trans h.mfree, (hx.cell (p := ⟨bb, 0, none⟩) h1).trans h.fn, h.ext.trans (hx.mono (Nat.le_of_lt h2))⟩
theorem frozen_set5 {w : World} {b : Nat} {c : Nat → Int} (p : Addr) : (set5 w b c).frozen? p = w.frozen? p := by simp [set5, go_sem]
theorem cell_set5_other {w : World} {b : Nat} {c : Nat → Int} {p : Addr} (h : p.block ≠ b) : (set5 w b c).cell? p = w.cell? p := World.cell?_of_block (set5_other h)
theorem BestI.kept {w0 : World} {bb fb mb : Nat} {bf : Value} {s : (Nat → Int) × Nat} {W : World} (h : BestI w0 bb fb mb bf s W) (h1 : bb < fb) (h2 : fb < mb) : BestI w0 bb fb mb bf (s.1, s.2 + 1) (W.setCell ⟨mb, 0, none⟩ (.int .i64 ((s.2 : Int) + 1))) :=
  ⟨fun j hj => (World.cell?_setCell_other _ _ _ _ (fun e => by have := (Addr.mk.inj e).1; omega)).trans (h.first j hj), fun o => by simpa [go_sem] using h.ffree o, World.cell?_setCell_same _ _ _ h.many, by simpa [go_sem] using h.mfree, (World.cell?_setCell_other _ _ _ _ (fun e => by have := (Addr.mk.inj e).1; omega)).trans h.fn, h.ext.setCell (p := ⟨mb, 0, none⟩) (Nat.le_of_lt h2) _⟩
theorem BestI.took {w0 : World} {bb fb mb : Nat} {bf : Value} {s : (Nat → Int) × Nat} {W : World} (h : BestI w0 bb fb mb bf s W) (h1 : bb < fb) (h2 : fb < mb) (x : Nat → Int) : BestI w0 bb fb mb bf (x, s.2) (set5 W fb x) :=
  ⟨set5_cells h.first x, fun o => (frozen_set5 _).trans (h.ffree o), (cell_set5_other (p := ⟨mb, 0, none⟩) (Nat.ne_of_gt h2)).trans h.many, (frozen_set5 _).trans h.mfree, (cell_set5_other (p := ⟨bb, 0, none⟩) (Nat.ne_of_lt h1)).trans h.fn, ((((h.ext.setCell (p := ⟨fb, 0, none⟩) (Nat.le_refl _) _).setCell (p := ⟨fb, 1, none⟩) (Nat.le_refl _) _).setCell (p := ⟨fb, 2, none⟩) (Nat.le_refl _) _).setCell (p := ⟨fb, 3, none⟩) (Nat.le_refl _) _).setCell (p := ⟨fb, 4, none⟩) (Nat.le_refl _) _⟩
def zeroC : Nat → Int := fun _ => 0
end Go.Proofs.Ytdadffmagfknoaa
