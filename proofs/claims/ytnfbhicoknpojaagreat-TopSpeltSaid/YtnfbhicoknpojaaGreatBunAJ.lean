/-
  A REGION THAT DRAWS ITS ORDER, WHOSE LAST OPERATION WAITS FOR ALL OTHERS: the others first, then this one, by a fact of its own. Over any program.
  markError of the program.
  WHAT STANDS INSTEAD OF WORDS by a mark, and an append of it in a region that draws.
  marked and Apply of the program.
  Apply of the program.
  BY THE MARKS a letter becomes the other one, plain.
  ANY MARKS, BY TURNS, plain: what has come of a letter, mark by mark.
  AN append AT THE END OF A REGION THAT DRAWS ITS ORDER, onto a row of the call's own: the step, and the two relations. Over any program.
-/
import Derived.Test.YtnfbhicoknpojaaGreatBunAH
import Derived.Test.YtnfbhicoknpojaaGreatBunAI
import Derived.Test.YtnfbhicoknpojaaGreatBunAC
import Derived.Maps.AppendAt
namespace Go.Proofs.YtnfbhicoknpojaaGreat
set_option linter.unusedSimpArgs false
set_option linter.unusedVariables false
open Go.RowKit
set_option linter.unusedVariables false
set_option linter.unusedSimpArgs false
namespace Facts.Peel
open Facts.Piv (Two anyS opS any_of_anyS opS_of_stepG)
variable {P : Program}

theorem wp_monoQ {o : Oper} {a : Act} {w : World} {K : Act → World → Prop} {Q Q' : Exit → Act → World → Prop} (h : ∀ e a w, e ≠ .normal → Q e a w → Q' e a w) (hh : o.wp P a w K Q) : o.wp P a w K Q' := by
  unfold Oper.wp at *
  generalize (execOp a.eval o).run P w = r at *
  cases r with
  | ok n w' =>
    cases n <;> simp only [Oper.upon] at hh ⊢ <;>
      first
        | exact hh
        | exact h _ _ _ (by simp) hh
        | exact Calls.mono hh (fun e w'' he => by
            cases e
            · exact he
            · exact h _ _ _ (by simp) he
            · obtain ⟨a0, w0, hq⟩ := he
              exact ⟨a0, w0, h _ _ _ (by simp) hq⟩)
  | halt x w' => cases x <;> simp only [Oper.upon] at hh ⊢ <;> first | exact hh | exact h _ _ _ (by simp) hh
def lastB (l : List Oper) (o : Oper) : Bool :=
  (l.all fun x => (match x.guard with | some g => decide (g.1 < l.length) | none => true) && (x.after.toList.all fun e => !Region.binds .any e || decide (e.on < l.length))) && (o.after.toList.all fun e => !Region.binds .any e || decide (e.on < l.length)) &&
    (List.range l.length).all fun i => (depsOf (l ++ [o]).toArray (l.length + 1) l.length).contains i
theorem push_getD (listed : Array Bool) (j : Nat) (d : Bool) (h : j < listed.size) : (listed.push false).getD j d = listed.getD j d := by
  rw [Array.getD_eq_getD_getElem?, Array.getD_eq_getD_getElem?, Array.getElem?_push, if_neg (by omega)]
theorem push_last (listed : Array Bool) (d : Bool) : (listed.push false).getD listed.size d = false := by
  rw [Array.getD_eq_getD_getElem?, Array.getElem?_push, if_pos rfl]; rfl
theorem push_set (listed : Array Bool) (i : Nat) (h : i < listed.size) : (listed.push false).setIfInBounds i true = (listed.setIfInBounds i true).push false := by
  apply Array.ext_getElem?
  intro j
  rw [Array.getElem?_setIfInBounds, Array.getElem?_push, Array.getElem?_push, Array.getElem?_setIfInBounds]
  simp only [Array.size_push, Array.size_setIfInBounds]
  by_cases e : i = j
  · subst e
    rw [if_pos rfl, if_neg (show ¬ i = listed.size by omega), if_pos rfl, if_pos h, if_pos (show i < listed.size + 1 by omega)]
  · rw [if_neg e, if_neg e]
theorem any_peel {l : List Oper} {o : Oper} {Q : Exit → Act → World → Prop} (hlast : lastB l o = true) (hB : okB (l ++ [o]).toArray = true) :
    ∀ (fuel : Nat) (listed : Array Bool) (a : Act) (w : World), listed.size = l.length → listed.toList.count true + fuel = l.length → (∀ j, (listed.push false).getD j false = true → ∀ i ∈ direct (l ++ [o]).toArray j, (listed.push false).getD i false = true) →
      anyS P l.toArray (fun e a w => e = .normal ∧ stepG P (l ++ [o]).toArray o a w (fun u w2 => Q .normal (a.put o.dst u) w2)) fuel listed a w → anyS P (l ++ [o]).toArray Q (fuel + 1) (listed.push false) a w := by
  simp only [lastB, Bool.and_eq_true, List.all_eq_true, List.mem_range, Bool.or_eq_true, decide_eq_true_eq] at hlast
  obtain ⟨⟨hl1, hl2⟩, hl3⟩ := hlast
  have hat : ∀ i, i < l.length → (l ++ [o]).toArray[i]? = l.toArray[i]? := fun i hi => by
    simp only [List.getElem?_toArray]; exact List.getElem?_append_left hi
  have hato : (l ++ [o]).toArray[l.length]? = some o := by simp
  have hsz : (l ++ [o]).toArray.size = l.length + 1 := by simp
  have hb : ∀ x ∈ l, ∀ e ∈ x.after, Region.binds .any e = true → e.on < l.length := fun x hx e he hbd => by
    rcases (hl1 x hx).2 e (by simpa using he) with h | h
    · rw [hbd] at h; cases h
    · exact h
  have hbo : ∀ e ∈ o.after, Region.binds .any e = true → e.on < l.length := fun e he hbd => by
    rcases hl2 e (by simpa using he) with h | h
    · rw [hbd] at h; cases h
    · exact h
  have hmem : ∀ i x, l.toArray[i]? = some x → i < l.length ∧ x ∈ l := fun i x h => by
    rw [List.getElem?_toArray] at h
    exact ⟨(List.getElem?_eq_some_iff.1 h).1, List.mem_of_getElem? h⟩
  -- what is ready
  have ready1 : ∀ (listed : Array Bool), listed.size = l.length → ∀ i, i < l.length → (i ∈ Region.ready .any (l ++ [o]).toArray (listed.push false) ↔ i ∈ Region.ready .any l.toArray listed) := fun listed hs i hi => by
    rw [mem_ready, mem_ready, hat i hi, push_getD _ _ _ (by omega)]
    constructor
    · rintro ⟨h1, x, hx, h2⟩
      exact ⟨h1, x, hx, fun e he hbd => by have := h2 e he hbd; rwa [push_getD _ _ _ (by have := hb x (hmem i x hx).2 e he hbd; omega)] at this⟩
    · rintro ⟨h1, x, hx, h2⟩
      exact ⟨h1, x, hx, fun e he hbd => by rw [push_getD _ _ _ (by have := hb x (hmem i x hx).2 e he hbd; omega)]; exact h2 e he hbd⟩
  have ready2 : ∀ (listed : Array Bool), listed.size = l.length → ∀ i, i ∈ Region.ready .any (l ++ [o]).toArray (listed.push false) → i < l.length ∨ i = l.length := fun listed hs i hi => by
    obtain ⟨-, x, hx, -⟩ := mem_ready.1 hi
    have := (Array.getElem?_eq_some_iff.1 hx).1
    omega
  have ready3 : ∀ (listed : Array Bool), listed.size = l.length → (∀ j, j < l.length → listed.getD j false = true) → l.length ∈ Region.ready .any (l ++ [o]).toArray (listed.push false) := fun listed hs hall => by
    rw [mem_ready]
    refine ⟨by rw [← hs]; exact push_last _ _, o, hato, fun e he hbd => ?_⟩
    have := hbo e he hbd
    rw [push_getD _ _ _ (by omega)]
    exact hall _ this
  have ready4 : ∀ (listed : Array Bool), listed.size = l.length → (∀ j, (listed.push false).getD j false = true → ∀ i ∈ direct (l ++ [o]).toArray j, (listed.push false).getD i false = true) → l.length ∈ Region.ready .any (l ++ [o]).toArray (listed.push false) → ∀ j, j < l.length → listed.getD j false = true := fun listed hs hcl hr j hj => by
    obtain ⟨-, x, hx, h2⟩ := mem_ready.1 hr
    rw [hato] at hx
    obtain rfl := Option.some.inj hx
    have hd := dep_in hcl (l.length + 1) l.length (direct_ready hato h2) j (by simpa using hl3 j hj)
    rwa [push_getD _ _ _ (by omega)] at hd
  have full : ∀ (listed : Array Bool), listed.size = l.length → listed.toList.count true = l.length → ∀ j, j < l.length → listed.getD j false = true := fun listed hs hc j hj => by
    have hlen : listed.toList.count true = listed.toList.length := by simp only [Array.length_toList]; omega
    have := List.count_eq_length.1 hlen (listed[j]'(by omega)) (by simp)
    rw [Array.getD_eq_getD_getElem?, Array.getElem?_eq_getElem (by omega)]
    exact this.symm
  have setfull : ∀ (listed : Array Bool), listed.size = l.length → (∀ j, j < l.length → listed.getD j false = true) → Region.ready .any (l ++ [o]).toArray ((listed.push false).setIfInBounds l.length true) = [] := fun listed hs hall => by
    rw [List.eq_nil_iff_forall_not_mem]
    intro i hi
    obtain ⟨h1, x, hx, -⟩ := mem_ready.1 hi
    have hlt := (Array.getElem?_eq_some_iff.1 hx).1
    rw [hsz] at hlt
    by_cases e : i = l.length
    · subst e
      rw [Array.getD_eq_getD_getElem?, Array.getElem?_setIfInBounds, if_pos rfl] at h1
      simp [hs] at h1
    · rw [getD_set_ne true (Ne.symm e), push_getD _ _ _ (by omega)] at h1
      have := hall i (by omega)
      rw [Array.getD_eq_getD_getElem?, Array.getElem?_eq_getElem (by omega)] at h1 this
      simp only [Option.getD_some] at h1 this
      rw [h1] at this; cases this
  have hlast : ∀ (fuel : Nat) (listed : Array Bool) (a : Act) (w : World), listed.size = l.length → (∀ j, j < l.length → listed.getD j false = true) → stepG P (l ++ [o]).toArray o a w (fun u w2 => Q .normal (a.put o.dst u) w2) →
      opS P (l ++ [o]).toArray Q l.length (anyS P (l ++ [o]).toArray Q fuel ((listed.push false).setIfInBounds l.length true)) a w := fun fuel listed a w hs hall h => by
    refine opS_of_stepG hato h fun v w' hq => ?_
    have hr := setfull listed hs hall
    cases fuel with
    | zero => exact ⟨hr, hq⟩
    | succ fuel => exact ⟨fun _ => hq, fun i hi => by rw [hr] at hi; cases hi⟩
  intro fuel
  induction fuel with
  | zero =>
    intro listed a w hs hc hcl h
    have hall := full listed hs (by omega)
    refine ⟨fun hn => ?_, fun i hi => ?_⟩
    · have := ready3 listed hs hall
      rw [hn] at this; cases this
    · rcases ready2 listed hs i hi with h1 | h1
      · exfalso
        have h2 := (mem_ready.1 hi).1
        rw [push_getD _ _ _ (by omega)] at h2
        have := hall i h1
        rw [Array.getD_eq_getD_getElem?, Array.getElem?_eq_getElem (by omega)] at h2 this
        simp only [Option.getD_some] at h2 this
        rw [h2] at this; cases this
      · subst h1
        exact hlast 0 listed a w hs hall h.2.2
  | succ fuel ih =>
    intro listed a w hs hc hcl h
    refine ⟨fun hn => ?_, fun i hi => ?_⟩
    · exfalso
      have hnr : Region.ready .any l.toArray listed = [] := by
        rw [List.eq_nil_iff_forall_not_mem]
        intro i hi
        have hlt : i < l.length := by obtain ⟨-, x, hx, -⟩ := mem_ready.1 hi; exact (hmem i x hx).1
        have := (ready1 listed hs i hlt).2 hi
        rw [hn] at this; cases this
      -- by the order of the operations all have come up
      have hall : ∀ j, j < l.length → listed.getD j false = true := by
        intro j
        induction j using Nat.strongRecOn with
        | _ j ihj =>
          intro hj
          cases hl : listed.getD j false with
          | true => rfl
          | false =>
            exfalso
            have hr : j ∈ Region.ready .any l.toArray listed := by
              rw [mem_ready]
              refine ⟨?_, l[j], by simp [hj], fun e he hbd => ?_⟩
              · rw [Array.getD_eq_getD_getElem?, Array.getElem?_eq_getElem (by omega)] at hl ⊢
                exact hl
              · have hin : e.on ∈ direct (l ++ [o]).toArray j := by
                  simp only [direct, hat j hj, show l.toArray[j]? = some l[j] by simp [hj], List.mem_map, List.mem_filter]
                  exact ⟨e, ⟨by simpa using he, hbd⟩, rfl⟩
                have := (okB_spec hB j (by rw [hsz]; omega)).1 e.on hin
                exact ihj e.on this (by omega)
            rw [hnr] at hr; cases hr
      have hcount : listed.toList.count true = l.length := by
        have : listed.toList.count true = listed.toList.length := List.count_eq_length.2 fun b hb => by
          obtain ⟨i, hi, rfl⟩ := List.getElem_of_mem hb
          have := hall i (by simpa [hs] using hi)
          rw [Array.getD_eq_getD_getElem?, Array.getElem?_eq_getElem (by simpa using hi)] at this
          simpa using this.symm
        rw [this]; simpa using hs
      omega
    · rcases ready2 listed hs i hi with h1 | h1
      · have hr := (ready1 listed hs i h1).1 hi
        have hstep := h.2 i hr
        obtain ⟨hl0, x, hx, hafter⟩ := mem_ready.1 hi
        rw [hat i h1] at hx
        unfold opS at hstep ⊢
        rw [hat i h1, hx]
        rw [hx] at hstep
        simp only at hstep ⊢
        have hw : Region.wanted x (yielded (l ++ [o]).toArray a.tmps) = Region.wanted x (yielded l.toArray a.tmps) := by
          unfold Region.wanted
          cases hg : x.guard with
          | none => rfl
          | some g =>
            obtain ⟨g, want⟩ := g
            have := (hl1 x (hmem i x hx).2).1
            rw [hg] at this
            have hlt : g < l.length := by simpa using this
            simp only [yielded, hat g hlt]
        have hnot : listed.getD i false = false := by
          rw [push_getD _ _ _ (by omega)] at hl0
          rw [Array.getD_eq_getD_getElem?, Array.getElem?_eq_getElem (by omega)] at hl0 ⊢
          exact hl0
        have hK : ∀ a w, anyS P l.toArray (fun e a w => e = .normal ∧ stepG P (l ++ [o]).toArray o a w (fun u w2 => Q .normal (a.put o.dst u) w2)) fuel (listed.setIfInBounds i true) a w → anyS P (l ++ [o]).toArray Q (fuel + 1) ((listed.push false).setIfInBounds i true) a w := fun a w hh => by
          rw [push_set _ _ (by omega)]
          refine ih _ a w (by simpa using hs) ?_ ?_ hh
          · rw [Array.toList_setIfInBounds, List.count_set (by simpa using (by omega : i < listed.size))]
            have e : (listed.toList[i]'(by simpa using (by omega : i < listed.size))) = false := by
              rw [Array.getD_eq_getD_getElem?, Array.getElem?_eq_getElem (by omega)] at hnot
              simpa using hnot
            have e' : (listed.toList[i]'(by simpa using (by omega : i < listed.size)) == true) = false := by rw [e]; rfl
            rw [e']; simp only [Bool.false_eq_true, if_false, beq_self_eq_true, if_true]; omega
          · rw [← push_set _ _ (by omega)]
            intro j hj k hk
            by_cases e : j = i
            · subst e
              have h2 := direct_ready (ops := (l ++ [o]).toArray) (by rw [hat j h1]; exact hx) hafter k hk
              by_cases e2 : k = j
              · subst e2
                rw [Array.getD_eq_getD_getElem?, Array.getElem?_setIfInBounds, if_pos rfl, if_pos (by simp; omega)]; rfl
              · rw [getD_set_ne false (Ne.symm e2)]; exact h2
            · rw [getD_set_ne false (Ne.symm e)] at hj
              have h2 := hcl j hj k hk
              by_cases e2 : k = i
              · subst e2
                rw [Array.getD_eq_getD_getElem?, Array.getElem?_setIfInBounds, if_pos rfl, if_pos (by simp; omega)]; rfl
              · rw [getD_set_ne false (Ne.symm e2)]; exact h2
        rw [hw]
        split
        · rename_i hww
          rw [if_pos hww] at hstep
          exact Oper.wp_mono hK (wp_monoQ (fun e a w he hq => absurd hq.1 he) hstep)
        · rename_i hww
          rw [if_neg hww] at hstep
          exact hK _ _ hstep
      · subst h1
        have hall := ready4 listed hs hcl hi
        have hr : Region.ready .any l.toArray listed = [] := by
          rw [List.eq_nil_iff_forall_not_mem]
          intro i hi2
          obtain ⟨h2, x, hx, -⟩ := mem_ready.1 hi2
          have hlt := (hmem i x hx).1
          have := hall i hlt
          rw [Array.getD_eq_getD_getElem?, Array.getElem?_eq_getElem (by omega)] at h2 this
          simp only [Option.getD_some] at h2 this
          rw [h2] at this; cases this
        exact hlast (fuel + 1) listed a w hs hall (h.1 hr).2
/-- THE RULE: the others by 'Facts.Dep.Free', the last one by a fact of its own -/
theorem wp_region {E C : World → World → Prop} (T : Two E C) (p : Nat) {id : Nat} {Q : Exit → Act → World → Prop} {a : Act} {w : World} {l : List Oper} {o : Oper} (ss : List Dep.Spec) (hm : P.follows .mixedOrders = true) (hlast : lastB l o = true) (hB' : okB (l ++ [o]).toArray = true) (hB : okB l.toArray = true) (hlb : Dep.locB l.toArray 0 ss = true) (hk : Dep.Free.keepsS E C l.toArray p 0 ss)
    (h : Dep.Free.Walk E C p P l.toArray w (fun e a w => e = .normal ∧ stepG P (l ++ [o]).toArray o a w (fun u w2 => Q .normal (a.put o.dst u) w2)) 0 l ss [] [] a) : (Code.region id (l ++ [o]).toArray true).wp P Q a w := by
  have h1 := Dep.Free.any_region T p ss hB hlb hk h
  have h2 := any_peel (P := P) (Q := Q) hlast hB' l.toArray.size (Array.replicate l.toArray.size false) a { w with drawn := w.drawn + 1 } (by simp) (by simp [List.count_replicate]) (fun j hj => by
    exfalso
    rw [Array.getD_eq_getD_getElem?, Array.getElem?_push] at hj
    split at hj
    · simp at hj
    · rw [← Array.getD_eq_getD_getElem?, getD_rep] at hj; cases hj) h1
  have e : (l ++ [o]).toArray.size = l.toArray.size + 1 := by simp
  refine wp_region_any hm (any_of_anyS _ _ _ _ ?_)
  rw [e, Array.replicate_succ]
  exact h2
/-- the same, told by the number of the last operation -/
theorem wp_regionL {E C : World → World → Prop} (T : Two E C) (n p : Nat) {id : Nat} {Q : Exit → Act → World → Prop} {a : Act} {w : World} {L : List Oper} (ss : List Dep.Spec) (hm : P.follows .mixedOrders = true) (hL : L.length = n + 1) (hlast : lastB (L.take n) (L.getD n default) = true) (hB' : okB L.toArray = true) (hB : okB (L.take n).toArray = true) (hlb : Dep.locB (L.take n).toArray 0 ss = true) (hk : Dep.Free.keepsS E C (L.take n).toArray p 0 ss)
    (h : Dep.Free.Walk E C p P (L.take n).toArray w (fun e a w => e = .normal ∧ stepG P L.toArray (L.getD n default) a w (fun u w2 => Q .normal (a.put (L.getD n default).dst u) w2)) 0 (L.take n) ss [] [] a) : (Code.region id L.toArray true).wp P Q a w := by
  have e : L = L.take n ++ [L.getD n default] := by
    conv => lhs; rw [← List.take_append_drop n L]
    congr 1
    rw [List.drop_eq_getElem_cons (by omega), List.drop_of_length_le (by omega), List.getD_eq_getElem?_getD, List.getElem?_eq_getElem (by omega)]
    rfl
  have := wp_region (P := P) (id := id) (Q := Q) T p (o := L.getD n default) ss hm hlast (by rw [← e]; exact hB') hB hlb hk (by rw [← e]; exact h)
  rwa [← e] at this
end Facts.Peel
end Go.Proofs.YtnfbhicoknpojaaGreat

namespace Go.Proofs.YtnfbhicoknpojaaGreat
set_option linter.unusedSimpArgs false
set_option linter.unusedVariables false
open Go.RowKit
set_option linter.unusedVariables false

def KindsV (u : Value) (w : World) : Prop := ∃ B, u = .slice (some ⟨B, 0, none⟩) 5 5 ∧ KindsAt w B
theorem KindsV.ext {u : Value} {w w' : World} (h : KindsV u w) (hx : Ext w w') : KindsV u w' := by
  obtain ⟨B, e, h⟩ := h; exact ⟨B, e, h.ext hx⟩
noncomputable def KindsV.B {u : Value} {w : World} (h : KindsV u w) : Nat := Exists.choose h
theorem KindsV.spec {u : Value} {w : World} (h : KindsV u w) : u = .slice (some ⟨h.B, 0, none⟩) 5 5 ∧ KindsAt w h.B := Exists.choose_spec h
theorem KindAt.ext {w w' : World} {b o k : Nat} (h : KindAt w b o k) (hx : Ext w w') : KindAt w' b o k :=
  ⟨hx.cell h.c0, hx.cell h.c1, hx.cell h.c2, hx.cell h.c3, hx.cell h.c4, hx.cell h.c5⟩
def KindPt (k : Nat) (u : Value) (w : World) : Prop := ∃ B, u = .pointer (some ⟨B, k * 6, none⟩) ∧ KindAt w B (k * 6) k
theorem KindPt.ext {k : Nat} {u : Value} {w w' : World} (h : KindPt k u w) (hx : Ext w w') : KindPt k u w' := by
  obtain ⟨B, e, h⟩ := h; exact ⟨B, e, h.ext hx⟩
noncomputable def KindPt.B {k : Nat} {u : Value} {w : World} (h : KindPt k u w) : Nat := Exists.choose h
theorem KindPt.spec {k : Nat} {u : Value} {w : World} (h : KindPt k u w) : u = .pointer (some ⟨h.B, k * 6, none⟩) ∧ KindAt w h.B (k * 6) k := Exists.choose_spec h
/-- a box of six cells of one's own -/
def Box6 (n0 : Nat) (u : Value) (w : World) : Prop := ∃ B, u = .pointer (some ⟨B, 0, none⟩) ∧ n0 ≤ B ∧ ∀ o, o < 6 → (∃ x, w.cell? ⟨B, o, none⟩ = some x) ∧ w.frozen? ⟨B, o, none⟩ = false
theorem Box6.ext {n0 : Nat} {u : Value} {w w' : World} (h : Box6 n0 u w) (hx : Ext w w') : Box6 n0 u w' := by
  obtain ⟨B, h1, h2, h3⟩ := h
  refine ⟨B, h1, h2, fun o ho => ?_⟩
  obtain ⟨⟨x, hc⟩, hf⟩ := h3 o ho
  exact ⟨⟨x, hx.cell hc⟩, (hx.frozen (p := ⟨B, o, none⟩) (show B < _ from cell_lt hc)).trans hf⟩
noncomputable def Box6.B {n0 : Nat} {u : Value} {w : World} (h : Box6 n0 u w) : Nat := Exists.choose h
theorem Box6.spec {n0 : Nat} {u : Value} {w : World} (h : Box6 n0 u w) : u = .pointer (some ⟨h.B, 0, none⟩) ∧ n0 ≤ h.B ∧ ∀ o, o < 6 → (∃ x, w.cell? ⟨h.B, o, none⟩ = some x) ∧ w.frozen? ⟨h.B, o, none⟩ = false := Exists.choose_spec h
def set6 (w : World) (B : Nat) (a b c d e f : Value) : World := (((((w.setCell ⟨B, 0, none⟩ a).setCell ⟨B, 1, none⟩ b).setCell ⟨B, 2, none⟩ c).setCell ⟨B, 3, none⟩ d).setCell ⟨B, 4, none⟩ e).setCell ⟨B, 5, none⟩ f
theorem set6_cells {w : World} {B : Nat} (h : ∀ o, o < 6 → ∃ x, w.cell? ⟨B, o, none⟩ = some x) (a b c d e f : Value) :
    (set6 w B a b c d e f).cell? ⟨B, 0, none⟩ = some a ∧ (set6 w B a b c d e f).cell? ⟨B, 1, none⟩ = some b ∧ (set6 w B a b c d e f).cell? ⟨B, 2, none⟩ = some c ∧ (set6 w B a b c d e f).cell? ⟨B, 3, none⟩ = some d ∧ (set6 w B a b c d e f).cell? ⟨B, 4, none⟩ = some e ∧ (set6 w B a b c d e f).cell? ⟨B, 5, none⟩ = some f := by
  obtain ⟨x0, h0⟩ := h 0 (by omega)
  obtain ⟨x1, h1⟩ := h 1 (by omega)
  obtain ⟨x2, h2⟩ := h 2 (by omega)
  obtain ⟨x3, h3⟩ := h 3 (by omega)
  obtain ⟨x4, h4⟩ := h 4 (by omega)
  obtain ⟨x5, h5⟩ := h 5 (by omega)
  refine ⟨set_other (set_other (set_other (set_other (set_other (set_cell h0 a) (.inr (by simp)) b) (.inr (by simp)) c) (.inr (by simp)) d) (.inr (by simp)) e) (.inr (by simp)) f,
    set_other (set_other (set_other (set_other (set_cell (set_other h1 (.inr (by simp)) a) b) (.inr (by simp)) c) (.inr (by simp)) d) (.inr (by simp)) e) (.inr (by simp)) f,
    set_other (set_other (set_other (set_cell (set_other (set_other h2 (.inr (by simp)) a) (.inr (by simp)) b) c) (.inr (by simp)) d) (.inr (by simp)) e) (.inr (by simp)) f,
    set_other (set_other (set_cell (set_other (set_other (set_other h3 (.inr (by simp)) a) (.inr (by simp)) b) (.inr (by simp)) c) d) (.inr (by simp)) e) (.inr (by simp)) f,
    set_other (set_cell (set_other (set_other (set_other (set_other h4 (.inr (by simp)) a) (.inr (by simp)) b) (.inr (by simp)) c) (.inr (by simp)) d) e) (.inr (by simp)) f,
    set_cell (set_other (set_other (set_other (set_other (set_other h5 (.inr (by simp)) a) (.inr (by simp)) b) (.inr (by simp)) c) (.inr (by simp)) d) (.inr (by simp)) e) f⟩
theorem Ext.set6 {a w : World} (h : Ext a w) {B : Nat} (hB : a.heap.size ≤ B) (p q r s t u : Value) : Ext a (set6 w B p q r s t u) :=
  (((((h.setCell (p := ⟨B, 0, none⟩) hB _).setCell (p := ⟨B, 1, none⟩) hB _).setCell (p := ⟨B, 2, none⟩) hB _).setCell (p := ⟨B, 3, none⟩) hB _).setCell (p := ⟨B, 4, none⟩) hB _).setCell (p := ⟨B, 5, none⟩) hB _
theorem neq_empty {s : ByteArray} (h : ¬ s = ByteArray.empty) : (s != ByteArray.empty) = true := by
  cases hb : (s == ByteArray.empty)
  · rw [bne, hb]; rfl
  · obtain ⟨d⟩ := s
    have hd : (d == #[]) = true := hb
    exact absurd (by rw [eq_of_beq hd]; rfl) h
/-- the error of a mark -/
def markErrM (m : Mark) (l : List ByteArray) : Int :=
  if ¬ (0 ≤ m.kind ∧ m.kind ≤ 3) then 7
  else if (kWr m.kind.toNat && !wordM m.word || !kWr m.kind.toNat && !(m.word.toList == [])) = true then 6
  else if l.length < kW m.kind.toNat then 4
  else if m.kind = 1 ∧ (l.headD ByteArray.empty).toList = m.word.toList then 5 else 0

set_option maxRecDepth 100000 in
set_option maxHeartbeats 1500000 in
theorem markError_any (v : Value) (m : Mark) (l : List ByteArray) (w : World) (hk : I64 m.kind) (hm : m.word.size ≤ 9223372036854775807) (hl : StrsAt w v l) :
    Calls Tryz.prog 113 #[.agg #[.int .i64 m.kind, .string m.word], v] w fun e w' => e = .returned (.int .i64 (markErrM m l)) ∧ Ext w w' := by
  obtain ⟨la, lc, rfl, hlc, hlm⟩ := hl.shape
  obtain ⟨kd, wd⟩ := m
  simp only at hk hm
  obtain ⟨er, her⟩ : ∃ er, markErrM ⟨kd, wd⟩ l = er := ⟨_, rfl⟩
  rw [her]
  have Her := Lib.hid her
  clear her
  go_enter Tryz.func113, Tryz.ntmps113
  go_wp2_with fail
  refine (within_any _ _ _ [kd] _ (IntsAt.oneAt (by simp) hk)).mono ?_
  rintro e w3 ⟨rfl, rfl⟩
  rw [withinM_one]
  cases hin : inM kd 0 3
  · have he : er = 7 := by
      rw [← Her.out, markErrM, if_pos]
      intro hh
      rw [show inM kd 0 3 = true from by simp [inM]; omega] at hin
      cases hin
    go_wp2_with fail
    go_ret
    exact ⟨by rw [he]; rfl, (by first | (with_reducible exact Ext.refl _) | (with_reducible assumption) | (show Below _ _ _; go_grown; done))⟩
  · have hin' := inM_true (by rw [hin]; decide)
    obtain ⟨k, rfl⟩ : ∃ k : Nat, kd = (k : Int) := ⟨kd.toNat, by omega⟩
    have hk3 : k ≤ 3 := by omega
    have k5 : (k : Int) < 5 := by omega
    obtain ⟨W, hW⟩ : ∃ W, W = (w.alloc (.cells #[.int .i64 (k : Int), .string wd] 152)).alloc (.cells #[.int .i64 (k : Int)] 3) := ⟨_, rfl⟩
    have xW : Ext w W := by rw [hW]; exact (ext_alloc _ _).alloc _
    have c0 : W.cell? ⟨w.heap.size, 0, none⟩ = some (.int .i64 (k : Int)) := by rw [hW]; simp [go_sem]
    have c1 : W.cell? ⟨w.heap.size, 1, none⟩ = some (.string wd) := by rw [hW]; simp [go_sem]
    have hlW := hl.ext xW
    rw [← hW]
    clear hW hin hin'
    go_wp2_with fail
    apply Facts.Peel.wp_regionL (⟨fun _ _ h => h, fun _ _ _ h k => h.trans k, fun _ _ _ h k => h.trans k, Ext.refl, fun a => ext_drew a⟩ : Facts.Piv.Two Ext Ext) 6 5 [.fact KindsV, .val _, .val (.int .i64 (k : Int)), .fact (KindPt k), .val (kindVal k), .fact (Box6 W.heap.size)] (by kernel_rfl) (by kernel_rfl) (by kernel_rfl) (by kernel_rfl) (by kernel_rfl) (by kernel_rfl) ?keep ?main
    case keep => exact ⟨fun u a c hx h => h.ext hx, fun _ _ u a c hx h => h.ext hx, fun u a c hx h => h.ext hx, fun _ _ u a c hx h => h.ext hx, fun u a c hx h => h.ext hx, fun _ _ u a c hx h => h.ext hx, trivial⟩
    case main =>
      simp only [List.take_succ_cons, List.take_zero, List.getD_cons_succ, List.getD_cons_zero]
      refine ⟨fun w1 hx hh => ?_, ?_⟩
      · clear hh
        go_simp
        refine (kinds_any w1).mono ?_
        rintro e w' ⟨⟨B, rfl, hkk⟩, hx2⟩
        exact ⟨_, rfl, hx2, B, rfl, hkk⟩
      intro u11
      iterate 2 (refine ⟨fun w1 hx hh => ?_, ?_⟩; focus (clear hh; (have f0 := hx.cell c0; have f1 := hx.cell c1); go_simp; first | exact ⟨Ext.refl _, rfl⟩ | exact Ext.refl _))
      refine ⟨fun w1 hx hh => ?_, ?_⟩
      · have h0 : KindsV u11 w1 := hh 0 _ List.mem_cons_self (by kernel_rfl)
        clear hh
        have s0 := h0.spec
        generalize h0.B = B at *
        have e0 := s0.1
        have g0 := s0.2.get k (by omega)
        clear s0 h0
        subst e0
        go_simp
        first | exact ⟨Ext.refl _, B, rfl, g0⟩ | exact ⟨B, rfl, g0⟩
      intro u14
      refine ⟨fun w1 hx hh => ?_, ?_⟩
      · have h3 : KindPt k u14 w1 := hh 3 _ List.mem_cons_self (by kernel_rfl)
        clear hh
        have s3 := h3.spec
        generalize h3.B = B at *
        have e3 := s3.1
        have g0 := s3.2.c0
        have g1 := s3.2.c1
        have g2 := s3.2.c2
        have g3 := s3.2.c3
        have g4 := s3.2.c4
        have g5 := s3.2.c5
        clear s3 h3
        subst e3
        go_simp
        first | exact ⟨Ext.refl _, rfl⟩ | exact Ext.refl _
      refine ⟨fun w1 hx hh => ?_, ?_⟩
      · clear hh
        have hsz := hx.size
        go_simp
        exact ⟨ext_alloc _ _, w1.heap.size, rfl, hsz, fun o ho => by
          have : o = 0 ∨ o = 1 ∨ o = 2 ∨ o = 3 ∨ o = 4 ∨ o = 5 := by omega
          rcases this with rfl | rfl | rfl | rfl | rfl | rfl <;> exact ⟨⟨_, by simp [go_sem]; rfl⟩, by simp [go_sem]⟩⟩
      intro u5
      intro w5 hx hh
      have h5 : Box6 W.heap.size u5 w5 := hh 5 _ List.mem_cons_self
      clear hh
      refine ⟨rfl, ?_⟩
      have s5 := h5.spec
      generalize h5.B = B at *
      have e5 := s5.1
      have hB := s5.2.1
      have hc := fun o ho => (s5.2.2 o ho).1
      have hf0 := (s5.2.2 0 (by omega)).2
      have hf1 := (s5.2.2 1 (by omega)).2
      have hf2 := (s5.2.2 2 (by omega)).2
      have hf3 := (s5.2.2 3 (by omega)).2
      have hf4 := (s5.2.2 4 (by omega)).2
      have hf5 := (s5.2.2 5 (by omega)).2
      have v0 := (hc 0 (by omega)).choose_spec
      have v1 := (hc 1 (by omega)).choose_spec
      have v2 := (hc 2 (by omega)).choose_spec
      have v3 := (hc 3 (by omega)).choose_spec
      have v4 := (hc 4 (by omega)).choose_spec
      have v5 := (hc 5 (by omega)).choose_spec
      generalize (hc 0 (by omega)).choose = y0 at *
      generalize (hc 1 (by omega)).choose = y1 at *
      generalize (hc 2 (by omega)).choose = y2 at *
      generalize (hc 3 (by omega)).choose = y3 at *
      generalize (hc 4 (by omega)).choose = y4 at *
      generalize (hc 5 (by omega)).choose = y5 at *
      have h6 := set6_cells hc (.int .i64 (kW k : Nat)) (.int .i64 (kS k : Nat)) (.int .i64 (kC k : Nat)) (.bool (kWr k)) (.func (.func (canF k)) #[] #[]) (.func (.func (becF k)) #[] #[])
      have x6 := hx.set6 hB (.int .i64 (kW k : Nat)) (.int .i64 (kS k : Nat)) (.int .i64 (kC k : Nat)) (.bool (kWr k)) (.func (.func (canF k)) #[] #[]) (.func (.func (becF k)) #[] #[])
      have zB := cell_lt v0
      clear s5 h5 hc
      subst e5
      unfold kindVal
      go_simp
      have d0 := x6.cell c0
      have d1 := x6.cell c1
      have hl6 := hlW.ext x6
      obtain ⟨W6, hW6⟩ : ∃ W6, W6 = set6 w5 B (.int .i64 (kW k : Nat)) (.int .i64 (kS k : Nat)) (.int .i64 (kC k : Nat)) (.bool (kWr k)) (.func (.func (canF k)) #[] #[]) (.func (.func (becF k)) #[] #[]) := ⟨_, rfl⟩
      have HW6 := Lib.hid hW6
      rw [← hW6] at h6 x6 d0 d1 hl6
      clear hW6
      rw [show (((((w5.setCell ⟨B, 0, none⟩ (.int .i64 (kW k : Nat))).setCell ⟨B, 1, none⟩ (.int .i64 (kS k : Nat))).setCell ⟨B, 2, none⟩ (.int .i64 (kC k : Nat))).setCell ⟨B, 3, none⟩ (.bool (kWr k))).setCell ⟨B, 4, none⟩ (.func (.func (canF k)) #[] #[])).setCell ⟨B, 5, none⟩ (.func (.func (becF k)) #[] #[]) = W6 from HW6.out.symm]
      have b0 := h6.1
      have b3 := h6.2.2.2.1
      have her : er = if (kWr k && !wordM wd || !kWr k && !(wd.toList == [])) = true then 6 else if l.length < kW k then 4 else if (k : Int) = 1 ∧ (l.headD ByteArray.empty).toList = wd.toList then 5 else 0 := by
        rw [← Her.out, markErrM, if_neg (by show ¬ ¬ ((0 : Int) ≤ (k : Int) ∧ (k : Int) ≤ 3); omega)]
        rfl
      clear h6 v0 v1 v2 v3 v4 v5 hf0 hf1 hf2 hf3 hf4 hf5 HW6 Her c0 c1 hlW hx hl zB
      have zB := cell_lt b0
      have zd := cell_lt d0
      have X6 := Lib.hid x6
      clear x6
      by_cases hk1 : (k : Int) = 1
      · obtain rfl : k = 1 := by omega
        simp only [kW, kWr, Bool.true_and, Bool.not_true, Bool.false_and, Bool.or_false] at her b0 b3
        simp only [Int.natCast_one] at *
        go_wp2_with fail
        refine (isWord_any wd _ hm).mono ?_
        rintro e w7 ⟨rfl, hx7⟩
        have X7 := Lib.hid (X6.out.trans hx7)
        have p0 := hx7.cell d0
        have p1 := hx7.cell d1
        have p2 := hx7.cell b0
        have p3 := hx7.cell b3
        have hl7 := Lib.hid (hl6.ext hx7)
        clear hx7 X6 d0 d1 b0 b3 hl6 hk1
        cases hwm : wordM wd
        · have h2 : er = 6 := by rw [her, hwm]; rfl
          go_wp2_with fail
          go_ret
          exact ⟨by first | rfl | (rw [h2]; rfl), xW.trans X7.out⟩
        · have her2 : er = if l.length < 1 then 4 else if (1 : Int) = 1 ∧ (l.headD ByteArray.empty).toList = wd.toList then 5 else 0 := by rw [her, hwm]; simp
          have Her2 := Lib.hid her2
          clear her her2
          by_cases hlw : l.length < 1
          · have h2 : er = 4 := by rw [Her2.out, if_pos hlw]
            have k2 : (l.length : Int) < 1 := by omega
            go_wp2_with fail
            go_ret
            exact ⟨by first | rfl | (rw [h2]; rfl), xW.trans X7.out⟩
          · have k2 : ¬ (l.length : Int) < 1 := by omega
            have hl0 : 0 < l.length := by omega
            have k3 : (0 : Int) < (l.length : Int) := by omega
            obtain ⟨sb, so, rfl, r0, -⟩ := (hl7.out).get hl0
            simp only [Nat.zero_mul, Nat.add_zero] at r0
            have hh0 : l.headD ByteArray.empty = l[0] := by cases l with | nil => simp at hl0 | cons x r => rfl
            rw [hh0] at Her2
            generalize l[0] = x0 at *
            have zs := cell_lt r0
            go_wp2_with fail
            apply Facts.wp_region [.val _, .val _, .val _, .val _, .val _, .val _, .val _, .val _, .val _, .val _, .val _] (by kernel_rfl) (by kernel_rfl) trivial ?main
            case main =>
              iterate 11 (refine ⟨fun w1 hx hh => ?_, ?_⟩; focus (clear hh; (have f0 := hx.cell p0; have f1 := hx.cell p1; have f2 := hx.cell r0); go_simp; first | exact ⟨Ext.refl _, rfl⟩ | exact Ext.refl _))
              intro w9 hx9 hh
              clear hh
              by_cases hxw : x0.toList = wd.toList
              · have h2 : er = 5 := by rw [Her2.out, if_neg hlw, if_pos (by simp [hxw])]
                have hxb : (x0.toList == wd.toList) = true := by simpa using hxw
                go_simp
                go_wp2
                go_ret
                exact ⟨by first | rfl | (rw [h2]; rfl), (xW.trans X7.out).trans hx9⟩
              · have h2 : er = 0 := by rw [Her2.out, if_neg hlw, if_neg (fun h => hxw h.2)]
                have hxb : (x0.toList == wd.toList) = false := by simpa using hxw
                go_simp
                go_wp2
                go_ret
                exact ⟨by first | rfl | (rw [h2]; rfl), (xW.trans X7.out).trans hx9⟩
      · generalize kW k = kw at *
        cases hkr : kWr k
        · rw [hkr] at her b3
          simp only [Bool.false_and, Bool.not_false, Bool.true_and, Bool.false_or] at her
          by_cases hwe : wd.toList = []
          · have hwb : (!(wd.toList == [])) = false := by rw [hwe]; rfl
            have hwl : (wd.toList == []) = true := by rw [hwe]; rfl
            rw [hwb] at her
            simp only [Bool.false_eq_true, if_false] at her
            have Her2 := Lib.hid her
            have X7 := X6
            have p0 := d0
            have p1 := d1
            clear her hwb
            by_cases hlw : l.length < kw
            · have h2 : er = 4 := by rw [Her2.out, if_pos hlw]
              have k2 : (l.length : Int) < (kw : Int) := by omega
              go_wp2_with fail
              go_ret
              exact ⟨by first | rfl | (rw [h2]; rfl), xW.trans X7.out⟩
            · have h2 : er = 0 := by rw [Her2.out, if_neg hlw, if_neg (fun h => hk1 h.1)]
              have k2 : ¬ (l.length : Int) < (kw : Int) := by omega
              have k3 : ((k : Int) == 1) = false := by simpa using hk1
              go_wp2_with fail
              apply Facts.wp_region [.val _, .val _, .val _, .val _, .val _, .val _, .val _, .val _, .val _, .val _, .val _] (by kernel_rfl) (by kernel_rfl) trivial ?main
              case main =>
                iterate 11 (refine ⟨fun w1 hx hh => ?_, ?_⟩; focus (clear hh; (have f0 := hx.cell p0; have f1 := hx.cell p1); go_simp; first | exact ⟨Ext.refl _, rfl⟩ | exact Ext.refl _))
                intro w9 hx9 hh
                clear hh
                go_simp
                go_wp2
                go_ret
                exact ⟨by first | rfl | (rw [h2]; rfl), (xW.trans X7.out).trans hx9⟩
          · have hwb : (!(wd.toList == [])) = true := by simpa using hwe
            have h2 : er = 6 := by rw [her, if_pos hwb]
            have hie : (!wd.toList.isEmpty) = true := by simpa using hwe
            clear hwb hwe her
            go_wp2_with fail
            go_ret
            exact ⟨by first | rfl | (rw [h2]; rfl), xW.trans X6.out⟩
        · rw [hkr] at her b3
          simp only [Bool.true_and, Bool.not_true, Bool.false_and, Bool.or_false] at her
          go_wp2_with fail
          refine (isWord_any wd _ hm).mono ?_
          rintro e w7 ⟨rfl, hx7⟩
          have X7 := Lib.hid (X6.out.trans hx7)
          have p0 := hx7.cell d0
          have p1 := hx7.cell d1
          have p2 := hx7.cell b0
          have p3 := hx7.cell b3
          clear hx7 X6 d0 d1 b0 b3 hl6
          cases hwm : wordM wd
          · have h2 : er = 6 := by rw [her, hwm]; rfl
            go_wp2_with fail
            go_ret
            exact ⟨by first | rfl | (rw [h2]; rfl), xW.trans X7.out⟩
          · rw [hwm] at her
            simp only [Bool.not_true, Bool.false_eq_true, if_false] at her
            have Her2 := Lib.hid her
            clear her
            by_cases hlw : l.length < kw
            · have h2 : er = 4 := by rw [Her2.out, if_pos hlw]
              have k2 : (l.length : Int) < (kw : Int) := by omega
              go_wp2_with fail
              go_ret
              exact ⟨by first | rfl | (rw [h2]; rfl), xW.trans X7.out⟩
            · have h2 : er = 0 := by rw [Her2.out, if_neg hlw, if_neg (fun h => hk1 h.1)]
              have k2 : ¬ (l.length : Int) < (kw : Int) := by omega
              have k3 : ((k : Int) == 1) = false := by simpa using hk1
              go_wp2_with fail
              apply Facts.wp_region [.val _, .val _, .val _, .val _, .val _, .val _, .val _, .val _, .val _, .val _, .val _] (by kernel_rfl) (by kernel_rfl) trivial ?main
              case main =>
                iterate 11 (refine ⟨fun w1 hx hh => ?_, ?_⟩; focus (clear hh; (have f0 := hx.cell p0; have f1 := hx.cell p1); go_simp; first | exact ⟨Ext.refl _, rfl⟩ | exact Ext.refl _))
                intro w9 hx9 hh
                clear hh
                go_simp
                go_wp2
                go_ret
                exact ⟨by first | rfl | (rw [h2]; rfl), (xW.trans X7.out).trans hx9⟩
end Go.Proofs.YtnfbhicoknpojaaGreat

namespace Go.Proofs.YtnfbhicoknpojaaGreat
set_option linter.unusedSimpArgs false
set_option linter.unusedVariables false
open Go.RowKit
set_option linter.unusedVariables false

def ButR (own : Option Nat) (w w' : World) : Prop := w.grownBy w' own
theorem ButR.of_ext {own : Option Nat} {w w' : World} (h : Ext w w') : ButR own w w' := ⟨Below.os h, Below.tape h, Below.output h, Below.size h, fun k hk _ => Below.block h k hk⟩
theorem two_butR (own : Option Nat) : Facts.Piv.Two Ext (ButR own) :=
  ⟨fun _ _ h => ButR.of_ext h, fun _ _ _ h k => h.trans k, fun _ _ _ h k => World.grownBy.trans h k, fun _ => Ext.refl _, fun w => ext_drew w⟩
/-- words that lie in no row of one's own -/
def NewL (own : Option Nat) (l : List ByteArray) (u : Value) (w : World) : Prop := ∃ sa sc, u = .slice sa l.length sc ∧ StrsAt w (.slice sa l.length sc) l ∧ ∀ ad, sa = some ad → some ad.block ≠ own
theorem NewL.ext {own : Option Nat} {l : List ByteArray} {u : Value} {w w' : World} (h : NewL own l u w) (hx : Ext w w') : NewL own l u w' := by
  obtain ⟨sa, sc, e, h1, h2⟩ := h
  exact ⟨sa, sc, e, h1.ext hx, h2⟩
theorem NewL.but {own : Option Nat} {l : List ByteArray} {u : Value} {w w' : World} (h : NewL own l u w) (hx : ButR own w w') : NewL own l u w' := by
  obtain ⟨sa, sc, e, h1, h2⟩ := h
  exact ⟨sa, sc, e, h1.grownBy hx h2, h2⟩
theorem NewL.at_ {own : Option Nat} {l : List ByteArray} {u : Value} {w : World} (h : NewL own l u w) : StrsAt w u l := by
  obtain ⟨sa, sc, rfl, h1, h2⟩ := h
  exact h1
theorem stepG_append_strs {ops : Array Oper} {o : Oper} {a : Act} {w : World} {S : Value → World → Prop} (hgd : o.guard = none) (s x : Operand) (t : TypeId)
    (ho : o.op = .call { callee := .builtin .append, args := #[s, x], argTypes := #[t, t] })
    (base : Nat) (i : TypeInfo) (ht : Tryz.prog.underlying t = some (.slice 9)) (hi : Tryz.prog.info? 9 = some i) (hz : i.zero = some (.string ByteArray.empty)) (hsize : i.size = 1) (hby : i.bytes = 16)
    (v : Value) (l0 : List ByteArray) (hs : a.eval s = v) (hown : RowW base l0 v w) (sv : Value) (hxv : a.eval x = sv) (l : List ByteArray) (hl : StrsAt w sv l) (hb : (l0.length + l.length) * 16 ≤ 140737488355328) (hbase : base ≤ w.heap.size)
    (h : ∀ v' w', RowW base (l0 ++ l) v' w' → w.grownBy w' v.ownBlock → S v' w') : Facts.stepG Tryz.prog ops o a w S := by
  obtain ⟨v', w', hr, h2, h3, h5⟩ := run_append_strs base t o.type i ht hi hz hsize hby v l0 hown sv l hl hb hbase
  unfold Facts.stepG
  rw [if_pos (by unfold Region.wanted; rw [hgd])]
  unfold execOp
  simp only [ho, resolve, invoke, builtin, Sem.run_bind, Sem.run_pure, Result.andThen_ok, List.map_toArray, List.map_cons, List.map_nil, hs, hxv, hr]
  exact h v' w' h2 h3
theorem comesNew_any (u : Value) (s : ByteArray) (hs : s.size ≤ 9223372036854775807) (w : World) : Calls Tryz.prog 123 #[u, .string s] w fun e w' => (∃ g, e = .returned (.slice (some ⟨g, 0, none⟩) 1 1) ∧ w.heap.size ≤ g ∧ StrsAt w' (.slice (some ⟨g, 0, none⟩) 1 1) [s]) ∧ Ext w w' := by
  go_enter Tryz.func123, Tryz.ntmps123
  go_wp2
  go_ret
  refine ⟨⟨_, rfl, by simp, _, _, rfl, by simp, by decide, fun i hi => ⟨_, _, rfl, ?_⟩⟩, (by first | (with_reducible exact Ext.refl _) | (with_reducible assumption) | (show Below _ _ _; go_grown; done))⟩
  obtain rfl : i = 0 := by simp at hi; omega
  exact ⟨by simp [go_sem], hs⟩
/-- what stands there instead -/
def becM : Nat → List ByteArray → ByteArray → List ByteArray
  | 0, ws, _ => ws.take 1
  | 1, _, s => [s]
  | 3, _, s => [s]
  | _, _, _ => []
theorem becF_enters (k : Nat) (hk : k < 4) : ∀ args w, (callFunc (becF k) args).run Tryz.prog w = .ok (.enter (becF k) args) w := by
  have : k = 0 ∨ k = 1 ∨ k = 2 ∨ k = 3 := by omega
  rcases this with rfl | rfl | rfl | rfl
  · exact enters_of Tryz.func121 (by kernel_rfl) rfl
  · exact enters_of Tryz.func123 (by kernel_rfl) rfl
  · exact enters_of Tryz.func122 (by kernel_rfl) rfl
  · exact enters_of Tryz.func123 (by kernel_rfl) rfl
theorem bec_any (k : Nat) (hk : k < 4) (own : Option Nat) (a : Option Addr) (n c : Nat) (ws : List ByteArray) (s : ByteArray) (hs : s.size ≤ 9223372036854775807) (w : World) (hu : StrsAt w (.slice a n c) (ws.take (kW k))) (h1 : kW k ≤ ws.length)
    (ha : k = 0 → ∀ ad, a = some ad → some ad.block ≠ own) (ho : ∀ b, own = some b → b < w.heap.size) :
    Calls Tryz.prog (becF k) #[.slice a n c, .string s] w fun e w' => ∃ r, e = .returned r ∧ NewL own (becM k ws s) r w' ∧ Ext w w' := by
  have : k = 0 ∨ k = 1 ∨ k = 2 ∨ k = 3 := by omega
  have come : ∀ u, Calls Tryz.prog 123 #[u, .string s] w fun e w' => ∃ r, e = .returned r ∧ NewL own [s] r w' ∧ Ext w w' := fun u => by
    refine (comesNew_any u s hs w).mono ?_
    rintro e w' ⟨⟨g, rfl, hg, h2⟩, hx⟩
    exact ⟨_, rfl, ⟨_, _, rfl, h2, fun ad e h => by
      obtain rfl := Option.some.inj e
      have := ho _ h.symm
      simp at this
      omega⟩, hx⟩
  rcases this with rfl | rfl | rfl | rfl
  · refine (stays_any a n c (.string s) w).mono ?_
    rintro e w' ⟨rfl, hx⟩
    have hn : n = (ws.take 1).length := hu.len.1
    subst hn
    exact ⟨_, rfl, ⟨a, c, rfl, hu.ext hx, ha rfl⟩, hx⟩
  · exact come _
  · refine (goes_any (.slice a n c) (.string s) w).mono ?_
    rintro e w' ⟨rfl, hx⟩
    exact ⟨_, rfl, ⟨none, 0, rfl, SliceAt.nil, fun ad e => by cases e⟩, hx⟩
  · exact come _
/-- what a letter becomes by marks: what is left, what it has become, and the first error -/
def markedF : List Mark → List ByteArray → List ByteArray → List ByteArray × List ByteArray × Int
  | [], left, out => (left, out, 0)
  | m :: r, left, out => if markErrM m left ≠ 0 then (left, out, markErrM m left) else markedF r (left.drop (kW m.kind.toNat)) (out ++ becM m.kind.toNat left m.word)
end Go.Proofs.YtnfbhicoknpojaaGreat

namespace Go.Proofs.YtnfbhicoknpojaaGreat
set_option linter.unusedSimpArgs false
set_option linter.unusedVariables false
open Go.RowKit
set_option linter.unusedVariables false

theorem no_falseB {b : Bool} (h : b = false) (h2 : b = true) : False := by rw [h] at h2; cases h2
theorem markErr_ok {m : Mark} {l : List ByteArray} (h : markErrM m l = 0) : ∃ k : Nat, k ≤ 3 ∧ m.kind = k ∧ kW k ≤ l.length := by
  unfold markErrM at h
  split at h
  · cases h
  rename_i h1
  split at h
  · cases h
  split at h
  · cases h
  rename_i h2
  have h1' : 0 ≤ m.kind ∧ m.kind ≤ 3 := Decidable.not_not.1 h1
  exact ⟨m.kind.toNat, by omega, by omega, by omega⟩
theorem strs_take {w : World} {a : Option Addr} {n c : Nat} {l : List ByteArray} (h : StrsAt w (.slice a n c) l) (k : Nat) (hk : k ≤ l.length) : StrsAt w (.slice a k c) (l.take k) := by
  obtain ⟨a', c', e, h2, h3, h4⟩ := h
  obtain ⟨rfl, rfl, rfl⟩ := Value.slice.inj e
  have hlen : (l.take k).length = k := by rw [List.length_take]; omega
  refine ⟨_, _, by rw [hlen], by rw [hlen]; omega, h3, fun j hj => ?_⟩
  rw [hlen] at hj
  obtain ⟨b, o, e2, r⟩ := h4 j (by omega)
  exact ⟨b, o, e2, by rw [List.getElem_take]; exact r⟩
theorem becM_len (k : Nat) (ws : List ByteArray) (s : ByteArray) : (becM k ws s).length ≤ 1 := by
  unfold becM
  split <;> simp <;> omega
/-- the words that lie below, and how they are handed on -/
def LieL (S : Nat) (l : List ByteArray) (u : Value) (w : World) : Prop := ∃ a c, u = .slice a l.length c ∧ StrsAt w (.slice a l.length c) l ∧ ∀ ad, a = some ad → l.length ≠ 0 → ad.block < S
theorem lie_drop {S : Nat} {l : List ByteArray} {a : Option Addr} {c : Nat} {w : World} (h : LieL S l (.slice a l.length c) w) (k : Nat) (hk : k ≤ l.length) : LieL S (l.drop k) (.slice (if c = k then a else a.map fun x => x.add (k * 1)) (l.length - k) (c - k)) w := by
  obtain ⟨a', c', e, h1, h2⟩ := h
  obtain ⟨rfl, -, rfl⟩ := Value.slice.inj e
  have h3 := StrsAt.sliced h1 k hk
  rw [show l.length - k = (l.drop k).length from by rw [List.length_drop]] at h3 ⊢
  refine ⟨_, _, rfl, h3, fun ad e h0 => ?_⟩
  rw [List.length_drop] at h0
  split at e
  · exact h2 ad e (by omega)
  · obtain ⟨ad', e2, rfl⟩ := Option.map_eq_some_iff.1 e
    have := h2 ad' e2 (by omega)
    simp only [Addr.add]
    split <;> exact this
structure MarkedR where
  words : List ByteArray
  err : Int
def markedM (ms : List Mark) (l : List ByteArray) : MarkedR :=
  if (markedF ms l []).2.2 ≠ 0 then ⟨[], (markedF ms l []).2.2⟩
  else if 0 < (markedF ms l []).1.length then ⟨[], 2⟩
  else if 15 < (markedF ms l []).2.1.length then ⟨[], 3⟩
  else ⟨(markedF ms l []).2.1, 0⟩
set_option maxRecDepth 100000 in
set_option maxHeartbeats 3000000 in
theorem marked_any (lv mv : Value) (l : List ByteArray) (ms : List Mark) (w : World) (hl : StrsAt w lv l) (hm : MarksAt w mv ms) (h30 : ms.length ≤ 30) :
    Calls Tryz.prog 81 #[lv, mv] w fun e w' => ∃ u, e = .returned (.tuple #[u, .int .i64 (markedM ms l).err]) ∧ RowW w.heap.size (markedM ms l).words u w' ∧ Ext w w' := by
  obtain ⟨ma, mc, rfl, hmc, hmm⟩ := hm.shape
  obtain ⟨la, lc, rfl, hlc, hlm⟩ := hl.shape
  obtain ⟨i0, hi, hz0, hz1, hz2⟩ := info_parts infoString
  obtain ⟨R, hR⟩ : ∃ R, markedM ms l = R := ⟨_, rfl⟩
  obtain ⟨F, ee⟩ := R
  rw [hR]
  have HR := Lib.hid hR
  clear hR
  simp only
  have hlie : LieL w.heap.size l (.slice la l.length lc) w := ⟨la, lc, rfl, hl, fun ad e h0 => by
    obtain ⟨b, o, e2, r⟩ := hl.get (i := 0) (by omega)
    rw [e2] at e
    obtain rfl := Option.some.inj e
    exact cell_lt r.1⟩
  go_enter Tryz.func81, Tryz.ntmps81
  go_wp2_with fail
  go_loopw [0, 6, 13] (fun lu v i wr => ∃ (k : Nat) (left out : List ByteArray), k ≤ ms.length ∧ i = .int .i64 k ∧ Ext w wr ∧ LieL w.heap.size left lu wr ∧ RowW w.heap.size out v wr ∧ out.length ≤ k ∧ markedF (ms.drop k) left out = markedF ms l []) (fun _ _ i _ => ms.length - (intOf i).toNat)
  case atStart => exact ⟨0, l, [], Nat.zero_le _, rfl, Ext.refl _, hlie, RowW.nil, Nat.le_refl _, rfl⟩
  case round =>
    obtain ⟨k0, left, out, hk0, rfl, hxr, ⟨xa, xc, rfl, hsl, hlow⟩, hrow, hout, hmk⟩ := hrel
    have hzr := hxr.size
    obtain ⟨-, hc1, hc2⟩ := hsl.len
    by_cases hlt : k0 < ms.length
    · have k1 : (k0 : Int) < (ms.length : Int) := by omega
      obtain ⟨mb, mo, rfl, r0, r1, hI, hS⟩ := (hm.ext hxr).get hlt
      have zm := cell_lt r0
      have hd : ms.drop k0 = ms[k0] :: ms.drop (k0 + 1) := List.drop_eq_getElem_cons hlt
      rw [hd] at hmk
      generalize ms[k0] = m at *
      obtain ⟨kd, wd⟩ := m
      simp only at r0 r1 hI hS
      rw [markedF] at hmk
      obtain ⟨W, hW⟩ : ∃ W, W = wr.alloc (.cells #[.int .i64 kd, .string wd] 152) := ⟨_, rfl⟩
      have xW : Ext wr W := by rw [hW]; exact ext_alloc _ _
      have c0 : W.cell? ⟨wr.heap.size, 0, none⟩ = some (.int .i64 kd) := by rw [hW]; simp [go_sem]
      have c1 : W.cell? ⟨wr.heap.size, 1, none⟩ = some (.string wd) := by rw [hW]; simp [go_sem]
      have hmE := markError_any (.slice xa left.length xc) ⟨kd, wd⟩ left W hI hS (hsl.ext xW)
      simp only at hmE
      rw [hW] at hmE
      have Hmk := Lib.hid hmk
      have Hd := Lib.hid hd
      have Hrow := Lib.hid hrow
      have Hsl := Lib.hid hsl
      have Hlow := Lib.hid hlow
      have Hout := Lib.hid hout
      have HW := Lib.hid hW
      clear hmk hd hrow hsl hlow hlie hl hout hW
      go_wp2_with fail
      refine hmE.mono ?_
      rintro e w2 ⟨rfl, hx2⟩
      rw [← HW.out] at hx2
      have x2 : Ext wr w2 := xW.trans hx2
      replace c0 := hx2.cell c0
      replace c1 := hx2.cell c1
      have z2 := cell_lt c0
      clear hmE hx2 xW HW
      obtain ⟨er, her⟩ : ∃ er, markErrM ⟨kd, wd⟩ left = er := ⟨_, rfl⟩
      have hmk2 := Hmk.out
      rw [her] at hmk2 ⊢
      by_cases h0 : er = 0
      · subst h0
        obtain ⟨k, hk3, hkd, hkW⟩ := markErr_ok her
        simp only at hkd
        subst hkd
        rw [if_neg (by simp)] at hmk2
        simp only [Int.toNat_natCast] at hmk2
        have Hmk2 := Lib.hid hmk2
        have k5 : (k : Int) < 5 := by omega
        clear hmk2 her Hmk
        go_wp2_with fail
        obtain ⟨W, hWW⟩ : ∃ W, W = w2 := ⟨_, rfl⟩
        subst hWW
        apply Facts.Peel.wp_regionL (⟨fun _ _ h => h, fun _ _ _ h k => h.trans k, fun _ _ _ h k => h.trans k, Ext.refl, fun a => ext_drew a⟩ : Facts.Piv.Two Ext Ext) 6 5 [.fact KindsV, .val _, .val (.int .i64 (k : Int)), .fact (KindPt k), .val (kindVal k), .fact (Box6 W.heap.size)] (by kernel_rfl) (by kernel_rfl) (by kernel_rfl) (by kernel_rfl) (by kernel_rfl) (by kernel_rfl) ?keep ?main
        case keep => exact ⟨fun u a c hx h => h.ext hx, fun _ _ u a c hx h => h.ext hx, fun u a c hx h => h.ext hx, fun _ _ u a c hx h => h.ext hx, fun u a c hx h => h.ext hx, fun _ _ u a c hx h => h.ext hx, trivial⟩
        case main =>
          simp only [List.take_succ_cons, List.take_zero, List.getD_cons_succ, List.getD_cons_zero]
          refine ⟨fun w1 hx hh => ?_, ?_⟩
          · clear hh
            go_simp
            refine (kinds_any w1).mono ?_
            rintro e w' ⟨⟨B, rfl, hkk⟩, hx2⟩
            exact ⟨_, rfl, hx2, B, rfl, hkk⟩
          intro u23
          iterate 2 (refine ⟨fun w1 hx hh => ?_, ?_⟩; focus (clear hh; (have f0 := hx.cell c0; have f1 := hx.cell c1); go_simp; first | exact ⟨Ext.refl _, rfl⟩ | exact Ext.refl _))
          refine ⟨fun w1 hx hh => ?_, ?_⟩
          · have h0 : KindsV u23 w1 := hh 0 _ List.mem_cons_self (by kernel_rfl)
            clear hh
            have s0 := h0.spec
            generalize h0.B = B at *
            have e0 := s0.1
            have g0 := s0.2.get k (by omega)
            clear s0 h0
            subst e0
            go_simp
            first | exact ⟨Ext.refl _, B, rfl, g0⟩ | exact ⟨B, rfl, g0⟩
          intro u26
          refine ⟨fun w1 hx hh => ?_, ?_⟩
          · have h3 : KindPt k u26 w1 := hh 3 _ List.mem_cons_self (by kernel_rfl)
            clear hh
            have s3 := h3.spec
            generalize h3.B = B at *
            have e3 := s3.1
            have g0 := s3.2.c0
            have g1 := s3.2.c1
            have g2 := s3.2.c2
            have g3 := s3.2.c3
            have g4 := s3.2.c4
            have g5 := s3.2.c5
            clear s3 h3
            subst e3
            go_simp
            first | exact ⟨Ext.refl _, rfl⟩ | exact Ext.refl _
          refine ⟨fun w1 hx hh => ?_, ?_⟩
          · clear hh
            have hsz := hx.size
            go_simp
            exact ⟨ext_alloc _ _, w1.heap.size, rfl, hsz, fun o ho => by
              have : o = 0 ∨ o = 1 ∨ o = 2 ∨ o = 3 ∨ o = 4 ∨ o = 5 := by omega
              rcases this with rfl | rfl | rfl | rfl | rfl | rfl <;> exact ⟨⟨_, by simp [go_sem]; rfl⟩, by simp [go_sem]⟩⟩
          intro u10
          intro w5 hx hh
          have h5 : Box6 W.heap.size u10 w5 := hh 5 _ List.mem_cons_self
          clear hh
          refine ⟨rfl, ?_⟩
          have s5 := h5.spec
          generalize h5.B = B at *
          have e5 := s5.1
          have hB := s5.2.1
          have hc := fun o ho => (s5.2.2 o ho).1
          have hf0 := (s5.2.2 0 (by omega)).2
          have hf1 := (s5.2.2 1 (by omega)).2
          have hf2 := (s5.2.2 2 (by omega)).2
          have hf3 := (s5.2.2 3 (by omega)).2
          have hf4 := (s5.2.2 4 (by omega)).2
          have hf5 := (s5.2.2 5 (by omega)).2
          have v0 := (hc 0 (by omega)).choose_spec
          have v1 := (hc 1 (by omega)).choose_spec
          have v2 := (hc 2 (by omega)).choose_spec
          have v3 := (hc 3 (by omega)).choose_spec
          have v4 := (hc 4 (by omega)).choose_spec
          have v5 := (hc 5 (by omega)).choose_spec
          generalize (hc 0 (by omega)).choose = y0 at *
          generalize (hc 1 (by omega)).choose = y1 at *
          generalize (hc 2 (by omega)).choose = y2 at *
          generalize (hc 3 (by omega)).choose = y3 at *
          generalize (hc 4 (by omega)).choose = y4 at *
          generalize (hc 5 (by omega)).choose = y5 at *
          have h6 := set6_cells hc (.int .i64 (kW k : Nat)) (.int .i64 (kS k : Nat)) (.int .i64 (kC k : Nat)) (.bool (kWr k)) (.func (.func (canF k)) #[] #[]) (.func (.func (becF k)) #[] #[])
          have x6 := hx.set6 hB (.int .i64 (kW k : Nat)) (.int .i64 (kS k : Nat)) (.int .i64 (kC k : Nat)) (.bool (kWr k)) (.func (.func (canF k)) #[] #[]) (.func (.func (becF k)) #[] #[])
          have zB := cell_lt v0
          clear s5 h5 hc
          subst e5
          unfold kindVal
          go_simp
          obtain ⟨W6, hW6⟩ : ∃ W6, W6 = set6 w5 B (.int .i64 (kW k : Nat)) (.int .i64 (kS k : Nat)) (.int .i64 (kC k : Nat)) (.bool (kWr k)) (.func (.func (canF k)) #[] #[]) (.func (.func (becF k)) #[] #[]) := ⟨_, rfl⟩
          have HW6 := Lib.hid hW6
          rw [← hW6] at h6 x6
          clear hW6
          rw [show (((((w5.setCell ⟨B, 0, none⟩ (.int .i64 (kW k : Nat))).setCell ⟨B, 1, none⟩ (.int .i64 (kS k : Nat))).setCell ⟨B, 2, none⟩ (.int .i64 (kC k : Nat))).setCell ⟨B, 3, none⟩ (.bool (kWr k))).setCell ⟨B, 4, none⟩ (.func (.func (canF k)) #[] #[])).setCell ⟨B, 5, none⟩ (.func (.func (becF k)) #[] #[]) = W6 from HW6.out.symm]
          have b0 := h6.1
          have b3 := h6.2.2.2.1
          have d1 := x6.cell c1
          have b0 := h6.1
          have b5 := h6.2.2.2.2.2
          have xw6 := x2.trans x6
          have z6 := xw6.size
          have zB := cell_lt b0
          have zd := cell_lt d1
          have row6 := Hrow.out.ext xw6
          have sl6 := Hsl.out.ext xw6
          have hownlt : ∀ b, u6.ownBlock = some b → w.heap.size ≤ b ∧ b < wr.heap.size := fun b hb => Hrow.out.lt b hb
          have x6z := x2.size
          have hzW : wr.heap.size ≤ B := by omega
          have hent := becF_enters k (by omega)
          have hlow := Hlow.out
          have hbl := becM_len k left wd
          have hbec := fun w1 (hx : Ext W6 w1) => bec_any k (by omega) u6.ownBlock xa (kW k) xc left wd hS w1 (strs_take (sl6.ext hx) _ hkW) hkW (fun hk ad e he => by
            have := (hownlt _ he.symm).1
            have := hlow ad e (by subst hk; simp [kW] at hkW; omega)
            omega) (fun b hb => by have := (hownlt b hb).2; have := hx.size; omega)
          have Hh6 := Lib.hid h6
          have Hhx := Lib.hid hx
          clear h6 v0 v1 v2 v3 v4 v5 hf0 hf1 hf2 hf3 hf4 hf5 HW6 hx c0 c1 x6
          obtain ⟨bl, hbl2⟩ : ∃ bl, becM k left wd = bl := ⟨_, rfl⟩
          rw [hbl2] at hbec hbl
          have Hbl2 := Lib.hid hbl2
          generalize hkw : kW k = kw at *
          generalize becF k = bf at *
          have Hkw := Lib.hid hkw
          clear hkw hbl2
          have kcap : (kw : Int) ≤ (xc : Int) := by omega
          have klen : (kw : Int) ≤ (left.length : Int) := by omega
          go_wp2_with fail
          apply Facts.Dep.Once.wp_region (two_butR u6.ownBlock) 10 [.val _, .val _, .val _, .val _, .val _, .val _, .val _, .val _, .val _, .fact (NewL u6.ownBlock bl), .fact (RowW w.heap.size (out ++ bl)), .fact (RowW w.heap.size (out ++ bl))] (by kernel_rfl) (by kernel_rfl) (by kernel_rfl) ?keep2 ?main2
          case keep2 => exact ⟨fun u a c hx h => h.ext hx, fun _ _ u a c hx h => h.but hx, fun u a c hx h => h.ext hx, fun h => absurd rfl h, fun u a c hx h => h.ext hx, fun _ h => (no_falseB h (by kernel_rfl)).elim, trivial⟩
          case main2 =>
            iterate 9 (refine ⟨fun w1 hE hC hh => ?_, ?_⟩; focus (have hx := hE (by kernel_rfl); clear hh hE hC; (have f0 := hx.cell b0; have f1 := hx.cell b5; have f2 := hx.cell d1); go_simp; first | exact ⟨Ext.refl _, rfl⟩ | exact Ext.refl _))
            refine ⟨fun w1 hE hC hh => ?_, ?_⟩
            · have hx := hE (by kernel_rfl)
              clear hh hE hC
              go_simp
              refine (hbec _ hx).mono ?_
              rintro e w' ⟨r, rfl, h1, hx2⟩
              exact ⟨_, rfl, hx2, h1⟩
            intro u37
            refine ⟨fun w1 hE hC hh => ?_, ?_⟩
            · have h9 : NewL u6.ownBlock bl u37 w1 := hh 9 _ List.mem_cons_self (by kernel_rfl)
              have hx := hE (by kernel_rfl)
              have hx1 := hx.size
              clear hh hE hC
              refine stepG_append_strs rfl (.tmp 28) (.tmp 37) 48 rfl w.heap.size i0 Tryz.underlying48 hi hz0 hz1 hz2 u6 out (by go_simp) (row6.ext hx) u37 (by go_simp) bl h9.at_ (by have := Hout.out; omega) (by omega) ?_
              intro v' w' ho hg
              exact ⟨hg, ho⟩
            intro u38
            refine ⟨fun w1 hE hC hh => ?_, ?_⟩
            · have h10 : RowW w.heap.size (out ++ bl) u38 w1 := hh 10 _ List.mem_cons_self (by kernel_rfl)
              clear hh hE hC
              go_simp
              first | exact ⟨Ext.refl _, h10⟩ | exact Ext.refl _
            intro u6' w8 hC hh
            have h11 : RowW w.heap.size (out ++ bl) u6' w8 := hh 11 _ List.mem_cons_self
            clear hh
            have g0 := hC.cell b0 (fun e => by have := (hownlt _ e.symm).2; simp at this; omega)
            have x8 : Ext w w8 := Ext.grown (hxr.trans xw6) hC fun k hk => (hownlt k hk).1
            have z8 := x8.size
            have zg := cell_lt g0
            have hl8 : LieL w.heap.size left (.slice xa left.length xc) w8 := by
              rcases Nat.eq_zero_or_pos left.length with hz | hz
              · exact ⟨xa, xc, rfl, ⟨xa, xc, rfl, hc1, hc2, fun i hi => by omega⟩, hlow⟩
              · exact ⟨xa, xc, rfl, sl6.grownBy hC (fun ad e e2 => by
                  have := (hownlt _ e2.symm).1
                  have := hlow ad e (by omega)
                  omega), hlow⟩
            have Hl8 := Lib.hid (lie_drop hl8 kw (by omega))
            clear hbec hent hC
            go_simp
            go_wp2
            go_roundw
            case rel => exact ⟨k0 + 1, left.drop kw, out ++ bl, by omega, by go_num, x8, by simpa only [Nat.mul_one] using Hl8.out, h11, by have := Hout.out; rw [List.length_append]; omega, by rw [← Hmk2.out, Hbl2.out]⟩
            case measure => simp [intOf]; omega
      · rw [if_pos h0] at hmk2
        have hM : markedM ms l = ⟨[], er⟩ := by
          unfold markedM
          rw [← hmk2]
          rw [if_pos h0]
        have h0' : (er != 0) = true := by simpa using h0
        have hinj := MarkedR.mk.inj (HR.out.symm.trans hM)
        obtain ⟨hF, hE⟩ := hinj
        subst hF
        subst hE
        have xw2 := hxr.trans x2
        clear h0 hM hmk2 HR her
        go_wp2_with fail
        go_ret2
        exact ⟨_, rfl, RowW.nil, xw2⟩
    · have hke : k0 = ms.length := by omega
      subst hke
      rw [List.drop_length, markedF] at hmk
      have hM : markedM ms l = if 0 < left.length then ⟨[], 2⟩ else if 15 < out.length then ⟨[], 3⟩ else ⟨out, 0⟩ := by
        unfold markedM
        rw [← hmk]
        rfl
      obtain ⟨va, vn, vc, rfl⟩ : ∃ va vn vc, u6 = .slice va vn vc := by
        rcases hrow.2 with ⟨rfl, -⟩ | ⟨g, cap, cur, rfl, -⟩ <;> exact ⟨_, _, _, rfl⟩
      have hvn : vn = out.length := by
        rcases hrow.2 with ⟨e, hn⟩ | ⟨g, cap, cur, e, -⟩
        · obtain ⟨-, rfl, -⟩ := Value.slice.inj e; exact hn.symm
        · exact (Value.slice.inj e).2.1
      subst hvn
      have HM := Lib.hid (HR.out.symm.trans hM)
      clear hM hmk HR hlie
      by_cases h1 : 0 < left.length
      · have k2 : (0 : Int) < (left.length : Int) := by omega
        have hM2 := HM.out
        rw [if_pos h1] at hM2
        obtain ⟨rfl, rfl⟩ := MarkedR.mk.inj hM2
        clear hM2 HM
        go_wp2_with fail
        go_ret2
        exact ⟨_, rfl, RowW.nil, hxr⟩
      · have k2 : ¬ (0 : Int) < (left.length : Int) := by omega
        by_cases h2 : 15 < out.length
        · have k3 : (15 : Int) < (out.length : Int) := by omega
          have hM2 := HM.out
          rw [if_neg h1, if_pos h2] at hM2
          obtain ⟨rfl, rfl⟩ := MarkedR.mk.inj hM2
          clear hM2 HM
          go_wp2_with fail
          go_ret2
          exact ⟨_, rfl, RowW.nil, hxr⟩
        · have k3 : ¬ (15 : Int) < (out.length : Int) := by omega
          have hM2 := HM.out
          rw [if_neg h1, if_neg h2] at hM2
          obtain ⟨rfl, rfl⟩ := MarkedR.mk.inj hM2
          clear hM2 HM
          go_wp2_with fail
          go_ret2
          exact ⟨_, rfl, hrow, hxr⟩
end Go.Proofs.YtnfbhicoknpojaaGreat

namespace Go.Proofs.YtnfbhicoknpojaaGreat
set_option linter.unusedSimpArgs false
set_option linter.unusedVariables false
open Go.RowKit
set_option linter.unusedVariables false

def applyM (ms : List Mark) (l : List ByteArray) : MarkedR :=
  if letterErrL l ≠ 0 then ⟨[], letterErrL l⟩ else if 30 < ms.length then ⟨[], 3⟩ else markedM ms l
set_option maxRecDepth 100000 in
set_option maxHeartbeats 1000000 in
theorem Apply_any (lv mv : Value) (l : List ByteArray) (ms : List Mark) (w : World) (hl : StrsAt w lv l) (hm : MarksAt w mv ms) :
    Calls Tryz.prog 37 #[lv, mv] w fun e w' => ∃ u, e = .returned (.tuple #[u, .int .i64 (applyM ms l).err]) ∧ RowW w.heap.size (applyM ms l).words u w' ∧ Ext w w' := by
  have hl0 := hl
  have hm0 := hm
  obtain ⟨ma, mc, rfl, hmc, hmm⟩ := hm.shape
  obtain ⟨la, lc, rfl, hlc, hlm⟩ := hl.shape
  obtain ⟨R, hR⟩ : ∃ R, applyM ms l = R := ⟨_, rfl⟩
  obtain ⟨F, ee⟩ := R
  rw [hR]
  have HR := Lib.hid hR
  clear hR
  simp only
  go_enter Tryz.func37, Tryz.ntmps37
  go_wp2_with fail
  refine (letterError_any' _ l _ hl0).mono ?_
  rintro e w1 ⟨rfl, hx1⟩
  obtain ⟨er, her⟩ : ∃ e, letterErrL l = e := ⟨_, rfl⟩
  rw [her]
  by_cases h0 : er = 0
  · subst h0
    by_cases h30 : 30 < ms.length
    · have k2 : (30 : Int) < (ms.length : Int) := by omega
      have hM : applyM ms l = ⟨[], 3⟩ := by unfold applyM; rw [if_neg (by rw [her]; simp), if_pos h30]
      obtain ⟨hF, hE⟩ := MarkedR.mk.inj (HR.out.symm.trans hM)
      subst hF
      subst hE
      clear hM HR her
      go_wp2_with fail
      go_ret2
      exact ⟨_, rfl, RowW.nil, hx1⟩
    · have k2 : ¬ (30 : Int) < (ms.length : Int) := by omega
      have hM : applyM ms l = markedM ms l := by unfold applyM; rw [if_neg (by rw [her]; simp), if_neg h30]
      have hma := marked_any _ _ l ms w1 (hl0.ext hx1) (hm0.ext hx1) (by omega)
      rw [hM.symm.trans HR.out] at hma
      simp only at hma
      clear hM HR her
      go_wp2_with fail
      refine hma.mono ?_
      rintro e w2 ⟨u, rfl, hrow, hx2⟩
      go_wp2
      go_ret2
      exact ⟨_, rfl, by
        refine ⟨hrow.1, ?_⟩
        rcases hrow.2 with h | ⟨g, cap, cur, e, h1, h2⟩
        · exact .inl h
        · exact .inr ⟨g, cap, cur, e, Nat.le_trans hx1.size h1, h2⟩, hx1.trans hx2⟩
  · have h0' : (er != 0) = true := by simpa using h0
    have hM : applyM ms l = ⟨[], er⟩ := by unfold applyM; rw [if_pos (by rw [her]; exact h0), her]
    obtain ⟨hF, hE⟩ := MarkedR.mk.inj (HR.out.symm.trans hM)
    subst hF
    subst hE
    clear hM HR her h0
    go_wp2_with fail
    go_ret2
    exact ⟨_, rfl, RowW.nil, hx1⟩
end Go.Proofs.YtnfbhicoknpojaaGreat

namespace Go.Proofs.YtnfbhicoknpojaaGreat
set_option linter.unusedSimpArgs false
set_option linter.unusedVariables false
set_option linter.unusedVariables false

theorem toList_loop (bs : ByteArray) : ∀ (n i : Nat) (r : List UInt8), bs.size - i = n → ByteArray.toList.loop bs i r = r.reverse ++ bs.data.toList.drop i
  | 0, i, r, h => by
    rw [ByteArray.toList.loop, if_neg (by omega), List.drop_of_length_le (by have : bs.size = bs.data.toList.length := rfl; omega), List.append_nil]
  | n + 1, i, r, h => by
    have hi : i < bs.data.toList.length := by have : bs.size = bs.data.toList.length := rfl; omega
    rw [ByteArray.toList.loop, if_pos (by omega), toList_loop bs n (i + 1) _ (by omega), List.drop_eq_getElem_cons hi, List.reverse_cons, List.append_assoc]
    have hi2 : i < bs.data.size := by simpa using hi
    have e : bs.get! i = bs.data.toList[i] := by
      show bs.data[i]! = _
      rw [getElem!_pos bs.data i hi2]
      simp
    rw [e]
    rfl
theorem toList_inj {a b : ByteArray} (h : a.toList = b.toList) : a = b := by
  have e : ∀ bs : ByteArray, bs.toList = bs.data.toList := fun bs => by
    unfold ByteArray.toList
    have := toList_loop bs _ 0 [] rfl
    simpa using this
  rw [e, e] at h
  obtain ⟨x⟩ := a
  obtain ⟨y⟩ := b
  exact congrArg _ (Array.toList_inj.1 h)
theorem toList_ne {s : ByteArray} (h : wordM s = true) : s.toList.isEmpty = false := by
  have hs := (word_size h).1
  cases hb : s.toList with
  | nil =>
    have : s = ByteArray.empty := toList_inj (by rw [hb]; simp)
    subst this
    simp at hs
  | cons x r => rfl
theorem givenM_drop (t : List ByteArray) (k : Nat) : (givenM t).drop k = givenM (t.drop k) := by simp [givenM, List.map_drop]
theorem markedF_marks : ∀ (n : Nat) (ws t out : List ByteArray), ws.length + t.length ≤ n → (∀ s ∈ t, wordM s = true) →
    markedF (marksF n ws (givenM t)) ws out = ([], out ++ t, 0)
  | 0, ws, t, out, h, hw => by
    have h1 : ws = [] := List.eq_nil_of_length_eq_zero (by omega)
    have h2 : t = [] := List.eq_nil_of_length_eq_zero (by omega)
    subst h1; subst h2
    simp [marksF, markedF]
  | n + 1, ws, t, out, h, hw => by
    have hgl : (givenM t).length = t.length := by simp [givenM]
    rw [marksF]
    by_cases h0 : ws.length + (givenM t).length = 0
    · rw [if_pos h0]
      have h1 : ws = [] := List.eq_nil_of_length_eq_zero (by omega)
      have h2 : t = [] := List.eq_nil_of_length_eq_zero (by omega)
      subst h1; subst h2
      simp [markedF]
    · rw [if_neg h0, markedF]
      obtain ⟨g1, g2, g3, g4, g5, -⟩ := costM_which ws (givenM t) (by omega)
      generalize (costM ws (givenM t)).1 = c at *
      have hrec := fun out' => markedF_marks n (ws.drop (kW c)) (t.drop (kS c)) out' (by rw [List.length_drop, List.length_drop]; omega) (fun s hs => hw s (List.mem_of_mem_drop hs))
      rw [givenM_drop]
      have hcn : ((c : Nat) : Int).toNat = c := Int.toNat_natCast c
      have : c = 0 ∨ c = 1 ∨ c = 2 ∨ c = 3 ∨ c = 4 := by omega
      rcases this with rfl | rfl | rfl | rfl | rfl
      · obtain ⟨x, ws, rfl⟩ : ∃ x r, ws = x :: r := by cases ws with | nil => simp [kW] at g2 | cons x r => exact ⟨x, r, rfl⟩
        obtain ⟨s, t, rfl⟩ : ∃ x r, t = x :: r := by cases t with | nil => simp [kS, givenM] at g3 | cons x r => exact ⟨x, r, rfl⟩
        have hs := hw s List.mem_cons_self
        have e : x = s := toList_inj (by have : takesM ⟨s, false⟩ x = true := by simpa [canM', givenM] using g5
                                         rw [takesM, toList_ne hs, Bool.false_or] at this
                                         exact (eq_of_beq this).symm)
        subst e
        simp only [hcn]
        rw [if_neg (by simp [markErrM, kWr, kW]), hrec]
        simp [becM, kS]
      · obtain ⟨x, ws, rfl⟩ : ∃ x r, ws = x :: r := by cases ws with | nil => simp [kW] at g2 | cons x r => exact ⟨x, r, rfl⟩
        obtain ⟨s, t, rfl⟩ : ∃ x r, t = x :: r := by cases t with | nil => simp [kS, givenM] at g3 | cons x r => exact ⟨x, r, rfl⟩
        have hs := hw s List.mem_cons_self
        have e : ¬ x.toList = s.toList := fun h => by
          have : takesM ⟨s, false⟩ x = false := by simpa [canM', givenM] using g5
          simp [takesM, h] at this
        simp only [hcn]
        rw [if_neg (by simp [markErrM, kWr, kW, givenM, hs, e]), hrec]
        simp [becM, kS, kWr, givenM]
      · simp only [hcn]
        obtain ⟨x, ws, rfl⟩ : ∃ x r, ws = x :: r := by cases ws with | nil => simp [kW] at g2 | cons x r => exact ⟨x, r, rfl⟩
        rw [if_neg (by simp [markErrM, kWr, kW]), hrec]
        simp [becM, kS]
      · obtain ⟨s, t, rfl⟩ : ∃ x r, t = x :: r := by cases t with | nil => simp [kS, givenM] at g3 | cons x r => exact ⟨x, r, rfl⟩
        have hs := hw s List.mem_cons_self
        simp only [hcn]
        rw [if_neg (by simp [markErrM, kWr, kW, givenM, hs]), hrec]
        simp [becM, kS, kWr, givenM]
      · exfalso
        cases t with
        | nil => simp [kS, givenM] at g3
        | cons s t => simp [canM', givenM] at g5
/-- by its marks a letter becomes the other one -/
theorem apply_few {f t : List ByteArray} (h : fewErrM f t = 0) : markedM (fewMarksM f t) f = ⟨t, 0⟩ := by
  obtain ⟨h1, h2⟩ := few_ok h
  obtain ⟨h15, hw⟩ := lettErr_ok h2
  have := markedF_marks _ f t [] (Nat.le_refl _) hw
  have hgl : (givenM t).length = t.length := by simp [givenM]
  unfold markedM fewMarksM
  rw [if_pos h]
  unfold marksM
  rw [hgl, this]
  simp
  omega
/-- how many corrections marks are -/
def corrM (ms : List Mark) : Nat := (ms.map fun m => kC m.kind.toNat).sum
theorem corr_marks : ∀ (n : Nat) (ws : List ByteArray) (ss : List Slot), ws.length + ss.length ≤ n → corrM (marksF n ws ss) = (costM ws ss).2
  | 0, ws, ss, h => by
    have h1 : ws = [] := List.eq_nil_of_length_eq_zero (by omega)
    have h2 : ss = [] := List.eq_nil_of_length_eq_zero (by omega)
    subst h1; subst h2
    rfl
  | n + 1, ws, ss, h => by
    rw [marksF]
    by_cases h0 : ws.length + ss.length = 0
    · rw [if_pos h0]
      have h1 : ws = [] := List.eq_nil_of_length_eq_zero (by omega)
      have h2 : ss = [] := List.eq_nil_of_length_eq_zero (by omega)
      subst h1; subst h2
      rfl
    · rw [if_neg h0]
      obtain ⟨g1, g2, g3, g4, g5, g6⟩ := costM_which ws ss (by omega)
      have ih := corr_marks n (ws.drop (kW (costM ws ss).1)) (ss.drop (kS (costM ws ss).1)) (by rw [List.length_drop, List.length_drop]; omega)
      unfold corrM at *
      rw [List.map_cons, List.sum_cons, ih]
      show kC (((costM ws ss).1 : Nat) : Int).toNat + _ = _
      rw [Int.toNat_natCast]
      exact g6.symm
theorem corr_few {f t : List ByteArray} (h : fewErrM f t = 0) : corrM (fewMarksM f t) = fewManyM f t := by
  unfold fewMarksM fewManyM marksM
  rw [if_pos h, if_pos h]
  exact corr_marks _ _ _ (Nat.le_refl _)
/-- .. and no marks by which it does have fewer -/
theorem marked_least : ∀ (ms : List Mark) (ws out res : List ByteArray), markedF ms ws out = ([], res, 0) → ∃ t, res = out ++ t ∧ (costM ws (givenM t)).2 ≤ corrM ms
  | [], ws, out, res, h => by
    rw [markedF] at h
    obtain ⟨h1, h2⟩ := Prod.mk.inj h
    obtain ⟨h2, -⟩ := Prod.mk.inj h2
    subst h1; subst h2
    exact ⟨[], by simp, Nat.le_refl _⟩
  | m :: r, ws, out, res, h => by
    rw [markedF] at h
    by_cases he : markErrM m ws = 0
    · rw [if_neg (by simpa using he)] at h
      obtain ⟨k, hk, hkd, hW⟩ := markErr_ok he
      obtain ⟨t', ht, hle⟩ := marked_least r _ _ _ h
      have hcr : corrM (m :: r) = kC k + corrM r := by simp [corrM, hkd]
      rw [hcr]
      rw [hkd, Int.toNat_natCast] at ht hle
      have : k = 0 ∨ k = 1 ∨ k = 2 ∨ k = 3 := by omega
      rcases this with rfl | rfl | rfl | rfl
      · obtain ⟨x, ws, rfl⟩ : ∃ x r, ws = x :: r := by cases ws with | nil => simp [kW] at hW | cons x r => exact ⟨x, r, rfl⟩
        refine ⟨x :: t', by rw [ht]; simp [becM], ?_⟩
        have htk : takesM ⟨x, false⟩ x = true := by simp [takesM]
        have e : givenM (x :: t') = ⟨x, false⟩ :: givenM t' := rfl
        rw [e, costM_all]
        refine Nat.le_trans (pickC_le _ (0, (costM ws (givenM t')).2) (by simp [htk])) ?_
        simpa [kC, kW] using hle
      · obtain ⟨x, ws, rfl⟩ : ∃ x r, ws = x :: r := by cases ws with | nil => simp [kW] at hW | cons x r => exact ⟨x, r, rfl⟩
        refine ⟨m.word :: t', by rw [ht]; simp [becM], ?_⟩
        have e : givenM (m.word :: t') = ⟨m.word, false⟩ :: givenM t' := rfl
        rw [e, costM_all]
        have hle' : (costM ws (givenM t')).2 ≤ corrM r := by simpa [kW] using hle
        cases htk : takesM ⟨m.word, false⟩ x
        · refine Nat.le_trans (pickC_le _ (1, 1 + (costM ws (givenM t')).2) (by simp [htk])) ?_
          show 1 + _ ≤ 1 + _
          omega
        · refine Nat.le_trans (pickC_le _ (0, (costM ws (givenM t')).2) (by simp [htk])) ?_
          show (costM ws (givenM t')).2 ≤ 1 + _
          omega
      · obtain ⟨x, ws, rfl⟩ : ∃ x r, ws = x :: r := by cases ws with | nil => simp [kW] at hW | cons x r => exact ⟨x, r, rfl⟩
        refine ⟨t', by rw [ht]; simp [becM], ?_⟩
        have hle' : (costM ws (givenM t')).2 ≤ corrM r := by simpa [kW] using hle
        cases t' with
        | nil =>
          show (costM (x :: ws) []).2 ≤ _
          rw [costM_drop]
          refine Nat.le_trans (pickC_le _ (2, 1 + (costM ws []).2) (by simp)) ?_
          show 1 + _ ≤ 1 + _
          exact Nat.add_le_add_left hle' 1
        | cons s t' =>
          have e : givenM (s :: t') = ⟨s, false⟩ :: givenM t' := rfl
          rw [e] at hle' ⊢
          rw [costM_all]
          refine Nat.le_trans (pickC_le _ (2, 1 + (costM ws (⟨s, false⟩ :: givenM t')).2) (by simp)) ?_
          exact Nat.add_le_add_left hle' 1
      · refine ⟨m.word :: t', by rw [ht]; simp [becM], ?_⟩
        have hle' : (costM ws (givenM t')).2 ≤ corrM r := by simpa [kW] using hle
        have e : givenM (m.word :: t') = ⟨m.word, false⟩ :: givenM t' := rfl
        rw [e]
        cases ws with
        | nil =>
          rw [costM_put]
          refine Nat.le_trans (pickC_le _ (3, 1 + (costM [] (givenM t')).2) (by simp)) ?_
          exact Nat.add_le_add_left hle' 1
        | cons x ws =>
          rw [costM_all]
          refine Nat.le_trans (pickC_le _ (3, 1 + (costM (x :: ws) (givenM t')).2) (by simp)) ?_
          exact Nat.add_le_add_left hle' 1
    · rw [if_pos he] at h
      obtain ⟨-, h2⟩ := Prod.mk.inj h
      exact absurd (Prod.mk.inj h2).2 he
/-- what marks make of a letter is no nearer than Fewest says -/
theorem fewest_least {ms : List Mark} {f t : List ByteArray} (h : applyM ms f = ⟨t, 0⟩) : (costM f (givenM t)).2 ≤ corrM ms := by
  unfold applyM at h
  split at h
  · rename_i h1; exact absurd (MarkedR.mk.inj h).2 h1
  · split at h
    · exact absurd (MarkedR.mk.inj h).2 (by decide)
    · unfold markedM at h
      split at h
      · rename_i h1; exact absurd (MarkedR.mk.inj h).2 h1
      · rename_i h1
        split at h
        · exact absurd (MarkedR.mk.inj h).2 (by decide)
        · rename_i h2
          split at h
          · exact absurd (MarkedR.mk.inj h).2 (by decide)
          · have e : markedF ms f [] = ([], t, 0) := by
              have a1 : (markedF ms f []).1 = [] := List.eq_nil_of_length_eq_zero (by omega)
              have a2 := (MarkedR.mk.inj h).1
              have a3 : (markedF ms f []).2.2 = 0 := by simpa using h1
              exact Prod.ext a1 (Prod.ext a2 a3)
            obtain ⟨t2, e2, hle⟩ := marked_least ms f [] t e
            rw [List.nil_append] at e2
            subst e2
            exact hle
end Go.Proofs.YtnfbhicoknpojaaGreat

namespace Go.Proofs.YtnfbhicoknpojaaGreat
set_option linter.unusedSimpArgs false
set_option linter.unusedVariables false
set_option linter.unusedVariables false

def saidL : List ByteArray := [⟨#[97]⟩, ⟨#[105]⟩, ⟨#[97, 115, 107]⟩, ⟨#[116, 111]⟩, ⟨#[116, 104, 101]⟩, ⟨#[98]⟩, ⟨#[106, 117, 100, 103, 101]⟩, ⟨#[109, 101, 114, 99, 121]⟩]
theorem said_words : ∀ s ∈ saidL, wordM s = true := by decide +kernel
/-- what marks have made of the first k words of a letter -/
structure Loud (l : List ByteArray) (ms : List Mark) (k : Nat) (out : List ByteArray) : Prop where
  runs : ∀ rest, markedF (ms ++ rest) l [] = markedF rest (l.drop k) out
  words : ∀ s ∈ out, wordM s = true
  few : ms.length ≤ out.length + k
  room : out.length + (l.length - k) ≤ 15
  at_ : k ≤ l.length
  sound : ∀ m ∈ ms, I64 m.kind ∧ m.word.size ≤ 9223372036854775807
theorem Loud.start {l : List ByteArray} (h : l.length ≤ 15) : Loud l [] 0 [] := ⟨fun _ => rfl, by simp, by simp, by simpa using h, Nat.zero_le _, by simp⟩
theorem Loud.step {l : List ByteArray} {ms : List Mark} {k : Nat} {out : List ByteArray} (h : Loud l ms k out) (kd : Nat) (wd : ByteArray) (hk : kd < 4) (he : markErrM ⟨kd, wd⟩ (l.drop k) = 0)
    (hb : ∀ s ∈ becM kd (l.drop k) wd, wordM s = true) (hroom : (out ++ becM kd (l.drop k) wd).length + (l.length - (k + kW kd)) ≤ 15) (hfew : 1 ≤ (becM kd (l.drop k) wd).length + kW kd) (hat : k + kW kd ≤ l.length) (hw : wd.size ≤ 9223372036854775807) :
    Loud l (ms ++ [⟨kd, wd⟩]) (k + kW kd) (out ++ becM kd (l.drop k) wd) := by
  refine ⟨fun rest => ?_, fun s hs => ?_, ?_, hroom, hat, fun m hm => ?_⟩
  · rw [List.append_assoc, h.runs]
    show markedF (⟨kd, wd⟩ :: rest) (l.drop k) out = _
    rw [markedF, if_neg (by rw [he]; simp)]
    show markedF rest ((l.drop k).drop (kW ((kd : Nat) : Int).toNat)) (out ++ becM ((kd : Nat) : Int).toNat (l.drop k) wd) = _
    rw [Int.toNat_natCast, List.drop_drop]
  · rcases List.mem_append.1 hs with h1 | h1
    · exact h.words s h1
    · exact hb s h1
  · have := h.few
    simp only [List.length_append, List.length_cons, List.length_nil] at *
    omega
  · rcases List.mem_append.1 hm with h1 | h1
    · exact h.sound m h1
    · rw [List.mem_singleton] at h1
      subst h1
      exact ⟨⟨by show _ ≤ ((kd : Nat) : Int); omega, by show ((kd : Nat) : Int) ≤ _; omega⟩, hw⟩
theorem Loud.ends {l : List ByteArray} {ms : List Mark} {out : List ByteArray} (h : Loud l ms l.length out) (hl : letterErrL l = 0) : applyM ms l = ⟨out, 0⟩ ∧ letterErrL out = 0 := by
  obtain ⟨h15, hw⟩ := lettErr_ok hl
  have hr := h.runs []
  rw [List.append_nil, List.drop_of_length_le (Nat.le_refl _), markedF] at hr
  have hroom := h.room
  have hfew := h.few
  refine ⟨?_, ?_⟩
  · unfold applyM
    rw [if_neg (by rw [hl]; simp), if_neg (by omega)]
    unfold markedM
    rw [hr, if_neg (by simp), if_neg (by simp), if_neg (by simp; omega)]
  · unfold letterErrL
    rw [if_neg (by omega), if_neg]
    simp only [wordsM, Bool.not_eq_false, List.all_eq_true]
    exact h.words
theorem Loud.keep {l : List ByteArray} {ms : List Mark} {k : Nat} {out : List ByteArray} {lk : ByteArray} (h : Loud l ms k out) (hk : k < l.length) (hd : l.drop k = lk :: l.drop (k + 1)) (hw : wordM lk = true) : Loud l (ms ++ [⟨0, ⟨#[]⟩⟩]) (k + 1) (out ++ [lk]) := by
  have hb : becM 0 (l.drop k) (⟨#[]⟩ : ByteArray) = [lk] := by rw [hd]; rfl
  have hr := h.room
  have := h.step 0 ⟨#[]⟩ (by decide) (by rw [hd]; simp [markErrM, kWr, kW]) (by rw [hb]; intro s hs; rw [List.mem_singleton] at hs; subst hs; exact hw) (by rw [hb]; show _ + (l.length - (k + 1)) ≤ 15; simp; omega) (by simp [kW]) (by simp only [kW]; omega) (by decide)
  rw [hb] at this
  exact this
theorem Loud.turn {l : List ByteArray} {ms : List Mark} {k : Nat} {out : List ByteArray} {lk wd : ByteArray} (h : Loud l ms k out) (hk : k < l.length) (hd : l.drop k = lk :: l.drop (k + 1)) (hw : wordM wd = true) (hne : (wd.toList == lk.toList) = false) : Loud l (ms ++ [⟨1, wd⟩]) (k + 1) (out ++ [wd]) := by
  have hr := h.room
  have hs := word_size hw
  have hne' : ¬ lk.toList = wd.toList := fun e => by rw [e] at hne; simp at hne
  exact h.step 1 wd (by decide) (by rw [hd]; simp [markErrM, kWr, kW, hw, hne']) (by intro s hs; simp [becM] at hs; subst hs; exact hw) (by show (out ++ [wd]).length + (l.length - (k + 1)) ≤ 15; simp; omega) (by simp [kW]) (by simp only [kW]; omega) (by omega)
theorem Loud.drop {l : List ByteArray} {ms : List Mark} {k : Nat} {out : List ByteArray} {lk : ByteArray} (h : Loud l ms k out) (hk : k < l.length) (hd : l.drop k = lk :: l.drop (k + 1)) : Loud l (ms ++ [⟨2, ⟨#[]⟩⟩]) (k + 1) out := by
  have hr := h.room
  have := h.step 2 ⟨#[]⟩ (by decide) (by rw [hd]; simp [markErrM, kWr, kW]) (by simp [becM]) (by show (out ++ []).length + (l.length - (k + 1)) ≤ 15; simp; omega) (by simp [kW]) (by simp only [kW]; omega) (by decide)
  simp only [becM, List.append_nil] at this
  exact this
theorem Loud.put {l : List ByteArray} {ms : List Mark} {k : Nat} {out : List ByteArray} {wd : ByteArray} (h : Loud l ms k out) (hw : wordM wd = true) (hroom : out.length + (l.length - k) < 15) : Loud l (ms ++ [⟨3, wd⟩]) k (out ++ [wd]) := by
  have hs := word_size hw
  have ha := h.at_
  exact h.step 3 wd (by decide) (by simp [markErrM, kWr, kW, hw]) (by intro s hs; simp [becM] at hs; subst hs; exact hw) (by show (out ++ [wd]).length + (l.length - (k + 0)) ≤ 15; simp; omega) (by simp [becM, kW]) (by simp only [kW]; omega) (by omega)
end Go.Proofs.YtnfbhicoknpojaaGreat

namespace Go.Proofs.YtnfbhicoknpojaaGreat
set_option linter.unusedSimpArgs false
set_option linter.unusedVariables false
open Go.RowKit
set_option linter.unusedVariables false
namespace Facts.App
variable {P : Program} {ops : Array Oper}

theorem stepG_append {o : Oper} {a : Act} {w : World} {S : Value → World → Prop} (hgd : o.guard = none) (s x : Operand) (t : TypeId)
    (ho : o.op = .call { callee := .builtin .append, args := #[s, x], argTypes := #[t, t] })
    (base : Nat) (e : TypeId) (i : TypeInfo) (z : Value) (size bytes : Nat) (ht : P.underlying t = some (.slice e)) (hi : P.info? e = some i) (hz : i.zero = some z)
    (hsize : i.size = size) (hby : i.bytes = bytes) (hzs : z.cells.size = size) (hsz : 0 < size)
    (v : Value) (n : Nat) (xs : List Value) (hs : a.eval s = v) (hown : w.ownsRow base e size v n xs)
    (ad : Addr) (m c : Nat) (news : List Value) (hx : a.eval x = .slice (some ad) m c) (hl : news.length = m * size) (hnews : ∀ j u, news[j]? = some u → w.cell? (ad.add j) = some u) (h1 : ∀ u ∈ news, u.oneCell' = true)
    (h63 : n + m ≤ maxLen) (hbytes : (n + m) * bytes ≤ 140737488355328) (hbase : base ≤ w.heap.size)
    (h : ∀ v' w', w'.ownsRow base e size v' (n + m) (xs ++ news) → w.grownBy w' v.ownBlock → (v'.ownBlock = v.ownBlock ∨ v'.ownBlock = some w.heap.size) → S v' w') : stepG P ops o a w S := by
  obtain ⟨v', w', hr, h2, h3, h4, h5⟩ := run_append_own_at (P := P) w base t o.type e i z size bytes ht hi hz hsize hby hzs hsz v n xs hown ad m c news hl hnews h1 h63 hbytes hbase
  unfold stepG
  have hw : Region.wanted o (yielded ops a.tmps) = true := by unfold Region.wanted; rw [hgd]
  rw [if_pos hw]
  unfold execOp
  simp only [ho, resolve, invoke, builtin, Sem.run_bind, Sem.run_pure, Result.andThen_ok, List.map_toArray, List.map_cons, List.map_nil, hs, hx, hr]
  exact h v' w' h2 h3 h5
/-- a later world in which one row may have been written -/
def But (own : Option Nat) (w w' : World) : Prop := w.grownBy w' own
theorem But.of_ext {own : Option Nat} {w w' : World} (h : Ext w w') : But own w w' := ⟨Below.os h, Below.tape h, Below.output h, Below.size h, fun k hk _ => Below.block h k hk⟩
theorem two_but (own : Option Nat) : Piv.Two Ext (But own) :=
  ⟨fun _ _ h => But.of_ext h, fun _ _ _ h k => h.trans k, fun _ _ _ h k => World.grownBy.trans h k, fun _ => Ext.refl _, fun w => ext_drew w⟩
end Facts.App
end Go.Proofs.YtnfbhicoknpojaaGreat
