/-
  THE RULE FOR A REGION THAT DRAWS ITS ORDER, in which several operations may write: of each is told how it may turn the memory, and what is said of the others is kept by those that they need not wait for. Over any program.
  A REGION THAT DRAWS ITS ORDER, WHOSE LAST TWO OPERATIONS WAIT FOR ALL THAT COME BEFORE: these first, then the two, each by a fact of its own. Over any program.
  WHAT IS KEPT ACROSS A ROUND: all cells (KeptC); or all but the last ones of one row (KeptX). And an append that fits into its row.
  A RANGE OVER A FUNCTION whose iterator yields values that lie in cells of its own (as a slice that changes when the next one is made). A round may return.
  WHAT A SPELLING CAN BE, AND WHO CAN BE WHAT: plain lists, and what is so of them.
  WHAT THE ITERATOR OF A SPELLING'S SOUND STRINGS YIELDS: each string of the list, in its order, for whatever body keeps the cells.
  WHAT soundStrings RETURNS: an iterator that yields what a spelling can be.
  A MAP BY SOUND STRINGS, as it lies in memory: what is looked up in it, and how it is written.
  WHAT canBe RETURNS: a new map of all sound strings that some spellings can be, each with the bits of those that can be it.
  WHAT canBe RETURNS, in a book without an error.
-/
import Derived.Test.YtdadffmagfknoaaBunAC
import Derived.Test.YtdadffmagfknoaaBunAE
import Derived.Test.YtdadffmagfknoaaBunAF
import Derived.Test.YtdadffmagfknoaaBunAD
import Derived.Test.YtdadffmagfknoaaBunAB
import Derived.RangeFuncWrites
import Derived.RangeFuncLeaves
import Derived.TacticsInMore
import Derived.LoopIn
import Derived.Maps.RangeRun
import Derived.MapKept
import Derived.RangeFuncBox
import Derived.RangeFuncNested
import Derived.Shelf.Abstract
import Derived.Maps.AppendAt
namespace Go.Proofs.Ytdadffmagfknoaa
set_option linter.unusedSimpArgs false
set_option linter.unusedVariables false
open Go.RowKit
set_option linter.unusedVariables false
set_option linter.unusedSimpArgs false
namespace Facts.Dep.Many
open Facts.Piv (anyS opS any_of_anyS opS_of_stepG)
/-- how each operation may turn the memory, and how all of them together may -/
structure ManyT (S : Nat → World → World → Prop) (C : World → World → Prop) : Prop where
  sub : ∀ i w w', S i w w' → C w w'
  tc : ∀ a b c, C a b → C b c → C a c
  d : ∀ w : World, C w { w with drawn := w.drawn + 1 }
variable {P : Program} {ops : Array Oper}

theorem any_facts {S : Nat → World → World → Prop} {C : World → World → Prop} (T : ManyT S C) {Q : Exit → Act → World → Prop} {a : Act} {w : World} (Φ : Nat → (Nat → Value) → World → Prop) (fix : Nat → Option Value) (hfix : ∀ i v vs w, fix i = some v → Φ i vs w → vs i = v) (hloc : ∀ i vs us w, i < ops.size → (∀ j, j = i ∨ (depsOf ops ops.size i).contains j = true → vs j = us j) → Φ i vs w → Φ i us w) (hB : okB ops = true)
    (hkeep : ∀ i j vs w1 w2, i < ops.size → j ≠ i → (depsOf ops ops.size i).contains j = false → S j w1 w2 → Φ i vs w1 → Φ i vs w2)
    (hops : ∀ i o, ops[i]? = some o → ∀ (vs : Nat → Value) w1, (∀ j v, fix j = some v → vs j = v) → C w w1 → (∀ j ∈ depsOf ops ops.size i, Φ j vs w1) → stepG P ops o (acts ops a vs (fun _ => true) i) w1 (fun u w2 => S i w1 w2 ∧ Φ i (upd vs i u) w2))
    (hend : ∀ (vs : Nat → Value) w1, (∀ j v, fix j = some v → vs j = v) → C w w1 → (∀ i, i < ops.size → Φ i vs w1) → Q .normal (acts ops a vs (fun _ => true) ops.size) w1) : anyS P ops Q ops.size (Array.replicate ops.size false) a { w with drawn := w.drawn + 1 } := by
  have hsel : ∀ (j : Nat) (o : Oper) cs b, ops[j]? = some o → o.op ≠ .select cs b := by
    have h2 := hB
    simp only [okB, Bool.and_eq_true] at h2
    exact Region.noSelect_spec h2.1
  suffices key : ∀ (fuel : Nat) (listed : Array Bool) (vs : Nat → Value) (w1 : World), (∀ j v, fix j = some v → vs j = v) → listed.size = ops.size → listed.toList.count true + fuel = ops.size → C w w1 →
      (∀ j, listed.getD j false = true → ∀ i ∈ direct ops j, listed.getD i false = true) → (∀ j, j < ops.size → listed.getD j false = true → Φ j vs w1) →
      anyS P ops Q fuel listed (acts ops a vs (fun j => listed.getD j false) ops.size) w1 by
    have h0 := key ops.size (Array.replicate ops.size false) (fun j => (fix j).getD undef) { w with drawn := w.drawn + 1 } (fun j v h => by simp [h]) (by simp) (by simp [List.count_replicate]) (T.d w)
      (fun j hj => by rw [getD_rep] at hj; cases hj) (fun j _ hj => by rw [getD_rep] at hj; cases hj)
    have e : acts ops a (fun j => (fix j).getD undef) (fun j => (Array.replicate ops.size false).getD j false) ops.size = a := by
      have : ∀ n, acts ops a (fun j => (fix j).getD undef) (fun j => (Array.replicate ops.size false).getD j false) n = a := by
        intro n
        induction n with
        | zero => rfl
        | succ n ih => simp only [acts]; rw [if_neg (by rw [getD_rep]; exact Bool.false_ne_true)]; exact ih
      exact this _
    rw [e] at h0
    exact h0
  intro fuel
  have hdone : ∀ (listed : Array Bool) (vs : Nat → Value) (w1 : World), (∀ j v, fix j = some v → vs j = v) → (∀ j, j < ops.size → listed.getD j false = true) → C w w1 → (∀ j, j < ops.size → listed.getD j false = true → Φ j vs w1) →
      Q .normal (acts ops a vs (fun j => listed.getD j false) ops.size) w1 := by
    intro listed vs w1 hfx hall hx hΦ
    have := hend vs w1 hfx hx fun i hi => hΦ i hi (hall i hi)
    rwa [acts_congr a vs vs (fun _ => true) (fun j => listed.getD j false) ops.size fun j hj => ⟨(hall j hj).symm, fun _ => rfl⟩] at this
  induction fuel with
  | zero =>
    intro listed vs w1 hfx hsz hc hx hcl hΦ
    have hall : ∀ j, j < ops.size → listed.getD j false = true := by
      intro j hj
      have hlen : listed.toList.count true = listed.toList.length := by simp only [Array.length_toList]; omega
      have := List.count_eq_length.1 hlen (listed[j]'(by omega)) (by simp)
      rw [Array.getD_eq_getD_getElem?, Array.getElem?_eq_getElem (by omega)]
      exact this.symm
    refine ⟨?_, hdone listed vs w1 hfx hall hx hΦ⟩
    rw [List.eq_nil_iff_forall_not_mem]
    intro i hi
    have hi1 := (mem_ready.1 hi)
    obtain ⟨o, ho, -⟩ := hi1.2
    have hlt : i < ops.size := (Array.getElem?_eq_some_iff.1 ho).1
    have h1 := hall i hlt
    have h2 := hi1.1
    rw [Array.getD_eq_getD_getElem?, Array.getElem?_eq_getElem (by omega)] at h1 h2
    simp only [Option.getD_some] at h1 h2
    rw [h1] at h2; cases h2
  | succ fuel ih =>
    intro listed vs w1 hfx hsz hc hx hcl hΦ
    refine ⟨fun h => hdone listed vs w1 hfx (all_listed hB hsz h) hx hΦ, fun i hi => ?_⟩
    obtain ⟨hi0, o, ho, hafter⟩ := mem_ready.1 hi
    have hlt : i < ops.size := (Array.getElem?_eq_some_iff.1 ho).1
    have hnot : listed.getD i false = false := by
      rw [Array.getD_eq_getD_getElem?, Array.getElem?_eq_getElem (by omega)] at hi0 ⊢
      exact hi0
    have hdir := direct_ready ho hafter
    have hdeps := dep_in hcl ops.size i hdir
    have hdl : ∀ j ∈ depsOf ops ops.size i, j < ops.size := fun j hj => by
      have := hdeps j hj
      rcases Nat.lt_or_ge j listed.size with h' | h'
      · omega
      · simp [Array.getD_eq_getD_getElem?, Array.getElem?_eq_none h'] at this
    have hst := hops i o ho vs w1 hfx hx fun j hj => hΦ j (hdl j hj) (hdeps j hj)
    -- a later one that has come up is apart from this one
    have hlater : ∀ j, i < j → j < ops.size → listed.getD j false = true → apartB ops i j = true := fun j h1 h2 h3 =>
      ((okB_spec hB j h2).2 i h1).resolve_right fun hmem => by
        have := dep_in hcl ops.size j (hcl j h3) i hmem
        rw [hnot] at this; cases this
    have hearlier : ∀ j, j < i → listed.getD j false = false → apartB ops j i = true := fun j h1 h3 =>
      ((okB_spec hB i hlt).2 j h1).resolve_right fun hmem => by
        have := hdeps j hmem
        rw [h3] at this; cases this
    have hacts : ∀ n, i ≤ n → n ≤ ops.size → ∀ t, t ∈ o.looksAt ops → (acts ops a vs (fun j => listed.getD j false) n).tmps[t]? = (acts ops a vs (fun _ => true) i).tmps[t]? := by
      intro n hin
      obtain ⟨k, rfl⟩ := Nat.exists_eq_add_of_le hin
      clear hin
      induction k with
      | zero =>
        intro _ t ht
        refine acts_slot a vs _ _ t i fun j hj hd => ?_
        cases hl : listed.getD j false with
        | true => rfl
        | false =>
          have hap := hearlier j hj hl
          have hoj : ops[j]? = some (ops[j]'(by omega)) := by simp [show j < ops.size from by omega]
          rw [hoj] at hd
          simp only [apartB, hoj, ho] at hap
          exact absurd ht ((Oper.apart_spec hap).1 t hd)
      | succ k ih2 =>
        intro hle t ht
        have ih2 := ih2 (by omega) t ht
        obtain ⟨n, hn⟩ : ∃ n, n = i + k := ⟨_, rfl⟩
        rw [← hn] at ih2
        rw [show i + (k + 1) = n + 1 from by omega]
        simp only [acts]
        by_cases hl : listed.getD n false = true
        · rw [if_pos hl]
          have hni : i ≠ n := fun e => by subst e; rw [hnot] at hl; cases hl
          have hap := hlater n (by omega) (by omega) hl
          have hon : ops[n]? = some (ops[n]'(by omega)) := by simp [show n < ops.size from by omega]
          simp only [apartB, hon, ho] at hap
          rw [put_other _ _ _ _ (fun hd => (Oper.apart_spec hap).2.2 t (by rw [hon] at hd; exact hd) ht)]
          exact ih2
        · rw [if_neg hl]; exact ih2
    have hst2 : stepG P ops o (acts ops a vs (fun j => listed.getD j false) ops.size) w1 (fun u w2 => S i w1 w2 ∧ Φ i (upd vs i u) w2) :=
      stepG_same (hsel i o · · ho) (fun t ht => (hacts ops.size (by omega) (Nat.le_refl _) t ht).symm) hst
    refine opS_of_stepG ho hst2 ?_
    rintro v w2 ⟨hx2, hv⟩
    have hod : (ops[i]?).bind (·.dst) = o.dst := by rw [ho]; rfl
    rw [← hod, acts_put a vs (fun j => listed.getD j false) i v hnot ops.size hlt (fun j h1 h2 h3 d hd hd2 => by
      have hap := hlater j h1 h2 h3
      have hoj : ops[j]? = some (ops[j]'h2) := by simp [h2]
      simp only [apartB, hoj, ho] at hap
      rw [ho] at hd; rw [hoj] at hd2
      exact (Oper.apart_spec hap).2.1 d hd hd2)]
    have hget : ∀ j, (listed.setIfInBounds i true).getD j false = (listed.getD j false || decide (j = i)) := by
      intro j
      by_cases hji : j = i
      · subst hji; simp [Array.getD_eq_getD_getElem?, show j < listed.size from by omega]
      · rw [getD_set_ne false (Ne.symm hji)]; simp [hji]
    have := ih (listed.setIfInBounds i true) (upd vs i v) w2 (fun j u hj => by
        by_cases hji : j = i
        · subst hji; exact hfix j u _ w2 hj hv
        · simpa [upd, hji] using hfx j u hj) (by simpa using hsz) (by
        rw [Array.toList_setIfInBounds, List.count_set (by simpa using (by omega : i < listed.size))]
        have e : (listed.toList[i]'(by simpa using (by omega : i < listed.size))) = false := by
          rw [Array.getD_eq_getD_getElem?, Array.getElem?_eq_getElem (by omega)] at hnot
          simpa using hnot
        have e' : (listed.toList[i]'(by simpa using (by omega : i < listed.size)) == true) = false := by rw [e]; rfl
        rw [e']; simp only [Bool.false_eq_true, if_false, beq_self_eq_true, if_true]; omega) (by
          exact T.tc _ _ _ hx (T.sub _ _ _ hx2))
      (by
        intro j hj k hk
        rw [hget] at hj ⊢
        by_cases hji : j = i
        · subst hji; rw [hdir k hk]; rfl
        · simp only [hji, decide_false, Bool.or_false] at hj
          rw [hcl j hj k hk]; rfl)
      (by
        intro j hj hl
        by_cases hji : j = i
        · subst hji; exact hv
        · rw [hget] at hl
          simp only [hji, decide_false, Bool.or_false] at hl
          have hnd : (depsOf ops ops.size j).contains i = false := by
            rw [Bool.eq_false_iff, ne_eq, List.contains_iff_mem]
            intro h
            have := dep_in hcl ops.size j (hcl j hl) i h
            rw [hnot] at this; cases this
          have hold : Φ j (upd vs i v) w1 := hloc j vs _ _ hj (fun x hx => by
            unfold upd
            split
            · rename_i hxi
              subst hxi
              rcases hx with hx | hx
              · exact absurd hx.symm hji
              · rw [hnd] at hx; cases hx
            · rfl) (hΦ j hj hl)
          exact hkeep j i _ _ _ hj (fun e => hji e.symm) hnd hx2 hold)
    have e2 : (fun j => (listed.setIfInBounds i true).getD j false) = fun j => listed.getD j false || decide (j = i) := funext hget
    rw [e2] at this
    exact this


def Walk (S : Nat → World → World → Prop) (C : World → World → Prop) (P : Program) (ops : Array Oper) (w : World) (Q : Exit → Act → World → Prop) : Nat → List Oper → List Spec → List (Nat × (World → Prop)) → List (Nat × Value) → Act → Prop
  | _, [], _, env, _, a => ∀ w1, C w w1 → (∀ j f, (j, f) ∈ env → f w1) → Q .normal a w1
  | _, _ :: _, [], _, _, _ => False
  | i, o :: rest, .val v :: ss, env, us, a => (∀ w1, C w w1 → Have ops i env w1 → stepG P ops o a w1 (fun u w2 => S i w1 w2 ∧ u = v)) ∧ Walk S C P ops w Q (i + 1) rest ss env ((i, v) :: us) (a.put o.dst v)
  | i, o :: rest, .fact f :: ss, env, us, a => (∀ w1, C w w1 → Have ops i env w1 → stepG P ops o a w1 (fun u w2 => S i w1 w2 ∧ f u w2)) ∧ ∀ u, Walk S C P ops w Q (i + 1) rest ss ((i, f u) :: env) ((i, u) :: us) (a.put o.dst u)
  | i, o :: rest, .on js f :: ss, env, us, a => (∀ w1, C w w1 → Have ops i env w1 → stepG P ops o a w1 (fun u w2 => S i w1 w2 ∧ f (js.map (look us)) u w2)) ∧ ∀ u, Walk S C P ops w Q (i + 1) rest ss ((i, f (js.map (look us)) u) :: env) ((i, u) :: us) (a.put o.dst u)
def keepsS (S : Nat → World → World → Prop) (ops : Array Oper) : Nat → List Spec → Prop
  | _, [] => True
  | i, .val _ :: r => keepsS S ops (i + 1) r
  | i, .fact f :: r => (∀ j, j ≠ i → (depsOf ops ops.size i).contains j = false → ∀ u w1 w2, S j w1 w2 → f u w1 → f u w2) ∧ keepsS S ops (i + 1) r
  | i, .on _ f :: r => (∀ j, j ≠ i → (depsOf ops ops.size i).contains j = false → ∀ l u w1 w2, S j w1 w2 → f l u w1 → f l u w2) ∧ keepsS S ops (i + 1) r
theorem keepsS_get {S : Nat → World → World → Prop} : ∀ (ss : List Spec) (k i : Nat) (s : Spec), keepsS S ops k ss → ss[i]? = some s →
    (∀ j, j ≠ k + i → (depsOf ops ops.size (k + i)).contains j = false → ∀ vs u w1 w2, S j w1 w2 → s.holds vs u w1 → s.holds vs u w2)
  | [], _, _, _, _, h => by simp at h
  | .val v :: r, k, 0, s, _, h => by simp at h; subst h; exact fun _ _ _ _ _ _ _ _ h => h
  | .val v :: r, k, i + 1, s, hk, h => by
    have := keepsS_get r (k + 1) i s hk (by simpa using h)
    rwa [show k + 1 + i = k + (i + 1) from by omega] at this
  | .fact f :: r, k, 0, s, hk, h => by simp at h; subst h; exact fun j hj hc _ => hk.1 j hj hc
  | .fact f :: r, k, i + 1, s, hk, h => by
    have := keepsS_get r (k + 1) i s hk.2 (by simpa using h)
    rwa [show k + 1 + i = k + (i + 1) from by omega] at this
  | .on js f :: r, k, 0, s, hk, h => by simp at h; subst h; exact fun j hj hc vs => hk.1 j hj hc (js.map vs)
  | .on js f :: r, k, i + 1, s, hk, h => by
    have := keepsS_get r (k + 1) i s hk.2 (by simpa using h)
    rwa [show k + 1 + i = k + (i + 1) from by omega] at this
theorem walk_at {S : Nat → World → World → Prop} {C : World → World → Prop} {w : World} {Q : Exit → Act → World → Prop} {a0 : Act} (ss : List Spec) (hlb : locB ops 0 ss = true) (vs : Nat → Value) (hfx : ∀ j s v, ss[j]? = some s → s.fixed = some v → vs j = v) :
    ∀ (n k : Nat) (rest : List Oper) (env : List (Nat × (World → Prop))) (us : List (Nat × Value)) (a : Act), n + k = ops.size → (∀ j, rest[j]? = ops[k + j]?) → rest.length = n → a = acts ops a0 vs (fun _ => true) k →
      (∀ j q, (j, q) ∈ env → ∃ s, ss[j]? = some s ∧ j < k ∧ q = s.holds vs (vs j)) → (∀ j s, ss[j]? = some s → s.fixed = none → j < k → (j, s.holds vs (vs j)) ∈ env) → (∀ j, j < k → look us j = vs j) → Walk S C P ops w Q k rest (ss.drop k) env us a →
      (∀ i o, k ≤ i → ops[i]? = some o → ∃ s, ss[i]? = some s ∧ ∀ w1, C w w1 → (∀ j ∈ depsOf ops ops.size i, j < i → ∀ s, ss[j]? = some s → s.holds vs (vs j) w1) → stepG P ops o (acts ops a0 vs (fun _ => true) i) w1 (fun u w2 => S i w1 w2 ∧ s.holds vs u w2)) ∧
      (∀ w1, C w w1 → (∀ i s, i < ops.size → ss[i]? = some s → s.holds vs (vs i) w1) → Q .normal (acts ops a0 vs (fun _ => true) ops.size) w1) := by
  intro n
  induction n with
  | zero =>
    intro k rest env us a hk hr hl ha henv henv2 hus hw
    obtain rfl : rest = [] := List.length_eq_zero_iff.1 hl
    have e : k = ops.size := by omega
    subst e
    refine ⟨fun i o hi ho => by have := (Array.getElem?_eq_some_iff.1 ho).1; omega, fun w1 hx hall => ?_⟩
    simp only [Walk] at hw
    rw [← ha]
    refine hw w1 hx fun j q hq => ?_
    obtain ⟨s, hs, hj, rfl⟩ := henv j q hq
    exact hall j s hj hs
  | succ n ih =>
    intro k rest env us a hk hr hl ha henv henv2 hus hw
    obtain ⟨o, rest, rfl⟩ : ∃ o r, rest = o :: r := by cases rest with | nil => simp at hl | cons o r => exact ⟨o, r, rfl⟩
    have hok : ops[k]? = some o := by simpa using (hr 0).symm
    have hact : ∀ v, vs k = v → a.put o.dst v = acts ops a0 vs (fun _ => true) (k + 1) := fun v hv => by
      simp only [acts, if_true]; rw [← ha, hok, hv]; rfl
    cases hs : ss[k]? with
    | none =>
      rw [List.drop_eq_nil_of_le (by rcases Nat.lt_or_ge k ss.length with h | h; · rw [List.getElem?_eq_getElem h] at hs; cases hs
                                     · exact h)] at hw
      simp only [Walk] at hw
    | some s =>
      have hlt : k < ss.length := (List.getElem?_eq_some_iff.1 hs).1
      rw [List.drop_eq_getElem_cons hlt, (List.getElem?_eq_some_iff.1 hs).2] at hw
      have hlean : ∀ w1, (∀ j ∈ depsOf ops ops.size k, j < k → ∀ s, ss[j]? = some s → s.holds vs (vs j) w1) → Have ops k env w1 := by
        intro w1 h j q hq hc
        obtain ⟨s, hs, hj, rfl⟩ := henv j q hq
        exact h j (by simpa using hc) hj s hs
      have hr' : ∀ j, rest[j]? = ops[k + 1 + j]? := fun j => by have := hr (j + 1); simpa [Nat.add_assoc, Nat.add_comm 1 j] using this
      have hus' : ∀ v, vs k = v → ∀ j, j < k + 1 → look ((k, v) :: us) j = vs j := fun v hv j hj => by
        simp only [look]
        split
        · rename_i e; rw [← e, hv]
        · rename_i e; exact hus j (by omega)
      have hmap : s.js.map (look us) = s.js.map vs := List.map_congr_left fun j hj => hus j (by have := (locB_get ss 0 k s hlb hs j hj).2; omega)
      cases s with
      | val v =>
        simp only [Walk] at hw
        have hv : vs k = v := hfx k _ v hs rfl
        obtain ⟨h1, h2⟩ := ih (k + 1) rest env _ _ (by omega) hr' (by simpa using hl) (hact v hv) (fun j q hq => by obtain ⟨s, hs, hj, e⟩ := henv j q hq; exact ⟨s, hs, by omega, e⟩)
          (fun j s hs' hf hj => henv2 j s hs' hf (by rcases Nat.lt_or_ge j k with h | h; · exact h
                                                     · obtain rfl : j = k := by omega
                                                       rw [hs] at hs'; cases hs'; cases hf)) (hus' v hv) hw.2
        refine ⟨fun i o' hi ho => ?_, h2⟩
        rcases Nat.lt_or_ge k i with hik | hik
        · exact h1 i o' (by omega) ho
        · obtain rfl : i = k := by omega
          rw [hok] at ho; cases ho
          exact ⟨_, hs, fun w1 hx hd => by rw [← ha]; exact hw.1 w1 hx (hlean w1 hd)⟩
      | fact f =>
        simp only [Walk] at hw
        obtain ⟨h1, h2⟩ := ih (k + 1) rest _ _ _ (by omega) hr' (by simpa using hl) (hact (vs k) rfl)
          (fun j q hq => by
            rcases List.mem_cons.1 hq with e | hq
            · cases e; exact ⟨_, hs, by omega, rfl⟩
            · obtain ⟨s, hs, hj, e⟩ := henv j q hq; exact ⟨s, hs, by omega, e⟩)
          (fun j s hs' hf hj => by
            rcases Nat.lt_or_ge j k with h | h
            · exact List.mem_cons_of_mem _ (henv2 j s hs' hf h)
            · obtain rfl : j = k := by omega
              rw [hs] at hs'; cases hs'; exact List.mem_cons_self) (hus' _ rfl) (hw.2 (vs k))
        refine ⟨fun i o' hi ho => ?_, h2⟩
        rcases Nat.lt_or_ge k i with hik | hik
        · exact h1 i o' (by omega) ho
        · obtain rfl : i = k := by omega
          rw [hok] at ho; cases ho
          exact ⟨_, hs, fun w1 hx hd => by rw [← ha]; exact hw.1 w1 hx (hlean w1 hd)⟩
      | on js f =>
        simp only [Walk] at hw
        simp only [Spec.js] at hmap
        rw [hmap] at hw
        obtain ⟨h1, h2⟩ := ih (k + 1) rest _ _ _ (by omega) hr' (by simpa using hl) (hact (vs k) rfl)
          (fun j q hq => by
            rcases List.mem_cons.1 hq with e | hq
            · cases e; exact ⟨_, hs, by omega, rfl⟩
            · obtain ⟨s, hs, hj, e⟩ := henv j q hq; exact ⟨s, hs, by omega, e⟩)
          (fun j s hs' hf hj => by
            rcases Nat.lt_or_ge j k with h | h
            · exact List.mem_cons_of_mem _ (henv2 j s hs' hf h)
            · obtain rfl : j = k := by omega
              rw [hs] at hs'; cases hs'; exact List.mem_cons_self) (hus' _ rfl) (hw.2 (vs k))
        refine ⟨fun i o' hi ho => ?_, h2⟩
        rcases Nat.lt_or_ge k i with hik | hik
        · exact h1 i o' (by omega) ho
        · obtain rfl : i = k := by omega
          rw [hok] at ho; cases ho
          exact ⟨_, hs, fun w1 hx hd => by rw [← ha]; exact hw.1 w1 hx (hlean w1 hd)⟩

/-- THE RULE, for a region whose operations are written out: a spec for each operation, the walk in the text's order. -/
theorem any_region {S : Nat → World → World → Prop} {C : World → World → Prop} (T : ManyT S C) {Q : Exit → Act → World → Prop} {a : Act} {w : World} {l : List Oper} (ss : List Spec) (hB : okB l.toArray = true) (hlb : locB l.toArray 0 ss = true) (hk : keepsS S l.toArray 0 ss)
    (h : Walk S C P l.toArray w Q 0 l ss [] [] a) : anyS P l.toArray Q l.toArray.size (Array.replicate l.toArray.size false) a { w with drawn := w.drawn + 1 } := by
  have base := fun vs hfx => walk_at (S := S) (C := C) (P := P) (ops := l.toArray) (w := w) (Q := Q) (a0 := a) ss hlb vs hfx l.length 0 l [] [] a (by simp) (by simp) rfl rfl (fun _ _ h => by cases h) (fun _ _ _ _ h => by omega) (fun _ h => by omega) h
  refine any_facts T (fun i vs => match ss[i]? with | some s => s.holds vs (vs i) | none => fun _ => False) (fun i => (ss[i]?).bind Spec.fixed) ?_ ?_ hB ?_ ?_ ?_
  · intro i v vs w hv hu
    cases hs : ss[i]? with
    | none => simp [hs] at hv
    | some s => cases s with
      | val x => simp only [hs, Option.bind_some, Spec.fixed, Option.some.injEq] at hv; subst hv; simpa [hs, Spec.holds] using hu
      | fact f => simp [hs, Spec.fixed] at hv
      | on js f => simp [hs, Spec.fixed] at hv
  · intro i vs us w hi hj hu
    cases hs : ss[i]? with
    | none => simp [hs] at hu
    | some s =>
      simp only [hs] at hu ⊢
      rw [← hj i (.inl rfl)]
      exact holds_loc (fun j hjs => hj j (.inr (by have := (locB_get ss 0 i s hlb hs j hjs).1; rwa [Nat.zero_add] at this))) hu
  · intro i j vs w1 w2 _ hip hc hx hu
    cases hs : ss[i]? with
    | none => simp [hs] at hu
    | some s => simp only [hs] at hu ⊢; exact (keepsS_get ss 0 i s hk hs) j (by rw [Nat.zero_add]; exact hip) (by rw [Nat.zero_add]; exact hc) vs _ w1 w2 hx hu
  · intro i o ho vs w1 hfx hx hd
    obtain ⟨h1, -⟩ := base vs fun j s v hs hv => hfx j v (by simp [hs, hv])
    obtain ⟨s, hs, hst⟩ := h1 i o (Nat.zero_le _) ho
    simp only [hs]
    have hst := hst w1 hx fun j hj _ s' hs' => by
      have := hd j hj
      simpa only [hs'] using this
    refine stepG_mono hst fun u w2 ⟨h1, h2⟩ => ⟨h1, ?_⟩
    have e : upd vs i u i = u := by simp [upd]
    rw [e]
    refine holds_loc (fun j hjs => ?_) h2
    have := (locB_get ss 0 i s hlb hs j hjs).2
    simp only [upd]
    rw [if_neg (by omega)]
  · intro vs w1 hfx hx hall
    obtain ⟨-, h2⟩ := base vs fun j s v hs hv => hfx j v (by simp [hs, hv])
    refine h2 w1 hx fun i s hi hs => ?_
    have := hall i hi
    simpa only [hs] using this
theorem wp_region {S : Nat → World → World → Prop} {C : World → World → Prop} (T : ManyT S C) {id : Nat} {Q : Exit → Act → World → Prop} {a : Act} {w : World} {l : List Oper} (ss : List Spec) (hm : P.follows .mixedOrders = true) (hB : okB l.toArray = true) (hlb : locB l.toArray 0 ss = true) (hk : keepsS S l.toArray 0 ss)
    (h : Walk S C P l.toArray w Q 0 l ss [] [] a) : (Code.region id l.toArray true).wp P Q a w :=
  wp_region_any hm (any_of_anyS _ _ _ _ (any_region T ss hB hlb hk h))
/-- the same, told by the number of the last operation, which comes behind all others -/
theorem wp_regionL {S : Nat → World → World → Prop} {C : World → World → Prop} (T : ManyT S C) (n : Nat) {id : Nat} {Q : Exit → Act → World → Prop} {a : Act} {w : World} {L : List Oper} (ss : List Spec) (hm : P.follows .mixedOrders = true) (hL : L.length = n + 1) (hlast : Facts.Peel.lastB (L.take n) (L.getD n default) = true) (hB' : okB L.toArray = true) (hB : okB (L.take n).toArray = true) (hlb : locB (L.take n).toArray 0 ss = true) (hk : keepsS S (L.take n).toArray 0 ss)
    (h : Walk S C P (L.take n).toArray w (fun e a w => e = .normal ∧ stepG P L.toArray (L.getD n default) a w (fun u w2 => Q .normal (a.put (L.getD n default).dst u) w2)) 0 (L.take n) ss [] [] a) : (Code.region id L.toArray true).wp P Q a w := by
  have e : L = L.take n ++ [L.getD n default] := by
    conv => lhs; rw [← List.take_append_drop n L]
    congr 1
    rw [List.drop_eq_getElem_cons (by omega), List.drop_of_length_le (by omega), List.getD_eq_getElem?_getD, List.getElem?_eq_getElem (by omega)]
    rfl
  suffices key : ∀ (l : List Oper) (o : Oper), Facts.Peel.lastB l o = true → okB (l ++ [o]).toArray = true → okB l.toArray = true → locB l.toArray 0 ss = true → keepsS S l.toArray 0 ss → Walk S C P l.toArray w (fun e a w => e = .normal ∧ stepG P (l ++ [o]).toArray o a w (fun u w2 => Q .normal (a.put o.dst u) w2)) 0 l ss [] [] a → (Code.region id (l ++ [o]).toArray true).wp P Q a w by
    have := key (L.take n) (L.getD n default) hlast (by rw [← e]; exact hB') hB hlb hk (by rw [← e]; exact h)
    rwa [← e] at this
  intro l o hlast hB' hB hlb hk h
  have h1 := any_region T ss hB hlb hk h
  have h2 := Facts.Peel.any_peel (P := P) (Q := Q) hlast hB' l.toArray.size (Array.replicate l.toArray.size false) a { w with drawn := w.drawn + 1 } (by simp) (by simp [List.count_replicate]) (fun j hj => by
    exfalso
    rw [Array.getD_eq_getD_getElem?, Array.getElem?_push] at hj
    split at hj
    · simp at hj
    · rw [← Array.getD_eq_getD_getElem?, getD_rep] at hj; cases hj) h1
  have e : (l ++ [o]).toArray.size = l.toArray.size + 1 := by simp
  refine wp_region_any hm (any_of_anyS _ _ _ _ ?_)
  rw [e, Array.replicate_succ]
  exact h2
end Facts.Dep.Many
end Go.Proofs.Ytdadffmagfknoaa

namespace Go.Proofs.Ytdadffmagfknoaa
set_option linter.unusedSimpArgs false
set_option linter.unusedVariables false
open Go.RowKit
set_option linter.unusedVariables false
set_option linter.unusedSimpArgs false
namespace Facts.Dep.Many
open Facts.Piv (anyS opS any_of_anyS opS_of_stepG)
variable {P : Program} {ops : Array Oper}
theorem wp_regionL2 {S : Nat → World → World → Prop} {C : World → World → Prop} (T : ManyT S C) (n : Nat) {id : Nat} {Q : Exit → Act → World → Prop} {a : Act} {w : World} {L : List Oper} (ss : List Spec) (hm : P.follows .mixedOrders = true) (hL : L.length = n + 2)
    (hlast : Facts.Peel.lastB (L.take n) (L.getD n default) = true) (hlast2 : Facts.Peel.lastB (L.take (n + 1)) (L.getD (n + 1) default) = true) (hB2 : okB L.toArray = true) (hB' : okB (L.take (n + 1)).toArray = true) (hB : okB (L.take n).toArray = true) (hlb : locB (L.take n).toArray 0 ss = true) (hk : keepsS S (L.take n).toArray 0 ss)
    (h : Walk S C P (L.take n).toArray w (fun e a w => e = .normal ∧ stepG P (L.take (n + 1)).toArray (L.getD n default) a w (fun u w2 => Exit.normal = Exit.normal ∧ stepG P L.toArray (L.getD (n + 1) default) (a.put (L.getD n default).dst u) w2 (fun u2 w3 => Q .normal ((a.put (L.getD n default).dst u).put (L.getD (n + 1) default).dst u2) w3))) 0 (L.take n) ss [] [] a) : (Code.region id L.toArray true).wp P Q a w := by
  have e1 : L.take (n + 1) = L.take n ++ [L.getD n default] := by
    rw [List.take_succ_eq_append_getElem (by omega), List.getD_eq_getElem?_getD, List.getElem?_eq_getElem (by omega)]
    rfl
  have e : L = L.take (n + 1) ++ [L.getD (n + 1) default] := by
    conv => lhs; rw [← List.take_append_drop (n + 1) L]
    congr 1
    rw [List.drop_eq_getElem_cons (by omega), List.drop_of_length_le (by omega), List.getD_eq_getElem?_getD, List.getElem?_eq_getElem (by omega)]
    rfl
  suffices key : ∀ (l : List Oper) (o o2 : Oper), Facts.Peel.lastB l o = true → Facts.Peel.lastB (l ++ [o]) o2 = true → okB (l ++ [o] ++ [o2]).toArray = true → okB (l ++ [o]).toArray = true → okB l.toArray = true → locB l.toArray 0 ss = true → keepsS S l.toArray 0 ss →
      Walk S C P l.toArray w (fun e a w => e = .normal ∧ stepG P (l ++ [o]).toArray o a w (fun u w2 => Exit.normal = Exit.normal ∧ stepG P (l ++ [o] ++ [o2]).toArray o2 (a.put o.dst u) w2 (fun u2 w3 => Q .normal ((a.put o.dst u).put o2.dst u2) w3))) 0 l ss [] [] a → (Code.region id (l ++ [o] ++ [o2]).toArray true).wp P Q a w by
    have := key (L.take n) (L.getD n default) (L.getD (n + 1) default) hlast (by rw [← e1]; exact hlast2) (by rw [← e1, ← e]; exact hB2) (by rw [← e1]; exact hB') hB hlb hk (by rw [← e1, ← e]; exact h)
    rwa [← e1, ← e] at this
  intro l o o2 hlast hlast2 hB2 hB' hB hlb hk h
  have hcl : ∀ (L : List Oper) (k : Nat), ∀ j, ((Array.replicate k false).push false).getD j false = true → ∀ i ∈ direct L.toArray j, ((Array.replicate k false).push false).getD i false = true := fun L k j hj => by
    exfalso
    rw [Array.getD_eq_getD_getElem?, Array.getElem?_push] at hj
    split at hj
    · simp at hj
    · rw [← Array.getD_eq_getD_getElem?, getD_rep] at hj; cases hj
  have h1 := any_region (Q := fun e a w => e = .normal ∧ stepG P (l ++ [o]).toArray o a w (fun u w2 => (fun (e : Exit) (a : Act) (w : World) => e = .normal ∧ stepG P (l ++ [o] ++ [o2]).toArray o2 a w (fun u w2 => Q .normal (a.put o2.dst u) w2)) .normal (a.put o.dst u) w2)) T ss hB hlb hk h
  have h2 := Facts.Peel.any_peel (P := P) (Q := fun (e : Exit) (a : Act) (w : World) => e = .normal ∧ stepG P (l ++ [o] ++ [o2]).toArray o2 a w (fun u w2 => Q .normal (a.put o2.dst u) w2)) hlast hB' l.toArray.size (Array.replicate l.toArray.size false) a { w with drawn := w.drawn + 1 } (by simp) (by simp [List.count_replicate]) (hcl _ _) h1
  have ee : (l ++ [o]).toArray.size = l.toArray.size + 1 := by simp
  rw [← Array.replicate_succ, ← ee] at h2
  have h3 := Facts.Peel.any_peel (P := P) (Q := Q) hlast2 hB2 (l ++ [o]).toArray.size (Array.replicate (l ++ [o]).toArray.size false) a { w with drawn := w.drawn + 1 } (by simp) (by simp [List.count_replicate]) (hcl _ _) h2
  have ee2 : (l ++ [o] ++ [o2]).toArray.size = (l ++ [o]).toArray.size + 1 := by simp
  refine wp_region_any hm (any_of_anyS _ _ _ _ ?_)
  rw [ee2, Array.replicate_succ]
  exact h3
end Facts.Dep.Many
end Go.Proofs.Ytdadffmagfknoaa

namespace Go.Proofs.Ytdadffmagfknoaa
set_option linter.unusedSimpArgs false
set_option linter.unusedVariables false
open Go.RowKit
set_option linter.unusedVariables false

structure KeptC (W W' : World) : Prop where
  size : W.heap.size ≤ W'.heap.size
  cells : ∀ (k : Nat) (o : Obj), W.heap[k]? = some o → o.isCells = true → W'.heap[k]? = some o
theorem KeptC.refl (W : World) : KeptC W W := ⟨Nat.le_refl _, fun _ _ h _ => h⟩
theorem KeptC.trans {A B C : World} (h : KeptC A B) (k : KeptC B C) : KeptC A C := ⟨Nat.le_trans h.size k.size, fun i o h1 h2 => k.cells i o (h.cells i o h1 h2) h2⟩
theorem Ext.keptC {A B : World} (h : Ext A B) : KeptC A B := ⟨Below.size h, fun k o hk _ => (Below.block h k (Array.getElem?_eq_some_iff.1 hk).1).trans hk⟩
theorem KeptC.putObj {W : World} {l : Nat} {o o' : Obj} (h : W.heap[l]? = some o) (hc : o.isCells = false) : KeptC W (W.putObj l o') :=
  ⟨by simp [World.putObj], fun k x hk hx => by
    by_cases e : k = l
    · subst e; rw [h] at hk; cases hk; rw [hc] at hx; cases hx
    · exact (World.putObj_heap_other e).trans hk⟩
theorem obj_of_cell {W : World} {p : Addr} {v : Value} (h : W.cell? p = some v) : ∃ o, W.heap[p.block]? = some o ∧ o.isCells = true := by
  unfold World.cell? at h
  cases hb : W.heap[p.block]? with
  | none => rw [hb] at h; simp at h
  | some o =>
    refine ⟨o, rfl, ?_⟩
    rw [hb] at h
    cases o <;> first | rfl | (simp at h)
theorem KeptC.cell {W W' : World} (h : KeptC W W') {p : Addr} {v : Value} (hc : W.cell? p = some v) : W'.cell? p = some v := by
  obtain ⟨o, h1, h2⟩ := obj_of_cell hc
  rw [World.cell?_of_block (a := p) ((h.cells _ _ h1 h2).trans h1.symm)]; exact hc
theorem KeptC.lies {W W' : World} (h : KeptC W W') : Lies W W' := fun _ _ hc => h.cell hc

structure KeptX (B n : Nat) (W W' : World) : Prop where
  size : W.heap.size ≤ W'.heap.size
  cells : ∀ (k : Nat) (o : Obj), k ≠ B → W.heap[k]? = some o → o.isCells = true → W'.heap[k]? = some o
  row : ∀ cur e, W.heap[B]? = some (.cells cur e (0, 0)) → ∃ cur', W'.heap[B]? = some (.cells cur' e (0, 0)) ∧ cur'.size = cur.size ∧ cur'.toList.take n = cur.toList.take n
theorem KeptX.refl (B n : Nat) (W : World) : KeptX B n W W := ⟨Nat.le_refl _, fun _ _ _ h _ => h, fun cur e h => ⟨cur, h, rfl, rfl⟩⟩
theorem KeptX.trans {B n : Nat} {W1 W2 W3 : World} (h : KeptX B n W1 W2) (k : KeptX B n W2 W3) : KeptX B n W1 W3 :=
  ⟨Nat.le_trans h.size k.size, fun i o hi h1 h2 => k.cells i o hi (h.cells i o hi h1 h2) h2, fun cur e hc => by
    obtain ⟨c2, g1, g2, g3⟩ := h.row cur e hc
    obtain ⟨c3, f1, f2, f3⟩ := k.row c2 e g1
    exact ⟨c3, f1, f2.trans g2, f3.trans g3⟩⟩
theorem KeptX.mono {B n m : Nat} {W1 W2 : World} (h : KeptX B n W1 W2) (hm : m ≤ n) : KeptX B m W1 W2 :=
  ⟨h.size, h.cells, fun cur e hc => by
    obtain ⟨c2, g1, g2, g3⟩ := h.row cur e hc
    refine ⟨c2, g1, g2, ?_⟩
    have := congrArg (List.take m) g3
    rwa [List.take_take, List.take_take, Nat.min_eq_left hm] at this⟩
theorem KeptC.x {W W' : World} (h : KeptC W W') (B n : Nat) : KeptX B n W W' := ⟨h.size, fun k o _ h1 h2 => h.cells k o h1 h2, fun cur e hc => ⟨cur, h.cells _ _ hc rfl, rfl, rfl⟩⟩
theorem KeptX.cell {B n : Nat} {W W' : World} (h : KeptX B n W W') {p : Addr} {v : Value} (hp : p.block ≠ B) (hc : W.cell? p = some v) : W'.cell? p = some v := by
  obtain ⟨o, h1, h2⟩ := obj_of_cell hc
  rw [World.cell?_of_block (a := p) ((h.cells _ _ hp h1 h2).trans h1.symm)]; exact hc
theorem KeptX.owns {B n : Nat} {W W' : World} (h : KeptX B n W W') {base m cap : Nat} {e : TypeId} {xs : List Value} (ho : W.ownsRow base e 1 (.slice (some ⟨B, 0, none⟩) m cap) m xs) (hm : m ≤ n) : W'.ownsRow base e 1 (.slice (some ⟨B, 0, none⟩) m cap) m xs := by
  refine ⟨ho.1, ?_⟩
  rcases ho.2 with ⟨h1, -⟩ | ⟨g, cap', cur, h1, hb, hg, hnc, hcm, hcs, htake⟩
  · cases h1
  · simp only [Value.slice.injEq, Option.some.injEq, Addr.mk.injEq, and_true, true_and] at h1
    obtain ⟨rfl, rfl⟩ := h1
    obtain ⟨c2, g1, g2, g3⟩ := h.row cur e hg
    refine .inr ⟨B, cap, c2, rfl, hb, g1, hnc, hcm, g2.trans hcs, ?_⟩
    have := congrArg (List.take (m * 1)) g3
    rw [List.take_take, List.take_take, Nat.min_eq_left (by omega)] at this
    rw [this]; exact htake
/-- a store behind the first n, into the row -/
theorem keptX_grown {W W' : World} {base B n m cap : Nat} {e : TypeId} {xs news : List Value} (ho : W.ownsRow base e 1 (.slice (some ⟨B, 0, none⟩) n cap) n xs) (ho' : W'.ownsRow base e 1 (.slice (some ⟨B, 0, none⟩) m cap) m (xs ++ news)) (hg : W.grownBy W' (some B)) (hm : n ≤ m) : KeptX B n W W' := by
  refine ⟨hg.size, fun k o hk h1 _ => ?_, fun cur e' hc => ?_⟩
  · exact (hg.block k (Array.getElem?_eq_some_iff.1 h1).1 (by simpa using hk)).trans h1
  · rcases ho.2 with ⟨h1, -⟩ | ⟨g, cap', cu, h1, hb, hg0, hnc, hcm, hcs, htake⟩
    · cases h1
    rcases ho'.2 with ⟨k1, -⟩ | ⟨g', cap'', cu', k1, kb, kg0, knc, kcm, kcs, ktake⟩
    · cases k1
    simp only [Value.slice.injEq, Option.some.injEq, Addr.mk.injEq, and_true, true_and] at h1 k1
    obtain ⟨rfl, rfl⟩ := h1
    obtain ⟨rfl, rfl⟩ := k1
    rw [hc] at hg0
    simp only [Option.some.injEq, Obj.cells.injEq, and_true] at hg0
    obtain ⟨rfl, rfl⟩ := hg0
    refine ⟨cu', kg0, by rw [kcs, hcs], ?_⟩
    have e1 := congrArg (List.take n) ktake
    have hl : xs.length = n := by have := ho.1; omega
    rw [List.take_take, Nat.min_eq_left (by omega), ← hl, List.take_left, hl] at e1
    rw [e1, ← htake, Nat.mul_one]
section
variable {P : Program} (w : World)
theorem wpList_append_fits {ops : Array Oper} {rest : List Oper} {o : Oper} {a : Act} {Q : Exit → Act → World → Prop} (hgd : o.guard = none) (s x : Operand) (t : TypeId)
    (ho : o.op = .call { callee := .builtin .append, args := #[s, x], argTypes := #[t, t] })
    (base : Nat) (e : TypeId) (i : TypeInfo) (size : Nat) (ht : P.underlying t = some (.slice e)) (hi : P.info? e = some i) (hsize : i.size = size)
    (g n cap : Nat) (xs : List Value) (hs : a.eval s = .slice (some ⟨g, 0, none⟩) n cap) (hown : w.ownsRow base e size (.slice (some ⟨g, 0, none⟩) n cap) n xs)
    (ad : Addr) (m c : Nat) (news : List Value) (hx : a.eval x = .slice (some ad) m c) (hl : news.length = m * size) (hnews : ∀ j u, news[j]? = some u → w.cell? (ad.add j) = some u) (h1 : ∀ u ∈ news, u.oneCell' = true)
    (hroom : n + m ≤ cap)
    (h : ∀ w', w'.ownsRow base e size (.slice (some ⟨g, 0, none⟩) (n + m) cap) (n + m) (xs ++ news) → w.grownBy w' (some g) → wpList P ops Q rest (a.put o.dst (.slice (some ⟨g, 0, none⟩) (n + m) cap)) w') : wpList P ops Q (o :: rest) a w := by
  refine wpList_plain hgd fun K hK => ?_
  obtain ⟨w', hr, h2, h3⟩ := run_append_fits (P := P) w base t o.type e i size ht hi hsize g n cap xs hown ad m c news hl hnews h1 hroom
  unfold Oper.wp execOp
  simp only [ho, resolve, invoke, builtin, Sem.run_bind, Sem.run_pure, Result.andThen_ok, List.map_toArray, List.map_cons, List.map_nil, hs, hx, hr]
  exact hK _ _ (h w' h2 h3)
end
end Go.Proofs.Ytdadffmagfknoaa

namespace Go.Proofs.Ytdadffmagfknoaa
set_option linter.unusedSimpArgs false
set_option linter.unusedVariables false
open Go.RowKit
set_option linter.unusedVariables false

/-- AN ITERATOR THAT YIELDS JUST THESE, one after the other, until a round leaves; it may turn whatever has been laid since its call began; a round keeps what Kp says. -/
def SeqV {α : Type} (n : Nat) (P : Program) (g : Nat) (lb : Array Value) (Enc : α → Array Value → World → Prop) (Kp : World → World → Prop) (xs : List α) (w : World) : Prop :=
  ∀ (l : Nat) (J Jx : List α → World → Prop) (W : World), Below w.heap.size w W → (∀ s X Y, Below W.heap.size X Y → J s X → J s Y) →
    (∀ pre x vs W1, J pre W1 → Enc x vs W1 → pre ++ [x] <+: xs → YieldAt Fence.wide (n - 1) P l vs W1 fun e W' => (e = .returned (.bool true) ∧ J (pre ++ [x]) W' ∧ Kp W1 W') ∨ (e = .returned (.bool false) ∧ Jx (pre ++ [x]) W')) →
    J [] W → CallsIn Fence.wide n P g (#[.func (.yield l) #[] #[]] ++ lb) W fun e W' => (∃ v, e = .returned v) ∧ (J xs W' ∨ ∃ pre, pre <+: xs ∧ Jx pre W')
theorem wpIn_seqV {P : Program} {α : Type} {n : Nat} {w : World} {g : Operand} {ps : Array Tmp} {assign body : Code} {Q : Exit → Act → World → Prop} {a : Act} (h1 : 1 ≤ n)
    {gf : Nat} {lb : Array Value} (hg : a.eval g = .func (.func gf) #[] lb) (eg : ∀ args w, (callFunc gf args).run P w = .ok (.enter gf args) w)
    {Enc : α → Array Value → World → Prop} {Kp : World → World → Prop} {xs : List α} {w0 : World} (hseq : SeqV (n - 1) P gf lb Enc Kp xs w0)
    (hKt : ∀ {A B C : World}, Kp A B → Kp B C → Kp A C) (hKb : ∀ (W : World) (l : Nat) (o o' : Obj), w.heap.size ≤ l → W.heap[l]? = some o → o.isCells = false → o.isWalk = false → (∀ es k, o ≠ Obj.map es k) → Kp W (W.putObj l o')) (hb0 : Below w0.heap.size w0 w) (hps : ∀ x vs W, Enc x vs W → vs.size = ps.size)
    (I Ix : List α → World → Prop) (hI : ∀ s A B, Below w.heap.size A B → I s A → I s B) (hIx : ∀ s (A : World) l o', w.heap.size ≤ l → (∃ o, A.heap[l]? = some o ∧ o.isCells = false) → Ix s A → Ix s (A.putObj l o')) (h0 : I [] w) (Ax : α → Act → World → Prop) (hAx : ∀ x a' (A : World) l o', w.heap.size ≤ l → (∃ o, A.heap[l]? = some o ∧ o.isCells = false) → Ax x a' A → Ax x a' (A.putObj l o'))
    (hassign : ∀ (l : Nat) (pre : List α) (x : α) (vs : Array Value) (W : World) (K : Act → World → Prop), I pre W → Enc x vs W → (∀ a' W', KeepsFrom w.heap.size W W' → Kp W W' → I pre W' → Ax x a' W' → K a' W') →
      assign.wpIn (Fence.wide.inRound l) (n - 1 - 1) P (Exit.then K (fun _ _ _ => False)) { tmps := (ps.zip vs).foldl (fun t (p, v) => t.setIfInBounds p v) a.tmps, defers := [] } W)
    (hbody : ∀ (l : Nat) (pre : List α) (x : α) (a' : Act) (W : World), I pre W → Ax x a' W → pre ++ [x] <+: xs → body.wpIn (Fence.wide.inRound l) (n - 1 - 1) P (goesOr w.heap.size Kp I Ix (pre ++ [x]) W) a' W)
    (hdone : ∀ (D : Nat) (W : World), w.heap.size ≤ D → I xs W → W.heap[D]? = some (.deferred (some [])) → Q .normal { a with defers := { target := .collected D, args := #[] } :: a.defers } W)
    (hstop : ∀ (D : Nat) (pre : List α) (W : World), w.heap.size ≤ D → pre <+: xs → Ix pre W → W.heap[D]? = some (.deferred (some [])) → Code.ret.wpIn Fence.wide n P Q { a with defers := { target := .collected D, args := #[] } :: a.defers } W) :
    (Code.rangeFunc g ps assign body).wpIn Fence.wide n P Q a w := by
  refine wpIn_rangeFunc fun fn hfn => ?_
  let rec_ : LoopState → Option Code → Loop := fun st pe => { state := st, pending := pe, fn, tmps := a.tmps, params := ps, assign, body, defers := w.heap.size }
  have hrec : rec_ = fun st pe => { state := st, pending := pe, fn, tmps := a.tmps, params := ps, assign, body, defers := w.heap.size } := rfl
  clear_value rec_
  obtain ⟨W1, hW1⟩ : ∃ W1, (w.alloc (.deferred (some []))).alloc (.loop (rec_ .ready none)) = W1 := ⟨_, rfl⟩
  have z1 : W1.heap.size = w.heap.size + 1 + 1 := by rw [← hW1]; simp
  have hB1 : Below w.heap.size w W1 := by rw [← hW1]; exact ((Below.refl _ w).alloc (Nat.le_refl _) _).alloc (by simp) _
  have hL1 : W1.heap[w.heap.size + 1]? = some (.loop (rec_ .ready none)) := by
    have := World.alloc_heap_new (w.alloc (.deferred (some []))) (.loop (rec_ .ready none))
    rw [World.size_alloc, hW1] at this; exact this
  have hK1 : W1.heap[w.heap.size]? = some (.deferred (some [])) := by
    rw [← hW1]; exact (Below.heap_alloc _ _ _ (by simp)).trans (World.alloc_heap_new w _)
  -- what the law itself knows between two rounds, and behind a round that left
  let J : List α → World → Prop := fun pre W => I pre W ∧ W.heap[w.heap.size + 1]? = some (.loop (rec_ .ready none)) ∧ W.heap[w.heap.size]? = some (.deferred (some []))
  have hJ : ∀ s X Y, Below W1.heap.size X Y → J s X → J s Y := fun s X Y hx h =>
    ⟨hI s X Y (hx.mono (by omega)) h.1, (hx.block _ (by omega)).trans h.2.1, (hx.block _ (by omega)).trans h.2.2⟩
  let Jx : List α → World → Prop := fun pre W => Ix pre W ∧ W.heap[w.heap.size + 1]? = some (.loop (rec_ .done (some .ret))) ∧ W.heap[w.heap.size]? = some (.deferred (some []))
  refine ⟨w.heap.size + 1, [{ target := .collected w.heap.size, args := #[] }], W1, { target := .fn (.func gf) lb, args := #[.func (.yield (w.heap.size + 1)) #[] #[]] }, W1, gf,
    #[.func (.yield (w.heap.size + 1)) #[] #[]] ++ lb, W1, ?_, ?_, ?_, ?_, fun _ => h1, ?_⟩
  · rw [← hW1, hrec]; exact run_enterLoop_outer _ _ _ _ _
  · simp only [resolve, hg]; simp [go_sem]
  · exact fun f' hf' => trivial
  · simp [invoke, go_sem, eg]
  refine (hseq (w.heap.size + 1) J Jx W1 (hb0.trans (hB1.mono hb0.size)) hJ ?round ⟨hI _ _ _ hB1 h0, hL1, hK1⟩).mono ?_
  case round =>
    rintro pre x vs W ⟨hi, hl, hk⟩ henc hpre
    have hy := run_yield (P := P) (args := vs) hl (by rw [hrec]; exact hps x vs W henc)
    rw [hrec] at hy
    refine ⟨fn, _, assign, body, hy, roundIn_of_wpIn hfn (hassign _ pre x vs W _ hi henc fun a' Wa hkf hkp hia hax => ?_)⟩
    clear hy
    have hla := hkf.same _ _ (by omega) hl rfl
    have hka := hkf.same _ _ (Nat.le_refl _) hk rfl
    have hlt : w.heap.size + 1 < Wa.heap.size := (Array.getElem?_eq_some_iff.1 hla).1
    refine ⟨_, run_beginRound hla (by rw [hrec]), ?_⟩
    obtain ⟨Wb, hWb⟩ : ∃ Wb, Wa.putObj (w.heap.size + 1) (.loop { rec_ .ready none with state := .busy }) = Wb := ⟨_, rfl⟩
    have hlb : Wb.heap[w.heap.size + 1]? = some (.loop { rec_ .ready none with state := .busy }) := by rw [← hWb]; exact World.putObj_heap_same hlt
    have hkb : Wb.heap[w.heap.size]? = some (.deferred (some [])) := by rw [← hWb]; exact (World.putObj_heap_other (by omega)).trans hka
    have hab : Kp Wa Wb := by rw [← hWb]; exact hKb _ _ _ _ (by omega) hla rfl rfl (fun _ _ e => by cases e)
    have hib : I pre Wb := by rw [← hWb]; exact hI _ _ _ (below_put (by omega)) hia
    have haxb : Ax x a' Wb := by rw [← hWb]; exact hAx _ _ _ _ _ (by omega) ⟨_, hla, rfl⟩ hax
    rw [hWb]
    refine wpIn_mono (hbody _ pre x a' Wb hib haxb hpre) ?_
    rintro e a3 W3 hp
    cases e with
    | normal =>
      obtain ⟨hk3, hkp3, hi3⟩ := hp
      have hl3 := hk3.same _ _ (by omega) hlb rfl
      have hd3 := hk3.same _ _ (Nat.le_refl _) hkb rfl
      have hr := run_endRound (P := P) none hl3
      refine ⟨_, _, hr, .inl ⟨rfl, ⟨hI _ _ _ (below_put (by omega)) hi3, ?_, (World.putObj_heap_other (by omega)).trans hd3⟩, hKt hkp (hKt hab (hKt hkp3 (hKb _ _ _ _ (by omega) hl3 rfl rfl (fun _ _ e => by cases e))))⟩⟩
      rw [World.putObj_heap_same (Array.getElem?_eq_some_iff.1 hl3).1, hrec]
      rfl
    | ret =>
      obtain ⟨hk3, hi3⟩ := hp
      have hl3 := hk3.same _ _ (by omega) hlb rfl
      have hd3 := hk3.same _ _ (Nat.le_refl _) hkb rfl
      have hr := run_endRound (P := P) (some .ret) hl3
      refine ⟨_, _, hr, .inr ⟨rfl, hIx _ _ _ _ (by omega) ⟨_, hl3, rfl⟩ hi3, ?_, (World.putObj_heap_other (by omega)).trans hd3⟩⟩
      rw [World.putObj_heap_same (Array.getElem?_eq_some_iff.1 hl3).1, hrec]
      rfl
    | _ => exact hp.elim
  rintro e W2 ⟨⟨v, rfl⟩, ⟨hi, hl, hk⟩ | ⟨pre, hpre, hi, hl, hk⟩⟩
  · exact ⟨none, _, by have := run_endLoop (P := P) hl (by rw [hrec]; simp); rw [hrec] at this; exact this, hdone _ _ (Nat.le_refl _) (hI _ _ _ (below_put (by omega)) hi) ((World.putObj_heap_other (by omega)).trans hk)⟩
  · exact ⟨some .ret, _, by have := run_endLoop (P := P) hl (by rw [hrec]; simp); rw [hrec] at this; exact this, hstop _ _ _ (Nat.le_refl _) hpre (hIx _ _ _ _ (by omega) ⟨_, hl, rfl⟩ hi) ((World.putObj_heap_other (by omega)).trans hk)⟩
end Go.Proofs.Ytdadffmagfknoaa

namespace Go.Proofs.Ytdadffmagfknoaa
set_option linter.unusedSimpArgs false
set_option linter.unusedVariables false
set_option linter.unusedVariables false

/-- silence, and so many sounds less one -/
def soundsTo (k : Nat) : List Int := (List.range k).map fun (j : Nat) => (j : Int) - 1
theorem soundsTo_succ (k : Nat) : soundsTo (k + 1) = soundsTo k ++ [(k : Int) - 1] := by simp [soundsTo, List.range_succ]
theorem mem_soundsTo {k : Nat} {n : Int} : n ∈ soundsTo k ↔ -1 ≤ n ∧ n < (k : Int) - 1 := by
  simp only [soundsTo, List.mem_map, List.mem_range]
  constructor
  · rintro ⟨j, hj, rfl⟩; omega
  · rintro ⟨h1, h2⟩; exact ⟨(n + 1).toNat, by omega, by omega⟩
def withS (s : List Int) (n : Int) : List Int := if n = -1 then s else s ++ [n]
/-- what some letters give behind a sound string, once for each way; K: the sounds and silence -/
def yields (K : Nat) : List Letter → List Int → List (List Int)
  | [], s => [s]
  | y :: ys, s => (soundsTo K).flatMap fun n => if givesM y n then yields K ys (withS s n) else []
def yieldsTo (K : Nat) (y : Letter) (ys : List Letter) (s : List Int) (k : Nat) : List (List Int) :=
  (soundsTo k).flatMap fun n => if givesM y n then yields K ys (withS s n) else []
theorem yields_cons (K : Nat) (y : Letter) (ys : List Letter) (s : List Int) : yields K (y :: ys) s = yieldsTo K y ys s K := rfl
theorem yieldsTo_zero (K : Nat) (y : Letter) (ys : List Letter) (s : List Int) : yieldsTo K y ys s 0 = [] := rfl
theorem yieldsTo_yes (K : Nat) (y : Letter) (ys : List Letter) (s : List Int) (k : Nat) (h : givesM y ((k : Int) - 1) = true) : yieldsTo K y ys s (k + 1) = yieldsTo K y ys s k ++ yields K ys (withS s ((k : Int) - 1)) := by
  simp [yieldsTo, soundsTo_succ, h]
theorem yieldsTo_no (K : Nat) (y : Letter) (ys : List Letter) (s : List Int) (k : Nat) (h : givesM y ((k : Int) - 1) = false) : yieldsTo K y ys s (k + 1) = yieldsTo K y ys s k := by
  simp [yieldsTo, soundsTo_succ, h]
/-- a string that some letters can be, letter by letter -/
inductive Can (K : Nat) : List Letter → List Int → List Int → Prop
  | nil (s : List Int) : Can K [] s s
  | cons (y : Letter) (ys : List Letter) (s t : List Int) (n : Int) (hn : n ∈ soundsTo K) (hg : givesM y n = true) (h : Can K ys (withS s n) t) : Can K (y :: ys) s t
theorem mem_yields {K : Nat} : ∀ {ls : List Letter} {s t : List Int}, t ∈ yields K ls s ↔ Can K ls s t
  | [], s, t => by
    simp only [yields, List.mem_singleton]
    constructor
    · rintro rfl; exact .nil _
    · rintro ⟨⟩; rfl
  | y :: ys, s, t => by
    simp only [yields, List.mem_flatMap]
    constructor
    · rintro ⟨n, hn, ht⟩
      split at ht
      · rename_i hg; exact .cons y ys s t n hn hg (mem_yields.1 ht)
      · cases ht
    · rintro h
      cases h with
      | cons _ _ _ _ n hn hg h => exact ⟨n, hn, by rw [if_pos hg]; exact mem_yields.2 h⟩
theorem Can.len {K : Nat} {ls : List Letter} {s t : List Int} (h : Can K ls s t) : t.length ≤ s.length + ls.length := by
  induction h with
  | nil s => simp
  | cons y ys s t n hn hg h ih =>
    have : (withS s n).length ≤ s.length + 1 := by unfold withS; split <;> simp
    simp only [List.length_cons]; omega
theorem Can.fine {K : Nat} {ls : List Letter} {s t : List Int} (h : Can K ls s t) (hs : ∀ x ∈ s, 0 ≤ x ∧ x < (K : Int) - 1) : ∀ x ∈ t, 0 ≤ x ∧ x < (K : Int) - 1 := by
  induction h with
  | nil s => exact hs
  | cons y ys s t n hn hg h ih =>
    refine ih fun x hx => ?_
    unfold withS at hx
    split at hx
    · exact hs x hx
    · rename_i h1
      have := mem_soundsTo.1 hn
      rcases List.mem_append.1 hx with hx | hx
      · exact hs x hx
      · simp at hx; subst hx; omega

/-- WHO CAN BE WHAT: each string with the bits of those who can be it -/
abbrev Tally := List (List Int × Nat)
def getT (k : List Int) : Tally → Option Nat
  | [] => none
  | p :: M => if p.1 = k then some p.2 else getT k M
def putT (k : List Int) (v : Nat) : Tally → Tally
  | [] => [(k, v)]
  | p :: M => if p.1 = k then (k, v) :: M else p :: putT k v M
def markT (bit : Nat) (M : Tally) (k : List Int) : Tally := putT k ((getT k M).getD 0 ||| bit) M
theorem getT_putT (k : List Int) (v : Nat) (k' : List Int) : ∀ M : Tally, getT k' (putT k v M) = if k' = k then some v else getT k' M
  | [] => by
    simp only [putT, getT]
    by_cases h : k = k'
    · rw [if_pos h, if_pos h.symm]
    · rw [if_neg h, if_neg (fun e => h e.symm)]
  | p :: M => by
    have ih := getT_putT k v k' M
    simp only [putT]
    by_cases hp : p.1 = k
    · rw [if_pos hp]
      simp only [getT]
      by_cases h : k = k'
      · rw [if_pos h, if_pos h.symm]
      · rw [if_neg h, if_neg (fun e => h e.symm), if_neg (by rw [hp]; exact h)]
    · rw [if_neg hp]
      simp only [getT]
      by_cases h : k' = k
      · rw [if_pos h, if_neg (by rw [h]; exact hp), ih, if_pos h]
      · rw [if_neg h, ih, if_neg h]
theorem keys_putT (k : List Int) (v : Nat) (k' : List Int) : ∀ M : Tally, k' ∈ (putT k v M).map (·.1) ↔ k' = k ∨ k' ∈ M.map (·.1)
  | [] => by simp [putT]
  | p :: M => by
    have ih := keys_putT k v k' M
    simp only [putT]
    by_cases hp : p.1 = k
    · rw [if_pos hp]; simp only [List.map_cons, List.mem_cons, hp]; constructor
      · rintro (h | h); exact .inl h; exact .inr (.inr h)
      · rintro (h | h | h); exact .inl h; exact .inl h; exact .inr h
    · rw [if_neg hp]; simp only [List.map_cons, List.mem_cons, ih]
      constructor
      · rintro (h | h | h); exact .inr (.inl h); exact .inl h; exact .inr (.inr h)
      · rintro (h | h | h); exact .inr (.inl h); exact .inl h; exact .inr (.inr h)
theorem nodup_putT (k : List Int) (v : Nat) : ∀ M : Tally, (M.map (·.1)).Nodup → ((putT k v M).map (·.1)).Nodup
  | [], _ => by simp [putT]
  | p :: M, h => by
    simp only [List.map_cons, List.nodup_cons] at h
    have ih := nodup_putT k v M h.2
    simp only [putT]
    by_cases hp : p.1 = k
    · rw [if_pos hp]; simp only [List.map_cons, List.nodup_cons]; exact ⟨by rw [← hp]; exact h.1, h.2⟩
    · rw [if_neg hp]; simp only [List.map_cons, List.nodup_cons]
      refine ⟨fun hm => ?_, ih⟩
      rcases (keys_putT k v p.1 M).1 hm with e | e
      · exact hp e
      · exact h.1 e
theorem getT_keys (k : List Int) : ∀ M : Tally, (getT k M).isSome = true ↔ k ∈ M.map (·.1)
  | [] => by simp [getT]
  | p :: M => by
    have ih := getT_keys k M
    simp only [getT, List.map_cons, List.mem_cons]
    by_cases hp : p.1 = k
    · simp [hp]
    · rw [if_neg hp, ih]; constructor
      · exact .inr
      · rintro (h | h); exact absurd h.symm hp; exact h
theorem getT_mem {k : List Int} {v : Nat} : ∀ {M : Tally}, getT k M = some v → (k, v) ∈ M
  | p :: M, h => by
    simp only [getT] at h
    split at h
    · rename_i hp; cases h; rw [← hp]; exact List.mem_cons_self
    · exact List.mem_cons_of_mem _ (getT_mem h)
theorem mem_getT {k : List Int} {v : Nat} : ∀ {M : Tally}, (M.map (·.1)).Nodup → (k, v) ∈ M → getT k M = some v
  | p :: M, hn, h => by
    simp only [List.map_cons, List.nodup_cons] at hn
    simp only [getT]
    rcases List.mem_cons.1 h with e | h
    · rw [← e]; simp
    · rw [if_neg]
      · exact mem_getT hn.2 h
      · intro e; exact hn.1 (by rw [e]; exact List.mem_map.2 ⟨_, h, rfl⟩)
theorem putT_len (k : List Int) (v : Nat) : ∀ M : Tally, (putT k v M).length ≤ M.length + 1
  | [] => by simp [putT]
  | p :: M => by
    have := putT_len k v M
    simp only [putT]
    split <;> simp <;> omega

/-- what is so of a tally as it grows -/
structure FineT (K : Nat) (M : Tally) : Prop where
  nodup : (M.map (·.1)).Nodup
  keys : ∀ p ∈ M, p.1.length ≤ 5 ∧ ∀ x ∈ p.1, 0 ≤ x ∧ x < (K : Int) - 1
  vals : ∀ p ∈ M, p.2 < 32
theorem FineT.nil (K : Nat) : FineT K [] := ⟨by simp, by simp, by simp⟩
theorem mem_putT {k : List Int} {v : Nat} {p : List Int × Nat} : ∀ {M : Tally}, p ∈ putT k v M → p = (k, v) ∨ p ∈ M
  | [], h => by simp [putT] at h; exact .inl h
  | q :: M, h => by
    simp only [putT] at h
    split at h
    · rcases List.mem_cons.1 h with e | h
      · exact .inl e
      · exact .inr (List.mem_cons_of_mem _ h)
    · rcases List.mem_cons.1 h with e | h
      · exact .inr (by rw [e]; exact List.mem_cons_self)
      · rcases mem_putT h with e | h
        · exact .inl e
        · exact .inr (List.mem_cons_of_mem _ h)
theorem FineT.get_lt {K : Nat} {M : Tally} (h : FineT K M) (k : List Int) : (getT k M).getD 0 < 32 := by
  cases hg : getT k M with
  | none => simp
  | some v => exact h.vals _ (getT_mem hg)
theorem or_lt {a n : Nat} (ha : a < 32) (hn : n < 5) : a ||| 2 ^ n < 32 := by
  have h2 : 2 ^ n < 2 ^ 5 := Nat.pow_lt_pow_right (by decide) hn
  exact Nat.or_lt_two_pow (n := 5) ha h2
theorem FineT.mark {K : Nat} {M : Tally} (h : FineT K M) {k : List Int} (hk : k.length ≤ 5 ∧ ∀ x ∈ k, 0 ≤ x ∧ x < (K : Int) - 1) {n : Nat} (hn : n < 5) : FineT K (markT (2 ^ n) M k) := by
  refine ⟨nodup_putT _ _ _ h.nodup, fun p hp => ?_, fun p hp => ?_⟩
  · rcases mem_putT hp with rfl | hp
    · exact hk
    · exact h.keys p hp
  · rcases mem_putT hp with rfl | hp
    · exact or_lt (h.get_lt k) hn
    · exact h.vals p hp

def lettersAt (b : Book) (n : Nat) : List Letter := match b.spellings[n]? with
  | none => []
  | some x => lettersM (lettersOf b.alphabets x.alphabet) x.text
def stringsOf (b : Book) (n : Nat) : List (List Int) := yields (b.sounds.toNat + 1) (lettersAt b n) []
def canFrom (b : Book) (M : Tally) (l : List Nat) : Tally := l.foldl (fun M n => (stringsOf b n).foldl (markT (2 ^ n)) M) M
def canM (b : Book) (l : List Nat) : Tally := canFrom b [] l
theorem foldl_mark_snoc (bit : Nat) (l : List (List Int)) (k : List Int) (M : Tally) : (l ++ [k]).foldl (markT bit) M = markT bit (l.foldl (markT bit) M) k := by simp
theorem canFrom_snoc (b : Book) (M : Tally) (l : List Nat) (n : Nat) : canFrom b M (l ++ [n]) = (stringsOf b n).foldl (markT (2 ^ n)) (canFrom b M l) := by simp [canFrom]
theorem fine_foldl {K n : Nat} (hn : n < 5) : ∀ (l : List (List Int)) (M : Tally), FineT K M → (∀ k ∈ l, k.length ≤ 5 ∧ ∀ x ∈ k, 0 ≤ x ∧ x < (K : Int) - 1) → FineT K (l.foldl (markT (2 ^ n)) M)
  | [], _, h, _ => h
  | k :: l, M, h, hl => fine_foldl hn l _ (h.mark (hl k List.mem_cons_self) hn) fun x hx => hl x (List.mem_cons_of_mem _ hx)
/-- the bit of a spelling behind some marks -/
theorem get_foldl (bit : Nat) (k : List Int) : ∀ (l : List (List Int)) (M : Tally), getT k (l.foldl (markT bit) M) = if k ∈ l then some ((getT k M).getD 0 ||| bit) else getT k M
  | [], _ => by simp
  | x :: l, M => by
    rw [List.foldl_cons, get_foldl bit k l]
    unfold markT
    simp only [getT_putT]
    by_cases hx : k = x
    · subst hx
      rw [if_pos rfl, if_pos List.mem_cons_self]
      split
      · simp [Nat.or_assoc]
      · rfl
    · simp [hx]
/-- WHO CAN BE A STRING, told by bits -/
theorem get_canFrom (b : Book) (k : List Int) : ∀ (l : List Nat) (M : Tally), getT k (canFrom b M l) = if (∃ n ∈ l, k ∈ stringsOf b n) then some (l.foldl (fun s n => if k ∈ stringsOf b n then s ||| 2 ^ n else s) ((getT k M).getD 0)) else getT k M
  | [], M => by simp [canFrom]
  | n :: l, M => by
    have ih := get_canFrom b k l ((stringsOf b n).foldl (markT (2 ^ n)) M)
    have e : canFrom b M (n :: l) = canFrom b ((stringsOf b n).foldl (markT (2 ^ n)) M) l := by simp [canFrom]
    rw [e, ih, get_foldl]
    by_cases h : k ∈ stringsOf b n
    · have hex : ∃ m ∈ n :: l, k ∈ stringsOf b m := ⟨n, List.mem_cons_self, h⟩
      rw [if_pos hex]
      simp only [List.foldl_cons, if_pos h, Option.getD_some]
      split
      · rfl
      · rename_i hno
        have : l.foldl (fun s m => if k ∈ stringsOf b m then s ||| 2 ^ m else s) ((getT k M).getD 0 ||| 2 ^ n) = (getT k M).getD 0 ||| 2 ^ n := by
          clear ih e hex
          generalize (getT k M).getD 0 ||| 2 ^ n = s
          induction l with
          | nil => rfl
          | cons m l ih2 =>
            rw [List.foldl_cons, if_neg (fun hm => hno ⟨m, List.mem_cons_self, hm⟩)]
            exact ih2 fun ⟨x, hx, hk⟩ => hno ⟨x, List.mem_cons_of_mem _ hx, hk⟩
        rw [this]
    · have hiff : (∃ m ∈ n :: l, k ∈ stringsOf b m) ↔ ∃ m ∈ l, k ∈ stringsOf b m := by
        constructor
        · rintro ⟨m, hm, hk⟩
          rcases List.mem_cons.1 hm with rfl | hm
          · exact absurd hk h
          · exact ⟨m, hm, hk⟩
        · rintro ⟨m, hm, hk⟩; exact ⟨m, List.mem_cons_of_mem _ hm, hk⟩
      simp only [hiff, if_neg h, List.foldl_cons]
theorem testBit_marks (p : Nat → Bool) (i : Nat) : ∀ (l : List Nat) (s : Nat), (l.foldl (fun s n => if p n then s ||| 2 ^ n else s) s).testBit i = (s.testBit i || l.any fun n => n == i && p n)
  | [], s => by simp
  | n :: l, s => by
    rw [List.foldl_cons, testBit_marks p i l]
    by_cases hp : p n = true
    · rw [if_pos hp]
      by_cases h : n = i
      · subst h; simp [Nat.testBit_or, Nat.testBit_two_pow_self, hp]
      · have h' : (n == i) = false := by simpa using h
        simp [Nat.testBit_or, Nat.testBit_two_pow_of_ne h, h']
    · simp only [Bool.not_eq_true] at hp
      simp [hp]
end Go.Proofs.Ytdadffmagfknoaa

namespace Go.Proofs.Ytdadffmagfknoaa
set_option linter.unusedSimpArgs false
set_option linter.unusedVariables false
open Go.RowKit

/-- all cells are as they were -/
def CK (w w' : World) : Prop := w.heap.size ≤ w'.heap.size ∧ ∀ p v, w.cell? p = some v → w'.cell? p = some v ∧ w'.frozen? p = w.frozen? p
theorem CK.refl (w : World) : CK w w := ⟨Nat.le_refl _, fun _ _ h => ⟨h, rfl⟩⟩
theorem CK.trans {a b c : World} (h : CK a b) (k : CK b c) : CK a c := ⟨Nat.le_trans h.1 k.1, fun p v hp => by
  obtain ⟨h1, h2⟩ := h.2 p v hp
  obtain ⟨k1, k2⟩ := k.2 p v h1
  exact ⟨k1, k2.trans h2⟩⟩
theorem Ext.ck {w w' : World} (h : Ext w w') : CK w w' := ⟨h.size, fun _ _ hp => ⟨h.cell hp, h.frozen (cell_lt hp)⟩⟩
theorem CK.cell {w w' : World} (h : CK w w') {p : Addr} {v : Value} (hc : w.cell? p = some v) : w'.cell? p = some v := (h.2 p v hc).1
theorem two_ck : Facts.Piv.Two Ext CK := ⟨fun _ _ h => h.ck, fun _ _ _ h k => h.trans k, fun _ _ _ h k => h.trans k, Ext.refl, fun a => ext_drew a⟩
theorem SliceAt.ck {α : Type} {sz : Nat} {R : World → Nat → Nat → α → Prop} (hR : ∀ w w' b o x, CK w w' → R w b o x → R w' b o x) {w w' : World} {v : Value} {l : List α} (h : SliceAt sz R w v l) (hx : CK w w') : SliceAt sz R w' v l := by
  obtain ⟨a, cap, h1, h2, h3, h4⟩ := h
  exact ⟨a, cap, h1, h2, h3, fun i hi => by obtain ⟨b, off, e, r⟩ := h4 i hi; exact ⟨b, off, e, hR _ _ _ _ _ hx r⟩⟩
theorem LettersAt.ck {w w' : World} {v : Value} {l : List Letter} (h : LettersAt w v l) (hx : CK w w') : LettersAt w' v l :=
  SliceAt.ck (fun _ _ _ _ _ hx h => ⟨hx.cell h.1, hx.cell h.2.1, hx.cell h.2.2.1, h.2.2.2⟩) h hx

theorem two_any : Facts.Piv.Two Ext (fun _ _ => True) := ⟨fun _ _ _ => trivial, fun _ _ _ h k => h.trans k, fun _ _ _ _ _ => trivial, Ext.refl, fun a => ext_drew a⟩
/-- a bool that says which of two facts is so -/
def Goes (G X : World → Prop) (b : Bool) (u : Value) (w : World) : Prop := (u = .bool b ∧ G w) ∨ (u = .bool (!b) ∧ X w)
theorem Goes.keeps {G X : World → Prop} {b : Bool} (hG : ∀ A B, Ext A B → G A → G B) (hX : ∀ A B, Ext A B → X A → X B) (u : Value) (w1 w2 : World) (h : Ext w1 w2) (hg : Goes G X b u w1) : Goes G X b u w2 := by
  rcases hg with ⟨e, g⟩ | ⟨e, g⟩
  · exact .inl ⟨e, hG _ _ h g⟩
  · exact .inr ⟨e, hX _ _ h g⟩
theorem Goes.nb {G X : World → Prop} {b : Bool} {u : Value} {w : World} (h : Goes G X b u w) (hn : ∀ x, u ≠ .bool x) : False := by
  rcases h with ⟨e, -⟩ | ⟨e, -⟩
  · exact hn _ e
  · exact hn _ e
theorem Goes.yes {G X : World → Prop} {b : Bool} {w : World} (h : Goes G X b (.bool b) w) : G w := by
  rcases h with ⟨-, g⟩ | ⟨e, -⟩
  · exact g
  · cases b <;> cases e
theorem Goes.no {G X : World → Prop} {b : Bool} {w : World} (h : Goes G X b (.bool (!b)) w) : X w := by
  rcases h with ⟨e, -⟩ | ⟨-, g⟩
  · cases b <;> cases e
  · exact g
theorem yieldsTo_mono (K : Nat) (y : Letter) (ys : List Letter) (s : List Int) (k m : Nat) (h : k ≤ m) : (yieldsTo K y ys s k).length ≤ (yieldsTo K y ys s m).length := by
  obtain ⟨d, rfl⟩ := Nat.exists_eq_add_of_le h
  clear h
  induction d with
  | zero => exact Nat.le_refl _
  | succ d ih =>
    rw [show k + (d + 1) = (k + d) + 1 from by omega]
    cases hg : givesM y (((k + d : Nat) : Int) - 1)
    · rw [yieldsTo_no K y ys s (k + d) hg]; exact ih
    · rw [yieldsTo_yes K y ys s (k + d) hg, List.length_append]; omega
/-- what is yielded keeps the cells; the body says whether it goes on -/
def Body (m l N : Nat) (S : Int) (J Jx : List (List Int) → World → Prop) : Prop :=
  ∀ pre x W1, x.length ≤ 5 → (∀ y ∈ x, 0 ≤ y ∧ y < S) → J pre W1 → pre.length < N → YieldAt Fence.wide m Try.prog l #[ssV x] W1 fun e W' => (e = .returned (.bool true) ∧ J (pre ++ [x]) W' ∧ CK W1 W') ∨ (e = .returned (.bool false) ∧ Jx (pre ++ [x]) W')

def GivePost (J Jx : List (List Int) → World → Prop) (all : List (List Int)) (W : World) (e : Ending) (W' : World) : Prop :=
  (e = .returned (.bool true) ∧ J all W' ∧ CK W W') ∨ (e = .returned (.bool false) ∧ ∃ pre, Jx pre W')

theorem good_with {s : List Int} {n S : Int} (h : ∀ y ∈ s, 0 ≤ y ∧ y < S) (hn : -1 ≤ n ∧ n < S) : ∀ y ∈ withS s n, 0 ≤ y ∧ y < S := by
  intro y hy
  unfold withS at hy
  split at hy
  · exact h y hy
  · rcases List.mem_append.1 hy with hy | hy
    · exact h y hy
    · simp at hy; subst hy; omega
end Go.Proofs.Ytdadffmagfknoaa

namespace Go.Proofs.Ytdadffmagfknoaa
set_option linter.unusedSimpArgs false
set_option linter.unusedVariables false
open Go.RowKit

theorem abides_ext {α : Type} {J : List α → World → Prop} {B : Nat} (h : AbidesFrom B J) : ∀ s X Y, Ext X Y → J s X → J s Y := fun s X Y hx hj => h s X Y none hj hx.grownBy (fun r e => by cases e)

/-- the sound strings that a book's letters can give -/
abbrev SoundsS (S : Int) := { x : List Int // x.length ≤ 5 ∧ ∀ y ∈ x, 0 ≤ y ∧ y < S }
theorem lettersAt_eq (b : Book) (n : Nat) (hn : n < b.spellings.length) : lettersAt b n = lettersM (lettersOf b.alphabets (b.spellings[n]).alphabet) (b.spellings[n]).text := by
  unfold lettersAt
  rw [List.getElem?_eq_getElem hn]
theorem lettersAt_fine {b : Book} (hv : Valid b) (n : Nat) (hn : n < b.spellings.length) : (lettersAt b n).length ≤ 5 ∧ ∀ x ∈ lettersAt b n, FineL x := by
  rw [lettersAt_eq b n hn]
  have hs := hv.sp n hn
  refine ⟨by rw [lettersM, lettersTo_len]; exact hs.t.2, fun x hx => ?_⟩
  refine lettersTo_all FineL _ _ _ (fun y hy => ?_) (by simp [FineL]) x hx
  have h1 : (b.spellings[n]).alphabet.toNat < b.alphabets.length := by have := hs.a; omega
  rw [lettersOf, List.getElem?_eq_getElem h1] at hy
  exact hv.fine _ h1 y hy
end Go.Proofs.Ytdadffmagfknoaa

namespace Go.Proofs.Ytdadffmagfknoaa
set_option linter.unusedSimpArgs false
set_option linter.unusedVariables false
set_option linter.unusedVariables false
set_option linter.unusedSimpArgs false
open Go.RowKit
open Go.ChangeMaps (setBlock)

theorem ssV_inj {l m : List Int} (hl : l.length ≤ 5) (hm : m.length ≤ 5) (h : ssV l = ssV m) : l = m := by
  unfold ssV ssRaw at h
  simp only [Value.agg.injEq, Array.mk.injEq, List.cons.injEq, Value.int.injEq, true_and, and_true] at h
  obtain ⟨h0, h1, h2, h3, h4, h5⟩ := h
  have hlen : l.length = m.length := by omega
  refine List.ext_getElem hlen fun i hi hi' => ?_
  have e : ∀ (l : List Int) (j : Nat) (hj : j < l.length), l.getD j 0 = l[j] := fun l j hj => by simp [List.getD_eq_getElem?_getD, hj]
  have h5 : i = 0 ∨ i = 1 ∨ i = 2 ∨ i = 3 ∨ i = 4 := by omega
  rcases h5 with rfl | rfl | rfl | rfl | rfl
  · rw [← e l _ hi, ← e m _ hi']; assumption
  · rw [← e l _ hi, ← e m _ hi']; assumption
  · rw [← e l _ hi, ← e m _ hi']; assumption
  · rw [← e l _ hi, ← e m _ hi']; assumption
  · rw [← e l _ hi, ← e m _ hi']; assumption

def entries (M : Tally) : List (Value × Value) := M.map fun p => (ssV p.1, .int .i64 (p.2 : Nat))
structure EntriesAre (es : Array MapEntry) (M : Tally) : Prop where
  pairs : es.toList.map (fun e => (e.key, e.val)) = entries M
  born : es.toList.map (·.born) = List.range M.length
theorem EntriesAre.size {es : Array MapEntry} {M : Tally} (h : EntriesAre es M) : es.size = M.length := by
  have := congrArg List.length h.pairs
  simpa [entries] using this
/-- the map in block B is this one -/
def MapIs (w : World) (B : Nat) (M : Tally) : Prop := ∃ es, w.heap[B]? = some (.map es M.length) ∧ EntriesAre es M
theorem MapIs.nil (w : World) : MapIs (w.alloc (.map #[] 0)) w.heap.size [] := ⟨#[], World.alloc_heap_new w _, ⟨rfl, rfl⟩⟩
theorem MapIs.lt {w : World} {B : Nat} {M : Tally} (h : MapIs w B M) : B < w.heap.size := by
  obtain ⟨es, hb, -⟩ := h; exact (Array.getElem?_eq_some_iff.1 hb).1
theorem MapIs.kept {w w' : World} {B : Nat} {M : Tally} (h : MapIs w B M) (e : w'.heap[B]? = w.heap[B]?) : MapIs w' B M := by
  obtain ⟨es, hb, h1⟩ := h; exact ⟨es, e.trans hb, h1⟩

/-- where a string stands, and what with -/
def findT (k : List Int) : Tally → Nat → Option (Nat × Nat)
  | [], _ => none
  | p :: M, i => if p.1 = k then some (i, p.2) else findT k M (i + 1)
theorem findT_get (k : List Int) : ∀ (M : Tally) (i : Nat), (findT k M i).map (·.2) = getT k M
  | [], _ => rfl
  | p :: M, i => by
    simp only [findT, getT]
    split
    · rfl
    · exact findT_get k M (i + 1)
theorem findT_put (k : List Int) (v : Nat) : ∀ (M : Tally) (i j : Nat) (u : Nat), findT k M i = some (j, u) → i ≤ j ∧ ∃ hj : j - i < M.length, (M[j - i]).1 = k ∧ putT k v M = M.set (j - i) (k, v)
  | p :: M, i, j, u, h => by
    simp only [findT] at h
    split at h
    · rename_i hp
      cases h
      exact ⟨Nat.le_refl _, by simp, by simpa using hp, by simp [putT, hp]⟩
    · rename_i hp
      obtain ⟨h1, h2, h3, h4⟩ := findT_put k v M (i + 1) j u h
      have e : j - i = (j - (i + 1)) + 1 := by omega
      refine ⟨by omega, by simp; omega, ?_, ?_⟩
      · simp only [e, List.getElem_cons_succ]; exact h3
      · simp only [e, List.set_cons_succ, putT, if_neg hp, h4]
theorem findT_none (k : List Int) (v : Nat) : ∀ (M : Tally) (i : Nat), findT k M i = none → putT k v M = M ++ [(k, v)]
  | [], _, _ => rfl
  | p :: M, i, h => by
    simp only [findT] at h
    split at h
    · cases h
    · rename_i hp
      simp only [putT, if_neg hp, List.cons_append, findT_none k v M (i + 1) h]

theorem run_stays_ss (k : List Int) (w : World) : (Instr.keyThatStays (ssV k) (ssV k)).run Try.prog w = .ok (ssV k) w := by
  have : Instr.sameBits 10000 (ssV k) (ssV k) = true := by
    unfold ssV ssRaw
    simp [Instr.sameBits]
  simp [Instr.keyThatStays, this, Sem.run]

/-- the entry of a string, made where there is none -/
def entM (k : List Int) (M : Tally) : Tally := match findT k M 0 with
  | some _ => M
  | none => M ++ [(k, 0)]
def entE (k : List Int) (M : Tally) (es : Array MapEntry) : Array MapEntry := match findT k M 0 with
  | some _ => es
  | none => es.push { key := ssV k, val := .int .i64 0, born := M.length }
def posT (k : List Int) (M : Tally) : Nat := match findT k M 0 with
  | some (j, _) => j
  | none => M.length
def stoE (k : List Int) (M : Tally) (v : Nat) (es : Array MapEntry) : Array MapEntry := (entE k M es).modify (posT k M) fun e => { e with val := .int .i64 (v : Nat) }
theorem findT_at (k : List Int) (M : Tally) (j u : Nat) (h : findT k M 0 = some (j, u)) : ∃ hj : j < M.length, M[j] = (k, u) := by
  have key : ∀ (M : Tally) (i : Nat), findT k M i = some (j, u) → i ≤ j ∧ ∃ hj : j - i < M.length, M[j - i] = (k, u) := by
    intro M
    induction M with
    | nil => intro i h; simp [findT] at h
    | cons p M ih =>
      intro i h
      simp only [findT] at h
      split at h
      · rename_i hp
        cases h
        refine ⟨Nat.le_refl _, by simp, ?_⟩
        simp only [Nat.sub_self, List.getElem_cons_zero, ← hp]
      · obtain ⟨h1, h2, h3⟩ := ih (i + 1) h
        have e : j - i = (j - (i + 1)) + 1 := by omega
        refine ⟨by omega, by simp; omega, ?_⟩
        simp only [e, List.getElem_cons_succ]; exact h3
  obtain ⟨-, h2, h3⟩ := key M 0 h
  exact ⟨by simpa using h2, by simpa using h3⟩
theorem EntriesAre.at {es : Array MapEntry} {M : Tally} (h : EntriesAre es M) (j : Nat) (hj : j < M.length) : ∃ hj' : j < es.size, es[j] = { key := ssV (M[j]).1, val := .int .i64 ((M[j]).2 : Nat), born := j } := by
  have hj' : j < es.size := by rw [h.size]; exact hj
  refine ⟨hj', ?_⟩
  have h1 := congrArg (fun l => l[j]?) h.pairs
  have h2 := congrArg (fun l => l[j]?) h.born
  simp only [List.getElem?_map, entries, List.getElem?_eq_getElem hj, List.getElem?_range hj, Option.map_some] at h1 h2
  rw [Array.getElem?_toList, Array.getElem?_eq_getElem hj'] at h1 h2
  simp only [Option.map_some, Option.some.injEq, Prod.mk.injEq] at h1 h2
  cases he : es[j] with
  | mk a b c => rw [he] at h1 h2; simp at h1 h2; simp [h1, h2]
theorem entM_len (k : List Int) (M : Tally) : (entM k M).length = if (findT k M 0).isSome then M.length else M.length + 1 := by
  unfold entM
  cases findT k M 0 <;> simp
theorem EntriesAre.ent {es : Array MapEntry} {M : Tally} (h : EntriesAre es M) (k : List Int) : EntriesAre (entE k M es) (entM k M) := by
  unfold entE entM
  cases findT k M 0 with
  | some q => exact h
  | none => exact ⟨by simp [h.pairs, entries], by simp [h.born, List.range_succ]⟩
theorem posT_lt (k : List Int) (M : Tally) : posT k M < (entM k M).length := by
  unfold posT entM
  cases hq : findT k M 0 with
  | none => simp
  | some q => obtain ⟨j, u⟩ := q; obtain ⟨hj, -⟩ := findT_at k M j u hq; exact hj
theorem entM_at (k : List Int) (M : Tally) (h : posT k M < (entM k M).length) : (entM k M)[posT k M] = (k, (getT k M).getD 0) := by
  have hg := findT_get k M 0
  revert h
  unfold posT entM
  cases hq : findT k M 0 with
  | none => intro h; rw [hq] at hg; simp [← hg]
  | some q =>
    obtain ⟨j, u⟩ := q
    intro h
    obtain ⟨hj, e⟩ := findT_at k M j u hq
    rw [hq] at hg
    simp only [← hg, Option.map_some, Option.getD_some]
    exact e
theorem putT_entM (k : List Int) (v : Nat) (M : Tally) : putT k v M = (entM k M).set (posT k M) (k, v) := by
  unfold posT entM
  cases hq : findT k M 0 with
  | none => rw [findT_none k v M 0 hq]; simp
  | some q => obtain ⟨j, u⟩ := q; obtain ⟨-, -, -, e⟩ := findT_put k v M 0 j u hq; simpa using e
theorem EntriesAre.sto {es : Array MapEntry} {M : Tally} (h : EntriesAre es M) (k : List Int) (v : Nat) : EntriesAre (stoE k M v es) (putT k v M) := by
  have h1 := h.ent k
  have hp := posT_lt k M
  obtain ⟨hj, hat⟩ := h1.at _ hp
  rw [entM_at k M hp] at hat
  rw [putT_entM]
  unfold stoE
  generalize entE k M es = fs at *
  generalize posT k M = j at *
  generalize entM k M = L at *
  refine ⟨?_, ?_⟩
  · refine List.ext_getElem? fun i => ?_
    have hi := congrArg (fun l => l[i]?) h1.pairs
    simp only [entries, List.getElem?_map, Array.getElem?_toList, Array.getElem?_modify, List.getElem?_set] at hi ⊢
    by_cases e : j = i
    · subst e
      simp only [if_true, hp, Array.getElem?_eq_getElem hj, hat, Option.map_some]
    · simp only [if_neg e]
      exact hi
  · rw [List.length_set, ← h1.born]
    refine List.ext_getElem? fun i => ?_
    simp only [List.getElem?_map, Array.getElem?_toList, Array.getElem?_modify]
    by_cases e : j = i
    · subst e; simp [Array.getElem?_eq_getElem hj]
    · simp only [if_neg e]
theorem entM_twice (k : List Int) (M : Tally) : (findT k (entM k M) 0).isSome = true ∧ posT k (entM k M) = posT k M ∧ getT k (entM k M) = some ((getT k M).getD 0) := by
  have hg := findT_get k M 0
  have app : ∀ (M : Tally) (i : Nat), findT k M i = none → findT k (M ++ [(k, 0)]) i = some (i + M.length, 0) := by
    intro M
    induction M with
    | nil => intro i _; simp [findT]
    | cons p M ih =>
      intro i h
      simp only [findT] at h
      split at h
      · cases h
      · rename_i hp
        simp only [List.cons_append, findT, if_neg hp, ih (i + 1) h, List.length_cons]
        congr 2; omega
  unfold posT
  cases hq : findT k M 0 with
  | none =>
    rw [hq] at hg
    have e : entM k M = M ++ [(k, 0)] := by unfold entM; rw [hq]
    have ha := app M 0 hq
    have hg2 := findT_get k (M ++ [(k, 0)]) 0
    rw [ha] at hg2
    rw [e, ha]
    refine ⟨rfl, by simp, ?_⟩
    rw [← hg2, ← hg]; rfl
  | some q =>
    rw [hq] at hg
    have e : entM k M = M := by unfold entM; rw [hq]
    rw [e, hq]
    exact ⟨rfl, rfl, by rw [← hg]; rfl⟩
theorem find_born (es : Array MapEntry) (M : Tally) (h : EntriesAre es M) (j : Nat) (hj : j < M.length) : es.findIdx? (fun e => (e.born : Int) == (j : Int)) = some j := by
  rw [Array.findIdx?_eq_some_iff_getElem]
  obtain ⟨hj', hat⟩ := h.at j hj
  refine ⟨hj', by simp [hat], fun i hi => ?_⟩
  obtain ⟨hi', hat'⟩ := h.at i (by omega)
  simp only [hat', beq_iff_eq, Int.natCast_inj]
  omega
end Go.Proofs.Ytdadffmagfknoaa

namespace Go.Proofs.Ytdadffmagfknoaa
set_option linter.unusedSimpArgs false
set_option linter.unusedVariables false
set_option linter.unusedVariables false
open Go.RowKit
open Go.ChangeMaps (setBlock)

theorem leaves_marks {F : Fence} {n : Nat} {P : Program} {fn : Func} {tmps : Array Value} {R : Ending → World → Prop} (n0 : Nat) (Pw : World → Prop) (hP : ∀ W D, n0 ≤ D → Pw W → W.heap[D]? = some (.deferred (some [])) → Pw (W.putObj D (.deferred none)))
    (hend : ∀ W, Pw W → LeavesInM F n P fn tmps R [] .returning W) : ∀ (Ds : List Nat) (W : World), Ds.Nodup → (∀ D ∈ Ds, n0 ≤ D ∧ W.heap[D]? = some (.deferred (some []))) → Pw W →
      LeavesInM F n P fn tmps R (Ds.map fun D => { target := .collected D, args := #[] }) .returning W
  | [], W, _, _, h => hend W h
  | D :: Ds, W, hn, hd, h => by
    obtain ⟨h1, h2⟩ := hd D List.mem_cons_self
    rw [List.nodup_cons] at hn
    refine ⟨by simp, .inl ⟨D, _, rfl, run_takeDeferred h2, ?_⟩⟩
    refine leaves_marks n0 Pw hP hend Ds _ hn.2 (fun E hE => ?_) (hP _ _ h1 h h2)
    obtain ⟨h3, h4⟩ := hd E (List.mem_cons_of_mem _ hE)
    exact ⟨h3, (World.putObj_heap_other (fun e => hn.1 (by first | (rw [e]; exact hE) | (rw [← e]; exact hE)))).trans h4⟩

/-- what is so of the world behind some rounds: the cells that were there when it began, the map, the marks -/
structure Told (n0 : Nat) (w0 W5 : World) (B : Nat) (M : Tally) (Ds : List Nat) (W : World) : Prop where
  ck : CK W5 W
  ext : Ext w0 W
  map : MapIs W B M
  marks : ∀ D ∈ Ds, n0 ≤ D ∧ D < W5.heap.size ∧ W.heap[D]? = some (.deferred (some []))
theorem CK.grownBy {a w w' : World} {row : Option Nat} (h : CK a w) (hg : w.grownBy w' row) (hr : ∀ r, row = some r → ∃ o : Obj, w.heap[r]? = some o ∧ o.isCells = false) : CK a w' :=
  h.trans ⟨hg.size, fun p v hp => ⟨cell_kept hp hg hr, frozen_kept hp hg hr⟩⟩
theorem Told.kept {n0 : Nat} {w0 W5 : World} {B : Nat} {M : Tally} {Ds : List Nat} {W W' : World} (h : Told n0 w0 W5 B M Ds W) (hB : B < W5.heap.size) (hw : w0.heap.size ≤ W5.heap.size) {row : Option Nat} (hg : W.grownBy W' row) (hr : ∀ r, row = some r → W5.heap.size ≤ r ∧ ∃ o : Obj, W.heap[r]? = some o ∧ o.isCells = false) : Told n0 w0 W5 B M Ds W' := by
  have hs := h.ck.1
  refine ⟨h.ck.grownBy hg (fun r e => (hr r e).2), h.ext.grown hg (fun r e => Nat.le_trans hw (hr r e).1), h.map.kept (hg.block B (by omega) (fun e => by have := (hr B e.symm).1; omega)), fun D hD => ?_⟩
  obtain ⟨h1, h2, h3⟩ := h.marks D hD
  exact ⟨h1, h2, (hg.block D (by omega) (fun e => by have := (hr D e.symm).1; omega)).trans h3⟩

/-- the map's block is as it was, or the entry has been taken; nothing else has turned -/
structure Turn (B : Nat) (O0 O1 : Obj) (a b : World) : Prop where
  g : a.grownBy b (some B)
  s : b.heap.size = a.heap.size
  o : b.heap[B]? = a.heap[B]? ∨ (a.heap[B]? = some O0 ∧ b.heap[B]? = some O1)
theorem two_turn (B : Nat) (O0 O1 : Obj) : Facts.Piv.Two (Turn B O0 O1) (fun _ _ => True) :=
  ⟨fun _ _ _ => trivial, fun a b c h k => ⟨h.g.trans k.g, k.s.trans h.s, by
    rcases k.o with k1 | ⟨k1, k2⟩
    · rcases h.o with h1 | ⟨h1, h2⟩
      · exact .inl (k1.trans h1)
      · exact .inr ⟨h1, k1.trans h2⟩
    · rcases h.o with h1 | ⟨h1, h2⟩
      · exact .inr ⟨h1.symm.trans k1, k2⟩
      · exact .inr ⟨h1, k2⟩⟩, fun _ _ _ _ _ => trivial, fun _ => ⟨⟨rfl, rfl, rfl, Nat.le_refl _, fun _ _ _ => rfl⟩, rfl, .inl rfl⟩, fun _ => ⟨⟨rfl, rfl, rfl, Nat.le_refl _, fun _ _ _ => rfl⟩, rfl, .inl rfl⟩⟩
theorem Turn.refl (B : Nat) (O0 O1 : Obj) (a : World) : Turn B O0 O1 a a := (two_turn B O0 O1).r a
theorem Turn.either {B : Nat} {O0 O1 : Obj} {a b : World} (h : Turn B O0 O1 a b) (ha : a.heap[B]? = some O0) : b.heap[B]? = some O0 ∨ b.heap[B]? = some O1 := by
  rcases h.o with h1 | ⟨h1, h2⟩
  · exact .inl (h1.trans ha)
  · exact .inr h2
theorem Turn.one {B : Nat} {O0 O1 : Obj} {a b : World} (h : Turn B O0 O1 a b) (ha : a.heap[B]? = some O1) : b.heap[B]? = some O1 := by
  rcases h.o with h1 | ⟨h1, h2⟩
  · exact h1.trans ha
  · exact h2
theorem ent_same {k : List Int} {M : Tally} {es : Array MapEntry} (h : (findT k M 0).isSome = true) : entM k M = M ∧ entE k M es = es := by
  unfold entM entE
  cases hq : findT k M 0 with
  | none => rw [hq] at h; cases h
  | some q => exact ⟨rfl, rfl⟩
def obj0 (es : Array MapEntry) (M : Tally) : Obj := .map es M.length
def obj1 (k : List Int) (es : Array MapEntry) (M : Tally) : Obj := .map (entE k M es) (entM k M).length
def obj2 (k : List Int) (v : Nat) (es : Array MapEntry) (M : Tally) : Obj := .map (stoE k M v es) (putT k v M).length
theorem Turn.two {B : Nat} {k : List Int} {v : Nat} {es : Array MapEntry} {M : Tally} {a b : World} (h : Turn B (obj0 es M) (obj1 k es M) a b) (ha : a.heap[B]? = some (obj2 k v es M)) : b.heap[B]? = some (obj2 k v es M) := by
  rcases h.o with h1 | ⟨h1, h2⟩
  · exact h1.trans ha
  · rw [ha] at h1
    have e := Option.some.inj h1
    have hl : (putT k v M).length = M.length := by unfold obj0 obj2 at e; exact (Obj.map.inj e).2
    have hs : (findT k M 0).isSome = true := by
      rw [putT_entM, List.length_set, entM_len] at hl
      by_cases hf : (findT k M 0).isSome = true
      · exact hf
      · rw [if_neg hf] at hl; omega
    obtain ⟨e1, e2⟩ := ent_same (es := es) hs
    have e3 : obj1 k es M = obj0 es M := by unfold obj1 obj0; rw [e1, e2]
    rw [h2, e3, ← e]
theorem obj_last {k : List Int} {v : Nat} {es : Array MapEntry} {M : Tally} (h : obj0 es M = obj2 k v es M) : obj1 k es M = obj2 k v es M := by
  have hl : (putT k v M).length = M.length := by unfold obj0 obj2 at h; exact (Obj.map.inj h).2.symm
  have hs : (findT k M 0).isSome = true := by
    rw [putT_entM, List.length_set, entM_len] at hl
    by_cases hf : (findT k M 0).isSome = true
    · exact hf
    · rw [if_neg hf] at hl; omega
  obtain ⟨e1, e2⟩ := ent_same (es := es) hs
  have e3 : obj1 k es M = obj0 es M := by unfold obj1 obj0; rw [e1, e2]
  rw [e3, h]
/-- .. or the entry has been written -/
structure Turn2 (B : Nat) (O0 O1 O2 : Obj) (a b : World) : Prop where
  g : a.grownBy b (some B)
  s : b.heap.size = a.heap.size
  o : b.heap[B]? = a.heap[B]? ∨ (a.heap[B]? = some O0 ∧ b.heap[B]? = some O1) ∨ b.heap[B]? = some O2
theorem two_turn2 (B : Nat) (O0 O1 O2 : Obj) (hO : O0 = O2 → O1 = O2) : Facts.Piv.Two (Turn B O0 O1) (Turn2 B O0 O1 O2) :=
  ⟨fun _ _ h => ⟨h.g, h.s, by rcases h.o with h1 | h1; exact .inl h1; exact .inr (.inl h1)⟩, (two_turn B O0 O1).te, fun a b c h k => ⟨h.g.trans k.g, k.s.trans h.s, by
    rcases k.o with k1 | ⟨k1, k2⟩ | k1
    · rcases h.o with h1 | ⟨h1, h2⟩ | h1
      · exact .inl (k1.trans h1)
      · exact .inr (.inl ⟨h1, k1.trans h2⟩)
      · exact .inr (.inr (k1.trans h1))
    · rcases h.o with h1 | ⟨h1, h2⟩ | h1
      · exact .inr (.inl ⟨h1.symm.trans k1, k2⟩)
      · exact .inr (.inl ⟨h1, k2⟩)
      · refine .inr (.inr ?_)
        rw [h1] at k1
        rw [k2, hO (Option.some.inj k1).symm]
    · exact .inr (.inr k1)⟩, (two_turn B O0 O1).r, (two_turn B O0 O1).d⟩
/-- the entry that has been taken, and the written one -/
def Taken (B : Nat) (O1 O2 : Obj) (x : Value) (u : Value) (w : World) : Prop := u = x ∧ (w.heap[B]? = some O1 ∨ w.heap[B]? = some O2)
def Written (B : Nat) (O2 : Obj) (W : World) (_ : Value) (w : World) : Prop := W.grownBy w (some B) ∧ w.heap.size = W.heap.size ∧ w.heap[B]? = some O2
def IsVal (x : Value) (u : Value) (_ : World) : Prop := u = x
theorem Taken.e {B : Nat} {k : List Int} {v : Nat} {es : Array MapEntry} {M : Tally} {x u : Value} {a b : World} (h : Turn B (obj0 es M) (obj1 k es M) a b) (ht : Taken B (obj1 k es M) (obj2 k v es M) x u a) : Taken B (obj1 k es M) (obj2 k v es M) x u b := by
  obtain ⟨e, h1 | h1⟩ := ht
  · exact ⟨e, .inl (h.one h1)⟩
  · exact ⟨e, .inr (h.two h1)⟩
theorem Taken.c {B : Nat} {O0 O1 O2 : Obj} {x u : Value} {a b : World} (h : Turn2 B O0 O1 O2 a b) (ht : Taken B O1 O2 x u a) : Taken B O1 O2 x u b := by
  obtain ⟨e, ht⟩ := ht
  refine ⟨e, ?_⟩
  rcases h.o with h1 | ⟨-, h1⟩ | h1
  · rw [h1]; exact ht
  · exact .inl h1
  · exact .inr h1
theorem Taken.now {B : Nat} {k : List Int} {v : Nat} {es : Array MapEntry} {M : Tally} {x u : Value} {a b : World} (h : Turn B (obj0 es M) (obj1 k es M) a b) (ha : a.heap[B]? = some (obj0 es M)) (ht : Taken B (obj1 k es M) (obj2 k v es M) x u b) : b.heap[B]? = some (obj1 k es M) := by
  obtain ⟨-, h1 | h1⟩ := ht
  · exact h1
  · rcases h.either ha with h2 | h2
    · rw [h1] at h2
      rw [h1, obj_last (Option.some.inj h2).symm]
    · exact h2
theorem Written.e {B : Nat} {k : List Int} {v : Nat} {es : Array MapEntry} {M : Tally} {W : World} {u : Value} {a b : World} (h : Turn B (obj0 es M) (obj1 k es M) a b) (ht : Written B (obj2 k v es M) W u a) : Written B (obj2 k v es M) W u b :=
  ⟨ht.1.trans h.g, h.s.trans ht.2.1, h.two ht.2.2⟩
theorem Turn.ck {B : Nat} {O0 O1 : Obj} {a b : World} {es : Array MapEntry} {c : Nat} (h : Turn B O0 O1 a b) (ha : a.heap[B]? = some (.map es c)) : CK a b :=
  (CK.refl a).grownBy h.g (fun r e => by cases e; exact ⟨_, ha, rfl⟩)
section
variable {w1 : World} {B : Nat} {M : Tally} {es : Array MapEntry} {k : List Int}
theorem ent_keys (hk : k.length ≤ 5) (hM : ∀ p ∈ M, p.1.length ≤ 5) : ∀ p ∈ entM k M, p.1.length ≤ 5 := by
  intro p hp
  unfold entM at hp
  cases hq : findT k M 0 with
  | none =>
    rw [hq] at hp
    rcases List.mem_append.1 hp with h | h
    · exact hM p h
    · simp at h; subst h; exact hk
  | some q => rw [hq] at hp; exact hM p hp
end
end Go.Proofs.Ytdadffmagfknoaa

namespace Go.Proofs.Ytdadffmagfknoaa
set_option linter.unusedSimpArgs false
set_option linter.unusedVariables false
open Go.RowKit
open Go.ChangeMaps (setBlock)
set_option linter.unusedVariables false
attribute [local go_sem] Oper.semAt_some

def marksOf (Ds : List Nat) : List Deferred := Ds.map fun D => { target := .collected D, args := #[] }

/-- a sound string's six cells -/
structure SSAt (W : World) (u : Nat) (x : List Int) : Prop where
  c0 : W.cell? ⟨u, 0, none⟩ = some (.int .i64 x.length)
  c1 : W.cell? ⟨u, 1, none⟩ = some (.int .i64 (x.getD 0 0))
  c2 : W.cell? ⟨u, 2, none⟩ = some (.int .i64 (x.getD 1 0))
  c3 : W.cell? ⟨u, 3, none⟩ = some (.int .i64 (x.getD 2 0))
  c4 : W.cell? ⟨u, 4, none⟩ = some (.int .i64 (x.getD 3 0))
  c5 : W.cell? ⟨u, 5, none⟩ = some (.int .i64 (x.getD 4 0))
theorem SSAt.ck {W W' : World} {u : Nat} {x : List Int} (h : SSAt W u x) (hx : CK W W') : SSAt W' u x :=
  ⟨hx.cell h.c0, hx.cell h.c1, hx.cell h.c2, hx.cell h.c3, hx.cell h.c4, hx.cell h.c5⟩
theorem SSAt.new (W : World) (x : List Int) (t : TypeId) : SSAt (W.alloc (.cells #[.int .i64 x.length, .int .i64 (x.getD 0 0), .int .i64 (x.getD 1 0), .int .i64 (x.getD 2 0), .int .i64 (x.getD 3 0), .int .i64 (x.getD 4 0)] t)) W.heap.size x :=
  ⟨by simp [go_sem], by simp [go_sem], by simp [go_sem], by simp [go_sem], by simp [go_sem], by simp [go_sem]⟩

theorem shl_small : ∀ n : Fin 5, IntKind.i64.wrap (2 ^ n.1) = ((2 ^ n.1 : Nat) : Int) := by decide +kernel
theorem stringsOf_fine {b : Book} (hv : Valid b) (n : Nat) (hn : n < b.spellings.length) : ∀ k ∈ stringsOf b n, k.length ≤ 5 ∧ ∀ x ∈ k, 0 ≤ x ∧ x < ((b.sounds.toNat + 1 : Nat) : Int) - 1 := by
  intro k hk
  have hc := mem_yields.1 hk
  have hf := (lettersAt_fine hv n hn).1
  refine ⟨by have := hc.len; simp at this; omega, hc.fine (by simp)⟩
theorem canM_fine {b : Book} (hv : Valid b) : ∀ (l : List Nat) (M : Tally), (∀ n ∈ l, n < b.spellings.length) → FineT (b.sounds.toNat + 1) M → FineT (b.sounds.toNat + 1) (canFrom b M l)
  | [], _, _, h => h
  | n :: l, M, hl, h => by
    have hn := hl n List.mem_cons_self
    have e : canFrom b M (n :: l) = canFrom b ((stringsOf b n).foldl (markT (2 ^ n)) M) l := by simp [canFrom]
    rw [e]
    exact canM_fine hv l _ (fun m hm => hl m (List.mem_cons_of_mem _ hm)) (fine_foldl (by have := hv.n; omega) _ _ h (stringsOf_fine hv n hn))
end Go.Proofs.Ytdadffmagfknoaa
