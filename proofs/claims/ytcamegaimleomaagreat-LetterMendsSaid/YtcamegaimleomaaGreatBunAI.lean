/-
  THE SAME RULE as Free, which also says that nothing is written before p does it. Over any program.
  WHAT IS FOUND: mend of the program.
  WHAT IS FOUND: mend of the program.
  THE MARKS: fewest and marks of the program.
  STRINGS, plain: two with the same bytes are the same; what a byte parts.
  AN append AT THE END OF A REGION THAT DRAWS ITS ORDER, onto a row of the call's own: the step, and the two relations. Over any program.
-/
import Derived.Test.YtcamegaimleomaaGreatBunAH
import Derived.Test.YtcamegaimleomaaGreatBunAA
import Derived.Test.YtcamegaimleomaaGreatBunAD
import Derived.Maps.AppendAt
namespace Go.Proofs.YtcamegaimleomaaGreat
set_option linter.unusedSimpArgs false
set_option linter.unusedVariables false
open Go.RowKit
set_option linter.unusedVariables false
set_option linter.unusedSimpArgs false
namespace Facts.Dep.Once
open Facts.Piv (Two anyS opS any_of_anyS opS_of_stepG)
variable {P : Program} {ops : Array Oper}

theorem any_facts {E C : World → World → Prop} (T : Two E C) (p : Nat) {Q : Exit → Act → World → Prop} {a : Act} {w : World} (Φ : Nat → (Nat → Value) → World → Prop) (fix : Nat → Option Value) (hfix : ∀ i v vs w, fix i = some v → Φ i vs w → vs i = v) (hloc : ∀ i vs us w, i < ops.size → (∀ j, j = i ∨ (depsOf ops ops.size i).contains j = true → vs j = us j) → Φ i vs w → Φ i us w) (hB : okB ops = true)
    (hkeep : ∀ i vs w1 w2, i < ops.size → E w1 w2 → Φ i vs w1 → Φ i vs w2) (hkeepC : ∀ i vs w1 w2, i < ops.size → i ≠ p → (depsOf ops ops.size i).contains p = false → C w1 w2 → Φ i vs w1 → Φ i vs w2)
    (hops : ∀ i o, ops[i]? = some o → ∀ (vs : Nat → Value) w1, (∀ j v, fix j = some v → vs j = v) → ((decide (i = p) || (depsOf ops ops.size p).contains i) = true → E w w1) → C w w1 → (∀ j ∈ depsOf ops ops.size i, Φ j vs w1) → stepG P ops o (acts ops a vs (fun _ => true) i) w1 (fun u w2 => (if i = p then C w1 w2 else E w1 w2) ∧ Φ i (upd vs i u) w2))
    (hend : ∀ (vs : Nat → Value) w1, (∀ j v, fix j = some v → vs j = v) → C w w1 → (∀ i, i < ops.size → Φ i vs w1) → Q .normal (acts ops a vs (fun _ => true) ops.size) w1) : anyS P ops Q ops.size (Array.replicate ops.size false) a { w with drawn := w.drawn + 1 } := by
  have hsel : ∀ (j : Nat) (o : Oper) cs b, ops[j]? = some o → o.op ≠ .select cs b := by
    have h2 := hB
    simp only [okB, Bool.and_eq_true] at h2
    exact Region.noSelect_spec h2.1
  suffices key : ∀ (fuel : Nat) (listed : Array Bool) (vs : Nat → Value) (w1 : World), (∀ j v, fix j = some v → vs j = v) → listed.size = ops.size → listed.toList.count true + fuel = ops.size → (listed.getD p false = false → E w w1) → C w w1 →
      (∀ j, listed.getD j false = true → ∀ i ∈ direct ops j, listed.getD i false = true) → (∀ j, j < ops.size → listed.getD j false = true → Φ j vs w1) →
      anyS P ops Q fuel listed (acts ops a vs (fun j => listed.getD j false) ops.size) w1 by
    have h0 := key ops.size (Array.replicate ops.size false) (fun j => (fix j).getD undef) { w with drawn := w.drawn + 1 } (fun j v h => by simp [h]) (by simp) (by simp [List.count_replicate]) (fun _ => T.d w) (T.sub _ _ (T.d w))
      (fun j hj => by rw [getD_rep] at hj; cases hj) (fun j _ hj => by rw [getD_rep] at hj; cases hj)
    have e : acts ops a (fun j => (fix j).getD undef) (fun j => (Array.replicate ops.size false).getD j false) ops.size = a := by
      have : ∀ n, acts ops a (fun j => (fix j).getD undef) (fun j => (Array.replicate ops.size false).getD j false) n = a := by
        intro n
        induction n with
        | zero => rfl
        | succ n ih => simp only [acts]; rw [if_neg (by rw [getD_rep]; exact Bool.false_ne_true)]; exact ih
      exact this _
    rw [e] at h0
    exact h0
  intro fuel
  have hdone : ∀ (listed : Array Bool) (vs : Nat → Value) (w1 : World), (∀ j v, fix j = some v → vs j = v) → (∀ j, j < ops.size → listed.getD j false = true) → C w w1 → (∀ j, j < ops.size → listed.getD j false = true → Φ j vs w1) →
      Q .normal (acts ops a vs (fun j => listed.getD j false) ops.size) w1 := by
    intro listed vs w1 hfx hall hx hΦ
    have := hend vs w1 hfx hx fun i hi => hΦ i hi (hall i hi)
    rwa [acts_congr a vs vs (fun _ => true) (fun j => listed.getD j false) ops.size fun j hj => ⟨(hall j hj).symm, fun _ => rfl⟩] at this
  induction fuel with
  | zero =>
    intro listed vs w1 hfx hsz hc hxE hx hcl hΦ
    have hall : ∀ j, j < ops.size → listed.getD j false = true := by
      intro j hj
      have hlen : listed.toList.count true = listed.toList.length := by simp only [Array.length_toList]; omega
      have := List.count_eq_length.1 hlen (listed[j]'(by omega)) (by simp)
      rw [Array.getD_eq_getD_getElem?, Array.getElem?_eq_getElem (by omega)]
      exact this.symm
    refine ⟨?_, hdone listed vs w1 hfx hall hx hΦ⟩
    rw [List.eq_nil_iff_forall_not_mem]
    intro i hi
    have hi1 := (mem_ready.1 hi)
    obtain ⟨o, ho, -⟩ := hi1.2
    have hlt : i < ops.size := (Array.getElem?_eq_some_iff.1 ho).1
    have h1 := hall i hlt
    have h2 := hi1.1
    rw [Array.getD_eq_getD_getElem?, Array.getElem?_eq_getElem (by omega)] at h1 h2
    simp only [Option.getD_some] at h1 h2
    rw [h1] at h2; cases h2
  | succ fuel ih =>
    intro listed vs w1 hfx hsz hc hxE hx hcl hΦ
    refine ⟨fun h => hdone listed vs w1 hfx (all_listed hB hsz h) hx hΦ, fun i hi => ?_⟩
    obtain ⟨hi0, o, ho, hafter⟩ := mem_ready.1 hi
    have hlt : i < ops.size := (Array.getElem?_eq_some_iff.1 ho).1
    have hnot : listed.getD i false = false := by
      rw [Array.getD_eq_getD_getElem?, Array.getElem?_eq_getElem (by omega)] at hi0 ⊢
      exact hi0
    have hdir := direct_ready ho hafter
    have hdeps := dep_in hcl ops.size i hdir
    have hdl : ∀ j ∈ depsOf ops ops.size i, j < ops.size := fun j hj => by
      have := hdeps j hj
      rcases Nat.lt_or_ge j listed.size with h' | h'
      · omega
      · simp [Array.getD_eq_getD_getElem?, Array.getElem?_eq_none h'] at this
    have hst := hops i o ho vs w1 hfx (fun e => hxE (by
      cases hlp : listed.getD p false with
      | false => rfl
      | true =>
        rw [Bool.or_eq_true, decide_eq_true_eq, List.contains_iff_mem] at e
        rcases e with e | e
        · rw [e] at hnot; rw [hnot] at hlp; cases hlp
        · have := dep_in hcl ops.size p (hcl p hlp) i e
          rw [hnot] at this; cases this)) hx fun j hj => hΦ j (hdl j hj) (hdeps j hj)
    -- a later one that has come up is apart from this one
    have hlater : ∀ j, i < j → j < ops.size → listed.getD j false = true → apartB ops i j = true := fun j h1 h2 h3 =>
      ((okB_spec hB j h2).2 i h1).resolve_right fun hmem => by
        have := dep_in hcl ops.size j (hcl j h3) i hmem
        rw [hnot] at this; cases this
    have hearlier : ∀ j, j < i → listed.getD j false = false → apartB ops j i = true := fun j h1 h3 =>
      ((okB_spec hB i hlt).2 j h1).resolve_right fun hmem => by
        have := hdeps j hmem
        rw [h3] at this; cases this
    have hacts : ∀ n, i ≤ n → n ≤ ops.size → ∀ t, t ∈ o.looksAt ops → (acts ops a vs (fun j => listed.getD j false) n).tmps[t]? = (acts ops a vs (fun _ => true) i).tmps[t]? := by
      intro n hin
      obtain ⟨k, rfl⟩ := Nat.exists_eq_add_of_le hin
      clear hin
      induction k with
      | zero =>
        intro _ t ht
        refine acts_slot a vs _ _ t i fun j hj hd => ?_
        cases hl : listed.getD j false with
        | true => rfl
        | false =>
          have hap := hearlier j hj hl
          have hoj : ops[j]? = some (ops[j]'(by omega)) := by simp [show j < ops.size from by omega]
          rw [hoj] at hd
          simp only [apartB, hoj, ho] at hap
          exact absurd ht ((Oper.apart_spec hap).1 t hd)
      | succ k ih2 =>
        intro hle t ht
        have ih2 := ih2 (by omega) t ht
        obtain ⟨n, hn⟩ : ∃ n, n = i + k := ⟨_, rfl⟩
        rw [← hn] at ih2
        rw [show i + (k + 1) = n + 1 from by omega]
        simp only [acts]
        by_cases hl : listed.getD n false = true
        · rw [if_pos hl]
          have hni : i ≠ n := fun e => by subst e; rw [hnot] at hl; cases hl
          have hap := hlater n (by omega) (by omega) hl
          have hon : ops[n]? = some (ops[n]'(by omega)) := by simp [show n < ops.size from by omega]
          simp only [apartB, hon, ho] at hap
          rw [put_other _ _ _ _ (fun hd => (Oper.apart_spec hap).2.2 t (by rw [hon] at hd; exact hd) ht)]
          exact ih2
        · rw [if_neg hl]; exact ih2
    have hst2 : stepG P ops o (acts ops a vs (fun j => listed.getD j false) ops.size) w1 (fun u w2 => (if i = p then C w1 w2 else E w1 w2) ∧ Φ i (upd vs i u) w2) :=
      stepG_same (hsel i o · · ho) (fun t ht => (hacts ops.size (by omega) (Nat.le_refl _) t ht).symm) hst
    refine opS_of_stepG ho hst2 ?_
    rintro v w2 ⟨hx2, hv⟩
    have hod : (ops[i]?).bind (·.dst) = o.dst := by rw [ho]; rfl
    rw [← hod, acts_put a vs (fun j => listed.getD j false) i v hnot ops.size hlt (fun j h1 h2 h3 d hd hd2 => by
      have hap := hlater j h1 h2 h3
      have hoj : ops[j]? = some (ops[j]'h2) := by simp [h2]
      simp only [apartB, hoj, ho] at hap
      rw [ho] at hd; rw [hoj] at hd2
      exact (Oper.apart_spec hap).2.1 d hd hd2)]
    have hget : ∀ j, (listed.setIfInBounds i true).getD j false = (listed.getD j false || decide (j = i)) := by
      intro j
      by_cases hji : j = i
      · subst hji; simp [Array.getD_eq_getD_getElem?, show j < listed.size from by omega]
      · rw [getD_set_ne false (Ne.symm hji)]; simp [hji]
    have := ih (listed.setIfInBounds i true) (upd vs i v) w2 (fun j u hj => by
        by_cases hji : j = i
        · subst hji; exact hfix j u _ w2 hj hv
        · simpa [upd, hji] using hfx j u hj) (by simpa using hsz) (by
        rw [Array.toList_setIfInBounds, List.count_set (by simpa using (by omega : i < listed.size))]
        have e : (listed.toList[i]'(by simpa using (by omega : i < listed.size))) = false := by
          rw [Array.getD_eq_getD_getElem?, Array.getElem?_eq_getElem (by omega)] at hnot
          simpa using hnot
        have e' : (listed.toList[i]'(by simpa using (by omega : i < listed.size)) == true) = false := by rw [e]; rfl
        rw [e']; simp only [Bool.false_eq_true, if_false, beq_self_eq_true, if_true]; omega) (fun hlp => by
          rw [hget] at hlp
          by_cases hpi : p = i
          · simp [hpi] at hlp
          · simp only [hpi, decide_false, Bool.or_false] at hlp
            rw [if_neg (fun e => hpi e.symm)] at hx2
            exact T.te _ _ _ (hxE hlp) hx2) (by
          split at hx2
          · exact T.tc _ _ _ hx hx2
          · exact T.tc _ _ _ hx (T.sub _ _ hx2))
      (by
        intro j hj k hk
        rw [hget] at hj ⊢
        by_cases hji : j = i
        · subst hji; rw [hdir k hk]; rfl
        · simp only [hji, decide_false, Bool.or_false] at hj
          rw [hcl j hj k hk]; rfl)
      (by
        intro j hj hl
        by_cases hji : j = i
        · subst hji; exact hv
        · rw [hget] at hl
          simp only [hji, decide_false, Bool.or_false] at hl
          have hnd : (depsOf ops ops.size j).contains i = false := by
            rw [Bool.eq_false_iff, ne_eq, List.contains_iff_mem]
            intro h
            have := dep_in hcl ops.size j (hcl j hl) i h
            rw [hnot] at this; cases this
          have hold : Φ j (upd vs i v) w1 := hloc j vs _ _ hj (fun x hx => by
            unfold upd
            split
            · rename_i hxi
              subst hxi
              rcases hx with hx | hx
              · exact absurd hx.symm hji
              · rw [hnd] at hx; cases hx
            · rfl) (hΦ j hj hl)
          split at hx2
          · rename_i hip
            refine hkeepC j _ _ _ hj (fun e => hji (e.trans hip.symm)) ?_ hx2 hold
            rw [← hip]; exact hnd
          · exact hkeep j _ _ _ hj hx2 hold)
    have e2 : (fun j => (listed.setIfInBounds i true).getD j false) = fun j => listed.getD j false || decide (j = i) := funext hget
    rw [e2] at this
    exact this


def Walk (E C : World → World → Prop) (p : Nat) (P : Program) (ops : Array Oper) (w : World) (Q : Exit → Act → World → Prop) : Nat → List Oper → List Spec → List (Nat × (World → Prop)) → List (Nat × Value) → Act → Prop
  | _, [], _, env, _, a => ∀ w1, C w w1 → (∀ j f, (j, f) ∈ env → f w1) → Q .normal a w1
  | _, _ :: _, [], _, _, _ => False
  | i, o :: rest, .val v :: ss, env, us, a => (∀ w1, ((decide (i = p) || (depsOf ops ops.size p).contains i) = true → E w w1) → C w w1 → Have ops i env w1 → stepG P ops o a w1 (fun u w2 => (if i = p then C w1 w2 else E w1 w2) ∧ u = v)) ∧ Walk E C p P ops w Q (i + 1) rest ss env ((i, v) :: us) (a.put o.dst v)
  | i, o :: rest, .fact f :: ss, env, us, a => (∀ w1, ((decide (i = p) || (depsOf ops ops.size p).contains i) = true → E w w1) → C w w1 → Have ops i env w1 → stepG P ops o a w1 (fun u w2 => (if i = p then C w1 w2 else E w1 w2) ∧ f u w2)) ∧ ∀ u, Walk E C p P ops w Q (i + 1) rest ss ((i, f u) :: env) ((i, u) :: us) (a.put o.dst u)
  | i, o :: rest, .on js f :: ss, env, us, a => (∀ w1, ((decide (i = p) || (depsOf ops ops.size p).contains i) = true → E w w1) → C w w1 → Have ops i env w1 → stepG P ops o a w1 (fun u w2 => (if i = p then C w1 w2 else E w1 w2) ∧ f (js.map (look us)) u w2)) ∧ ∀ u, Walk E C p P ops w Q (i + 1) rest ss ((i, f (js.map (look us)) u) :: env) ((i, u) :: us) (a.put o.dst u)
def keepsS (E C : World → World → Prop) (ops : Array Oper) (p : Nat) : Nat → List Spec → Prop
  | _, [] => True
  | i, .val _ :: r => keepsS E C ops p (i + 1) r
  | i, .fact f :: r => (∀ u w1 w2, E w1 w2 → f u w1 → f u w2) ∧ (i ≠ p → (depsOf ops ops.size i).contains p = false → ∀ u w1 w2, C w1 w2 → f u w1 → f u w2) ∧ keepsS E C ops p (i + 1) r
  | i, .on _ f :: r => (∀ l u w1 w2, E w1 w2 → f l u w1 → f l u w2) ∧ (i ≠ p → (depsOf ops ops.size i).contains p = false → ∀ l u w1 w2, C w1 w2 → f l u w1 → f l u w2) ∧ keepsS E C ops p (i + 1) r
theorem keepsS_get {E C : World → World → Prop} {p : Nat} : ∀ (ss : List Spec) (k i : Nat) (s : Spec), keepsS E C ops p k ss → ss[i]? = some s →
    (∀ vs u w1 w2, E w1 w2 → s.holds vs u w1 → s.holds vs u w2) ∧ (k + i ≠ p → (depsOf ops ops.size (k + i)).contains p = false → ∀ vs u w1 w2, C w1 w2 → s.holds vs u w1 → s.holds vs u w2)
  | [], _, _, _, _, h => by simp at h
  | .val v :: r, k, 0, s, _, h => by simp at h; subst h; exact ⟨fun _ _ _ _ _ h => h, fun _ _ _ _ _ _ _ h => h⟩
  | .val v :: r, k, i + 1, s, hk, h => by
    have := keepsS_get r (k + 1) i s hk (by simpa using h)
    rwa [show k + 1 + i = k + (i + 1) from by omega] at this
  | .fact f :: r, k, 0, s, hk, h => by simp at h; subst h; exact ⟨fun _ => hk.1, fun hi hc _ => hk.2.1 hi hc⟩
  | .fact f :: r, k, i + 1, s, hk, h => by
    have := keepsS_get r (k + 1) i s hk.2.2 (by simpa using h)
    rwa [show k + 1 + i = k + (i + 1) from by omega] at this
  | .on js f :: r, k, 0, s, hk, h => by simp at h; subst h; exact ⟨fun vs => hk.1 (js.map vs), fun hi hc vs => hk.2.1 hi hc (js.map vs)⟩
  | .on js f :: r, k, i + 1, s, hk, h => by
    have := keepsS_get r (k + 1) i s hk.2.2 (by simpa using h)
    rwa [show k + 1 + i = k + (i + 1) from by omega] at this
theorem walk_at {E C : World → World → Prop} {p : Nat} {w : World} {Q : Exit → Act → World → Prop} {a0 : Act} (ss : List Spec) (hlb : locB ops 0 ss = true) (vs : Nat → Value) (hfx : ∀ j s v, ss[j]? = some s → s.fixed = some v → vs j = v) :
    ∀ (n k : Nat) (rest : List Oper) (env : List (Nat × (World → Prop))) (us : List (Nat × Value)) (a : Act), n + k = ops.size → (∀ j, rest[j]? = ops[k + j]?) → rest.length = n → a = acts ops a0 vs (fun _ => true) k →
      (∀ j q, (j, q) ∈ env → ∃ s, ss[j]? = some s ∧ j < k ∧ q = s.holds vs (vs j)) → (∀ j s, ss[j]? = some s → s.fixed = none → j < k → (j, s.holds vs (vs j)) ∈ env) → (∀ j, j < k → look us j = vs j) → Walk E C p P ops w Q k rest (ss.drop k) env us a →
      (∀ i o, k ≤ i → ops[i]? = some o → ∃ s, ss[i]? = some s ∧ ∀ w1, ((decide (i = p) || (depsOf ops ops.size p).contains i) = true → E w w1) → C w w1 → (∀ j ∈ depsOf ops ops.size i, j < i → ∀ s, ss[j]? = some s → s.holds vs (vs j) w1) → stepG P ops o (acts ops a0 vs (fun _ => true) i) w1 (fun u w2 => (if i = p then C w1 w2 else E w1 w2) ∧ s.holds vs u w2)) ∧
      (∀ w1, C w w1 → (∀ i s, i < ops.size → ss[i]? = some s → s.holds vs (vs i) w1) → Q .normal (acts ops a0 vs (fun _ => true) ops.size) w1) := by
  intro n
  induction n with
  | zero =>
    intro k rest env us a hk hr hl ha henv henv2 hus hw
    obtain rfl : rest = [] := List.length_eq_zero_iff.1 hl
    have e : k = ops.size := by omega
    subst e
    refine ⟨fun i o hi ho => by have := (Array.getElem?_eq_some_iff.1 ho).1; omega, fun w1 hx hall => ?_⟩
    simp only [Walk] at hw
    rw [← ha]
    refine hw w1 hx fun j q hq => ?_
    obtain ⟨s, hs, hj, rfl⟩ := henv j q hq
    exact hall j s hj hs
  | succ n ih =>
    intro k rest env us a hk hr hl ha henv henv2 hus hw
    obtain ⟨o, rest, rfl⟩ : ∃ o r, rest = o :: r := by cases rest with | nil => simp at hl | cons o r => exact ⟨o, r, rfl⟩
    have hok : ops[k]? = some o := by simpa using (hr 0).symm
    have hact : ∀ v, vs k = v → a.put o.dst v = acts ops a0 vs (fun _ => true) (k + 1) := fun v hv => by
      simp only [acts, if_true]; rw [← ha, hok, hv]; rfl
    cases hs : ss[k]? with
    | none =>
      rw [List.drop_eq_nil_of_le (by rcases Nat.lt_or_ge k ss.length with h | h; · rw [List.getElem?_eq_getElem h] at hs; cases hs
                                     · exact h)] at hw
      simp only [Walk] at hw
    | some s =>
      have hlt : k < ss.length := (List.getElem?_eq_some_iff.1 hs).1
      rw [List.drop_eq_getElem_cons hlt, (List.getElem?_eq_some_iff.1 hs).2] at hw
      have hlean : ∀ w1, (∀ j ∈ depsOf ops ops.size k, j < k → ∀ s, ss[j]? = some s → s.holds vs (vs j) w1) → Have ops k env w1 := by
        intro w1 h j q hq hc
        obtain ⟨s, hs, hj, rfl⟩ := henv j q hq
        exact h j (by simpa using hc) hj s hs
      have hr' : ∀ j, rest[j]? = ops[k + 1 + j]? := fun j => by have := hr (j + 1); simpa [Nat.add_assoc, Nat.add_comm 1 j] using this
      have hus' : ∀ v, vs k = v → ∀ j, j < k + 1 → look ((k, v) :: us) j = vs j := fun v hv j hj => by
        simp only [look]
        split
        · rename_i e; rw [← e, hv]
        · rename_i e; exact hus j (by omega)
      have hmap : s.js.map (look us) = s.js.map vs := List.map_congr_left fun j hj => hus j (by have := (locB_get ss 0 k s hlb hs j hj).2; omega)
      cases s with
      | val v =>
        simp only [Walk] at hw
        have hv : vs k = v := hfx k _ v hs rfl
        obtain ⟨h1, h2⟩ := ih (k + 1) rest env _ _ (by omega) hr' (by simpa using hl) (hact v hv) (fun j q hq => by obtain ⟨s, hs, hj, e⟩ := henv j q hq; exact ⟨s, hs, by omega, e⟩)
          (fun j s hs' hf hj => henv2 j s hs' hf (by rcases Nat.lt_or_ge j k with h | h; · exact h
                                                     · obtain rfl : j = k := by omega
                                                       rw [hs] at hs'; cases hs'; cases hf)) (hus' v hv) hw.2
        refine ⟨fun i o' hi ho => ?_, h2⟩
        rcases Nat.lt_or_ge k i with hik | hik
        · exact h1 i o' (by omega) ho
        · obtain rfl : i = k := by omega
          rw [hok] at ho; cases ho
          exact ⟨_, hs, fun w1 hxE hx hd => by rw [← ha]; exact hw.1 w1 hxE hx (hlean w1 hd)⟩
      | fact f =>
        simp only [Walk] at hw
        obtain ⟨h1, h2⟩ := ih (k + 1) rest _ _ _ (by omega) hr' (by simpa using hl) (hact (vs k) rfl)
          (fun j q hq => by
            rcases List.mem_cons.1 hq with e | hq
            · cases e; exact ⟨_, hs, by omega, rfl⟩
            · obtain ⟨s, hs, hj, e⟩ := henv j q hq; exact ⟨s, hs, by omega, e⟩)
          (fun j s hs' hf hj => by
            rcases Nat.lt_or_ge j k with h | h
            · exact List.mem_cons_of_mem _ (henv2 j s hs' hf h)
            · obtain rfl : j = k := by omega
              rw [hs] at hs'; cases hs'; exact List.mem_cons_self) (hus' _ rfl) (hw.2 (vs k))
        refine ⟨fun i o' hi ho => ?_, h2⟩
        rcases Nat.lt_or_ge k i with hik | hik
        · exact h1 i o' (by omega) ho
        · obtain rfl : i = k := by omega
          rw [hok] at ho; cases ho
          exact ⟨_, hs, fun w1 hxE hx hd => by rw [← ha]; exact hw.1 w1 hxE hx (hlean w1 hd)⟩
      | on js f =>
        simp only [Walk] at hw
        simp only [Spec.js] at hmap
        rw [hmap] at hw
        obtain ⟨h1, h2⟩ := ih (k + 1) rest _ _ _ (by omega) hr' (by simpa using hl) (hact (vs k) rfl)
          (fun j q hq => by
            rcases List.mem_cons.1 hq with e | hq
            · cases e; exact ⟨_, hs, by omega, rfl⟩
            · obtain ⟨s, hs, hj, e⟩ := henv j q hq; exact ⟨s, hs, by omega, e⟩)
          (fun j s hs' hf hj => by
            rcases Nat.lt_or_ge j k with h | h
            · exact List.mem_cons_of_mem _ (henv2 j s hs' hf h)
            · obtain rfl : j = k := by omega
              rw [hs] at hs'; cases hs'; exact List.mem_cons_self) (hus' _ rfl) (hw.2 (vs k))
        refine ⟨fun i o' hi ho => ?_, h2⟩
        rcases Nat.lt_or_ge k i with hik | hik
        · exact h1 i o' (by omega) ho
        · obtain rfl : i = k := by omega
          rw [hok] at ho; cases ho
          exact ⟨_, hs, fun w1 hxE hx hd => by rw [← ha]; exact hw.1 w1 hxE hx (hlean w1 hd)⟩

/-- THE RULE, for a region whose operations are written out: a spec for each operation, the walk in the text's order. -/
theorem any_region {E C : World → World → Prop} (T : Two E C) (p : Nat) {Q : Exit → Act → World → Prop} {a : Act} {w : World} {l : List Oper} (ss : List Spec) (hB : okB l.toArray = true) (hlb : locB l.toArray 0 ss = true) (hk : keepsS E C l.toArray p 0 ss)
    (h : Walk E C p P l.toArray w Q 0 l ss [] [] a) : anyS P l.toArray Q l.toArray.size (Array.replicate l.toArray.size false) a { w with drawn := w.drawn + 1 } := by
  have base := fun vs hfx => walk_at (E := E) (C := C) (p := p) (P := P) (ops := l.toArray) (w := w) (Q := Q) (a0 := a) ss hlb vs hfx l.length 0 l [] [] a (by simp) (by simp) rfl rfl (fun _ _ h => by cases h) (fun _ _ _ _ h => by omega) (fun _ h => by omega) h
  refine any_facts T p (fun i vs => match ss[i]? with | some s => s.holds vs (vs i) | none => fun _ => False) (fun i => (ss[i]?).bind Spec.fixed) ?_ ?_ hB ?_ ?_ ?_ ?_
  · intro i v vs w hv hu
    cases hs : ss[i]? with
    | none => simp [hs] at hv
    | some s => cases s with
      | val x => simp only [hs, Option.bind_some, Spec.fixed, Option.some.injEq] at hv; subst hv; simpa [hs, Spec.holds] using hu
      | fact f => simp [hs, Spec.fixed] at hv
      | on js f => simp [hs, Spec.fixed] at hv
  · intro i vs us w hi hj hu
    cases hs : ss[i]? with
    | none => simp [hs] at hu
    | some s =>
      simp only [hs] at hu ⊢
      rw [← hj i (.inl rfl)]
      exact holds_loc (fun j hjs => hj j (.inr (by have := (locB_get ss 0 i s hlb hs j hjs).1; rwa [Nat.zero_add] at this))) hu
  · intro i vs w1 w2 _ hx hu
    cases hs : ss[i]? with
    | none => simp [hs] at hu
    | some s => simp only [hs] at hu ⊢; exact (keepsS_get ss 0 i s hk hs).1 vs _ w1 w2 hx hu
  · intro i vs w1 w2 _ hip hc hx hu
    cases hs : ss[i]? with
    | none => simp [hs] at hu
    | some s => simp only [hs] at hu ⊢; exact (keepsS_get ss 0 i s hk hs).2 (by rw [Nat.zero_add]; exact hip) (by rw [Nat.zero_add]; exact hc) vs _ w1 w2 hx hu
  · intro i o ho vs w1 hfx hxE hx hd
    obtain ⟨h1, -⟩ := base vs fun j s v hs hv => hfx j v (by simp [hs, hv])
    obtain ⟨s, hs, hst⟩ := h1 i o (Nat.zero_le _) ho
    simp only [hs]
    have hst := hst w1 hxE hx fun j hj _ s' hs' => by
      have := hd j hj
      simpa only [hs'] using this
    refine stepG_mono hst fun u w2 ⟨h1, h2⟩ => ⟨h1, ?_⟩
    have e : upd vs i u i = u := by simp [upd]
    rw [e]
    refine holds_loc (fun j hjs => ?_) h2
    have := (locB_get ss 0 i s hlb hs j hjs).2
    simp only [upd]
    rw [if_neg (by omega)]
  · intro vs w1 hfx hx hall
    obtain ⟨-, h2⟩ := base vs fun j s v hs hv => hfx j v (by simp [hs, hv])
    refine h2 w1 hx fun i s hi hs => ?_
    have := hall i hi
    simpa only [hs] using this
theorem wp_region {E C : World → World → Prop} (T : Two E C) (p : Nat) {id : Nat} {Q : Exit → Act → World → Prop} {a : Act} {w : World} {l : List Oper} (ss : List Spec) (hm : P.follows .mixedOrders = true) (hB : okB l.toArray = true) (hlb : locB l.toArray 0 ss = true) (hk : keepsS E C l.toArray p 0 ss)
    (h : Walk E C p P l.toArray w Q 0 l ss [] [] a) : (Code.region id l.toArray true).wp P Q a w :=
  wp_region_any hm (any_of_anyS _ _ _ _ (any_region T p ss hB hlb hk h))
end Facts.Dep.Once
end Go.Proofs.YtcamegaimleomaaGreat

namespace Go.Proofs.YtcamegaimleomaaGreat
set_option linter.unusedSimpArgs false
set_option linter.unusedVariables false
open Go.RowKit
set_option linter.unusedVariables false

structure ChoF (mb pb : Nat) (uv sv : Value) (kb B i j : Nat) (w : World) : Prop where
  m0 : w.cell? ⟨mb, 0, none⟩ = some uv
  m1 : w.cell? ⟨mb, 1, none⟩ = some sv
  m2 : w.cell? ⟨mb, 2, none⟩ = some (.slice (some ⟨kb, 0, none⟩) 5 5)
  m3 : w.cell? ⟨mb, 3, none⟩ = some (.map (some B))
  p0 : w.cell? ⟨pb, 0, none⟩ = some (.int .i64 (i : Nat))
  p1 : w.cell? ⟨pb, 1, none⟩ = some (.int .i64 (j : Nat))
def choFn (mb pb : Nat) : Value := .func (.func 152) #[] #[.pointer (some ⟨mb, 0, none⟩), .pointer (some ⟨pb, 0, none⟩)]
set_option maxRecDepth 100000 in
theorem chose_any (a c : Option Addr) (b d m n : Nat) (kb B i j : Nat) (w : World) :
    Calls Tryz.prog 110 #[mendV (.slice a m b) (.slice c n d) kb B, placeV (i, j)] w fun e w' => ∃ mb pb, e = .returned (choFn mb pb) ∧ ChoF mb pb (.slice a m b) (.slice c n d) kb B i j w' ∧ Ext w w' := by
  unfold mendV placeV choFn
  simp only
  go_enter Tryz.func110, Tryz.ntmps110
  go_wp2
  go_ret
  exact ⟨_, _, rfl, ⟨by simp [go_sem], by simp [go_sem], by simp [go_sem], by simp [go_sem], by simp [go_sem], by simp [go_sem]⟩, (by first | (with_reducible exact Ext.refl _) | (with_reducible assumption) | (show Below _ _ _; go_grown; done))⟩

/-- the table when r rows and s places of the next are done -/
def TabIs (ws : List ByteArray) (ss : List Slot) (r s : Nat) (M : Tab) : Prop := ∀ a b, getP (a, b) M = if a ≤ ws.length ∧ b ≤ ss.length ∧ (ws.length + 1 ≤ a + r ∨ (a + r = ws.length ∧ ss.length + 1 ≤ b + s)) then some (valM ws ss a b) else none
theorem TabIs.nil (ws : List ByteArray) (ss : List Slot) : TabIs ws ss 0 0 [] := fun a b => by
  rw [if_neg (by omega)]; rfl
theorem TabIs.step {ws : List ByteArray} {ss : List Slot} {r s : Nat} {M : Tab} (h : TabIs ws ss r s M) (hr : r ≤ ws.length) (hs : s ≤ ss.length) : TabIs ws ss r (s + 1) (M ++ [((ws.length - r, ss.length - s), valM ws ss (ws.length - r) (ss.length - s))]) := fun a b => by
  rw [getP_snoc, h a b]
  by_cases e : (ws.length - r, ss.length - s) = (a, b)
  · obtain ⟨e1, e2⟩ := Prod.mk.inj e
    subst e1; subst e2
    rw [if_neg (by omega), if_pos rfl, if_pos (by omega)]
    rfl
  · rw [if_neg e]
    have e' : ¬ (ws.length - r = a ∧ ss.length - s = b) := fun h => e (by rw [h.1, h.2])
    by_cases hc : a ≤ ws.length ∧ b ≤ ss.length ∧ (ws.length + 1 ≤ a + r ∨ (a + r = ws.length ∧ ss.length + 1 ≤ b + s))
    · rw [if_pos hc, if_pos (by omega)]; rfl
    · rw [if_neg hc, if_neg (by omega)]; rfl
theorem TabIs.row {ws : List ByteArray} {ss : List Slot} {r : Nat} {M : Tab} (h : TabIs ws ss r (ss.length + 1) M) : TabIs ws ss (r + 1) 0 M := fun a b => by
  rw [h a b]
  by_cases hc : a ≤ ws.length ∧ b ≤ ss.length ∧ (ws.length + 1 ≤ a + r ∨ (a + r = ws.length ∧ ss.length + 1 ≤ b + (ss.length + 1)))
  · rw [if_pos hc, if_pos (by omega)]
  · rw [if_neg hc, if_neg (by omega)]
theorem TabIs.all {ws : List ByteArray} {ss : List Slot} {M : Tab} (h : TabIs ws ss (ws.length + 1) 0 M) (a b : Nat) (ha : a ≤ ws.length) (hb : b ≤ ss.length) : getP (a, b) M = some (valM ws ss a b) := by
  rw [h a b, if_pos (by omega)]
theorem TabIs.none {ws : List ByteArray} {ss : List Slot} {r s : Nat} {M : Tab} (h : TabIs ws ss r s M) (hr : r ≤ ws.length) (hs : s ≤ ss.length) : getP (ws.length - r, ss.length - s) M = none := by
  rw [h, if_neg (by omega)]
theorem TabIs.val {ws : List ByteArray} {ss : List Slot} {r s : Nat} {M : Tab} (h : TabIs ws ss r s M) (hr : r ≤ ws.length) (hs : s ≤ ss.length) : pickC (choicesM (tabF M) ws ss (ws.length - r) (ss.length - s)) = valM ws ss (ws.length - r) (ss.length - s) := by
  refine choices_val _ ws ss _ _ (by omega) (by omega) fun a b hab => ?_
  show getP (a, b) M = _
  rw [h a b]
  by_cases hc : a ≤ ws.length ∧ b ≤ ss.length
  · rw [if_pos hc, if_pos (by omega)]
  · rw [if_neg hc, if_neg (by omega)]
theorem TabIs.in {ws : List ByteArray} {ss : List Slot} {r s : Nat} {M : Tab} (h : TabIs ws ss r s M) (h9 : ws.length ≤ 900 ∧ ss.length ≤ 900) (a b : Nat) (c : Ch) (hc : getP (a, b) M = some c) : a ≤ ws.length ∧ b ≤ ss.length ∧ c.2 ≤ 100000 := by
  rw [h a b] at hc
  split at hc
  · rename_i hh
    obtain rfl := Option.some.inj hc
    have := costM_le (ws.drop a) (ss.drop b)
    rw [List.length_drop, List.length_drop] at this
    refine ⟨hh.1, hh.2.1, ?_⟩
    show (costM (ws.drop a) (ss.drop b)).2 ≤ _
    omega
  · cases hc
theorem choiceK_len (F : Nat → Nat → Option Ch) (ws : List ByteArray) (ss : List Slot) (i j k : Nat) : (choiceK F ws ss i j k).length ≤ 1 := by
  unfold choiceK
  split
  · simp
  · split <;> simp
theorem choices_len (F : Nat → Nat → Option Ch) (ws : List ByteArray) (ss : List Slot) (i j : Nat) : ∀ k, (choicesTo F ws ss i j k).length ≤ k
  | 0 => Nat.le_refl _
  | k + 1 => by
    have := choices_len F ws ss i j k
    have := choiceK_len F ws ss i j k
    rw [choicesTo, List.length_append]
    omega
/-- cells stay, and what lies below S -/
def Puts (S : Nat) (a b : World) : Prop := KeptO 0 0 a b ∧ (S ≤ a.heap.size → Below S a b)
theorem Ext.puts {a b : World} (S : Nat) (h : Ext a b) : Puts S a b := ⟨h.kept 0 0, fun hs => Below.mono h hs⟩
theorem Puts.trans {S : Nat} {a b c : World} (h : Puts S a b) (k : Puts S b c) : Puts S a c := ⟨h.1.trans k.1, fun hs => (h.2 hs).trans (k.2 (Nat.le_trans hs h.1.size))⟩
theorem Puts.cell {S : Nat} {a b : World} (h : Puts S a b) {p : Addr} {v : Value} (hc : a.cell? p = some v) : b.cell? p = some v := h.1.cell (.inr (Nat.zero_le _)) hc
theorem two_puts (S : Nat) : Facts.Piv.Two Ext (Puts S) := ⟨fun _ _ h => h.puts S, fun _ _ _ h k => h.trans k, fun _ _ _ h k => h.trans k, Ext.refl, fun a => ext_drew a⟩
theorem puts_map {S B : Nat} {w w' : World} {M : Tab} (hS : S ≤ B) (hm : MapP w B M) (hg : w.grownBy w' (some B)) : Puts S w w' := by
  obtain ⟨es, n, hb, -⟩ := hm
  have hr : ∀ r, some B = some r → ∃ o : Obj, w.heap[r]? = some o ∧ o.isCells = false := fun r e => by cases e; exact ⟨_, hb, rfl⟩
  exact ⟨⟨hg.size, fun p v _ hp => ⟨cell_kept hp hg hr, frozen_kept hp hg hr⟩⟩, fun hs => Below.grown (Below.refl _ _) hg hs fun k e => by cases e; exact hS⟩
def ChoV (uv sv : Value) (kb B i j : Nat) (u : Value) (w : World) : Prop := ∃ mb pb, u = choFn mb pb ∧ ChoF mb pb uv sv kb B i j w
theorem ChoV.lies {uv sv : Value} {kb B i j : Nat} {u : Value} {w w' : World} (h : ChoV uv sv kb B i j u w) (hx : Lies w w') : ChoV uv sv kb B i j u w' := by
  obtain ⟨mb, pb, e, ⟨h1, h2, h3, h4, h5, h6⟩⟩ := h
  exact ⟨mb, pb, e, ⟨hx _ _ h1, hx _ _ h2, hx _ _ h3, hx _ _ h4, hx _ _ h5, hx _ _ h6⟩⟩
noncomputable def ChoV.m {uv sv : Value} {kb B i j : Nat} {u : Value} {w : World} (h : ChoV uv sv kb B i j u w) : Nat := Exists.choose h
noncomputable def ChoV.p {uv sv : Value} {kb B i j : Nat} {u : Value} {w : World} (h : ChoV uv sv kb B i j u w) : Nat := (Exists.choose_spec h).choose
theorem ChoV.spec {uv sv : Value} {kb B i j : Nat} {u : Value} {w : World} (h : ChoV uv sv kb B i j u w) : u = choFn h.m h.p ∧ ChoF h.m h.p uv sv kb B i j w := (Exists.choose_spec h).choose_spec
theorem MapP.ext {w w' : World} {B : Nat} {M : Tab} (h : MapP w B M) (hx : Ext w w') : MapP w' B M := h.kept (Below.block hx _ h.lt)
/-- the choice at a place, once its iterator is there -/
theorem bestAt_any (mb pb kb B : Nat) (uv sv : Value) (ws : List ByteArray) (ss : List Slot) (M : Tab) (i j : Nat) (w : World) (hC : ChoF mb pb uv sv kb B i j w)
    (hu : StrsAt w uv ws) (hs : SlotsAt w sv ss) (hk : KindsAt w kb) (hM : MapP w B M) (hij : i ≤ ws.length ∧ j ≤ ss.length) (h1000 : ws.length ≤ 900 ∧ ss.length ≤ 900)
    (hF : ∀ a b c, getP (a, b) M = some c → a ≤ ws.length ∧ b ≤ ss.length ∧ c.2 ≤ 100000) :
    Calls Tryz.prog 64 #[choFn mb pb, fewerF] w fun e w' => e = .returned (.tuple #[chV (pickC (choicesM (tabF M) ws ss i j)), .int .i64 (choicesM (tabF M) ws ss i j).length]) ∧ Ext w w' := by
  have zm := cell_lt hC.m0
  have zp := cell_lt hC.p0
  exact bestH_any 152 #[.pointer (some ⟨mb, 0, none⟩), .pointer (some ⟨pb, 0, none⟩)] _ (Nat.le_trans (choices_len (tabF M) ws ss i j 5) (by omega)) w (enters_of Tryz.func152 (by kernel_rfl) rfl)
    (fun w' hx hz => choices_seq 3 (w.heap.size + 2) (w.heap.size + 4) mb pb kb B uv sv ws ss M i j w w' (by omega) (by omega) hz (hx.keptM _ _) hu hs hk hM (by simp at zm; omega) (by simp at zp; omega)
      (hx.cell hC.m0) (hx.cell hC.m1) (hx.cell hC.m2) (hx.cell hC.m3) (hx.cell hC.p0) (hx.cell hC.p1) hij h1000 hF)
end Go.Proofs.YtcamegaimleomaaGreat

namespace Go.Proofs.YtcamegaimleomaaGreat
set_option linter.unusedSimpArgs false
set_option linter.unusedVariables false
open Go.RowKit
set_option linter.unusedVariables false

def set4 (w : World) (B : Nat) (a b c d : Value) : World := (((w.setCell ⟨B, 0, none⟩ a).setCell ⟨B, 1, none⟩ b).setCell ⟨B, 2, none⟩ c).setCell ⟨B, 3, none⟩ d
theorem set4_cells {w : World} {B : Nat} {x y z t : Value} (h0 : w.cell? ⟨B, 0, none⟩ = some x) (h1 : w.cell? ⟨B, 1, none⟩ = some y) (h2 : w.cell? ⟨B, 2, none⟩ = some z) (h3 : w.cell? ⟨B, 3, none⟩ = some t) (a b c d : Value) :
    (set4 w B a b c d).cell? ⟨B, 0, none⟩ = some a ∧ (set4 w B a b c d).cell? ⟨B, 1, none⟩ = some b ∧ (set4 w B a b c d).cell? ⟨B, 2, none⟩ = some c ∧ (set4 w B a b c d).cell? ⟨B, 3, none⟩ = some d :=
  ⟨set_other (set_other (set_other (set_cell h0 a) (.inr (by simp)) b) (.inr (by simp)) c) (.inr (by simp)) d,
    set_other (set_other (set_cell (set_other h1 (.inr (by simp)) a) b) (.inr (by simp)) c) (.inr (by simp)) d,
    set_other (set_cell (set_other (set_other h2 (.inr (by simp)) a) (.inr (by simp)) b) c) (.inr (by simp)) d,
    set_cell (set_other (set_other (set_other h3 (.inr (by simp)) a) (.inr (by simp)) b) (.inr (by simp)) c) d⟩
theorem set4_other {w : World} {B : Nat} {a b c d : Value} {k : Nat} (h : k ≠ B) : (set4 w B a b c d).heap[k]? = w.heap[k]? := by
  unfold set4
  iterate 3 rw [Below.heap_setCell _ _ _ _ (by simpa using h)]
  exact Below.heap_setCell _ _ _ _ (by simpa using h)
set_option maxRecDepth 100000 in
set_option maxHeartbeats 1500000 in
theorem mend_any (uv sv : Value) (ws : List ByteArray) (ss : List Slot) (w : World) (hu : StrsAt w uv ws) (hs : SlotsAt w sv ss) (h9 : ws.length ≤ 900 ∧ ss.length ≤ 900) :
    Calls Tryz.prog 54 #[uv, sv] w fun e w' => ∃ kb B M, e = .returned (mendV uv sv kb B) ∧ StrsAt w' uv ws ∧ SlotsAt w' sv ss ∧ KindsAt w' kb ∧ MapP w' B M ∧ TabIs ws ss (ws.length + 1) 0 M ∧ Ext w w' := by
  obtain ⟨ua, uc, rfl, huc, hum⟩ := hu.shape
  obtain ⟨sa, sc, rfl, hsc, hsm⟩ := hs.shape
  have hmm := @run_makeMap Tryz.prog
  go_enter Tryz.func54, Tryz.ntmps54
  go_wp2_with fail
  refine (kinds_any _).mono ?_
  rintro e w1 ⟨⟨kb, rfl, hk⟩, hx1⟩
  have x1 : Ext w w1 := Ext.trans (by first | (with_reducible exact Ext.refl _) | (with_reducible assumption) | (show Below _ _ _; go_grown; done)) hx1
  have zq : w.heap.size < w1.heap.size := by have := hx1.size; simp at this; omega
  go_wp2_with fail
  obtain ⟨W0, hW0⟩ : ∃ W0, W0 = (w1.alloc (.map #[] 0)).alloc (.cells #[.slice ua ws.length uc, .slice sa ss.length sc, .slice (some ⟨kb, 0, none⟩) 5 5, .map (some w1.heap.size)] 108) := ⟨_, rfl⟩
  have x0 : Ext w1 W0 := by rw [hW0]; exact (ext_alloc _ _).alloc _
  have z0 : W0.heap.size = w1.heap.size + 2 := by rw [hW0]; simp
  have mm0 : MapP W0 w1.heap.size [] := by
    rw [hW0]
    exact MapP.ext (w := w1.alloc (.map #[] 0)) ⟨#[], 0, World.alloc_heap_new w1 _, rfl⟩ (ext_alloc _ _)
  have m0 : W0.cell? ⟨w1.heap.size + 1, 0, none⟩ = some (.slice ua ws.length uc) := by rw [hW0]; simp [go_sem]
  have m1 : W0.cell? ⟨w1.heap.size + 1, 1, none⟩ = some (.slice sa ss.length sc) := by rw [hW0]; simp [go_sem]
  have m2 : W0.cell? ⟨w1.heap.size + 1, 2, none⟩ = some (.slice (some ⟨kb, 0, none⟩) 5 5) := by rw [hW0]; simp [go_sem]
  have m3 : W0.cell? ⟨w1.heap.size + 1, 3, none⟩ = some (.map (some w1.heap.size)) := by rw [hW0]; simp [go_sem]
  have r0 : W0.cell? ⟨w.heap.size, 0, none⟩ = some (.slice none 0 0) := x0.cell (hx1.cell (by simp [go_sem]))
  have r1 : W0.cell? ⟨w.heap.size, 1, none⟩ = some (.slice none 0 0) := x0.cell (hx1.cell (by simp [go_sem]))
  have r2 : W0.cell? ⟨w.heap.size, 2, none⟩ = some (.slice none 0 0) := x0.cell (hx1.cell (by simp [go_sem]))
  have r3 : W0.cell? ⟨w.heap.size, 3, none⟩ = some (.map none) := x0.cell (hx1.cell (by simp [go_sem]))
  have rf : ∀ o, W0.frozen? ⟨w.heap.size, o, none⟩ = false := fun o => (x0.frozen (p := ⟨w.heap.size, o, none⟩) zq).trans ((hx1.frozen (p := ⟨w.heap.size, o, none⟩) (by simp)).trans (by simp [go_sem]))
  have hu0 := hu.ext (x1.trans x0)
  have hs0 := hs.ext (x1.trans x0)
  have hk0 := hk.ext x0
  rw [← hW0]
  have Hu := Lib.hid hu
  have Hs := Lib.hid hs
  clear hW0 hx1 hmm hk hu hs
  generalize w1.heap.size = B at *
  go_loopw [6] (fun ix wr => ∃ (r : Nat) (M : Tab), r ≤ ws.length + 1 ∧ ix = .int .i64 ((ws.length : Int) - r) ∧ Puts B W0 wr ∧ TabIs ws ss r 0 M ∧ MapP wr B M) (fun ix _ => (intOf ix + 1).toNat)
  case atStart => exact ⟨0, [], Nat.zero_le _, by simp, (Ext.refl _).puts _, TabIs.nil _ _, mm0⟩
  case round =>
    obtain ⟨r, M0, hr1, hix, hp, hT0, hM0⟩ := hrel
    obtain ⟨wo, hwo⟩ : ∃ wo : World, wo = wr := ⟨_, rfl⟩
    subst hwo
    by_cases hlt : r ≤ ws.length
    · obtain ⟨i, hi⟩ : ∃ i, ws.length - r = i := ⟨_, rfl⟩
      have hie : (ws.length : Int) - r = (i : Int) := by omega
      rw [hie] at hix
      subst hix
      have hge : (0 : Int) ≤ (i : Int) := by omega
      have hw1 : IntKind.i64.wrap ((i : Int) - 1) = (i : Int) - 1 := IntWalk.i64_in _ (by omega)
      have Hi := Lib.hid hi
      have Hie := Lib.hid hie
      clear hi hie
      go_wp2
      go_loopw [7] (fun ix wr => ∃ (s : Nat) (M : Tab), s ≤ ss.length + 1 ∧ ix = .int .i64 ((ss.length : Int) - s) ∧ Puts B W0 wr ∧ TabIs ws ss r s M ∧ MapP wr B M) (fun ix _ => (intOf ix + 1).toNat)
      case atStart => exact ⟨0, M0, Nat.zero_le _, by simp, hp, hT0, hM0⟩
      case round =>
        clear hM0 hT0 hp
        obtain ⟨s, M, hs1, hix, hp, hT, hM⟩ := hrel
        by_cases hlt2 : s ≤ ss.length
        · obtain ⟨j, hj⟩ : ∃ j, ss.length - s = j := ⟨_, rfl⟩
          have hje : (ss.length : Int) - s = (j : Int) := by omega
          rw [hje] at hix
          subst hix
          have hge2 : (0 : Int) ≤ (j : Int) := by omega
          have hw2 : IntKind.i64.wrap ((j : Int) - 1) = (j : Int) - 1 := IntWalk.i64_in _ (by omega)
          have hBl := hM.lt
          have hSp := two_puts B
          have c0 := hp.cell m0
          have c1 := hp.cell m1
          have c2 := hp.cell m2
          have c3 := hp.cell m3
          have z1 := cell_lt c0
          have hxp : Ext wr (wr.alloc (.cells #[.int .i64 (i : Int), .int .i64 (j : Int)] 186)) := ext_alloc _ _
          have hstep := hT.step hlt hlt2
          have hval := hT.val hlt hlt2
          have hnone := hT.none hlt hlt2
          have hin := hT.in h9
          rw [Hi.out, hj] at hstep hval hnone
          have Hje := Lib.hid hje
          have Hstep := Lib.hid hstep
          have Hval := Lib.hid hval
          have Hnone := Lib.hid hnone
          have Hlt2 := Lib.hid hlt2
          have Hij := Lib.hid (show i ≤ ws.length ∧ j ≤ ss.length by have := Hi.out; omega)
          clear hje hj hstep hval hnone hT hlt hlt2
          generalize hv : valM ws ss i j = v at *
          clear hv
          go_wp2_with fail
          apply Facts.Dep.Once.wp_region (two_puts B) 10 [.val _, .val _, .val _, .val _, .val _, .fact (ChoV (.slice ua ws.length uc) (.slice sa ss.length sc) kb B i j), .val (.tuple #[chV v, .int .i64 (choicesM (tabF M) ws ss i j).length]), .val (.tuple #[chV v, .int .i64 (choicesM (tabF M) ws ss i j).length]), .val (chV v), .val (.int .i64 (choicesM (tabF M) ws ss i j).length), .fact (fun _ w => MapP w B (M ++ [((i, j), v)]))] (by kernel_rfl) (by kernel_rfl) (by kernel_rfl) ?keep ?main
          case keep => exact ⟨fun u a c hx h => h.lies hx.lies, fun _ _ u a c hx h => h.lies fun p v hp => hx.cell hp, fun u a c hx h => h.ext hx, fun h => absurd rfl h, trivial⟩
          case main =>
            obtain ⟨W8, hW8⟩ : ∃ W8, W8 = wr.alloc (.cells #[.int .i64 (i : Int), .int .i64 (j : Int)] 186) := ⟨_, rfl⟩
            have d0 : W8.cell? ⟨wr.heap.size, 0, none⟩ = some (.int .i64 (i : Int)) := by rw [hW8]; simp [go_sem]
            have d1 : W8.cell? ⟨wr.heap.size, 1, none⟩ = some (.int .i64 (j : Int)) := by rw [hW8]; simp [go_sem]
            rw [← hW8] at hxp ⊢
            have e0 := hxp.cell c0
            have e1 := hxp.cell c1
            have e2 := hxp.cell c2
            have e3 := hxp.cell c3
            have hM8 := hM.ext hxp
            have hp8 := hp.trans (hxp.puts B)
            have hzB : B ≤ wr.heap.size := by omega
            iterate 5 (refine ⟨fun w1 hE hC hh => ?_, ?_⟩; focus (clear hh hE; (have f0 := hC.cell e0; have f1 := hC.cell e1; have f2 := hC.cell e2; have f3 := hC.cell e3; have g0 := hC.cell d0; have g1 := hC.cell d1); go_simp; first | exact ⟨Ext.refl _, rfl⟩ | exact Ext.refl _))
            refine ⟨fun w1 hE hC hh => ?_, ?_⟩
            · clear hh hE hC
              go_simp
              have hca := chose_any ua sa uc sc ws.length ss.length kb B i j w1
              unfold mendV placeV at hca
              refine hca.mono ?_
              rintro e w' ⟨mb, pb, rfl, hcf, hx2⟩
              exact ⟨_, rfl, hx2, ⟨mb, pb, rfl, hcf⟩⟩
            intro u5
            refine ⟨fun w1 hE hC hh => ?_, ?_⟩
            · have h5 : ChoV (.slice ua ws.length uc) (.slice sa ss.length sc) kb B i j u5 w1 := hh 5 _ List.mem_cons_self (by kernel_rfl)
              have hx := hE (by kernel_rfl)
              clear hh hE hC
              have s5 := h5.spec
              generalize h5.m = mb at *
              generalize h5.p = pb at *
              clear h5
              obtain ⟨rfl, hcf⟩ := s5
              have hl := (hp8.trans (hx.puts B)).1
              have hba := bestAt_any mb pb kb B _ _ ws ss M i j w1 hcf (hu0.lies fun p v hp => hl.cell (.inr (Nat.zero_le _)) hp) (hs0.lies fun p v hp => hl.cell (.inr (Nat.zero_le _)) hp) (hk0.lies fun p v hp => hl.cell (.inr (Nat.zero_le _)) hp) (hM8.ext hx) Hij.out h9 hin
              rw [Hval.out] at hba
              unfold fewerF at hba
              go_simp
              refine hba.mono ?_
              rintro e w' ⟨rfl, hx2⟩
              exact ⟨_, rfl, hx2, rfl⟩
            unfold chV
            iterate 3 (refine ⟨fun w1 hE hC hh => ?_, ?_⟩; focus (clear hh hE; skip; go_simp; first | exact ⟨Ext.refl _, rfl⟩ | exact Ext.refl _))
            refine ⟨fun w1 hE hC hh => ?_, ?_⟩
            · have hx := hE (by kernel_rfl)
              have hMx := hM8.ext hx
              clear hh hE hC
              have hup := run_update_p (i, j) v hMx Hnone.out
              have hu2 := hup.choose_spec
              generalize hup.choose = w' at hu2
              have hrun := hu2.1
              have hM' := hu2.2.1
              have hg := hu2.2.2.1
              clear hu2 hup
              unfold placeV chV at hrun
              go_simp
              have hP := puts_map (Nat.le_refl _) hMx hg
              first | exact ⟨hP, hM'⟩ | exact hP
            intro u10 w5 hC hh
            have hM5 : MapP w5 B (M ++ [((i, j), v)]) := hh 10 _ List.mem_cons_self
            clear hh
            go_simp
            go_wp2
            go_roundw
            case rel => exact ⟨s + 1, _, by have := Hlt2.out; omega, by congr 1; have := Hje.out; omega, hp8.trans hC, Hstep.out, hM5⟩
            case measure => simp [intOf] <;> omega
        · obtain rfl : s = ss.length + 1 := by omega
          have hje : (ss.length : Int) - ((ss.length + 1 : Nat) : Int) = -1 := by omega
          rw [hje] at hix
          subst hix
          go_wp2
          go_roundw
          case rel => exact ⟨r + 1, M, by omega, by congr 1; have := Hie.out; omega, hp, hT.row, hM⟩
          case measure => simp [intOf] <;> omega
    · obtain rfl : r = ws.length + 1 := by omega
      have hie : (ws.length : Int) - ((ws.length + 1 : Nat) : Int) = -1 := by omega
      rw [hie] at hix
      subst hix
      have c0 := hp.cell m0
      have c1 := hp.cell m1
      have c2 := hp.cell m2
      have c3 := hp.cell m3
      have q0 := hp.cell r0
      have q1 := hp.cell r1
      have q2 := hp.cell r2
      have q3 := hp.cell r3
      have qf : ∀ o, wo.frozen? ⟨w.heap.size, o, none⟩ = false := fun o => ((hp.2 (by omega)).frozen (p := ⟨w.heap.size, o, none⟩) zq).trans (rf o)
      clear r0 r1 r2 r3 rf m0 m1 m2 m3
      go_wp2
      obtain ⟨W5, hW5⟩ : ∃ W5, W5 = set4 wo w.heap.size (.slice ua ws.length uc) (.slice sa ss.length sc) (.slice (some ⟨kb, 0, none⟩) 5 5) (.map (some B)) := ⟨_, rfl⟩
      have h4 := set4_cells q0 q1 q2 q3 (.slice ua ws.length uc) (.slice sa ss.length sc) (.slice (some ⟨kb, 0, none⟩) 5 5) (.map (some B))
      have xwo : Ext w wo := Below.trans (x1.trans x0) ((hp.2 (by omega)).mono (Nat.le_of_lt zq))
      have x5 : Ext w W5 := by rw [hW5]; exact (((xwo.setCell (p := ⟨w.heap.size, 0, none⟩) (Nat.le_refl _) _).setCell (p := ⟨w.heap.size, 1, none⟩) (Nat.le_refl _) _).setCell (p := ⟨w.heap.size, 2, none⟩) (Nat.le_refl _) _).setCell (p := ⟨w.heap.size, 3, none⟩) (Nat.le_refl _) _
      have hoth : ∀ k, k ≠ w.heap.size → W5.heap[k]? = wo.heap[k]? := fun k hk => by rw [hW5]; exact set4_other hk
      have hkb : kb ≠ w.heap.size := fun e => by
        have := hp.cell (hk0 0 0 (.int .i64 1) (by omega) rfl)
        rw [e, q0] at this
        cases this
      rw [← hW5] at h4
      obtain ⟨g0, g1, g2, g3⟩ := h4
      have hkf : KindsAt W5 kb := fun k j u hk hu => (World.cell?_of_block (hoth kb hkb)).trans (hp.cell (hk0 k j u hk hu))
      refine bodyPost_ret (v := mendV (.slice ua ws.length uc) (.slice sa ss.length sc) kb B) (show _ = _ from by rw [show (((wo.setCell ⟨w.heap.size, 0, none⟩ (.slice ua ws.length uc)).setCell ⟨w.heap.size, 1, none⟩ (.slice sa ss.length sc)).setCell ⟨w.heap.size, 2, none⟩ (.slice (some ⟨kb, 0, none⟩) 5 5)).setCell ⟨w.heap.size, 3, none⟩ (.map (some B)) = W5 from hW5.symm]; simp [results, Tryz.results54, go_sem, g0, g1, g2, g3, mendV]) rfl ?_
      rw [show (((wo.setCell ⟨w.heap.size, 0, none⟩ (.slice ua ws.length uc)).setCell ⟨w.heap.size, 1, none⟩ (.slice sa ss.length sc)).setCell ⟨w.heap.size, 2, none⟩ (.slice (some ⟨kb, 0, none⟩) 5 5)).setCell ⟨w.heap.size, 3, none⟩ (.map (some B)) = W5 from hW5.symm]
      exact ⟨kb, B, M0, rfl, Hu.out.ext x5, Hs.out.ext x5, hkf, hM0.kept (hoth B (by omega)), hT0, x5⟩
end Go.Proofs.YtcamegaimleomaaGreat

namespace Go.Proofs.YtcamegaimleomaaGreat
set_option linter.unusedSimpArgs false
set_option linter.unusedVariables false
open Go.RowKit
set_option linter.unusedVariables false

theorem field_ch0 (a b : Int) (w : World) : (Instr.field 120 (.agg #[.int .i64 a, .int .i64 b]) 0).run Tryz.prog w = .ok (.int .i64 a) w := by
  have ha : ∀ w, (isAgg 3).run Tryz.prog w = .ok false w := fun _ => by kernel_rfl
  unfold Instr.field
  simp [part, ha, asAgg, go_sem]
theorem field_ch1 (a b : Int) (w : World) : (Instr.field 120 (.agg #[.int .i64 a, .int .i64 b]) 1).run Tryz.prog w = .ok (.int .i64 b) w := by
  have ha : ∀ w, (isAgg 3).run Tryz.prog w = .ok false w := fun _ => by kernel_rfl
  unfold Instr.field
  simp [part, ha, asAgg, go_sem]
set_option maxRecDepth 100000 in
theorem fewest_any (ua sa : Option Addr) (m n um sn kb B : Nat) (M : Tab) (c : Ch) (w : World) (hM : MapP w B M) (hg : getP (0, 0) M = some c) :
    Calls Tryz.prog 57 #[mendV (.slice ua m um) (.slice sa n sn) kb B] w fun e w' => e = .returned (.int .i64 (c.2 : Nat)) ∧ Ext w w' := by
  unfold mendV
  have hx0 : Ext w (w.alloc (.cells #[.slice ua m um, .slice sa n sn, .slice (some ⟨kb, 0, none⟩) 5 5, .map (some B)] 108)) := ext_alloc _ _
  have hlk := run_lookup_p (0, 0) (hM.ext hx0) false
  rw [hg] at hlk
  unfold placeV chV at hlk
  simp only [Option.getD_some, Int.natCast_zero] at hlk
  simp only [Bool.false_eq_true, if_false] at hlk
  go_enter Tryz.func57, Tryz.ntmps57
  go_wp2_with fail
  rw [field_ch1]
  go_simp
  go_wp2
  go_ret
  exact ⟨rfl, hx0⟩

theorem neq_place (k m : Nat × Nat) (w : World) : (binOp .neq 186 (placeV k) (placeV m)).run Tryz.prog w = .ok (.bool (!decide (k = m))) w := by
  have h := equal_place k m w
  have hop : Op.equal 186 (placeV k) (placeV m) = Op.equalIn 10000 186 (placeV k) (placeV m) := rfl
  rw [hop] at h
  unfold placeV at *
  rw [run_neq_struct, h]
  rfl

/-! ### The marks, from a place on -/
theorem marksF_fuel : ∀ (n k : Nat) (ws : List ByteArray) (ss : List Slot), ws.length + ss.length ≤ n → ws.length + ss.length ≤ k → marksF n ws ss = marksF k ws ss
  | 0, 0, _, _, _, _ => rfl
  | 0, k + 1, ws, ss, h, _ => by rw [marksF, marksF, if_pos (by omega)]
  | n + 1, 0, ws, ss, _, h => by rw [marksF, marksF, if_pos (by omega)]
  | n + 1, k + 1, ws, ss, h1, h2 => by
    by_cases h : ws.length + ss.length = 0
    · rw [marksF, marksF, if_pos h, if_pos h]
    · obtain ⟨-, g1, g2, g3, -, -⟩ := costM_which ws ss (by omega)
      rw [marksF, marksF, if_neg h, if_neg h]
      congr 1
      exact marksF_fuel n k _ _ (by rw [List.length_drop, List.length_drop]; omega) (by rw [List.length_drop, List.length_drop]; omega)
theorem marksF_len : ∀ (n : Nat) (ws : List ByteArray) (ss : List Slot), (marksF n ws ss).length ≤ n
  | 0, _, _ => Nat.le_refl _
  | n + 1, ws, ss => by
    rw [marksF]
    split
    · simp
    · have := marksF_len n (ws.drop (kW (costM ws ss).1)) (ss.drop (kS (costM ws ss).1))
      simp; omega
/-- the mark at a place -/
def markAt (ws : List ByteArray) (ss : List Slot) (i j : Nat) : Mark := ⟨((valM ws ss i j).1 : Nat), if kWr (valM ws ss i j).1 then (ss.getD j noSlot).word else ByteArray.empty⟩
theorem marks_step (ws : List ByteArray) (ss : List Slot) (i j : Nat) (hi : i ≤ ws.length) (hj : j ≤ ss.length) (hne : ¬ (i, j) = (ws.length, ss.length)) :
    (valM ws ss i j).1 < 5 ∧ i + kW (valM ws ss i j).1 ≤ ws.length ∧ j + kS (valM ws ss i j).1 ≤ ss.length ∧
      marksM (ws.drop i) (ss.drop j) = markAt ws ss i j :: marksM (ws.drop (i + kW (valM ws ss i j).1)) (ss.drop (j + kS (valM ws ss i j).1)) := by
  have h0 : 0 < (ws.drop i).length + (ss.drop j).length := by
    rw [List.length_drop, List.length_drop]
    rcases Nat.eq_zero_or_pos (ws.length - i + (ss.length - j)) with h | h
    · exact absurd (by rw [show i = ws.length from by omega, show j = ss.length from by omega]) hne
    · exact h
  obtain ⟨h1, h2, h3, h4, -, -⟩ := costM_which (ws.drop i) (ss.drop j) h0
  unfold markAt valM
  rw [List.length_drop] at h2 h3
  refine ⟨by omega, by omega, by omega, ?_⟩
  obtain ⟨N, hN⟩ : ∃ N, (ws.drop i).length + (ss.drop j).length = N + 1 := ⟨(ws.drop i).length + (ss.drop j).length - 1, by omega⟩
  unfold marksM
  rw [hN, marksF, if_neg (by omega), List.drop_drop, List.drop_drop]
  have e : (ss.drop j).headD noSlot = ss.getD j noSlot := by simp [List.headD_eq_head?_getD, List.head?_drop]
  rw [e]
  congr 1
  refine marksF_fuel _ _ _ _ ?_ (Nat.le_refl _)
  simp only [List.length_drop] at *
  omega
/-- a row of marks of the call's own -/
def cellsK (l : List Mark) : List Value := l.flatMap fun s => [.int .i64 s.kind, .string s.word]
theorem cellsK_len (l : List Mark) : (cellsK l).length = l.length * 2 := by
  induction l with
  | nil => rfl
  | cons x l ih => simp only [cellsK, List.flatMap_cons, List.length_append, List.length_cons, List.length_nil] at *; omega
theorem cellsK_get (l : List Mark) (i : Nat) (h : i < l.length) : (cellsK l)[i * 2]? = some (.int .i64 l[i].kind) ∧ (cellsK l)[i * 2 + 1]? = some (.string l[i].word) := by
  induction l generalizing i with
  | nil => simp at h
  | cons x l ih =>
    cases i with
    | zero => simp [cellsK]
    | succ i =>
      have := ih i (by simpa using h)
      have e : (i + 1) * 2 = i * 2 + 2 := by omega
      rw [e]
      simpa [cellsK] using this
theorem cellsK_app (l r : List Mark) : cellsK (l ++ r) = cellsK l ++ cellsK r := by simp [cellsK]
def RowK (base : Nat) (l : List Mark) (u : Value) (w : World) : Prop := w.ownsRow base 115 2 u l.length (cellsK l)
theorem RowK.ext {base : Nat} {l : List Mark} {u : Value} {w w' : World} (h : RowK base l u w) (hx : Ext w w') : RowK base l u w' := Ext.owns h hx
theorem RowK.nil {base : Nat} {w : World} : RowK base [] (.slice none 0 0) w := World.ownsRow_nil _ _ _ _
theorem RowK.snoc {base : Nat} {l : List Mark} {a : Int} {b : ByteArray} {u : Value} {w : World} (h : w.ownsRow base 115 2 u (l.length + 1) (cellsK l ++ [.int .i64 a, .string b])) : RowK base (l ++ [⟨a, b⟩]) u w := by
  unfold RowK
  rw [cellsK_app, List.length_append]
  exact h
theorem RowK.lower {base base' : Nat} {l : List Mark} {u : Value} {w : World} (h : RowK base l u w) (hb : base' ≤ base) : RowK base' l u w := by
  refine ⟨h.1, ?_⟩
  rcases h.2 with h | ⟨g, cap, cur, e, h1, h2⟩
  · exact .inl h
  · exact .inr ⟨g, cap, cur, e, Nat.le_trans hb h1, h2⟩
theorem RowK.at_ {base : Nat} {l : List Mark} {u : Value} {w : World} (h : RowK base l u w) (hI : ∀ s ∈ l, I64 s.kind ∧ s.word.size ≤ 9223372036854775807) : MarksAt w u l := by
  have hcells := fun g hg => h.cells (g := g) hg
  rcases h.2 with ⟨rfl, hn⟩ | ⟨g, cap, cur, rfl, hb, hg, hnc, hcm, hcs, htake⟩
  · have : l = [] := List.eq_nil_of_length_eq_zero hn
    subst this; exact SliceAt.nil
  · refine ⟨_, _, rfl, hnc, by simpa [maxLen] using hcm, fun i hi => ⟨g, 0, rfl, ?_⟩⟩
    obtain ⟨c0, c1⟩ := cellsK_get l i hi
    have r0 := hcells g rfl _ _ c0
    have r1 := hcells g rfl _ _ c1
    have ea : ∀ j, (⟨g, 0, none⟩ : Addr).add j = ⟨g, 0 + j, none⟩ := fun j => by unfold Addr.add; split <;> simp_all
    rw [ea] at r0 r1
    exact ⟨r0, r1, hI _ (List.getElem_mem hi)⟩
def lenV : Value → Nat
  | .slice _ n _ => n
  | _ => 0
theorem RowK.lenV {base : Nat} {l : List Mark} {u : Value} {w : World} (h : RowK base l u w) : lenV u = l.length := by
  rcases h.2 with ⟨rfl, hn⟩ | ⟨g, cap, cur, rfl, h1, h2⟩
  · exact hn.symm
  · rfl
theorem infoMark : (Tryz.prog.info? 115).map (fun i => (i.zero, i.size, i.bytes)) = some (some (.agg #[.int .i64 0, .string ByteArray.empty]), 2, 24) := by kernel_rfl
def OwnP (pb i j : Nat) (w : World) : Prop := w.cell? ⟨pb, 0, none⟩ = some (.int .i64 (i : Nat)) ∧ w.cell? ⟨pb, 1, none⟩ = some (.int .i64 (j : Nat)) ∧ ∀ o, w.frozen? ⟨pb, o, none⟩ = false
theorem OwnP.ext {pb i j : Nat} {w w' : World} (h : OwnP pb i j w) (hx : Ext w w') : OwnP pb i j w' :=
  ⟨hx.cell h.1, hx.cell h.2.1, fun o => (hx.frozen (p := ⟨pb, o, none⟩) (show pb < _ from cell_lt h.1)).trans (h.2.2 o)⟩
theorem grown_frozenK {w w' : World} {row : Option Nat} (hg : w.grownBy w' row) {p : Addr} (hlt : p.block < w.heap.size) (hne : some p.block ≠ row) : w'.frozen? p = w.frozen? p := by
  unfold World.frozen?
  rw [hg.block p.block hlt (fun e => hne (by rw [e]))]
theorem grownBy_setAt (w : World) (b o : Nat) (v : Value) : w.grownBy (w.setCell ⟨b, o, none⟩ v) (some b) := ⟨rfl, rfl, rfl, by simp [World.setCell], fun k _ hk => Below.heap_setCell _ _ _ _ (fun e => hk (by rw [e]))⟩
theorem KindAt.below {w' W : World} {b o k B : Nat} (h : KindAt W b o k) (hx : Below B W w') (hb : b < B) : KindAt w' b o k :=
  ⟨(hx.cell (p := ⟨b, o, none⟩) hb).trans h.c0, (hx.cell (p := ⟨b, o + 1, none⟩) hb).trans h.c1, (hx.cell (p := ⟨b, o + 2, none⟩) hb).trans h.c2, (hx.cell (p := ⟨b, o + 3, none⟩) hb).trans h.c3, (hx.cell (p := ⟨b, o + 4, none⟩) hb).trans h.c4, (hx.cell (p := ⟨b, o + 5, none⟩) hb).trans h.c5⟩
/-- what is so once the next place has been stored -/
structure StepK (S : Nat) (W0 : World) (pb i j : Nat) (l : List Mark) (v : Value) (w : World) : Prop where
  p : OwnP pb i j w
  ext : Below S W0 w
  row : RowK S l v w
theorem StepK.ext' {S : Nat} {W0 : World} {pb i j : Nat} {l : List Mark} {v : Value} {w w' : World} (h : StepK S W0 pb i j l v w) (hx : Ext w w') (hS : S ≤ W0.heap.size) : StepK S W0 pb i j l v w' :=
  ⟨h.p.ext hx, h.ext.trans (Below.mono hx (Nat.le_trans hS h.ext.size)), h.row.ext hx⟩
theorem stepK {S pb i j ni nj : Nat} {W0 w : World} {l : List Mark} {v : Value} (hx : Below S W0 w) (hP : OwnP pb i j w) (hr : RowK S l v w) (hb : v.ownBlock ≠ some pb) (hpb : S ≤ pb) :
    StepK S W0 pb ni nj l v ((w.setCell ⟨pb, 0, none⟩ (.int .i64 (ni : Nat))).setCell ⟨pb, 1, none⟩ (.int .i64 (nj : Nat))) := by
  obtain ⟨h1, h2⟩ := two_cells hP.1 hP.2.1 (.int .i64 (ni : Nat)) (.int .i64 (nj : Nat))
  exact ⟨⟨h1, h2, fun o => by simpa [go_sem] using hP.2.2 o⟩, (hx.setCell (p := ⟨pb, 0, none⟩) hpb _).setCell (p := ⟨pb, 1, none⟩) hpb _, World.ownsRow.kept (World.ownsRow.kept hr (grownBy_setAt _ _ _ _) (.inr hb)) (grownBy_setAt _ _ _ _) (.inr hb)⟩
theorem kWr_S (k : Nat) (h : kWr k = true) : kS k = 1 := by
  unfold kWr at h
  split at h
  · rfl
  · rfl
  · cases h
set_option maxRecDepth 100000 in
set_option maxHeartbeats 3000000 in
theorem marks_any (uv sv : Value) (ws : List ByteArray) (ss : List Slot) (kb B : Nat) (M : Tab) (w : World) (hu : StrsAt w uv ws) (hs : SlotsAt w sv ss) (hk : KindsAt w kb) (hM : MapP w B M) (hT : TabIs ws ss (ws.length + 1) 0 M) (h9 : ws.length ≤ 900 ∧ ss.length ≤ 900) :
    Calls Tryz.prog 56 #[mendV uv sv kb B] w fun e w' => ∃ u, e = .returned u ∧ RowK w.heap.size (marksM ws ss) u w' ∧ Ext w w' := by
  obtain ⟨ua, uc, rfl, huc, hum⟩ := hu.shape
  obtain ⟨sa, sc, rfl, hsc, hsm⟩ := hs.shape
  obtain ⟨i0, hi, hz0, hz1, hz2⟩ := info_parts infoMark
  have hmlen : (marksM ws ss).length ≤ 1800 := Nat.le_trans (marksF_len _ _ _) (by omega)
  have hkb : kb < w.heap.size := cell_lt (hk 0 0 _ (by omega) rfl)
  have hBw := hM.lt
  unfold mendV
  go_enter Tryz.func56, Tryz.ntmps56
  go_wp2_with fail
  obtain ⟨W0, hW0⟩ : ∃ W0, W0 = (((w.alloc (.cells #[.slice ua ws.length uc, .slice sa ss.length sc, .slice (some ⟨kb, 0, none⟩) 5 5, .map (some B)] 108)).alloc (.cells #[.int .i64 (ws.length : Nat), .int .i64 (ss.length : Nat)] 186)).alloc (.cells #[.int .i64 0, .int .i64 0] 186)) := ⟨_, rfl⟩
  have x0 : Ext w W0 := by rw [hW0]; exact ((ext_alloc _ _).alloc _).alloc _
  have z0 : W0.heap.size = w.heap.size + 3 := by rw [hW0]; simp
  have m1 : W0.cell? ⟨w.heap.size, 1, none⟩ = some (.slice sa ss.length sc) := by rw [hW0]; simp [go_sem]
  have m2 : W0.cell? ⟨w.heap.size, 2, none⟩ = some (.slice (some ⟨kb, 0, none⟩) 5 5) := by rw [hW0]; simp [go_sem]
  have m3 : W0.cell? ⟨w.heap.size, 3, none⟩ = some (.map (some B)) := by rw [hW0]; simp [go_sem]
  have n0 : W0.cell? ⟨w.heap.size + 1, 0, none⟩ = some (.int .i64 (ws.length : Nat)) := by rw [hW0]; simp [go_sem]
  have n1 : W0.cell? ⟨w.heap.size + 1, 1, none⟩ = some (.int .i64 (ss.length : Nat)) := by rw [hW0]; simp [go_sem]
  have p0 : OwnP (w.heap.size + 1 + 1) 0 0 W0 := ⟨by rw [hW0]; simp [go_sem], by rw [hW0]; simp [go_sem], fun o => by rw [hW0]; simp [go_sem]⟩
  have hs0 := hs.ext x0
  have hk0 := hk.ext x0
  have hM0 := hM.ext x0
  rw [← hW0]
  have Hs := Lib.hid hs
  clear hW0 hu hs hk hM
  go_loopw [3, 5] (fun v pt wr => ∃ (i j pb : Nat) (done : List Mark), i ≤ ws.length ∧ j ≤ ss.length ∧ pt = .pointer (some ⟨pb, 0, none⟩) ∧ w.heap.size + 2 ≤ pb ∧ OwnP pb i j wr ∧ Below (w.heap.size + 2) W0 wr ∧ RowK (w.heap.size + 2) done v wr ∧ v.ownBlock ≠ some pb ∧ done ++ marksM (ws.drop i) (ss.drop j) = marksM ws ss) (fun v _ _ => (marksM ws ss).length - lenV v)
  case atStart => exact ⟨0, 0, _, [], Nat.zero_le _, Nat.zero_le _, rfl, by omega, p0, Below.refl _ _, RowK.nil, by simp [Value.ownBlock], by simp⟩
  case round =>
    obtain ⟨i, j, pb, done, hi', hj', rfl, hpb, hP, hxr, hown, hne, hdone⟩ := hrel
    have b1 := (hxr.cell (p := ⟨w.heap.size, 1, none⟩) (by simp)).trans m1
    have b2 := (hxr.cell (p := ⟨w.heap.size, 2, none⟩) (by simp)).trans m2
    have b3 := (hxr.cell (p := ⟨w.heap.size, 3, none⟩) (by simp)).trans m3
    have e0 := (hxr.cell (p := ⟨w.heap.size + 1, 0, none⟩) (by simp)).trans n0
    have e1 := (hxr.cell (p := ⟨w.heap.size + 1, 1, none⟩) (by simp)).trans n1
    have a0 := hP.1
    have a1 := hP.2.1
    have za := cell_lt a0
    have zb := cell_lt b1
    have zr := hxr.size
    by_cases hend : (i, j) = (ws.length, ss.length)
    · obtain ⟨rfl, rfl⟩ := Prod.mk.inj hend
      have hnq : ∀ w, (binOp .neq 186 (.agg #[.int .i64 (ws.length : Nat), .int .i64 (ss.length : Nat)]) (.agg #[.int .i64 (ws.length : Nat), .int .i64 (ss.length : Nat)])).run Tryz.prog w = .ok (.bool false) w := fun w => by
        have := neq_place (ws.length, ss.length) (ws.length, ss.length) w
        simpa [placeV] using this
      have hd : done = marksM ws ss := by
        rw [List.drop_length, List.drop_length] at hdone
        simpa [marksM, marksF] using hdone
      have Hd := Lib.hid hd
      clear hdone hd hend
      go_wp2
      go_ret
      exact ⟨_, rfl, by rw [← Hd.out]; exact hown.lower (by omega), Below.trans x0 (hxr.mono (by omega))⟩
    · obtain ⟨hc5, hci, hcj, hms⟩ := marks_step ws ss i j hi' hj' hend
      have hnq : ∀ w, (binOp .neq 186 (.agg #[.int .i64 (i : Nat), .int .i64 (j : Nat)]) (.agg #[.int .i64 (ws.length : Nat), .int .i64 (ss.length : Nat)])).run Tryz.prog w = .ok (.bool true) w := fun w => by
        have := neq_place (i, j) (ws.length, ss.length) w
        rw [decide_eq_false hend] at this
        simpa [placeV] using this
      have hMr : MapP wr B M := hM0.kept (hxr.block B (by omega))
      have hlk := run_lookup_p (i, j) hMr false
      rw [hT.all i j hi' hj'] at hlk
      unfold placeV chV at hlk
      simp only [Option.getD_some, Bool.false_eq_true, if_false] at hlk
      unfold markAt at hms
      have hSr := kWr_S (valM ws ss i j).1
      generalize (valM ws ss i j).1 = wh at *
      generalize (valM ws ss i j).2 = mn at *
      obtain ⟨d0, d1, d2, d3, d4, d5⟩ := (hk0.get wh hc5).below hxr (by omega)
      have hf0 := field_ch0 (wh : Nat) (mn : Nat)
      have zk : kb < wr.heap.size := cell_lt d0
      have k5 : (wh : Int) < 5 := by omega
      have Hdone := Lib.hid hdone
      have Hlen := Lib.hid hown.lenV
      have hdl : done.length ≤ 1800 := by
        have := congrArg List.length hdone
        rw [List.length_append] at this
        omega
      have hrun4 := hnq
      obtain ⟨kw, hW⟩ : ∃ k, kW wh = k := ⟨_, rfl⟩
      obtain ⟨ks, hS'⟩ : ∃ k, kS wh = k := ⟨_, rfl⟩
      obtain ⟨kc, hC'⟩ : ∃ k, kC wh = k := ⟨_, rfl⟩
      obtain ⟨cf, hF'⟩ : ∃ k, canF wh = k := ⟨_, rfl⟩
      obtain ⟨bf, hG⟩ : ∃ k, becF wh = k := ⟨_, rfl⟩
      clear hend hdone
      cases hR : kWr wh
      · rw [hR] at d3 hms
        simp only [Bool.false_eq_true, if_false, hW, hS'] at hms
        rw [hW] at hci
        rw [hS'] at hcj
        go_upto_region 9 with (rw [hf0]; go_simp)
        obtain ⟨wd, hwd⟩ : ∃ wd : ByteArray, wd = ByteArray.empty := ⟨_, rfl⟩
        obtain ⟨Wk, hWk⟩ : ∃ Wk, Wk = wr.alloc (.cells #[.int .i64 (wh : Nat), .string ⟨#[]⟩] 115) := ⟨_, rfl⟩
        have xk : Ext wr Wk := by rw [hWk]; exact ext_alloc _ _
        have k0 : Wk.cell? ⟨wr.heap.size, 0, none⟩ = some (.int .i64 (wh : Nat)) := by rw [hWk]; simp [go_sem]
        have k1 : Wk.cell? ⟨wr.heap.size, 1, none⟩ = some (.string wd) := by rw [hWk, hwd]; simp [go_sem]; rfl
        rw [← hwd] at hms

        have P1 := hP.ext xk
        have Own := Lib.hid (Ext.owns hown xk)
        have hkz := xk.size
        have P1l := cell_lt P1.1
        have xk0 := hxr.trans (Below.mono xk (by omega))
        have hxz := hxr.size
        clear hown
        rw [← hWk]
        clear hWk hwd
        go_upto_region 10 with (at_builtin; go_loud (refine wpList_append_own_at _ rfl _ _ 37 rfl (w.heap.size + 2) 115 i0 (.agg #[.int .i64 0, .string ByteArray.empty]) 2 24 Tryz.underlying37 hi hz0 hz1 hz2 rfl (by decide) u3 done.length (cellsK done) rfl (World.ownsRow.alloc Own.out _) ⟨Wk.heap.size, 0, none⟩ 1 1 [.int .i64 (wh : Nat), .string wd] rfl rfl (cell_two_newS _ _ _ _) (by simp [Value.oneCell']) (by unfold maxLen; omega) (by omega) (by simp; omega) ?_; intro v' w2 hown' hgrow _ hblk; have Hown' := Lib.hid hown'; have Hgrow := Lib.hid hgrow; have Hblk := Lib.hid hblk; clear hown' hgrow hblk))
        have xa : Ext Wk (Wk.alloc (.cells #[.int .i64 (wh : Nat), .string wd] 115)) := ext_alloc _ _
        have hgr := Hgrow.out
        have x2 : Below (w.heap.size + 2) W0 w2 := Below.grown (xk0.trans (Below.mono xa (by omega))) hgr (by simp; omega) fun k hk => (Own.out.lt k hk).1
        have P2 := P1.ext xa
        have x2z := x2.size
        have hP2 : OwnP pb i j w2 := ⟨hgr.cell P2.1 (fun e => hne e.symm), hgr.cell P2.2.1 (fun e => hne e.symm), fun o => (grown_frozenK hgr (p := ⟨pb, o, none⟩) (show pb < _ from cell_lt P2.1) (fun e => hne e.symm)).trans (P2.2.2 o)⟩
        have hb2 : v'.ownBlock ≠ some pb := by
          rcases Hblk.out with h | h
          · rw [h]; exact hne
          · rw [h]; intro e; have := Option.some.inj e; simp at this P1l; omega
        have c2 := (x2.cell (p := ⟨w.heap.size, 2, none⟩) (by simp)).trans m2
        have hkk := ((hk0.get wh hc5).below x2 (by omega))
        obtain ⟨d0, d1, d2, d3, d4, d5⟩ := hkk
        have hnx := fun w => next_any (i, j) ⟨by simp; omega, by simp; omega⟩ wh w
        have k5 : (wh : Int) < 5 := by omega
        unfold placeV kindVal at hnx
        simp only [hW, hS', hC', hR, hF', hG] at hnx d0 d1 d2 d3 d4 d5
        obtain ⟨ni, hni⟩ : ∃ ni, i + kw = ni := ⟨_, rfl⟩
        obtain ⟨nj, hnj⟩ : ∃ nj, j + ks = nj := ⟨_, rfl⟩
        simp only [hni, hnj] at hnx hci hcj hms
        have q0 := hP2.1
        have q1 := hP2.2.1
        have zq := cell_lt q0
        have hrow : RowK (w.heap.size + 2) (done ++ [⟨wh, wd⟩]) v' w2 := RowK.snoc Hown'.out
        have Hrow := Lib.hid hrow
        have Hms := Lib.hid hms
        clear hms hrow hgr hni hnj
        apply Facts.Dep.Once.wp_region two_free 7 [.val _, .val _, .val _, .val _, .val _, .val _, .val (.agg #[.int .i64 (ni : Nat), .int .i64 (nj : Nat)]), .fact (fun _ w5 => StepK (w.heap.size + 2) W0 pb ni nj (done ++ [⟨wh, wd⟩]) v' w5)] (by kernel_rfl) (by kernel_rfl) (by kernel_rfl) ?keep ?main
        case keep => exact ⟨fun u a c hx h => h.ext' hx (by omega), fun h => absurd rfl h, trivial⟩
        case main =>
          iterate 6 (refine ⟨fun w1 hE hC hh => ?_, ?_⟩; focus (have hx := hE (by kernel_rfl); clear hh hE hC; (have f0 := hx.cell q0; have f1 := hx.cell q1; have f2 := hx.cell c2; have f3 := hx.cell d0; have f4 := hx.cell d1; have f5 := hx.cell d2; have f6 := hx.cell d3; have f7 := hx.cell d4; have f8 := hx.cell d5); go_simp; first | exact ⟨Ext.refl _, rfl⟩ | exact Ext.refl _))
          refine ⟨fun w1 hE hC hh => ?_, ?_⟩
          · clear hh hE hC
            go_simp
            refine (hnx _).mono ?_
            rintro e w' ⟨rfl, hx2⟩
            exact ⟨_, rfl, hx2, rfl⟩
          refine ⟨fun w1 hE hC hh => ?_, ?_⟩
          · have hx := hE (by kernel_rfl)
            clear hh hE hC
            have hP1 := hP2.ext hx
            have hst := stepK (ni := ni) (nj := nj) (x2.trans (Below.mono hx (by omega))) hP1 (Hrow.out.ext hx) hb2 hpb
            have g0 := hP1.1
            have g1 := hP1.2.1
            have gf := hP1.2.2
            go_simp
            all_goals first | exact ⟨trivial, hst⟩ | exact hst
          intro u7' w5 hC hh
          have hS : StepK (w.heap.size + 2) W0 pb ni nj (done ++ [⟨wh, wd⟩]) v' w5 := hh 7 _ List.mem_cons_self
          clear hh hC
          have s0 := hS.p.1
          have s1 := hS.p.2.1
          have z5 := hS.ext.size
          go_simp
          go_wp2
          go_roundw
          case rel => exact ⟨ni, nj, w5.heap.size, done ++ [⟨wh, wd⟩], by omega, by omega, rfl, by omega, ⟨by simp [go_sem], by simp [go_sem], fun o => by simp [go_sem]⟩, hS.ext.alloc (by omega) _, hS.row.ext (ext_alloc _ _), fun e => by have := (hS.row.lt _ e).2; omega, by rw [List.append_assoc, List.singleton_append, ← Hms.out]; exact Hdone.out⟩
          case measure =>
            have e1 := hS.row.lenV
            have e2 := Own.out.2
            have e3 := Hlen.out
            have e4 := congrArg List.length Hdone.out
            rw [Hms.out] at e4
            simp at e1 e3 e4 ⊢
            omega

      · have hj2 : j < ss.length := by have := hSr hR; omega
        obtain ⟨sb, so, rfl, r0, -, -⟩ := Hs.out.get hj2
        have hsb : sb < w.heap.size := cell_lt r0
        have y0 := (hxr.cell (p := ⟨sb, so + j * 2, none⟩) (by simp; omega)).trans (x0.cell r0)
        have zs : sb < wr.heap.size := cell_lt y0
        have jj : (j : Int) < (ss.length : Int) := by omega
        rw [hR] at d3 hms
        simp only [if_true, hW, hS'] at hms
        rw [hW] at hci
        rw [hS'] at hcj
        obtain ⟨wd, hwd⟩ : ∃ wd : ByteArray, (ss[j]).word = wd := ⟨_, rfl⟩
        rw [hwd] at y0
        rw [show ss.getD j noSlot = ss[j] from by simp [hj2], hwd] at hms
        go_upto_region 9 with (rw [hf0]; go_simp)
        obtain ⟨Wk, hWk⟩ : ∃ Wk, Wk = wr.alloc (.cells #[.int .i64 (wh : Nat), .string wd] 115) := ⟨_, rfl⟩
        have xk : Ext wr Wk := by rw [hWk]; exact ext_alloc _ _
        have k0 : Wk.cell? ⟨wr.heap.size, 0, none⟩ = some (.int .i64 (wh : Nat)) := by rw [hWk]; simp [go_sem]
        have k1 : Wk.cell? ⟨wr.heap.size, 1, none⟩ = some (.string wd) := by rw [hWk]; simp [go_sem]

        have P1 := hP.ext xk
        have Own := Lib.hid (Ext.owns hown xk)
        have hkz := xk.size
        have P1l := cell_lt P1.1
        have xk0 := hxr.trans (Below.mono xk (by omega))
        have hxz := hxr.size
        clear hown
        rw [← hWk]
        clear hWk hwd
        go_upto_region 10 with (at_builtin; go_loud (refine wpList_append_own_at _ rfl _ _ 37 rfl (w.heap.size + 2) 115 i0 (.agg #[.int .i64 0, .string ByteArray.empty]) 2 24 Tryz.underlying37 hi hz0 hz1 hz2 rfl (by decide) u3 done.length (cellsK done) rfl (World.ownsRow.alloc Own.out _) ⟨Wk.heap.size, 0, none⟩ 1 1 [.int .i64 (wh : Nat), .string wd] rfl rfl (cell_two_newS _ _ _ _) (by simp [Value.oneCell']) (by unfold maxLen; omega) (by omega) (by simp; omega) ?_; intro v' w2 hown' hgrow _ hblk; have Hown' := Lib.hid hown'; have Hgrow := Lib.hid hgrow; have Hblk := Lib.hid hblk; clear hown' hgrow hblk))
        have xa : Ext Wk (Wk.alloc (.cells #[.int .i64 (wh : Nat), .string wd] 115)) := ext_alloc _ _
        have hgr := Hgrow.out
        have x2 : Below (w.heap.size + 2) W0 w2 := Below.grown (xk0.trans (Below.mono xa (by omega))) hgr (by simp; omega) fun k hk => (Own.out.lt k hk).1
        have P2 := P1.ext xa
        have x2z := x2.size
        have hP2 : OwnP pb i j w2 := ⟨hgr.cell P2.1 (fun e => hne e.symm), hgr.cell P2.2.1 (fun e => hne e.symm), fun o => (grown_frozenK hgr (p := ⟨pb, o, none⟩) (show pb < _ from cell_lt P2.1) (fun e => hne e.symm)).trans (P2.2.2 o)⟩
        have hb2 : v'.ownBlock ≠ some pb := by
          rcases Hblk.out with h | h
          · rw [h]; exact hne
          · rw [h]; intro e; have := Option.some.inj e; simp at this P1l; omega
        have c2 := (x2.cell (p := ⟨w.heap.size, 2, none⟩) (by simp)).trans m2
        have hkk := ((hk0.get wh hc5).below x2 (by omega))
        obtain ⟨d0, d1, d2, d3, d4, d5⟩ := hkk
        have hnx := fun w => next_any (i, j) ⟨by simp; omega, by simp; omega⟩ wh w
        have k5 : (wh : Int) < 5 := by omega
        unfold placeV kindVal at hnx
        simp only [hW, hS', hC', hR, hF', hG] at hnx d0 d1 d2 d3 d4 d5
        obtain ⟨ni, hni⟩ : ∃ ni, i + kw = ni := ⟨_, rfl⟩
        obtain ⟨nj, hnj⟩ : ∃ nj, j + ks = nj := ⟨_, rfl⟩
        simp only [hni, hnj] at hnx hci hcj hms
        have q0 := hP2.1
        have q1 := hP2.2.1
        have zq := cell_lt q0
        have hrow : RowK (w.heap.size + 2) (done ++ [⟨wh, wd⟩]) v' w2 := RowK.snoc Hown'.out
        have Hrow := Lib.hid hrow
        have Hms := Lib.hid hms
        clear hms hrow hgr hni hnj
        apply Facts.Dep.Once.wp_region two_free 7 [.val _, .val _, .val _, .val _, .val _, .val _, .val (.agg #[.int .i64 (ni : Nat), .int .i64 (nj : Nat)]), .fact (fun _ w5 => StepK (w.heap.size + 2) W0 pb ni nj (done ++ [⟨wh, wd⟩]) v' w5)] (by kernel_rfl) (by kernel_rfl) (by kernel_rfl) ?keep ?main
        case keep => exact ⟨fun u a c hx h => h.ext' hx (by omega), fun h => absurd rfl h, trivial⟩
        case main =>
          iterate 6 (refine ⟨fun w1 hE hC hh => ?_, ?_⟩; focus (have hx := hE (by kernel_rfl); clear hh hE hC; (have f0 := hx.cell q0; have f1 := hx.cell q1; have f2 := hx.cell c2; have f3 := hx.cell d0; have f4 := hx.cell d1; have f5 := hx.cell d2; have f6 := hx.cell d3; have f7 := hx.cell d4; have f8 := hx.cell d5); go_simp; first | exact ⟨Ext.refl _, rfl⟩ | exact Ext.refl _))
          refine ⟨fun w1 hE hC hh => ?_, ?_⟩
          · clear hh hE hC
            go_simp
            refine (hnx _).mono ?_
            rintro e w' ⟨rfl, hx2⟩
            exact ⟨_, rfl, hx2, rfl⟩
          refine ⟨fun w1 hE hC hh => ?_, ?_⟩
          · have hx := hE (by kernel_rfl)
            clear hh hE hC
            have hP1 := hP2.ext hx
            have hst := stepK (ni := ni) (nj := nj) (x2.trans (Below.mono hx (by omega))) hP1 (Hrow.out.ext hx) hb2 hpb
            have g0 := hP1.1
            have g1 := hP1.2.1
            have gf := hP1.2.2
            go_simp
            all_goals first | exact ⟨trivial, hst⟩ | exact hst
          intro u7' w5 hC hh
          have hS : StepK (w.heap.size + 2) W0 pb ni nj (done ++ [⟨wh, wd⟩]) v' w5 := hh 7 _ List.mem_cons_self
          clear hh hC
          have s0 := hS.p.1
          have s1 := hS.p.2.1
          have z5 := hS.ext.size
          go_simp
          go_wp2
          go_roundw
          case rel => exact ⟨ni, nj, w5.heap.size, done ++ [⟨wh, wd⟩], by omega, by omega, rfl, by omega, ⟨by simp [go_sem], by simp [go_sem], fun o => by simp [go_sem]⟩, hS.ext.alloc (by omega) _, hS.row.ext (ext_alloc _ _), fun e => by have := (hS.row.lt _ e).2; omega, by rw [List.append_assoc, List.singleton_append, ← Hms.out]; exact Hdone.out⟩
          case measure =>
            have e1 := hS.row.lenV
            have e2 := Own.out.2
            have e3 := Hlen.out
            have e4 := congrArg List.length Hdone.out
            rw [Hms.out] at e4
            simp at e1 e3 e4 ⊢
            omega

end Go.Proofs.YtcamegaimleomaaGreat

namespace Go.Proofs.YtcamegaimleomaaGreat
set_option linter.unusedSimpArgs false
set_option linter.unusedVariables false
set_option linter.unusedVariables false

theorem toList_run (bs : ByteArray) : ∀ (n i : Nat) (r : List UInt8), bs.size - i = n → ByteArray.toList.loop bs i r = r.reverse ++ bs.data.toList.drop i
  | 0, i, r, h => by
    rw [ByteArray.toList.loop, if_neg (by omega), List.drop_of_length_le (by have : bs.size = bs.data.toList.length := rfl; omega), List.append_nil]
  | n + 1, i, r, h => by
    have hi : i < bs.data.toList.length := by have : bs.size = bs.data.toList.length := rfl; omega
    rw [ByteArray.toList.loop, if_pos (by omega), toList_run bs n (i + 1) _ (by omega), List.drop_eq_getElem_cons hi, List.reverse_cons, List.append_assoc]
    have hi2 : i < bs.data.size := by simpa using hi
    have e : bs.get! i = bs.data.toList[i] := by
      show bs.data[i]! = _
      rw [getElem!_pos bs.data i hi2]
      simp
    rw [e]
    rfl
theorem str_inj {a b : ByteArray} (h : a.toList = b.toList) : a = b := by
  have e : ∀ bs : ByteArray, bs.toList = bs.data.toList := fun bs => by
    unfold ByteArray.toList
    have := toList_run bs _ 0 [] rfl
    simpa using this
  rw [e, e] at h
  obtain ⟨x⟩ := a
  obtain ⟨y⟩ := b
  exact congrArg _ (Array.toList_inj.1 h)
theorem beq_str {x y : ByteArray} : (x.toList == y.toList) = decide (x = y) := by
  by_cases h : x = y
  · subst h; simp
  · rw [decide_eq_false h]
    exact beq_eq_false_iff_ne.2 fun e => h (str_inj e)
def splitB (c : UInt8) : List UInt8 → List UInt8 → List (List UInt8)
  | [], cur => [cur]
  | x :: r, cur => if x = c then cur :: splitB c r [] else splitB c r (cur ++ [x])
def splitM (c : UInt8) (s : ByteArray) : List ByteArray := (splitB c s.data.toList []).map fun l => ⟨l.toArray⟩
end Go.Proofs.YtcamegaimleomaaGreat

namespace Go.Proofs.YtcamegaimleomaaGreat
set_option linter.unusedSimpArgs false
set_option linter.unusedVariables false
open Go.RowKit
set_option linter.unusedVariables false
namespace Facts.App
variable {P : Program} {ops : Array Oper}

theorem stepG_append {o : Oper} {a : Act} {w : World} {S : Value → World → Prop} (hgd : o.guard = none) (s x : Operand) (t : TypeId)
    (ho : o.op = .call { callee := .builtin .append, args := #[s, x], argTypes := #[t, t] })
    (base : Nat) (e : TypeId) (i : TypeInfo) (z : Value) (size bytes : Nat) (ht : P.underlying t = some (.slice e)) (hi : P.info? e = some i) (hz : i.zero = some z)
    (hsize : i.size = size) (hby : i.bytes = bytes) (hzs : z.cells.size = size) (hsz : 0 < size)
    (v : Value) (n : Nat) (xs : List Value) (hs : a.eval s = v) (hown : w.ownsRow base e size v n xs)
    (ad : Addr) (m c : Nat) (news : List Value) (hx : a.eval x = .slice (some ad) m c) (hl : news.length = m * size) (hnews : ∀ j u, news[j]? = some u → w.cell? (ad.add j) = some u) (h1 : ∀ u ∈ news, u.oneCell' = true)
    (h63 : n + m ≤ maxLen) (hbytes : (n + m) * bytes ≤ 140737488355328) (hbase : base ≤ w.heap.size)
    (h : ∀ v' w', w'.ownsRow base e size v' (n + m) (xs ++ news) → w.grownBy w' v.ownBlock → (v'.ownBlock = v.ownBlock ∨ v'.ownBlock = some w.heap.size) → S v' w') : stepG P ops o a w S := by
  obtain ⟨v', w', hr, h2, h3, h4, h5⟩ := run_append_own_at (P := P) w base t o.type e i z size bytes ht hi hz hsize hby hzs hsz v n xs hown ad m c news hl hnews h1 h63 hbytes hbase
  unfold stepG
  have hw : Region.wanted o (yielded ops a.tmps) = true := by unfold Region.wanted; rw [hgd]
  rw [if_pos hw]
  unfold execOp
  simp only [ho, resolve, invoke, builtin, Sem.run_bind, Sem.run_pure, Result.andThen_ok, List.map_toArray, List.map_cons, List.map_nil, hs, hx, hr]
  exact h v' w' h2 h3 h5
/-- a later world in which one row may have been written -/
def But (own : Option Nat) (w w' : World) : Prop := w.grownBy w' own
theorem But.of_ext {own : Option Nat} {w w' : World} (h : Ext w w') : But own w w' := ⟨Below.os h, Below.tape h, Below.output h, Below.size h, fun k hk _ => Below.block h k hk⟩
theorem two_but (own : Option Nat) : Piv.Two Ext (But own) :=
  ⟨fun _ _ h => But.of_ext h, fun _ _ _ h k => h.trans k, fun _ _ _ h k => World.grownBy.trans h k, fun _ => Ext.refl _, fun w => ext_drew w⟩
end Facts.App
end Go.Proofs.YtcamegaimleomaaGreat
