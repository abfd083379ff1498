/-
  THE RULE FOR A REGION THAT DRAWS ITS ORDER, in which several operations may write: of each is told how it may turn the memory, and what is said of the others is kept by those that they need not wait for. Over any program.
  A LETTER WITHOUT ONE WORD, OR WITH ANOTHER ONE IN ITS PLACE, as the statements make it.
  A LETTER THAT IS MADE OF A FORM needs no corrections; one correction more or less, plain.
  LetterMended: a letter is of a form just if Mend says 0; no letter of the form is nearer than Mend says; one correction changes Mend by at most 1.
-/
import Derived.Test.YtgcibmdohifiaaaGreatBunAJ
import Derived.Test.YtgcibmdohifiaaaGreatBunAN
import Derived.Test.YtgcibmdohifiaaaGreatBunAK
import Derived.Test.YtgcibmdohifiaaaGreatBunAM
import Derived.Test.YtgcibmdohifiaaaGreatBunAD
namespace Go.Proofs.YtgcibmdohifiaaaGreat
set_option linter.unusedSimpArgs false
set_option linter.unusedVariables false
open Go.RowKit
set_option linter.unusedVariables false
set_option linter.unusedSimpArgs false
namespace Facts.Dep.Many
open Facts.Piv (anyS opS any_of_anyS opS_of_stepG)
/-- how each operation may turn the memory, and how all of them together may -/
structure ManyT (S : Nat → World → World → Prop) (C : World → World → Prop) : Prop where
  sub : ∀ i w w', S i w w' → C w w'
  tc : ∀ a b c, C a b → C b c → C a c
  d : ∀ w : World, C w { w with drawn := w.drawn + 1 }
variable {P : Program} {ops : Array Oper}

theorem any_facts {S : Nat → World → World → Prop} {C : World → World → Prop} (T : ManyT S C) {Q : Exit → Act → World → Prop} {a : Act} {w : World} (Φ : Nat → (Nat → Value) → World → Prop) (fix : Nat → Option Value) (hfix : ∀ i v vs w, fix i = some v → Φ i vs w → vs i = v) (hloc : ∀ i vs us w, i < ops.size → (∀ j, j = i ∨ (depsOf ops ops.size i).contains j = true → vs j = us j) → Φ i vs w → Φ i us w) (hB : okB ops = true)
    (hkeep : ∀ i j vs w1 w2, i < ops.size → j ≠ i → (depsOf ops ops.size i).contains j = false → S j w1 w2 → Φ i vs w1 → Φ i vs w2)
    (hops : ∀ i o, ops[i]? = some o → ∀ (vs : Nat → Value) w1, (∀ j v, fix j = some v → vs j = v) → C w w1 → (∀ j ∈ depsOf ops ops.size i, Φ j vs w1) → stepG P ops o (acts ops a vs (fun _ => true) i) w1 (fun u w2 => S i w1 w2 ∧ Φ i (upd vs i u) w2))
    (hend : ∀ (vs : Nat → Value) w1, (∀ j v, fix j = some v → vs j = v) → C w w1 → (∀ i, i < ops.size → Φ i vs w1) → Q .normal (acts ops a vs (fun _ => true) ops.size) w1) : anyS P ops Q ops.size (Array.replicate ops.size false) a { w with drawn := w.drawn + 1 } := by
  have hsel : ∀ (j : Nat) (o : Oper) cs b, ops[j]? = some o → o.op ≠ .select cs b := by
    have h2 := hB
    simp only [okB, Bool.and_eq_true] at h2
    exact Region.noSelect_spec h2.1
  suffices key : ∀ (fuel : Nat) (listed : Array Bool) (vs : Nat → Value) (w1 : World), (∀ j v, fix j = some v → vs j = v) → listed.size = ops.size → listed.toList.count true + fuel = ops.size → C w w1 →
      (∀ j, listed.getD j false = true → ∀ i ∈ direct ops j, listed.getD i false = true) → (∀ j, j < ops.size → listed.getD j false = true → Φ j vs w1) →
      anyS P ops Q fuel listed (acts ops a vs (fun j => listed.getD j false) ops.size) w1 by
    have h0 := key ops.size (Array.replicate ops.size false) (fun j => (fix j).getD undef) { w with drawn := w.drawn + 1 } (fun j v h => by simp [h]) (by simp) (by simp [List.count_replicate]) (T.d w)
      (fun j hj => by rw [getD_rep] at hj; cases hj) (fun j _ hj => by rw [getD_rep] at hj; cases hj)
    have e : acts ops a (fun j => (fix j).getD undef) (fun j => (Array.replicate ops.size false).getD j false) ops.size = a := by
      have : ∀ n, acts ops a (fun j => (fix j).getD undef) (fun j => (Array.replicate ops.size false).getD j false) n = a := by
        intro n
        induction n with
        | zero => rfl
        | succ n ih => simp only [acts]; rw [if_neg (by rw [getD_rep]; exact Bool.false_ne_true)]; exact ih
      exact this _
    rw [e] at h0
    exact h0
  intro fuel
  have hdone : ∀ (listed : Array Bool) (vs : Nat → Value) (w1 : World), (∀ j v, fix j = some v → vs j = v) → (∀ j, j < ops.size → listed.getD j false = true) → C w w1 → (∀ j, j < ops.size → listed.getD j false = true → Φ j vs w1) →
      Q .normal (acts ops a vs (fun j => listed.getD j false) ops.size) w1 := by
    intro listed vs w1 hfx hall hx hΦ
    have := hend vs w1 hfx hx fun i hi => hΦ i hi (hall i hi)
    rwa [acts_congr a vs vs (fun _ => true) (fun j => listed.getD j false) ops.size fun j hj => ⟨(hall j hj).symm, fun _ => rfl⟩] at this
  induction fuel with
  | zero =>
    intro listed vs w1 hfx hsz hc hx hcl hΦ
    have hall : ∀ j, j < ops.size → listed.getD j false = true := by
      intro j hj
      have hlen : listed.toList.count true = listed.toList.length := by simp only [Array.length_toList]; omega
      have := List.count_eq_length.1 hlen (listed[j]'(by omega)) (by simp)
      rw [Array.getD_eq_getD_getElem?, Array.getElem?_eq_getElem (by omega)]
      exact this.symm
    refine ⟨?_, hdone listed vs w1 hfx hall hx hΦ⟩
    rw [List.eq_nil_iff_forall_not_mem]
    intro i hi
    have hi1 := (mem_ready.1 hi)
    obtain ⟨o, ho, -⟩ := hi1.2
    have hlt : i < ops.size := (Array.getElem?_eq_some_iff.1 ho).1
    have h1 := hall i hlt
    have h2 := hi1.1
    rw [Array.getD_eq_getD_getElem?, Array.getElem?_eq_getElem (by omega)] at h1 h2
    simp only [Option.getD_some] at h1 h2
    rw [h1] at h2; cases h2
  | succ fuel ih =>
    intro listed vs w1 hfx hsz hc hx hcl hΦ
    refine ⟨fun h => hdone listed vs w1 hfx (all_listed hB hsz h) hx hΦ, fun i hi => ?_⟩
    obtain ⟨hi0, o, ho, hafter⟩ := mem_ready.1 hi
    have hlt : i < ops.size := (Array.getElem?_eq_some_iff.1 ho).1
    have hnot : listed.getD i false = false := by
      rw [Array.getD_eq_getD_getElem?, Array.getElem?_eq_getElem (by omega)] at hi0 ⊢
      exact hi0
    have hdir := direct_ready ho hafter
    have hdeps := dep_in hcl ops.size i hdir
    have hdl : ∀ j ∈ depsOf ops ops.size i, j < ops.size := fun j hj => by
      have := hdeps j hj
      rcases Nat.lt_or_ge j listed.size with h' | h'
      · omega
      · simp [Array.getD_eq_getD_getElem?, Array.getElem?_eq_none h'] at this
    have hst := hops i o ho vs w1 hfx hx fun j hj => hΦ j (hdl j hj) (hdeps j hj)
    -- a later one that has come up is apart from this one
    have hlater : ∀ j, i < j → j < ops.size → listed.getD j false = true → apartB ops i j = true := fun j h1 h2 h3 =>
      ((okB_spec hB j h2).2 i h1).resolve_right fun hmem => by
        have := dep_in hcl ops.size j (hcl j h3) i hmem
        rw [hnot] at this; cases this
    have hearlier : ∀ j, j < i → listed.getD j false = false → apartB ops j i = true := fun j h1 h3 =>
      ((okB_spec hB i hlt).2 j h1).resolve_right fun hmem => by
        have := hdeps j hmem
        rw [h3] at this; cases this
    have hacts : ∀ n, i ≤ n → n ≤ ops.size → ∀ t, t ∈ o.looksAt ops → (acts ops a vs (fun j => listed.getD j false) n).tmps[t]? = (acts ops a vs (fun _ => true) i).tmps[t]? := by
      intro n hin
      obtain ⟨k, rfl⟩ := Nat.exists_eq_add_of_le hin
      clear hin
      induction k with
      | zero =>
        intro _ t ht
        refine acts_slot a vs _ _ t i fun j hj hd => ?_
        cases hl : listed.getD j false with
        | true => rfl
        | false =>
          have hap := hearlier j hj hl
          have hoj : ops[j]? = some (ops[j]'(by omega)) := by simp [show j < ops.size from by omega]
          rw [hoj] at hd
          simp only [apartB, hoj, ho] at hap
          exact absurd ht ((Oper.apart_spec hap).1 t hd)
      | succ k ih2 =>
        intro hle t ht
        have ih2 := ih2 (by omega) t ht
        obtain ⟨n, hn⟩ : ∃ n, n = i + k := ⟨_, rfl⟩
        rw [← hn] at ih2
        rw [show i + (k + 1) = n + 1 from by omega]
        simp only [acts]
        by_cases hl : listed.getD n false = true
        · rw [if_pos hl]
          have hni : i ≠ n := fun e => by subst e; rw [hnot] at hl; cases hl
          have hap := hlater n (by omega) (by omega) hl
          have hon : ops[n]? = some (ops[n]'(by omega)) := by simp [show n < ops.size from by omega]
          simp only [apartB, hon, ho] at hap
          rw [put_other _ _ _ _ (fun hd => (Oper.apart_spec hap).2.2 t (by rw [hon] at hd; exact hd) ht)]
          exact ih2
        · rw [if_neg hl]; exact ih2
    have hst2 : stepG P ops o (acts ops a vs (fun j => listed.getD j false) ops.size) w1 (fun u w2 => S i w1 w2 ∧ Φ i (upd vs i u) w2) :=
      stepG_same (hsel i o · · ho) (fun t ht => (hacts ops.size (by omega) (Nat.le_refl _) t ht).symm) hst
    refine opS_of_stepG ho hst2 ?_
    rintro v w2 ⟨hx2, hv⟩
    have hod : (ops[i]?).bind (·.dst) = o.dst := by rw [ho]; rfl
    rw [← hod, acts_put a vs (fun j => listed.getD j false) i v hnot ops.size hlt (fun j h1 h2 h3 d hd hd2 => by
      have hap := hlater j h1 h2 h3
      have hoj : ops[j]? = some (ops[j]'h2) := by simp [h2]
      simp only [apartB, hoj, ho] at hap
      rw [ho] at hd; rw [hoj] at hd2
      exact (Oper.apart_spec hap).2.1 d hd hd2)]
    have hget : ∀ j, (listed.setIfInBounds i true).getD j false = (listed.getD j false || decide (j = i)) := by
      intro j
      by_cases hji : j = i
      · subst hji; simp [Array.getD_eq_getD_getElem?, show j < listed.size from by omega]
      · rw [getD_set_ne false (Ne.symm hji)]; simp [hji]
    have := ih (listed.setIfInBounds i true) (upd vs i v) w2 (fun j u hj => by
        by_cases hji : j = i
        · subst hji; exact hfix j u _ w2 hj hv
        · simpa [upd, hji] using hfx j u hj) (by simpa using hsz) (by
        rw [Array.toList_setIfInBounds, List.count_set (by simpa using (by omega : i < listed.size))]
        have e : (listed.toList[i]'(by simpa using (by omega : i < listed.size))) = false := by
          rw [Array.getD_eq_getD_getElem?, Array.getElem?_eq_getElem (by omega)] at hnot
          simpa using hnot
        have e' : (listed.toList[i]'(by simpa using (by omega : i < listed.size)) == true) = false := by rw [e]; rfl
        rw [e']; simp only [Bool.false_eq_true, if_false, beq_self_eq_true, if_true]; omega) (by
          exact T.tc _ _ _ hx (T.sub _ _ _ hx2))
      (by
        intro j hj k hk
        rw [hget] at hj ⊢
        by_cases hji : j = i
        · subst hji; rw [hdir k hk]; rfl
        · simp only [hji, decide_false, Bool.or_false] at hj
          rw [hcl j hj k hk]; rfl)
      (by
        intro j hj hl
        by_cases hji : j = i
        · subst hji; exact hv
        · rw [hget] at hl
          simp only [hji, decide_false, Bool.or_false] at hl
          have hnd : (depsOf ops ops.size j).contains i = false := by
            rw [Bool.eq_false_iff, ne_eq, List.contains_iff_mem]
            intro h
            have := dep_in hcl ops.size j (hcl j hl) i h
            rw [hnot] at this; cases this
          have hold : Φ j (upd vs i v) w1 := hloc j vs _ _ hj (fun x hx => by
            unfold upd
            split
            · rename_i hxi
              subst hxi
              rcases hx with hx | hx
              · exact absurd hx.symm hji
              · rw [hnd] at hx; cases hx
            · rfl) (hΦ j hj hl)
          exact hkeep j i _ _ _ hj (fun e => hji e.symm) hnd hx2 hold)
    have e2 : (fun j => (listed.setIfInBounds i true).getD j false) = fun j => listed.getD j false || decide (j = i) := funext hget
    rw [e2] at this
    exact this


def Walk (S : Nat → World → World → Prop) (C : World → World → Prop) (P : Program) (ops : Array Oper) (w : World) (Q : Exit → Act → World → Prop) : Nat → List Oper → List Spec → List (Nat × (World → Prop)) → List (Nat × Value) → Act → Prop
  | _, [], _, env, _, a => ∀ w1, C w w1 → (∀ j f, (j, f) ∈ env → f w1) → Q .normal a w1
  | _, _ :: _, [], _, _, _ => False
  | i, o :: rest, .val v :: ss, env, us, a => (∀ w1, C w w1 → Have ops i env w1 → stepG P ops o a w1 (fun u w2 => S i w1 w2 ∧ u = v)) ∧ Walk S C P ops w Q (i + 1) rest ss env ((i, v) :: us) (a.put o.dst v)
  | i, o :: rest, .fact f :: ss, env, us, a => (∀ w1, C w w1 → Have ops i env w1 → stepG P ops o a w1 (fun u w2 => S i w1 w2 ∧ f u w2)) ∧ ∀ u, Walk S C P ops w Q (i + 1) rest ss ((i, f u) :: env) ((i, u) :: us) (a.put o.dst u)
  | i, o :: rest, .on js f :: ss, env, us, a => (∀ w1, C w w1 → Have ops i env w1 → stepG P ops o a w1 (fun u w2 => S i w1 w2 ∧ f (js.map (look us)) u w2)) ∧ ∀ u, Walk S C P ops w Q (i + 1) rest ss ((i, f (js.map (look us)) u) :: env) ((i, u) :: us) (a.put o.dst u)
def keepsS (S : Nat → World → World → Prop) (ops : Array Oper) : Nat → List Spec → Prop
  | _, [] => True
  | i, .val _ :: r => keepsS S ops (i + 1) r
  | i, .fact f :: r => (∀ j, j ≠ i → (depsOf ops ops.size i).contains j = false → ∀ u w1 w2, S j w1 w2 → f u w1 → f u w2) ∧ keepsS S ops (i + 1) r
  | i, .on _ f :: r => (∀ j, j ≠ i → (depsOf ops ops.size i).contains j = false → ∀ l u w1 w2, S j w1 w2 → f l u w1 → f l u w2) ∧ keepsS S ops (i + 1) r
theorem keepsS_get {S : Nat → World → World → Prop} : ∀ (ss : List Spec) (k i : Nat) (s : Spec), keepsS S ops k ss → ss[i]? = some s →
    (∀ j, j ≠ k + i → (depsOf ops ops.size (k + i)).contains j = false → ∀ vs u w1 w2, S j w1 w2 → s.holds vs u w1 → s.holds vs u w2)
  | [], _, _, _, _, h => by simp at h
  | .val v :: r, k, 0, s, _, h => by simp at h; subst h; exact fun _ _ _ _ _ _ _ _ h => h
  | .val v :: r, k, i + 1, s, hk, h => by
    have := keepsS_get r (k + 1) i s hk (by simpa using h)
    rwa [show k + 1 + i = k + (i + 1) from by omega] at this
  | .fact f :: r, k, 0, s, hk, h => by simp at h; subst h; exact fun j hj hc _ => hk.1 j hj hc
  | .fact f :: r, k, i + 1, s, hk, h => by
    have := keepsS_get r (k + 1) i s hk.2 (by simpa using h)
    rwa [show k + 1 + i = k + (i + 1) from by omega] at this
  | .on js f :: r, k, 0, s, hk, h => by simp at h; subst h; exact fun j hj hc vs => hk.1 j hj hc (js.map vs)
  | .on js f :: r, k, i + 1, s, hk, h => by
    have := keepsS_get r (k + 1) i s hk.2 (by simpa using h)
    rwa [show k + 1 + i = k + (i + 1) from by omega] at this
theorem walk_at {S : Nat → World → World → Prop} {C : World → World → Prop} {w : World} {Q : Exit → Act → World → Prop} {a0 : Act} (ss : List Spec) (hlb : locB ops 0 ss = true) (vs : Nat → Value) (hfx : ∀ j s v, ss[j]? = some s → s.fixed = some v → vs j = v) :
    ∀ (n k : Nat) (rest : List Oper) (env : List (Nat × (World → Prop))) (us : List (Nat × Value)) (a : Act), n + k = ops.size → (∀ j, rest[j]? = ops[k + j]?) → rest.length = n → a = acts ops a0 vs (fun _ => true) k →
      (∀ j q, (j, q) ∈ env → ∃ s, ss[j]? = some s ∧ j < k ∧ q = s.holds vs (vs j)) → (∀ j s, ss[j]? = some s → s.fixed = none → j < k → (j, s.holds vs (vs j)) ∈ env) → (∀ j, j < k → look us j = vs j) → Walk S C P ops w Q k rest (ss.drop k) env us a →
      (∀ i o, k ≤ i → ops[i]? = some o → ∃ s, ss[i]? = some s ∧ ∀ w1, C w w1 → (∀ j ∈ depsOf ops ops.size i, j < i → ∀ s, ss[j]? = some s → s.holds vs (vs j) w1) → stepG P ops o (acts ops a0 vs (fun _ => true) i) w1 (fun u w2 => S i w1 w2 ∧ s.holds vs u w2)) ∧
      (∀ w1, C w w1 → (∀ i s, i < ops.size → ss[i]? = some s → s.holds vs (vs i) w1) → Q .normal (acts ops a0 vs (fun _ => true) ops.size) w1) := by
  intro n
  induction n with
  | zero =>
    intro k rest env us a hk hr hl ha henv henv2 hus hw
    obtain rfl : rest = [] := List.length_eq_zero_iff.1 hl
    have e : k = ops.size := by omega
    subst e
    refine ⟨fun i o hi ho => by have := (Array.getElem?_eq_some_iff.1 ho).1; omega, fun w1 hx hall => ?_⟩
    simp only [Walk] at hw
    rw [← ha]
    refine hw w1 hx fun j q hq => ?_
    obtain ⟨s, hs, hj, rfl⟩ := henv j q hq
    exact hall j s hj hs
  | succ n ih =>
    intro k rest env us a hk hr hl ha henv henv2 hus hw
    obtain ⟨o, rest, rfl⟩ : ∃ o r, rest = o :: r := by cases rest with | nil => simp at hl | cons o r => exact ⟨o, r, rfl⟩
    have hok : ops[k]? = some o := by simpa using (hr 0).symm
    have hact : ∀ v, vs k = v → a.put o.dst v = acts ops a0 vs (fun _ => true) (k + 1) := fun v hv => by
      simp only [acts, if_true]; rw [← ha, hok, hv]; rfl
    cases hs : ss[k]? with
    | none =>
      rw [List.drop_eq_nil_of_le (by rcases Nat.lt_or_ge k ss.length with h | h; · rw [List.getElem?_eq_getElem h] at hs; cases hs
                                     · exact h)] at hw
      simp only [Walk] at hw
    | some s =>
      have hlt : k < ss.length := (List.getElem?_eq_some_iff.1 hs).1
      rw [List.drop_eq_getElem_cons hlt, (List.getElem?_eq_some_iff.1 hs).2] at hw
      have hlean : ∀ w1, (∀ j ∈ depsOf ops ops.size k, j < k → ∀ s, ss[j]? = some s → s.holds vs (vs j) w1) → Have ops k env w1 := by
        intro w1 h j q hq hc
        obtain ⟨s, hs, hj, rfl⟩ := henv j q hq
        exact h j (by simpa using hc) hj s hs
      have hr' : ∀ j, rest[j]? = ops[k + 1 + j]? := fun j => by have := hr (j + 1); simpa [Nat.add_assoc, Nat.add_comm 1 j] using this
      have hus' : ∀ v, vs k = v → ∀ j, j < k + 1 → look ((k, v) :: us) j = vs j := fun v hv j hj => by
        simp only [look]
        split
        · rename_i e; rw [← e, hv]
        · rename_i e; exact hus j (by omega)
      have hmap : s.js.map (look us) = s.js.map vs := List.map_congr_left fun j hj => hus j (by have := (locB_get ss 0 k s hlb hs j hj).2; omega)
      cases s with
      | val v =>
        simp only [Walk] at hw
        have hv : vs k = v := hfx k _ v hs rfl
        obtain ⟨h1, h2⟩ := ih (k + 1) rest env _ _ (by omega) hr' (by simpa using hl) (hact v hv) (fun j q hq => by obtain ⟨s, hs, hj, e⟩ := henv j q hq; exact ⟨s, hs, by omega, e⟩)
          (fun j s hs' hf hj => henv2 j s hs' hf (by rcases Nat.lt_or_ge j k with h | h; · exact h
                                                     · obtain rfl : j = k := by omega
                                                       rw [hs] at hs'; cases hs'; cases hf)) (hus' v hv) hw.2
        refine ⟨fun i o' hi ho => ?_, h2⟩
        rcases Nat.lt_or_ge k i with hik | hik
        · exact h1 i o' (by omega) ho
        · obtain rfl : i = k := by omega
          rw [hok] at ho; cases ho
          exact ⟨_, hs, fun w1 hx hd => by rw [← ha]; exact hw.1 w1 hx (hlean w1 hd)⟩
      | fact f =>
        simp only [Walk] at hw
        obtain ⟨h1, h2⟩ := ih (k + 1) rest _ _ _ (by omega) hr' (by simpa using hl) (hact (vs k) rfl)
          (fun j q hq => by
            rcases List.mem_cons.1 hq with e | hq
            · cases e; exact ⟨_, hs, by omega, rfl⟩
            · obtain ⟨s, hs, hj, e⟩ := henv j q hq; exact ⟨s, hs, by omega, e⟩)
          (fun j s hs' hf hj => by
            rcases Nat.lt_or_ge j k with h | h
            · exact List.mem_cons_of_mem _ (henv2 j s hs' hf h)
            · obtain rfl : j = k := by omega
              rw [hs] at hs'; cases hs'; exact List.mem_cons_self) (hus' _ rfl) (hw.2 (vs k))
        refine ⟨fun i o' hi ho => ?_, h2⟩
        rcases Nat.lt_or_ge k i with hik | hik
        · exact h1 i o' (by omega) ho
        · obtain rfl : i = k := by omega
          rw [hok] at ho; cases ho
          exact ⟨_, hs, fun w1 hx hd => by rw [← ha]; exact hw.1 w1 hx (hlean w1 hd)⟩
      | on js f =>
        simp only [Walk] at hw
        simp only [Spec.js] at hmap
        rw [hmap] at hw
        obtain ⟨h1, h2⟩ := ih (k + 1) rest _ _ _ (by omega) hr' (by simpa using hl) (hact (vs k) rfl)
          (fun j q hq => by
            rcases List.mem_cons.1 hq with e | hq
            · cases e; exact ⟨_, hs, by omega, rfl⟩
            · obtain ⟨s, hs, hj, e⟩ := henv j q hq; exact ⟨s, hs, by omega, e⟩)
          (fun j s hs' hf hj => by
            rcases Nat.lt_or_ge j k with h | h
            · exact List.mem_cons_of_mem _ (henv2 j s hs' hf h)
            · obtain rfl : j = k := by omega
              rw [hs] at hs'; cases hs'; exact List.mem_cons_self) (hus' _ rfl) (hw.2 (vs k))
        refine ⟨fun i o' hi ho => ?_, h2⟩
        rcases Nat.lt_or_ge k i with hik | hik
        · exact h1 i o' (by omega) ho
        · obtain rfl : i = k := by omega
          rw [hok] at ho; cases ho
          exact ⟨_, hs, fun w1 hx hd => by rw [← ha]; exact hw.1 w1 hx (hlean w1 hd)⟩

/-- THE RULE, for a region whose operations are written out: a spec for each operation, the walk in the text's order. -/
theorem any_region {S : Nat → World → World → Prop} {C : World → World → Prop} (T : ManyT S C) {Q : Exit → Act → World → Prop} {a : Act} {w : World} {l : List Oper} (ss : List Spec) (hB : okB l.toArray = true) (hlb : locB l.toArray 0 ss = true) (hk : keepsS S l.toArray 0 ss)
    (h : Walk S C P l.toArray w Q 0 l ss [] [] a) : anyS P l.toArray Q l.toArray.size (Array.replicate l.toArray.size false) a { w with drawn := w.drawn + 1 } := by
  have base := fun vs hfx => walk_at (S := S) (C := C) (P := P) (ops := l.toArray) (w := w) (Q := Q) (a0 := a) ss hlb vs hfx l.length 0 l [] [] a (by simp) (by simp) rfl rfl (fun _ _ h => by cases h) (fun _ _ _ _ h => by omega) (fun _ h => by omega) h
  refine any_facts T (fun i vs => match ss[i]? with | some s => s.holds vs (vs i) | none => fun _ => False) (fun i => (ss[i]?).bind Spec.fixed) ?_ ?_ hB ?_ ?_ ?_
  · intro i v vs w hv hu
    cases hs : ss[i]? with
    | none => simp [hs] at hv
    | some s => cases s with
      | val x => simp only [hs, Option.bind_some, Spec.fixed, Option.some.injEq] at hv; subst hv; simpa [hs, Spec.holds] using hu
      | fact f => simp [hs, Spec.fixed] at hv
      | on js f => simp [hs, Spec.fixed] at hv
  · intro i vs us w hi hj hu
    cases hs : ss[i]? with
    | none => simp [hs] at hu
    | some s =>
      simp only [hs] at hu ⊢
      rw [← hj i (.inl rfl)]
      exact holds_loc (fun j hjs => hj j (.inr (by have := (locB_get ss 0 i s hlb hs j hjs).1; rwa [Nat.zero_add] at this))) hu
  · intro i j vs w1 w2 _ hip hc hx hu
    cases hs : ss[i]? with
    | none => simp [hs] at hu
    | some s => simp only [hs] at hu ⊢; exact (keepsS_get ss 0 i s hk hs) j (by rw [Nat.zero_add]; exact hip) (by rw [Nat.zero_add]; exact hc) vs _ w1 w2 hx hu
  · intro i o ho vs w1 hfx hx hd
    obtain ⟨h1, -⟩ := base vs fun j s v hs hv => hfx j v (by simp [hs, hv])
    obtain ⟨s, hs, hst⟩ := h1 i o (Nat.zero_le _) ho
    simp only [hs]
    have hst := hst w1 hx fun j hj _ s' hs' => by
      have := hd j hj
      simpa only [hs'] using this
    refine stepG_mono hst fun u w2 ⟨h1, h2⟩ => ⟨h1, ?_⟩
    have e : upd vs i u i = u := by simp [upd]
    rw [e]
    refine holds_loc (fun j hjs => ?_) h2
    have := (locB_get ss 0 i s hlb hs j hjs).2
    simp only [upd]
    rw [if_neg (by omega)]
  · intro vs w1 hfx hx hall
    obtain ⟨-, h2⟩ := base vs fun j s v hs hv => hfx j v (by simp [hs, hv])
    refine h2 w1 hx fun i s hi hs => ?_
    have := hall i hi
    simpa only [hs] using this
theorem wp_region {S : Nat → World → World → Prop} {C : World → World → Prop} (T : ManyT S C) {id : Nat} {Q : Exit → Act → World → Prop} {a : Act} {w : World} {l : List Oper} (ss : List Spec) (hm : P.follows .mixedOrders = true) (hB : okB l.toArray = true) (hlb : locB l.toArray 0 ss = true) (hk : keepsS S l.toArray 0 ss)
    (h : Walk S C P l.toArray w Q 0 l ss [] [] a) : (Code.region id l.toArray true).wp P Q a w :=
  wp_region_any hm (any_of_anyS _ _ _ _ (any_region T ss hB hlb hk h))
/-- the same, told by the number of the last operation, which comes behind all others -/
theorem wp_regionL {S : Nat → World → World → Prop} {C : World → World → Prop} (T : ManyT S C) (n : Nat) {id : Nat} {Q : Exit → Act → World → Prop} {a : Act} {w : World} {L : List Oper} (ss : List Spec) (hm : P.follows .mixedOrders = true) (hL : L.length = n + 1) (hlast : Facts.Peel.lastB (L.take n) (L.getD n default) = true) (hB' : okB L.toArray = true) (hB : okB (L.take n).toArray = true) (hlb : locB (L.take n).toArray 0 ss = true) (hk : keepsS S (L.take n).toArray 0 ss)
    (h : Walk S C P (L.take n).toArray w (fun e a w => e = .normal ∧ stepG P L.toArray (L.getD n default) a w (fun u w2 => Q .normal (a.put (L.getD n default).dst u) w2)) 0 (L.take n) ss [] [] a) : (Code.region id L.toArray true).wp P Q a w := by
  have e : L = L.take n ++ [L.getD n default] := by
    conv => lhs; rw [← List.take_append_drop n L]
    congr 1
    rw [List.drop_eq_getElem_cons (by omega), List.drop_of_length_le (by omega), List.getD_eq_getElem?_getD, List.getElem?_eq_getElem (by omega)]
    rfl
  suffices key : ∀ (l : List Oper) (o : Oper), Facts.Peel.lastB l o = true → okB (l ++ [o]).toArray = true → okB l.toArray = true → locB l.toArray 0 ss = true → keepsS S l.toArray 0 ss → Walk S C P l.toArray w (fun e a w => e = .normal ∧ stepG P (l ++ [o]).toArray o a w (fun u w2 => Q .normal (a.put o.dst u) w2)) 0 l ss [] [] a → (Code.region id (l ++ [o]).toArray true).wp P Q a w by
    have := key (L.take n) (L.getD n default) hlast (by rw [← e]; exact hB') hB hlb hk (by rw [← e]; exact h)
    rwa [← e] at this
  intro l o hlast hB' hB hlb hk h
  have h1 := any_region T ss hB hlb hk h
  have h2 := Facts.Peel.any_peel (P := P) (Q := Q) hlast hB' l.toArray.size (Array.replicate l.toArray.size false) a { w with drawn := w.drawn + 1 } (by simp) (by simp [List.count_replicate]) (fun j hj => by
    exfalso
    rw [Array.getD_eq_getD_getElem?, Array.getElem?_push] at hj
    split at hj
    · simp at hj
    · rw [← Array.getD_eq_getD_getElem?, getD_rep] at hj; cases hj) h1
  have e : (l ++ [o]).toArray.size = l.toArray.size + 1 := by simp
  refine wp_region_any hm (any_of_anyS _ _ _ _ ?_)
  rw [e, Array.replicate_succ]
  exact h2
end Facts.Dep.Many
end Go.Proofs.YtgcibmdohifiaaaGreat

namespace Go.Proofs.YtgcibmdohifiaaaGreat
set_option linter.unusedSimpArgs false
set_option linter.unusedVariables false
open Go.RowKit
set_option linter.unusedVariables false
namespace Facts.App
variable {P : Program} {ops : Array Oper}
theorem Grew.mono {n0 n m : Nat} {w w' : World} (h : Grew n0 n w w') (hm : m ≤ n) : Grew n0 m w w' :=
  ⟨h.os, h.tape, h.output, h.size, fun k hk => by
    rcases h.block k hk with h1 | ⟨h0, c1, c2, e, g1, g2, g3, g4⟩
    · exact .inl h1
    · refine .inr ⟨h0, c1, c2, e, g1, g2, g3, ?_⟩
      have := congrArg (List.take m) g4
      rwa [List.take_take, List.take_take, Nat.min_eq_left hm] at this⟩
theorem run_append_empty {w : World} (base : Nat) (t ty e : TypeId) (i : TypeInfo) (z : Value) (size bytes : Nat) (ht : P.underlying t = some (.slice e)) (hi : P.info? e = some i) (hz : i.zero = some z)
    (hsize : i.size = size) (hby : i.bytes = bytes) (hzs : z.cells.size = size) (hsz : 0 < size)
    (B : Nat) (hown : w.ownsRow base e size (.slice (some ⟨B, 0, none⟩) 0 0) 0 [])
    (a : Addr) (m c : Nat) (news : List Value) (hl : news.length = m * size) (hnews : ∀ j u, news[j]? = some u → w.cell? (a.add j) = some u) (h1 : ∀ u ∈ news, u.oneCell' = true)
    (h63 : m ≤ maxLen) (hbytes : m * bytes ≤ 140737488355328) (hbase : base ≤ w.heap.size) :
    ∃ v' w', (Builtin.append_ #[t, t] ty #[.slice (some ⟨B, 0, none⟩) 0 0, .slice (some a) m c]).run P w = .ok v' w' ∧ w'.ownsRow base e size v' m news ∧ Ext w w' ∧ (m = 0 → v' = .slice (some ⟨B, 0, none⟩) 0 0) := by
  obtain ⟨v', w', hr, ho, hg, hx⟩ := run_append_grew (P := P) base t ty e i z size bytes ht hi hz hsize hby hzs hsz (.slice (some ⟨B, 0, none⟩) 0 0) 0 [] hown a m c news hl hnews h1 (by omega) (by rw [Nat.zero_add]; exact hbytes) hbase
  rw [Nat.zero_add, List.nil_append] at ho
  by_cases hm : m = 0
  · obtain ⟨w2, hr2, ho2, hg2⟩ := run_append_fits (P := P) (w := w) base t ty e i size ht hi hsize B 0 0 [] hown a m c news hl hnews h1 (by omega)
    rw [hr] at hr2
    simp only [Result.ok.injEq] at hr2
    obtain ⟨rfl, rfl⟩ := hr2
    refine ⟨_, _, hr, ho, ⟨hg2.os, hg2.tape, hg2.output, hg2.size, fun k hk => ?_⟩, fun _ => by rw [hm]⟩
    by_cases hkB : k = B
    · subst hkB
      rcases hown.2 with ⟨he, -⟩ | ⟨g, cap, cur, he, -, hg0, -, -, hcs, -⟩
      · simp at he
      · simp only [Value.slice.injEq, Option.some.injEq, Addr.mk.injEq, and_true, true_and] at he
        obtain ⟨rfl, rfl⟩ := he
        rcases ho2.2 with ⟨he, -⟩ | ⟨g', cap', cur', he, -, hg', -, -, hcs', -⟩
        · simp at he
        · simp only [Value.slice.injEq, Option.some.injEq, Addr.mk.injEq, and_true, true_and] at he
          obtain ⟨rfl, rfl⟩ := he
          have e1 : cur = #[] := Array.eq_empty_of_size_eq_zero (by omega)
          have e2 : cur' = #[] := Array.eq_empty_of_size_eq_zero (by omega)
          rw [hg0, hg', e1, e2]
    · exact hg2.block k hk (by simpa using hkB)
  · exact ⟨_, _, hr, ho, hx fun g cap e => by
      have := (Value.slice.inj e).2.2
      omega, fun h => absurd h hm⟩
theorem stepG_append_empty {o : Oper} {a : Act} {w : World} {S : Value → World → Prop} (hgd : o.guard = none) (s x : Operand) (t : TypeId)
    (ho : o.op = .call { callee := .builtin .append, args := #[s, x], argTypes := #[t, t] })
    (base : Nat) (e : TypeId) (i : TypeInfo) (z : Value) (size bytes : Nat) (ht : P.underlying t = some (.slice e)) (hi : P.info? e = some i) (hz : i.zero = some z)
    (hsize : i.size = size) (hby : i.bytes = bytes) (hzs : z.cells.size = size) (hsz : 0 < size)
    (v : Value) (hs : a.eval s = v) (B : Nat) (hvB : v = .slice (some ⟨B, 0, none⟩) 0 0) (hown : w.ownsRow base e size v 0 [])
    (ad : Addr) (m c : Nat) (news : List Value) (hx : a.eval x = .slice (some ad) m c) (hl : news.length = m * size) (hnews : ∀ j u, news[j]? = some u → w.cell? (ad.add j) = some u) (h1 : ∀ u ∈ news, u.oneCell' = true)
    (h63 : m ≤ maxLen) (hbytes : m * bytes ≤ 140737488355328) (hbase : base ≤ w.heap.size)
    (h : ∀ v' w', w'.ownsRow base e size v' m news → Ext w w' → (m = 0 → v' = v) → S v' w') : stepG P ops o a w S := by
  subst hvB
  obtain ⟨v', w', hr, h2, h3, h4⟩ := run_append_empty (P := P) base t o.type e i z size bytes ht hi hz hsize hby hzs hsz B hown ad m c news hl hnews h1 h63 hbytes hbase
  unfold stepG
  have hw : Region.wanted o (yielded ops a.tmps) = true := by unfold Region.wanted; rw [hgd]
  rw [if_pos hw]
  unfold execOp
  simp only [ho, resolve, invoke, builtin, Sem.run_bind, Sem.run_pure, Result.andThen_ok, List.map_toArray, List.map_cons, List.map_nil, hs, hx, hr]
  exact h v' w' h2 h3 h4
end Facts.App
def B0 : Value → Nat
  | .slice (some a) _ _ => a.block
  | _ => 0
theorem EmptyR.at0' {base : Nat} {e : TypeId} {sz : Nat} {u : Value} {w : World} (h : EmptyR base e sz u w) : u = .slice (some ⟨B0 u, 0, none⟩) 0 0 := by
  obtain ⟨B, rfl, -⟩ := h; rfl
/-- the first words of a letter, copied -/
def RowE (base n : Nat) (cs : List Value) (u : Value) (w : World) : Prop := OwnR base 9 1 n cs u w ∧ (n = 0 → EmptyR base 9 1 u w)
theorem RowE.ext {base n : Nat} {cs : List Value} {u : Value} {w w' : World} (h : RowE base n cs u w) (hx : Ext w w') : RowE base n cs u w' := ⟨h.1.ext hx, fun e => (h.2 e).ext hx⟩
theorem RowE.grew {base n : Nat} {cs : List Value} {u : Value} {n0 k : Nat} {w w' : World} (h : RowE base n cs u w) (hn : n ≤ k) (hx : Facts.App.Grew n0 k w w') : RowE base n cs u w' := ⟨h.1.grew (by omega) hx, fun e => (h.2 e).grew hx⟩
def strsV (l : List ByteArray) : List Value := l.map Value.string
theorem strsV_one (l : List ByteArray) : ∀ u ∈ strsV l, u.oneCell' = true := fun u hu => by
  obtain ⟨x, -, rfl⟩ := List.mem_map.1 hu
  rfl
theorem strsV_len (l : List ByteArray) : (strsV l).length = l.length := by simp [strsV]
/-- the cells of a part of a letter -/
theorem strs_cells {w : World} {b o n c : Nat} {l : List ByteArray} (h : StrsAt w (.slice (some ⟨b, o, none⟩) n c) l) (s m : Nat) : ∀ j u, (strsV ((l.drop s).take m))[j]? = some u → w.cell? ((⟨b, o + s, none⟩ : Addr).add j) = some u := by
  intro j u hj
  have hjl : j < (strsV ((l.drop s).take m)).length := by
    rcases Nat.lt_or_ge j (strsV ((l.drop s).take m)).length with h | h
    · exact h
    · rw [List.getElem?_eq_none h] at hj; cases hj
  rw [strsV_len, List.length_take, List.length_drop] at hjl
  unfold strsV at hj
  rw [List.getElem?_map, List.getElem?_take_of_lt (by omega), List.getElem?_drop, List.getElem?_eq_getElem (by omega)] at hj
  obtain ⟨b', o', e, r, -⟩ := SliceAt.get h (i := s + j) (by omega)
  obtain ⟨rfl, rfl, -⟩ := Addr.mk.inj (Option.some.inj e)
  rw [show (⟨b, o + s, none⟩ : Addr).add j = ⟨b, o + s + j, none⟩ by unfold Addr.add; split <;> simp_all]
  simp only [Option.map_some, Option.some.injEq] at hj
  subst hj
  rw [Nat.mul_one, ← Nat.add_assoc] at r
  exact r
/-- what is left of a letter behind some words -/
theorem strs_left {w : World} {b o n c s : Nat} {l : List ByteArray} (h : StrsAt w (.slice (some ⟨b, o, none⟩) n c) l) (hn : n = l.length) (hs : s ≤ n) (hc : n ≤ c) {ad : Addr} (e : (if c = s then some (⟨b, o, none⟩ : Addr) else some ⟨b, o + s, none⟩) = some ad) : ∀ j u, (strsV (l.drop s))[j]? = some u → w.cell? (ad.add j) = some u := by
  intro j u hj
  have hcl := strs_cells h s (l.length - s)
  have e2 : (l.drop s).take (l.length - s) = l.drop s := List.take_of_length_le (by rw [List.length_drop]; omega)
  rw [e2] at hcl
  by_cases hcs : c = s
  · have : l.drop s = [] := List.drop_eq_nil_of_le (by omega)
    rw [this] at hj
    simp [strsV] at hj
  · rw [if_neg hcs] at e
    obtain rfl := Option.some.inj e
    exact hcl j u hj
theorem RowW.ofV {base n : Nat} {l : List ByteArray} {u : Value} {w : World} (h : OwnR base 9 1 n (strsV l) u w) (hn : n = l.length) : RowW base l u w := by subst hn; exact h
def S14 (n0 k : Nat) (i : Nat) (w w' : World) : Prop := if i = 9 then Facts.App.Grew n0 k w w' else Ext w w'
theorem many14 (n0 k : Nat) : Facts.Dep.Many.ManyT (S14 n0 k) (Facts.App.Grew n0 k) := ⟨fun i w w' h => by
  unfold S14 at h
  split at h
  · exact h
  · exact .of_ext h, fun _ _ _ h g => h.trans g, fun w => .of_ext (ext_drew w)⟩
def S16 (n0 k : Nat) (i : Nat) (w w' : World) : Prop := if i = 6 then Facts.App.Grew n0 k w w' ∧ (k = 0 → Ext w w') else if i = 11 then Facts.App.Grew n0 (k + 1) w w' else Ext w w'
theorem many16 (n0 k : Nat) : Facts.Dep.Many.ManyT (S16 n0 k) (Facts.App.Grew n0 k) := ⟨fun i w w' h => by
  unfold S16 at h
  split at h
  · exact h.1
  · split at h
    · exact h.mono (by omega)
    · exact .of_ext h, fun _ _ _ h g => h.trans g, fun w => .of_ext (ext_drew w)⟩

theorem s14e {n0 k i : Nat} {w w' : World} (hi : i ≠ 9) (h : Ext w w') : S14 n0 k i w w' := by unfold S14; rw [if_neg hi]; exact h
theorem s16e {n0 k i : Nat} {w w' : World} (hi : i ≠ 6) (h2 : i ≠ 11) (h : Ext w w') : S16 n0 k i w w' := by unfold S16; rw [if_neg hi, if_neg h2]; exact h
set_option maxRecDepth 100000 in
set_option maxHeartbeats 4000000 in
theorem mended_r14 {u0 u2 u3 u4 u5 u6 u7 u8 u9 u10 u11 u12 u13 u14 u15 u16 u17 u18 u20 u21 u22 u23 u24 u25 u26 u27 u28 u29 u30 u31 u32 u33 u34 u35 u36 u37 u38 u39 u40 u41 u42 u43 u44 u45 u46 u47 u48 u49 u50 u51 u52 u53 u54 u55 u56 u57 u58 u59 u60 u61 u62 u63 u64 u65 u66 u67 u68 u69 u70 u71 u72 u73 u74 u75 u76 u77 u78 u79 u80 u81 u82 u83 u84 u85 u86 u87 u88 u89 u90 u91 u92 u93 u94 u95 u96 u97 u98 u99 u100 u101 u102 u103 u104 u105 u106 u107 u108 u109 u110 u111 u112 u113 u114 u115 u116 u117 u118 u119 u120 u121 u122 u123 u124 u125 u126 u127 u128 u129 u130 u131 u132 u133 u134 u135 u136 u137 u138 u139 u140 u141 u142 u143 u144 u145 u146 u147 u148 u149 u150 u151 u152 u153 u154 u155 u156 u157 u158 u159 u160 u161 u162 u163 u164 u165 u166 u167 : Value} {R : World} {b o c at_ : Nat} {l : List ByteArray} (hl : StrsAt R (.slice (some ⟨b, o, none⟩) l.length c) l) (hat : at_ < l.length) (h15 : l.length ≤ 15) (Q : Exit → Act → World → Prop)
    (hQ : ∀ (v20 v124 v125 v126 v127 v128 v129 v130 v131 v132 v133 : Value) (wc : World), RowW R.heap.size (l.take at_ ++ l.drop (at_ + 1)) v20 wc → Ext R wc → Q .normal ⟨#[u0, .slice (some ⟨b, o, none⟩) l.length c, u2, u3, u4, u5, u6, u7, u8, u9, u10, u11, u12, u13, u14, u15, u16, u17, u18, .int .i64 at_, v20, u21, u22, u23, u24, u25, u26, u27, u28, u29, u30, u31, u32, u33, u34, u35, u36, u37, u38, u39, u40, u41, u42, u43, u44, u45, u46, u47, u48, u49, u50, u51, u52, u53, u54, u55, u56, u57, u58, u59, u60, u61, u62, u63, u64, u65, u66, u67, u68, u69, u70, u71, u72, u73, u74, u75, u76, u77, u78, u79, u80, u81, u82, u83, u84, u85, u86, u87, u88, u89, u90, u91, u92, u93, u94, u95, u96, u97, u98, u99, u100, u101, u102, u103, u104, u105, u106, u107, u108, u109, u110, u111, u112, u113, u114, u115, u116, u117, u118, u119, u120, u121, u122, u123, v124, v125, v126, v127, v128, v129, v130, v131, v132, v133, u134, u135, u136, u137, u138, u139, u140, u141, u142, u143, u144, u145, u146, u147, u148, u149, u150, u151, u152, u153, u154, u155, u156, u157, u158, u159, u160, u161, u162, u163, u164, u165, u166, u167], []⟩ wc) :
    Code.wp Tryz.prog (regionOf Tryz.f10 14) Q ⟨#[u0, .slice (some ⟨b, o, none⟩) l.length c, u2, u3, u4, u5, u6, u7, u8, u9, u10, u11, u12, u13, u14, u15, u16, u17, u18, .int .i64 at_, u20, u21, u22, u23, u24, u25, u26, u27, u28, u29, u30, u31, u32, u33, u34, u35, u36, u37, u38, u39, u40, u41, u42, u43, u44, u45, u46, u47, u48, u49, u50, u51, u52, u53, u54, u55, u56, u57, u58, u59, u60, u61, u62, u63, u64, u65, u66, u67, u68, u69, u70, u71, u72, u73, u74, u75, u76, u77, u78, u79, u80, u81, u82, u83, u84, u85, u86, u87, u88, u89, u90, u91, u92, u93, u94, u95, u96, u97, u98, u99, u100, u101, u102, u103, u104, u105, u106, u107, u108, u109, u110, u111, u112, u113, u114, u115, u116, u117, u118, u119, u120, u121, u122, u123, u124, u125, u126, u127, u128, u129, u130, u131, u132, u133, u134, u135, u136, u137, u138, u139, u140, u141, u142, u143, u144, u145, u146, u147, u148, u149, u150, u151, u152, u153, u154, u155, u156, u157, u158, u159, u160, u161, u162, u163, u164, u165, u166, u167], []⟩ R := by
  conv => arg 2; whnf
  obtain ⟨i0, hi, hz0, hz1, hz2⟩ := info_parts infoString
  have HQ := Lib.hid hQ
  have Hl := Lib.hid hl
  obtain ⟨a', c', e', hc1, hc2, -⟩ := hl
  obtain ⟨-, -, rfl⟩ := Value.slice.inj e'
  obtain ⟨n, hn⟩ : ∃ n, n = l.length := ⟨_, rfl⟩
  rw [← hn] at hat h15 hc1 Hl HQ ⊢
  have HN := Lib.hid hn
  clear hQ e' hn
  have k1 : (at_ : Int) < (n : Int) := by omega
  have k2 : (at_ : Int) ≤ (n : Int) := by omega
  have k3 : (at_ : Int) + 1 ≤ (n : Int) := by omega
  have k4 : at_ + 1 ≤ n := by omega
  have k5 : at_ ≤ c := by omega
  have k6 : at_ ≤ n := by omega
  have wk : IntKind.i64.wrap ((at_ : Int) + 1) = (at_ : Int) + 1 := IntWalk.i64_in _ (by omega)
  obtain ⟨ad, had⟩ : ∃ ad, (if c = at_ + 1 then some (⟨b, o, none⟩ : Addr) else some ⟨b, o + (at_ + 1), none⟩) = some ad := by split <;> exact ⟨_, rfl⟩
  have Had := Lib.hid had
  apply Facts.wp_frame
  intro A hA
  have f1 : ∀ h, A.tmps[1]'h = .slice (some ⟨b, o, none⟩) n c := by rw [hA]; exact fun _ => rfl
  have f19 : ∀ h, A.tmps[19]'h = .int .i64 at_ := by rw [hA]; exact fun _ => rfl
  have fsz : A.tmps.size = 168 := by rw [hA]; rfl
  have HA := Lib.hid hA
  clear hA
  apply Facts.Dep.Many.wp_region (many14 R.heap.size at_) [.fact (EmptyR R.heap.size 9 1), .val _, .val _, .val (.slice (some ⟨b, o, none⟩) at_ c), .fact (RowE R.heap.size at_ (strsV (l.take at_))), .val _, .val _, .val _, .val (.slice (some ad) (n - (at_ + 1)) (c - (at_ + 1))), .fact (RowW R.heap.size (l.take at_ ++ l.drop (at_ + 1))), .fact (RowW R.heap.size (l.take at_ ++ l.drop (at_ + 1)))] (by kernel_rfl) (by kernel_rfl) (by kernel_rfl) ?keep ?main
  case keep =>
    exact ⟨fun j hj hc u a c hx h => by
      unfold S14 at hx
      split at hx
      · exact h.grew hx
      · exact h.ext hx, fun j hj hc u a c hx h => by
      unfold S14 at hx
      split at hx
      · exact h.grew (Nat.le_refl _) hx
      · exact h.ext hx, fun j hj hc u a c hx h => by
      unfold S14 at hx
      split at hx
      · rename_i e; exact absurd e hj
      · exact h.ext hx, fun j hj hc u a c hx h => by
      unfold S14 at hx
      split at hx
      · rename_i e; subst e; exact (no_falseE hc (by kernel_rfl)).elim
      · exact h.ext hx, trivial⟩
  case main =>
    refine ⟨fun w1 hC hh => ?_, ?_⟩
    · have hx := hC.below rfl (Ext.refl _)
      clear hh hC
      have hsz1 := hx.size
      go_simp
      exact ⟨s14e (by decide) (ext_alloc _ _), w1.heap.size, rfl, World.ownsRow_made w1 #[] 0 hsz1 (by unfold maxLen; omega) rfl⟩
    intro u0
    iterate 3 (refine ⟨fun w1 hC hh => ?_, ?_⟩; focus (have hx := hC.below rfl (Ext.refl _); clear hh hC; skip; go_simp; first | exact ⟨s14e (by decide) (Ext.refl _), rfl⟩ | exact s14e (by decide) (Ext.refl _)))
    refine ⟨fun w1 hC hh => ?_, ?_⟩
    · have h0 : EmptyR R.heap.size 9 1 u0 w1 := hh 0 _ List.mem_cons_self (by kernel_rfl)
      have hx := hC.below rfl (Ext.refl _)
      clear hh hC
      have hsz1 := hx.size
      have hlt : (l.take at_).length = at_ := by rw [List.length_take]; have := HN.out; omega
      have hcl := strs_cells (Hl.out.ext hx) 0 at_
      rw [List.drop_zero, Nat.add_zero] at hcl
      refine Facts.App.stepG_append_empty rfl (.tmp 124) (.tmp 127) 29 rfl R.heap.size 9 i0 (.string ByteArray.empty) 1 16 Tryz.underlying29 hi hz0 hz1 hz2 rfl (by decide) u0 (by go_simp) (B0 u0) h0.at0' h0.row ⟨b, o, none⟩ at_ c (strsV (l.take at_)) (by go_simp) (by rw [strsV_len, hlt, Nat.mul_one]) hcl (strsV_one _) (by unfold maxLen; omega) (by omega) (by omega) ?_
      intro v' w' ho hx2 h3
      exact ⟨s14e (by decide) hx2, ho, fun e => by rw [h3 e]; exact h0.ext hx2⟩
    intro u4
    iterate 4 (refine ⟨fun w1 hC hh => ?_, ?_⟩; focus (have hx := hC.below rfl (Ext.refl _); clear hh hC; skip; go_simp; first | exact ⟨s14e (by decide) (Ext.refl _), rfl⟩ | exact s14e (by decide) (Ext.refl _)))
    clear had
    refine ⟨fun w1 hC hh => ?_, ?_⟩
    · have h4 : RowE R.heap.size at_ (strsV (l.take at_)) u4 w1 := hh 4 _ List.mem_cons_self (by kernel_rfl)
      have hx := hC.below rfl (Ext.refl _)
      clear hh hC
      have hsz1 := hx.size
      have hld : (l.drop (at_ + 1)).length = n - (at_ + 1) := by rw [List.length_drop, ← HN.out]
      have hnews := strs_left (Hl.out.ext hx) HN.out k4 hc1 Had.out
      refine Facts.App.stepG_append_grew rfl (.tmp 128) (.tmp 132) 29 rfl R.heap.size 9 i0 (.string ByteArray.empty) 1 16 Tryz.underlying29 hi hz0 hz1 hz2 rfl (by decide) u4 at_ (strsV (l.take at_)) (by go_simp) h4.1 ad (n - (at_ + 1)) (c - (at_ + 1)) (strsV (l.drop (at_ + 1))) (by go_simp) (by rw [strsV_len, hld, Nat.mul_one]) hnews (strsV_one _) (by unfold maxLen; omega) (by omega) (by omega) ?_
      intro v' w' ho hg hx2
      refine ⟨by unfold S14; rw [if_pos rfl]; rw [Nat.mul_one] at hg; exact hg, RowW.ofV (n := at_ + (n - (at_ + 1))) (by unfold strsV; rw [List.map_append]; exact ho) (by rw [List.length_append, hld, List.length_take, ← HN.out]; omega)⟩
    intro u9
    refine ⟨fun w1 hC hh => ?_, ?_⟩
    · have h9 : RowW R.heap.size (l.take at_ ++ l.drop (at_ + 1)) u9 w1 := hh 9 _ List.mem_cons_self (by kernel_rfl)
      clear hh hC
      go_simp
      first | exact ⟨s14e (by decide) (Ext.refl _), h9⟩ | exact s14e (by decide) (Ext.refl _)
    intro u10 w5 hC hh
    have h10 : RowW R.heap.size (l.take at_ ++ l.drop (at_ + 1)) u10 w5 := hh 10 _ List.mem_cons_self
    have hx5 := hC.below rfl (Ext.refl _)
    clear hh hC
    have hA := HA.out
    subst hA
    have hQ := HQ.out
    go_simp
    exact hQ _ _ _ _ _ _ _ _ _ _ _ _ h10 hx5
def zzW : ByteArray := ⟨#[122, 122]⟩
def turnW (l : List ByteArray) (n : Nat) : List ByteArray := (l.take n ++ [zzW]) ++ l.drop (n + 1)
set_option maxRecDepth 100000 in
set_option maxHeartbeats 4000000 in
theorem mended_r16 {u0 u2 u3 u4 u5 u6 u7 u8 u9 u10 u11 u12 u13 u14 u15 u16 u17 u18 u20 u21 u22 u23 u24 u25 u26 u27 u28 u29 u30 u31 u32 u33 u34 u35 u36 u37 u38 u39 u40 u41 u42 u43 u44 u45 u46 u47 u48 u49 u50 u51 u52 u53 u54 u55 u56 u57 u58 u59 u60 u61 u62 u63 u64 u65 u66 u67 u68 u69 u70 u71 u72 u73 u74 u75 u76 u77 u78 u79 u80 u81 u82 u83 u84 u85 u86 u87 u88 u89 u90 u91 u92 u93 u94 u95 u96 u97 u98 u99 u100 u101 u102 u103 u104 u105 u106 u107 u108 u109 u110 u111 u112 u113 u114 u115 u116 u117 u118 u119 u120 u121 u122 u123 u124 u125 u126 u127 u128 u129 u130 u131 u132 u133 u134 u135 u136 u137 u138 u139 u140 u141 u142 u143 u144 u145 u146 u147 u148 u149 u150 u151 u152 u153 u154 u155 u156 u157 u158 u159 u160 u161 u162 u163 u164 u165 u166 u167 : Value} {R : World} {b o c at_ : Nat} {l : List ByteArray} (hl : StrsAt R (.slice (some ⟨b, o, none⟩) l.length c) l) (hat : at_ < l.length) (h15 : l.length ≤ 15) (Q : Exit → Act → World → Prop)
    (hQ : ∀ (v20 v136 v137 v138 v139 v140 v141 v142 v143 v144 v145 v146 v147 : Value) (wc : World), RowW R.heap.size (turnW l at_) v20 wc → Ext R wc → Q .normal ⟨#[u0, .slice (some ⟨b, o, none⟩) l.length c, u2, u3, u4, u5, u6, u7, u8, u9, u10, u11, u12, u13, u14, u15, u16, u17, u18, .int .i64 at_, v20, u21, u22, u23, u24, u25, u26, u27, u28, u29, u30, u31, u32, u33, u34, u35, u36, u37, u38, u39, u40, u41, u42, u43, u44, u45, u46, u47, u48, u49, u50, u51, u52, u53, u54, u55, u56, u57, u58, u59, u60, u61, u62, u63, u64, u65, u66, u67, u68, u69, u70, u71, u72, u73, u74, u75, u76, u77, u78, u79, u80, u81, u82, u83, u84, u85, u86, u87, u88, u89, u90, u91, u92, u93, u94, u95, u96, u97, u98, u99, u100, u101, u102, u103, u104, u105, u106, u107, u108, u109, u110, u111, u112, u113, u114, u115, u116, u117, u118, u119, u120, u121, u122, u123, u124, u125, u126, u127, u128, u129, u130, u131, u132, u133, u134, u135, v136, v137, v138, v139, v140, v141, v142, v143, v144, v145, v146, v147, u148, u149, u150, u151, u152, u153, u154, u155, u156, u157, u158, u159, u160, u161, u162, u163, u164, u165, u166, u167], []⟩ wc) :
    Code.wp Tryz.prog (regionOf Tryz.f10 16) Q ⟨#[u0, .slice (some ⟨b, o, none⟩) l.length c, u2, u3, u4, u5, u6, u7, u8, u9, u10, u11, u12, u13, u14, u15, u16, u17, u18, .int .i64 at_, u20, u21, u22, u23, u24, u25, u26, u27, u28, u29, u30, u31, u32, u33, u34, u35, u36, u37, u38, u39, u40, u41, u42, u43, u44, u45, u46, u47, u48, u49, u50, u51, u52, u53, u54, u55, u56, u57, u58, u59, u60, u61, u62, u63, u64, u65, u66, u67, u68, u69, u70, u71, u72, u73, u74, u75, u76, u77, u78, u79, u80, u81, u82, u83, u84, u85, u86, u87, u88, u89, u90, u91, u92, u93, u94, u95, u96, u97, u98, u99, u100, u101, u102, u103, u104, u105, u106, u107, u108, u109, u110, u111, u112, u113, u114, u115, u116, u117, u118, u119, u120, u121, u122, u123, u124, u125, u126, u127, u128, u129, u130, u131, u132, u133, u134, u135, u136, u137, u138, u139, u140, u141, u142, u143, u144, u145, u146, u147, u148, u149, u150, u151, u152, u153, u154, u155, u156, u157, u158, u159, u160, u161, u162, u163, u164, u165, u166, u167], []⟩ R := by
  conv => arg 2; whnf
  obtain ⟨i0, hi, hz0, hz1, hz2⟩ := info_parts infoString
  have HQ := Lib.hid hQ
  have Hl := Lib.hid hl
  obtain ⟨a', c', e', hc1, hc2, -⟩ := hl
  obtain ⟨-, -, rfl⟩ := Value.slice.inj e'
  obtain ⟨n, hn⟩ : ∃ n, n = l.length := ⟨_, rfl⟩
  rw [← hn] at hat h15 hc1 Hl HQ ⊢
  have HN := Lib.hid hn
  clear hQ e' hn
  have k1 : (at_ : Int) < (n : Int) := by omega
  have k2 : (at_ : Int) ≤ (n : Int) := by omega
  have k3 : (at_ : Int) + 1 ≤ (n : Int) := by omega
  have k4 : at_ + 1 ≤ n := by omega
  have k5 : at_ ≤ c := by omega
  have k6 : at_ ≤ n := by omega
  have wk : IntKind.i64.wrap ((at_ : Int) + 1) = (at_ : Int) + 1 := IntWalk.i64_in _ (by omega)
  obtain ⟨ad, had⟩ : ∃ ad, (if c = at_ + 1 then some (⟨b, o, none⟩ : Addr) else some ⟨b, o + (at_ + 1), none⟩) = some ad := by split <;> exact ⟨_, rfl⟩
  have Had := Lib.hid had
  apply Facts.wp_frame
  intro A hA
  have f1 : ∀ h, A.tmps[1]'h = .slice (some ⟨b, o, none⟩) n c := by rw [hA]; exact fun _ => rfl
  have f19 : ∀ h, A.tmps[19]'h = .int .i64 at_ := by rw [hA]; exact fun _ => rfl
  have fsz : A.tmps.size = 168 := by rw [hA]; rfl
  have HA := Lib.hid hA
  clear hA
  apply Facts.Dep.Many.wp_region (many16 R.heap.size at_) [.fact (EmptyR R.heap.size 9 1), .val _, .val _, .val (.slice (some ⟨b, o, none⟩) at_ c), .fact (RowE R.heap.size at_ (strsV (l.take at_))), .fact (NewR 1 [.string zzW]), .fact (OwnR R.heap.size 9 1 (at_ + 1) (strsV (l.take at_ ++ [zzW]))), .val _, .val _, .val _, .val (.slice (some ad) (n - (at_ + 1)) (c - (at_ + 1))), .fact (RowW R.heap.size (turnW l at_)), .fact (RowW R.heap.size (turnW l at_))] (by kernel_rfl) (by kernel_rfl) (by kernel_rfl) ?keep ?main
  case keep =>
    exact ⟨fun j hj hc u a c hx h => by
      unfold S16 at hx
      split at hx
      · exact h.grew hx.1
      · split at hx
        · exact h.grew hx
        · exact h.ext hx, fun j hj hc u a c hx h => by
      unfold S16 at hx
      split at hx
      · exact h.grew (Nat.le_refl _) hx.1
      · split at hx
        · exact h.grew (Nat.le_succ _) hx
        · exact h.ext hx, fun j hj hc u a c hx h => by
      unfold S16 at hx
      split at hx
      · by_cases h0 : at_ = 0
        · exact h.ext (hx.2 h0)
        · exact h.grew (by simp; omega) hx.1
      · split at hx
        · exact h.grew (by simp) hx
        · exact h.ext hx, fun j hj hc u a c hx h => by
      unfold S16 at hx
      split at hx
      · rename_i e; exact absurd e hj
      · split at hx
        · exact h.grew (by omega) hx
        · exact h.ext hx, fun j hj hc u a c hx h => by
      unfold S16 at hx
      split at hx
      · rename_i e; subst e; exact (no_falseE hc (by kernel_rfl)).elim
      · exact h.ext hx, fun j hj hc u a c hx h => by
      unfold S16 at hx
      split at hx
      · rename_i e; subst e; exact (no_falseE hc (by kernel_rfl)).elim
      · split at hx
        · rename_i e; subst e; exact (no_falseE hc (by kernel_rfl)).elim
        · exact h.ext hx, trivial⟩
  case main =>
    refine ⟨fun w1 hC hh => ?_, ?_⟩
    · have hx := hC.below rfl (Ext.refl _)
      clear hh hC
      have hsz1 := hx.size
      go_simp
      exact ⟨s16e (by decide) (by decide) (ext_alloc _ _), w1.heap.size, rfl, World.ownsRow_made w1 #[] 0 hsz1 (by unfold maxLen; omega) rfl⟩
    intro u0
    iterate 3 (refine ⟨fun w1 hC hh => ?_, ?_⟩; focus (have hx := hC.below rfl (Ext.refl _); clear hh hC; skip; go_simp; first | exact ⟨s16e (by decide) (by decide) (Ext.refl _), rfl⟩ | exact s16e (by decide) (by decide) (Ext.refl _)))
    refine ⟨fun w1 hC hh => ?_, ?_⟩
    · have h0 : EmptyR R.heap.size 9 1 u0 w1 := hh 0 _ List.mem_cons_self (by kernel_rfl)
      have hx := hC.below rfl (Ext.refl _)
      clear hh hC
      have hsz1 := hx.size
      have hlt : (l.take at_).length = at_ := by rw [List.length_take]; have := HN.out; omega
      have hcl := strs_cells (Hl.out.ext hx) 0 at_
      rw [List.drop_zero, Nat.add_zero] at hcl
      refine Facts.App.stepG_append_empty rfl (.tmp 136) (.tmp 139) 29 rfl R.heap.size 9 i0 (.string ByteArray.empty) 1 16 Tryz.underlying29 hi hz0 hz1 hz2 rfl (by decide) u0 (by go_simp) (B0 u0) h0.at0' h0.row ⟨b, o, none⟩ at_ c (strsV (l.take at_)) (by go_simp) (by rw [strsV_len, hlt, Nat.mul_one]) hcl (strsV_one _) (by unfold maxLen; omega) (by omega) (by omega) ?_
      intro v' w' ho hx2 h3
      exact ⟨s16e (by decide) (by decide) hx2, ho, fun e => by rw [h3 e]; exact h0.ext hx2⟩
    intro u4
    refine ⟨fun w1 hC hh => ?_, ?_⟩
    · clear hh hC
      go_simp
      exact ⟨s16e (by decide) (by decide) (ext_alloc _ _), NewR.made w1 1 [.string zzW] _⟩
    intro u5
    refine ⟨fun w1 hC hh => ?_, ?_⟩
    · have h4 : RowE R.heap.size at_ (strsV (l.take at_)) u4 w1 := hh 4 _ (List.mem_cons_of_mem _ List.mem_cons_self) (by kernel_rfl)
      have h5 : NewR 1 [.string zzW] u5 w1 := hh 5 _ List.mem_cons_self (by kernel_rfl)
      have hx := hC.below rfl (Ext.refl _)
      clear hh hC
      have hsz1 := hx.size
      have s5 := h5.spec
      generalize h5.B = B at *
      have e5 := s5.1
      have c5 := s5.2
      clear s5 h5
      subst e5
      refine Facts.App.stepG_append_grew rfl (.tmp 140) (.tmp 141) 29 rfl R.heap.size 9 i0 (.string ByteArray.empty) 1 16 Tryz.underlying29 hi hz0 hz1 hz2 rfl (by decide) u4 at_ (strsV (l.take at_)) (by go_simp) h4.1 ⟨B, 0, none⟩ 1 1 [.string zzW] (by go_simp) rfl c5 (strsV_one [zzW]) (by unfold maxLen; omega) (by omega) (by omega) ?_
      intro v' w' ho hg hx2
      refine ⟨by
        unfold S16; rw [if_pos rfl, Nat.mul_one] at *
        exact ⟨hg, fun e => hx2 fun g cap e2 => by
          subst e
          exact (h4.2 rfl).full 1 (by omega) g cap e2⟩, by unfold strsV; rw [List.map_append]; exact ho⟩
    intro u6
    iterate 4 (refine ⟨fun w1 hC hh => ?_, ?_⟩; focus (have hx := hC.below rfl (Ext.refl _); clear hh hC; skip; go_simp; first | exact ⟨s16e (by decide) (by decide) (Ext.refl _), rfl⟩ | exact s16e (by decide) (by decide) (Ext.refl _)))
    clear had
    refine ⟨fun w1 hC hh => ?_, ?_⟩
    · have h6 : OwnR R.heap.size 9 1 (at_ + 1) (strsV (l.take at_ ++ [zzW])) u6 w1 := hh 6 _ List.mem_cons_self (by kernel_rfl)
      have hx := hC.below rfl (Ext.refl _)
      clear hh hC
      have hsz1 := hx.size
      have hld : (l.drop (at_ + 1)).length = n - (at_ + 1) := by rw [List.length_drop, ← HN.out]
      have hnews := strs_left (Hl.out.ext hx) HN.out k4 hc1 Had.out
      refine Facts.App.stepG_append_grew rfl (.tmp 142) (.tmp 146) 29 rfl R.heap.size 9 i0 (.string ByteArray.empty) 1 16 Tryz.underlying29 hi hz0 hz1 hz2 rfl (by decide) u6 (at_ + 1) (strsV (l.take at_ ++ [zzW])) (by go_simp) h6 ad (n - (at_ + 1)) (c - (at_ + 1)) (strsV (l.drop (at_ + 1))) (by go_simp) (by rw [strsV_len, hld, Nat.mul_one]) hnews (strsV_one _) (by unfold maxLen; omega) (by omega) (by omega) ?_
      intro v' w' ho hg hx2
      refine ⟨by unfold S16; rw [if_neg (by decide), if_pos rfl]; rw [Nat.mul_one] at hg; exact hg, RowW.ofV (n := at_ + 1 + (n - (at_ + 1))) (by unfold turnW strsV; rw [List.map_append]; exact ho) (by unfold turnW; rw [List.length_append, hld, List.length_append, List.length_take, ← HN.out]; simp; omega)⟩
    intro u11
    refine ⟨fun w1 hC hh => ?_, ?_⟩
    · have h11 : RowW R.heap.size (turnW l at_) u11 w1 := hh 11 _ List.mem_cons_self (by kernel_rfl)
      clear hh hC
      go_simp
      first | exact ⟨s16e (by decide) (by decide) (Ext.refl _), h11⟩ | exact s16e (by decide) (by decide) (Ext.refl _)
    intro u12 w5 hC hh
    have h12 : RowW R.heap.size (turnW l at_) u12 w5 := hh 12 _ List.mem_cons_self
    have hx5 := hC.below rfl (Ext.refl _)
    clear hh hC
    have hA := HA.out
    subst hA
    have hQ := HQ.out
    go_simp
    exact hQ _ _ _ _ _ _ _ _ _ _ _ _ _ _ h12 hx5
end Go.Proofs.YtgcibmdohifiaaaGreat

namespace Go.Proofs.YtgcibmdohifiaaaGreat
set_option linter.unusedSimpArgs false
set_option linter.unusedVariables false
set_option linter.unusedVariables false

/-- the letter of a form and fills, part by part -/
def builtR : List Part → List (List ByteArray) → List ByteArray
  | [], _ => []
  | p :: ps, fs => if roomyM p then fs.headD [] ++ builtR ps fs.tail else p.words ++ builtR ps fs
theorem built_rec (ps : List Part) (fs : List (List ByteArray)) : ∀ k, k ≤ ps.length → (builtTo ps fs k).1 ++ builtR (ps.drop k) (builtTo ps fs k).2 = builtR ps fs
  | 0, _ => by simp [builtTo]
  | k + 1, hk => by
    have ih := built_rec ps fs k (by omega)
    have hlt : k < ps.length := by omega
    rw [List.drop_eq_getElem_cons hlt, builtR] at ih
    have e : ps.getD k ⟨[], 0, 0⟩ = ps[k] := by rw [List.getD_eq_getElem?_getD, List.getElem?_eq_getElem hlt]; rfl
    rw [builtTo, stepB, e]
    cases hr : roomyM ps[k]
    · rw [hr] at ih
      simp only [Bool.false_eq_true, if_false] at ih ⊢
      rw [List.append_assoc]; exact ih
    · rw [hr] at ih
      simp only [if_true] at ih ⊢
      rw [List.append_assoc]; exact ih
theorem built_is (ps : List Part) (fs : List (List ByteArray)) : builtM ps fs = builtR ps fs := by
  have := built_rec ps fs ps.length (Nat.le_refl _)
  rw [List.drop_length] at this
  unfold builtM
  rw [← this, builtR, List.append_nil]
theorem edS_words {a : List ByteArray} {ss : List Slot} {n : Nat} (h : EdS a ss n) : ∀ ws : List ByteArray, EdS (ws ++ a) (givenM ws ++ ss) n
  | [] => h
  | x :: ws => .keep x ⟨x, false⟩ (by simp [takesM]) (edS_words h ws)
theorem edS_room {a : List ByteArray} {ss : List Slot} {n : Nat} (h : EdS a ss n) : ∀ (l : List ByteArray) (sl : List Slot), l.length ≤ sl.length → (∀ s ∈ sl, s.word = ByteArray.empty) → (∀ s ∈ sl.drop l.length, s.free = true) → EdS (l ++ a) (sl ++ ss) n
  | [], [], _, _, _ => h
  | [], s :: sl, _, hw, hf => .skip s (hf s (by simp)) (edS_room h [] sl (by simp) (fun x hx => hw x (List.mem_cons_of_mem _ hx)) fun x hx => hf x (by simpa using Or.inr (by simpa using hx)))
  | x :: l, [], hl, _, _ => by simp at hl
  | x :: l, s :: sl, hl, hw, hf => .keep x s (by have := hw s List.mem_cons_self; simp [takesM, this]) (edS_room h l sl (by simpa using hl) (fun x hx => hw x (List.mem_cons_of_mem _ hx)) fun x hx => hf x (by simpa using hx))
theorem roomSlots_free (lo : Int) (n m : Nat) (h : lo ≤ m) : ∀ s ∈ (roomSlotsM lo n).drop m, s.free = true := by
  intro s hs
  unfold roomSlotsM at hs
  rw [← List.map_drop, List.mem_map] at hs
  obtain ⟨k, hk, rfl⟩ := hs
  obtain ⟨i, hi, rfl⟩ := List.getElem_of_mem hk
  simp only [List.getElem_drop, List.getElem_range]
  exact decide_eq_true (by omega)
theorem PutOk.tail {p : Part} {rs : List Part} {l : List ByteArray} {fs : List (List ByteArray)} (h : PutOk (p :: rs) (l :: fs)) : PutOk rs fs ∧ (p.lo ≤ l.length ∧ (l.length : Int) ≤ p.hi) ∧ ∀ s ∈ l, wordM s = true :=
  ⟨⟨by have := h.le; simpa using this, fun i hi h2 => by have := h.at_ (i + 1) (by simp; omega) (by simp; omega); simpa using this, fun x hx => h.w x (List.mem_cons_of_mem _ hx)⟩, by have := h.at_ 0 (by simp) (by simp); simpa using this, h.w l List.mem_cons_self⟩
theorem made_ed : ∀ (ps : List Part) (fs : List (List ByteArray)), (∀ p ∈ ps, ValidPart p) → PutOk (roomsM ps) fs → fs.length = (roomsM ps).length →
    EdS (builtR ps fs) (formSlotsM ps) 0 ∧ (builtR ps fs).length ≤ 3 * ps.length ∧ ∀ s ∈ builtR ps fs, wordM s = true
  | [], fs, _, _, _ => ⟨.nil, by simp [builtR], by simp [builtR]⟩
  | p :: ps, fs, hv, hp, hn => by
    have hvp := hv p List.mem_cons_self
    have hv' : ∀ q ∈ ps, ValidPart q := fun q hq => hv q (List.mem_cons_of_mem _ hq)
    have hs : formSlotsM (p :: ps) = partSlotsM p ++ formSlotsM ps := by simp [formSlotsM]
    rw [hs, builtR]
    cases hr : roomyM p
    · have hrm : roomsM (p :: ps) = roomsM ps := by simp [roomsM, hr]
      rw [hrm] at hp hn
      obtain ⟨i1, i2, i3⟩ := made_ed ps fs hv' hp hn
      have hne : p.words ≠ [] := fun e => by unfold roomyM at hr; rw [e] at hr; simp at hr
      have h0 : partSlotsM p = givenM p.words := by
        unfold partSlotsM
        rw [(hvp.z hne).2]
        simp [roomSlotsM]
      have hw := hvp.w
      have h3 := hvp.n
      unfold wordsM at hw
      rw [List.all_eq_true] at hw
      rw [h0]
      simp only [Bool.false_eq_true, if_false, List.length_append, List.length_cons]
      refine ⟨edS_words i1 _, by omega, fun s hs => ?_⟩
      rcases List.mem_append.1 hs with h | h
      · exact hw s h
      · exact i3 s h
    · have hrm : roomsM (p :: ps) = p :: roomsM ps := by simp [roomsM, hr]
      rw [hrm] at hp hn
      cases fs with
      | nil => simp at hn
      | cons l fs =>
        obtain ⟨t1, t2, t3⟩ := hp.tail
        obtain ⟨i1, i2, i3⟩ := made_ed ps fs hv' t1 (by simpa using hn)
        have he : p.words = [] := by unfold roomyM at hr; exact List.eq_nil_of_length_eq_zero (by simpa using hr)
        obtain ⟨r1, r2, r3, r4⟩ := hvp.r he
        have h0 : partSlotsM p = roomSlotsM p.lo p.hi.toNat := by unfold partSlotsM; rw [he]; rfl
        have hlen : (roomSlotsM p.lo p.hi.toNat).length = p.hi.toNat := by simp [roomSlotsM]
        rw [h0]
        simp only [if_true, List.headD_cons, List.tail_cons, List.length_append, List.length_cons]
        refine ⟨edS_room i1 l _ (by rw [hlen]; omega) (fun s hs => ?_) (roomSlots_free _ _ _ t2.1), by omega, fun s hs => ?_⟩
        · unfold roomSlotsM at hs
          obtain ⟨k, -, rfl⟩ := List.mem_map.1 hs
          rfl
        · rcases List.mem_append.1 hs with h | h
          · exact t3 s h
          · exact i3 s h
theorem lett_okM {l : List ByteArray} (h : l.length ≤ 15) (hw : ∀ s ∈ l, wordM s = true) : letterErrL l = 0 := by
  unfold letterErrL
  rw [if_neg (by omega), if_neg]
  rw [Bool.not_eq_false]
  unfold wordsM
  rw [List.all_eq_true]
  exact hw
/-- a letter that is made of a form: right, and no nearer than what the form needs -/
theorem made_far {f : Form} (hv : ValidForm f) {fs : List (List ByteArray)} (hp : PutOk (roomsM f.parts) fs) (hn : fs.length = (roomsM f.parts).length) {l : List ByteArray} (hl : letterErrL l = 0) :
    letterErrL (builtM f.parts fs) = 0 ∧ fewErrM l (builtM f.parts fs) = 0 ∧ (costM l (formSlotsM f.parts)).2 ≤ fewManyM l (builtM f.parts fs) := by
  obtain ⟨h1, h2, h3⟩ := made_ed f.parts fs hv.parts hp hn
  rw [← built_is] at h1 h2 h3
  have h5 := hv.n
  have hL := lett_okM (by omega) h3
  have hE : fewErrM l (builtM f.parts fs) = 0 := by unfold fewErrM; rw [if_neg (by rw [hl]; simp), hL]
  refine ⟨hL, hE, ?_⟩
  have := cost_wayS (a := l) (formSlotsM f.parts) h3
  have h0 := cost_le h1
  unfold fewManyM
  rw [if_pos hE]
  omega
theorem Ed.pre {a b : List ByteArray} {n : Nat} (h : Ed a b n) : ∀ p : List ByteArray, Ed (p ++ a) (p ++ b) n
  | [] => h
  | x :: p => .keep x (Ed.pre h p)
theorem Ed.same : ∀ a : List ByteArray, Ed a a 0
  | [] => .nil
  | x :: a => .keep x (Ed.same a)
def dropW (l : List ByteArray) (n : Nat) : List ByteArray := l.take n ++ l.drop (n + 1)
theorem cost_ed {a b : List ByteArray} {n : Nat} (hb : ∀ s ∈ b, wordM s = true) (h : Ed a b n) : (costM a (givenM b)).2 ≤ n := by
  rw [cost_far (a.length + b.length + 1) a b (by omega) hb]
  exact far_le h _ (by omega)
theorem near_one {a b : List ByteArray} (ha : ∀ s ∈ a, wordM s = true) (hb : ∀ s ∈ b, wordM s = true) (h1 : Ed a b 1) (h2 : Ed b a 1) (ss : List Slot) : (costM b ss).2 ≤ (costM a ss).2 + 1 ∧ (costM a ss).2 ≤ (costM b ss).2 + 1 := by
  have g1 := cost_wayS (a := b) ss ha
  have g2 := cost_wayS (a := a) ss hb
  have g3 := cost_ed hb h1
  have g4 := cost_ed ha h2
  omega
theorem drop_one {l : List ByteArray} {n : Nat} (h : n < l.length) : Ed l (dropW l n) 1 ∧ Ed (dropW l n) l 1 := by
  have e : l = l.take n ++ l[n] :: l.drop (n + 1) := by rw [← List.drop_eq_getElem_cons h, List.take_append_drop]
  have a1 : Ed (l[n] :: l.drop (n + 1)) (l.drop (n + 1)) (0 + 1) := .drop _ (Ed.same _)
  have a2 : Ed (l.drop (n + 1)) (l[n] :: l.drop (n + 1)) (0 + 1) := .put _ (Ed.same _)
  have b1 := Ed.pre a1 (l.take n)
  have b2 := Ed.pre a2 (l.take n)
  rw [← e] at b1 b2
  exact ⟨b1, b2⟩
theorem turn_one {l : List ByteArray} {n : Nat} (h : n < l.length) : Ed l (turnW l n) 1 ∧ Ed (turnW l n) l 1 := by
  have e : l = l.take n ++ l[n] :: l.drop (n + 1) := by rw [← List.drop_eq_getElem_cons h, List.take_append_drop]
  have a1 : Ed (l[n] :: l.drop (n + 1)) (zzW :: l.drop (n + 1)) (0 + 1) := .turn _ _ (Ed.same _)
  have a2 : Ed (zzW :: l.drop (n + 1)) (l[n] :: l.drop (n + 1)) (0 + 1) := .turn _ _ (Ed.same _)
  have b1 := Ed.pre a1 (l.take n)
  have b2 := Ed.pre a2 (l.take n)
  rw [← e] at b1 b2
  have e2 : turnW l n = l.take n ++ zzW :: l.drop (n + 1) := by unfold turnW; simp
  rw [e2]
  exact ⟨b1, b2⟩
theorem zz_word : wordM zzW = true := by decide +kernel
/-- one word less, or another one: right, and no further from any form than by one -/
theorem other_ok {l : List ByteArray} (hl : letterErrL l = 0) {n : Nat} (h : n < l.length) (ss : List Slot) :
    (letterErrL (dropW l n) = 0 ∧ (costM (dropW l n) ss).2 ≤ (costM l ss).2 + 1 ∧ (costM l ss).2 ≤ (costM (dropW l n) ss).2 + 1) ∧
    (letterErrL (turnW l n) = 0 ∧ (costM (turnW l n) ss).2 ≤ (costM l ss).2 + 1 ∧ (costM l ss).2 ≤ (costM (turnW l n) ss).2 + 1) := by
  obtain ⟨h15, hw⟩ := lettErr_ok hl
  have wd : ∀ s ∈ dropW l n, wordM s = true := fun s hs => by
    rcases List.mem_append.1 hs with h | h
    · exact hw s (List.mem_of_mem_take h)
    · exact hw s (List.mem_of_mem_drop h)
  have wt : ∀ s ∈ turnW l n, wordM s = true := fun s hs => by
    rcases List.mem_append.1 hs with h | h
    · rcases List.mem_append.1 h with h | h
      · exact hw s (List.mem_of_mem_take h)
      · rw [List.mem_singleton] at h; subst h; exact zz_word
    · exact hw s (List.mem_of_mem_drop h)
  obtain ⟨d1, d2⟩ := drop_one h
  obtain ⟨t1, t2⟩ := turn_one h
  refine ⟨⟨lett_okM (by unfold dropW; rw [List.length_append, List.length_take, List.length_drop]; omega) wd, near_one hw wd d1 d2 ss⟩, ⟨lett_okM (by unfold turnW; rw [List.length_append, List.length_append, List.length_take, List.length_drop]; simp; omega) wt, near_one hw wt t1 t2 ss⟩⟩
end Go.Proofs.YtgcibmdohifiaaaGreat

namespace Go.Proofs.YtgcibmdohifiaaaGreat
set_option linter.unusedSimpArgs false
set_option linter.unusedVariables false
open Go.RowKit
set_option linter.unusedVariables false

set_option maxRecDepth 100000 in
theorem which_any (sv : Value) (s : Shelf) (x : Nat) (hx : x ≤ 255) (w : World) (hs : ShelfAt w sv s) (h0 : s.forms.length ≠ 0) (h4 : s.forms.length ≤ 4) :
    Calls Tryz.prog 40 #[sv, .int .u8 x] w fun e w' => e = .returned (.int .i64 ((x % s.forms.length : Nat) : Int)) ∧ Ext w w' := by
  obtain ⟨fa, fc, rfl, -⟩ := hs.open
  have mq := mod_nat x s.forms.length
  have q1 : x % s.forms.length < s.forms.length := Nat.mod_lt _ (by omega)
  generalize x % s.forms.length = q at *
  have wq : IntKind.i64.wrap (q : Int) = q := IntWalk.i64_in _ (by omega)
  have wx : IntKind.i64.wrap (x : Int) = x := IntWalk.i64_in _ (by omega)
  have h0' : ((s.forms.length : Int) == 0) = false := by simpa using h0
  go_enter Tryz.func40, Tryz.ntmps40
  go_wp2
  go_ret
  exact ⟨rfl, (by first | (with_reducible exact Ext.refl _) | (with_reducible assumption) | (show Below _ _ _; go_grown; done))⟩
theorem few_le30 (a b : List ByteArray) (ha : a.length ≤ 15) (hb : b.length ≤ 15) : fewManyM a b ≤ 30 := by
  unfold fewManyM
  split
  · have := costM_le a (givenM b)
    have hg : (givenM b).length = b.length := by simp [givenM]
    omega
  · omega
/-- fills that are right for these rooms -/
def AnyF (rooms : List Part) (u : Value) (w : World) : Prop := ∃ fs, FillsAt w u fs ∧ PutOk rooms fs ∧ fs.length = rooms.length
noncomputable def AnyF.fs {rooms : List Part} {u : Value} {w : World} (h : AnyF rooms u w) : List (List ByteArray) := Exists.choose h
theorem AnyF.spec {rooms : List Part} {u : Value} {w : World} (h : AnyF rooms u w) : FillsAt w u h.fs ∧ PutOk rooms h.fs ∧ h.fs.length = rooms.length := Exists.choose_spec h
theorem AnyF.ext {rooms : List Part} {u : Value} {w w' : World} (h : AnyF rooms u w) (hx : Ext w w') : AnyF rooms u w' := by
  obtain ⟨fs, h1, h2⟩ := h; exact ⟨fs, h1.ext hx, h2⟩
theorem putOk_len {f : Form} (hv : ValidForm f) {fs : List (List ByteArray)} (hp : PutOk (roomsM f.parts) fs) : ∀ l ∈ fs, l.length ≤ 15 := by
  intro l hl
  obtain ⟨i, hi, rfl⟩ := List.getElem_of_mem hl
  have h2 : i < (roomsM f.parts).length := by have := hp.le; omega
  have h3 := (hp.at_ i hi h2).2
  have hm := List.mem_filter.1 (List.getElem_mem h2)
  have hr := (hv.parts _ hm.1).room hm.2
  omega
/-- a letter of the form -/
def MadeF (f : Form) (l : List ByteArray) (u : Value) (w : World) : Prop := ∃ m, StrsAt w u m ∧ letterErrL m = 0 ∧ fewErrM l m = 0 ∧ (costM l (formSlotsM f.parts)).2 ≤ fewManyM l m
theorem MadeF.ext {f : Form} {l : List ByteArray} {u : Value} {w w' : World} (h : MadeF f l u w) (hx : Ext w w') : MadeF f l u w' := by
  obtain ⟨m, h1, h2⟩ := h; exact ⟨m, h1.ext hx, h2⟩
/-- both boxes -/
theorem box_mended {w : World} {fa : Option Addr} {fc : Nat} {s : Shelf} {xf xa : Nat} {xv : Value} {xt : Bool} (hb : ShelfAt w (.agg #[.int .i64 s.width, .slice fa s.forms.length fc]) s) :
    ∃ W, W = (w.alloc (.cells #[.int .i64 s.width, .slice fa s.forms.length fc] 24)).alloc (.cells #[.int .u8 xf, xv, .int .u8 xa, .bool xt] 68) ∧ ShelfAt W (.agg #[.int .i64 s.width, .slice fa s.forms.length fc]) s ∧ W.cell? ⟨w.heap.size, 0, none⟩ = some (.int .i64 s.width) ∧ W.cell? ⟨w.heap.size, 1, none⟩ = some (.slice fa s.forms.length fc) ∧
      W.cell? ⟨w.heap.size + 1, 0, none⟩ = some (.int .u8 xf) ∧ W.cell? ⟨w.heap.size + 1, 1, none⟩ = some xv ∧ W.cell? ⟨w.heap.size + 1, 2, none⟩ = some (.int .u8 xa) ∧ W.cell? ⟨w.heap.size + 1, 3, none⟩ = some (.bool xt) ∧ Ext w W :=
  ⟨_, rfl, (hb.ext (ext_alloc _ _)).ext (ext_alloc _ _), by simp [go_sem], by simp [go_sem], by simp [go_sem], by simp [go_sem], by simp [go_sem], by simp [go_sem], (ext_alloc _ _).trans (ext_alloc _ _)⟩
set_option maxRecDepth 100000 in
set_option maxHeartbeats 8000000 in
theorem mendedL_any (sv lv xv : Value) (s : Shelf) (l : List ByteArray) (xf xa : Nat) (xt : Bool) (x : List Int) (hxf : xf ≤ 255) (hxa : xa ≤ 255) (w : World) (hs : ShelfAt w sv s) (hl : StrsAt w lv l) (hxs : BytesAt w xv x) :
    Calls Tryz.prog 10 #[sv, lv, .agg #[.int .u8 xf, xv, .int .u8 xa, .bool xt]] w fun e w' => e = .returned (.bool true) ∧ Ext w w' := by
  obtain ⟨fa, fc, rfl, -⟩ := hs.open
  obtain ⟨la, lc, rfl, -⟩ := hl.shape
  obtain ⟨ya, yc, rfl, -⟩ := hxs.shape
  obtain ⟨W, hW, hb, q0, q1, p0, p1, p2, p3, x1⟩ := box_mended (xf := xf) (xa := xa) (xv := .slice ya x.length yc) (xt := xt) hs
  replace hl := hl.ext x1
  replace hxs := hxs.ext x1
  have z1 := cell_lt q0
  have HW := Lib.hid hW
  clear hs hW
  go_enter Tryz.func10, Tryz.ntmps10
  go_wp2_with fail
  rw [← HW.out]
  clear HW
  by_cases hbad : errS s ≠ 0 ∨ s.forms.length = 0 ∨ letterErrL l ≠ 0
  · obtain ⟨g1, g2⟩ := near_bad hbad
    have g1' := neT g1
    have G2 := Lib.hid g2
    clear g1 g2
    by_cases h1 : errS s = 0
    · by_cases h2 : s.forms.length = 0
      · have h2' : ((s.forms.length : Int) == 0) = true := by rw [h2]; rfl
        clear h2 hbad
        refine (validL_any _ s _ hb).mono ?_
        rw [show (errS s == 0) = true from by rw [h1]; rfl]
        rintro e w3 ⟨rfl, hx⟩
        (replace hb := hb.ext hx; replace q0 := hx.cell q0; replace q1 := hx.cell q1; replace z1 := cell_lt q0; replace p0 := hx.cell p0; replace p1 := hx.cell p1; replace p2 := hx.cell p2; replace p3 := hx.cell p3; replace hxs := hxs.ext hx; replace x1 := x1.trans hx; replace hl := hl.ext hx; clear hx)
        clear h1
        go_wp2_with fail
        refine (Nearest_any _ _ s l _ hb hl).mono ?_
        rw [G2.out]
        rintro e w2 ⟨rfl, hx⟩
        (replace hb := hb.ext hx; replace q0 := hx.cell q0; replace q1 := hx.cell q1; replace z1 := cell_lt q0; replace p0 := hx.cell p0; replace p1 := hx.cell p1; replace p2 := hx.cell p2; replace p3 := hx.cell p3; replace hxs := hxs.ext hx; replace x1 := x1.trans hx; replace hl := hl.ext hx; clear hx)
        go_wp2_with fail
        refine (awakeL_any _).mono ?_
        rintro e w7 ⟨rfl, hx⟩
        go_wp2
        go_ret
        exact ⟨rfl, x1.trans hx⟩
      · have h3 : letterErrL l ≠ 0 := by
          rcases hbad with h | h | h
          · exact absurd h1 h
          · exact absurd h h2
          · exact h
        have h2' : ((s.forms.length : Int) == 0) = false := by simpa using h2
        have h3' := neT h3
        clear h2 hbad h3
        refine (validL_any _ s _ hb).mono ?_
        rw [show (errS s == 0) = true from by rw [h1]; rfl]
        rintro e w3 ⟨rfl, hx⟩
        (replace hb := hb.ext hx; replace q0 := hx.cell q0; replace q1 := hx.cell q1; replace z1 := cell_lt q0; replace p0 := hx.cell p0; replace p1 := hx.cell p1; replace p2 := hx.cell p2; replace p3 := hx.cell p3; replace hxs := hxs.ext hx; replace x1 := x1.trans hx; replace hl := hl.ext hx; clear hx)
        clear h1
        go_wp2_with fail
        refine (refLett_any _ l _ hl).mono ?_
        rintro e w4 ⟨rfl, hx⟩
        (replace hb := hb.ext hx; replace q0 := hx.cell q0; replace q1 := hx.cell q1; replace z1 := cell_lt q0; replace p0 := hx.cell p0; replace p1 := hx.cell p1; replace p2 := hx.cell p2; replace p3 := hx.cell p3; replace hxs := hxs.ext hx; replace x1 := x1.trans hx; replace hl := hl.ext hx; clear hx)
        generalize letterErrL l = e2 at *
        go_wp2_with fail
        refine (Nearest_any _ _ s l _ hb hl).mono ?_
        rw [G2.out]
        rintro e w2 ⟨rfl, hx⟩
        (replace hb := hb.ext hx; replace q0 := hx.cell q0; replace q1 := hx.cell q1; replace z1 := cell_lt q0; replace p0 := hx.cell p0; replace p1 := hx.cell p1; replace p2 := hx.cell p2; replace p3 := hx.cell p3; replace hxs := hxs.ext hx; replace x1 := x1.trans hx; replace hl := hl.ext hx; clear hx)
        go_wp2_with fail
        refine (awakeL_any _).mono ?_
        rintro e w7 ⟨rfl, hx⟩
        go_wp2
        go_ret
        exact ⟨rfl, x1.trans hx⟩
    · clear hbad
      refine (validL_any _ s _ hb).mono ?_
      rw [show (errS s == 0) = false from by simpa using h1]
      rintro e w3 ⟨rfl, hx⟩
      (replace hb := hb.ext hx; replace q0 := hx.cell q0; replace q1 := hx.cell q1; replace z1 := cell_lt q0; replace p0 := hx.cell p0; replace p1 := hx.cell p1; replace p2 := hx.cell p2; replace p3 := hx.cell p3; replace hxs := hxs.ext hx; replace x1 := x1.trans hx; replace hl := hl.ext hx; clear hx)
      clear h1
      go_wp2_with fail
      refine (Nearest_any _ _ s l _ hb hl).mono ?_
      rw [G2.out]
      rintro e w2 ⟨rfl, hx⟩
      (replace hb := hb.ext hx; replace q0 := hx.cell q0; replace q1 := hx.cell q1; replace z1 := cell_lt q0; replace p0 := hx.cell p0; replace p1 := hx.cell p1; replace p2 := hx.cell p2; replace p3 := hx.cell p3; replace hxs := hxs.ext hx; replace x1 := x1.trans hx; replace hl := hl.ext hx; clear hx)
      go_wp2_with fail
      refine (awakeL_any _).mono ?_
      rintro e w7 ⟨rfl, hx⟩
      go_wp2
      go_ret
      exact ⟨rfl, x1.trans hx⟩
  · have h1 : errS s = 0 := Decidable.not_not.1 fun e => hbad (.inl e)
    have h2 : s.forms.length ≠ 0 := fun e => hbad (.inr (.inl e))
    have h3 : letterErrL l = 0 := Decidable.not_not.1 fun e => hbad (.inr (.inr e))
    have hv4 := (errS_ok h1).n
    have V := Lib.hid (errS_ok h1)
    have H1 := Lib.hid h1
    have H3 := Lib.hid h3
    have hse : shelfErrM s l = 0 := by unfold shelfErrM; rw [if_neg (by rw [h1]; simp), h3]
    have Hse := Lib.hid hse
    have h2' : ((s.forms.length : Int) == 0) = false := by simpa using h2
    have H2 := Lib.hid h2
    have h15 := (lettErr_ok h3).1
    clear hbad h1 h3 hse h2
    refine (validL_any _ s _ hb).mono ?_
    rw [show (errS s == 0) = true from by rw [H1.out]; rfl]
    rintro e w3 ⟨rfl, hx⟩
    (replace hb := hb.ext hx; replace q0 := hx.cell q0; replace q1 := hx.cell q1; replace z1 := cell_lt q0; replace p0 := hx.cell p0; replace p1 := hx.cell p1; replace p2 := hx.cell p2; replace p3 := hx.cell p3; replace hxs := hxs.ext hx; replace x1 := x1.trans hx; replace hl := hl.ext hx; clear hx)
    go_wp2_with fail
    refine (refLett_any _ l _ hl).mono ?_
    rw [H3.out]
    rintro e w4 ⟨rfl, hx⟩
    (replace hb := hb.ext hx; replace q0 := hx.cell q0; replace q1 := hx.cell q1; replace z1 := cell_lt q0; replace p0 := hx.cell p0; replace p1 := hx.cell p1; replace p2 := hx.cell p2; replace p3 := hx.cell p3; replace hxs := hxs.ext hx; replace x1 := x1.trans hx; replace hl := hl.ext hx; clear hx)
    have hwh := fun w' v (h : ShelfAt w' v s) => which_any v s xf hxf w' h H2.out hv4
    obtain ⟨k, hk⟩ : ∃ k, k = xf % s.forms.length := ⟨_, rfl⟩
    have hkl : k < s.forms.length := by rw [hk]; exact Nat.mod_lt _ (by have := H2.out; omega)
    rw [← hk] at hwh
    clear hk h2'
    have k1 : (k : Int) < (s.forms.length : Int) := by omega
    have hkI : I64 k := by constructor <;> omega
    obtain ⟨m1, m2⟩ := mend_cost H1.out H3.out k hkl
    have hof := cost_of V.out l k hkl
    obtain ⟨fb, fo, rfl, f0, fsz, pu, f1, hps⟩ : ∃ b o, fa = some ⟨b, o, none⟩ ∧ w4.cell? ⟨b, o + k * 2, none⟩ = some (.string s.forms[k].name) ∧ s.forms[k].name.size ≤ 9223372036854775807 ∧ ∃ u, w4.cell? ⟨b, o + k * 2 + 1, none⟩ = some u ∧ PartsAt w4 u s.forms[k].parts := by
      obtain ⟨u, e, -, h⟩ := hb
      obtain rfl : u = .slice fa s.forms.length fc := by simpa using e.symm
      exact h.get hkl
    obtain ⟨pa, pc, rfl, -⟩ := hps.shape
    have hVf : ValidForm s.forms[k] := V.out.forms _ (List.getElem_mem hkl)
    have hcost : costOf s.forms l k = (costM l (formSlotsM s.forms[k].parts)).2 := by simp [costOf, hkl]
    have hform : FormV w4 (.agg #[.string s.forms[k].name, .slice pa s.forms[k].parts.length pc]) s.forms[k] := ⟨_, rfl, fsz, hps⟩
    have hmo : ∀ l', letterErrL l' = 0 → openForErrM s k l' = 0 ∧ mendM s k l' = (costM l' (formSlotsM s.forms[k].parts)).2 := fun l' hl' => by
      obtain ⟨a1, a2⟩ := mend_cost H1.out hl' k hkl
      exact ⟨a1, by rw [a2]; simp [costOf, hkl]⟩
    generalize s.forms[k] = f at *
    have hme := fun w' v1 v2 (x1 : ShelfAt w' v1 s) (x2 : StrsAt w' v2 l) => Mend_any v1 v2 s k hkI l w' x1 x2
    rw [m1, m2] at hme
    have Hmo := Lib.hid hmo
    have Hof := Lib.hid hof
    have Hcost := Lib.hid hcost
    have HV := Lib.hid hVf
    generalize costOf s.forms l k = c at *
    clear m1 m2 V hmo hof hcost hVf hps
    go_wp2_with fail
    refine (hwh _ _ hb).mono ?_
    rintro e w5 ⟨rfl, hx⟩
    replace hform := hform.ext hx
    replace f0 := hx.cell f0
    replace f1 := hx.cell f1
    (replace hb := hb.ext hx; replace q0 := hx.cell q0; replace q1 := hx.cell q1; replace z1 := cell_lt q0; replace p0 := hx.cell p0; replace p1 := hx.cell p1; replace p2 := hx.cell p2; replace p3 := hx.cell p3; replace hxs := hxs.ext hx; replace x1 := x1.trans hx; replace hl := hl.ext hx; clear hx)
    clear hwh
    go_wp2_with fail
    refine (hme _ _ _ hb hl).mono ?_
    rintro e w6 ⟨rfl, hx⟩
    replace hform := hform.ext hx
    replace f0 := hx.cell f0
    replace f1 := hx.cell f1
    (replace hb := hb.ext hx; replace q0 := hx.cell q0; replace q1 := hx.cell q1; replace z1 := cell_lt q0; replace p0 := hx.cell p0; replace p1 := hx.cell p1; replace p2 := hx.cell p2; replace p3 := hx.cell p3; replace hxs := hxs.ext hx; replace x1 := x1.trans hx; replace hl := hl.ext hx; clear hx)
    clear hme
    go_wp2_with fail
    refine (of_any _ _ s l _ hb hl).mono ?_
    rw [Hse.out]
    rintro e w7 ⟨u, rfl, ⟨ov, rfl, ho, -⟩, hx⟩
    replace hform := hform.ext hx
    replace f0 := hx.cell f0
    replace f1 := hx.cell f1
    (replace hb := hb.ext hx; replace q0 := hx.cell q0; replace q1 := hx.cell q1; replace z1 := cell_lt q0; replace p0 := hx.cell p0; replace p1 := hx.cell p1; replace p2 := hx.cell p2; replace p3 := hx.cell p3; replace hxs := hxs.ext hx; replace x1 := x1.trans hx; replace hl := hl.ext hx; clear hx)
    replace ho := ho rfl
    obtain ⟨oa, oc, rfl, -⟩ := ho.shape
    go_wp2_with fail
    apply Facts.wp_region [.val _, .val _, .val _, .val _, .val (.agg #[.string f.name, .slice pa f.parts.length pc]), .val _, .val _, .val _, .val _, .val (.agg #[.string f.name, .slice pa f.parts.length pc]), .val _, .val _, .fact (AnyF (roomsM f.parts)), .fact (MadeF f l), .fact (MadeF f l)] (by kernel_rfl) (by kernel_rfl) ⟨fun u a c hx h => h.ext hx, fun u a c hx h => h.ext hx, fun u a c hx h => h.ext hx, trivial⟩ ?main
    case main =>
      iterate 12 (refine ⟨fun w1 hx hh => ?_, ?_⟩; focus (clear hh; have e0 := hx.cell q0; have e1 := hx.cell q1; have e2 := hx.cell f0; have e3 := hx.cell f1; have e4 := hx.cell p1; go_simp; first | exact ⟨Ext.refl _, rfl⟩ | exact Ext.refl _))
      refine ⟨fun w1 hx hh => ?_, ?_⟩
      · clear hh
        have hf2 := hform.ext hx
        have hx2 := hxs.ext hx
        clear hx
        go_simp
        refine (any_any _ _ f x _ HV.out hf2 hx2).mono ?_
        rintro e w' ⟨u, fs, rfl, h1, h2, h3, hx⟩
        exact ⟨_, rfl, hx, fs, h1, h2, h3⟩
      intro u12
      refine ⟨fun w1 hx hh => ?_, ?_⟩
      · have h12 : AnyF (roomsM f.parts) u12 w1 := hh 12 _ List.mem_cons_self (by kernel_rfl)
        have s12 := h12.spec
        generalize h12.fs = fs at *
        have t1 := s12.1
        have t2 := s12.2.1
        have t3 := s12.2.2
        have hf2 := hform.ext hx
        clear hh hx h12 s12
        go_simp
        refine (refBuilt_any _ _ f fs HV.out.n (fun p hp => by have := (HV.out.parts p hp).n; omega) (putOk_len HV.out t2) t3.symm _ hf2 t1).mono ?_
        rintro e w' ⟨u, rfl, hu, -, hx⟩
        exact ⟨_, rfl, hx, _, hu, made_far HV.out t2 t3 H3.out⟩
      intro u13
      refine ⟨fun w1 hx hh => ?_, ?_⟩
      · have h13 : MadeF f l u13 w1 := hh 13 _ List.mem_cons_self (by kernel_rfl)
        clear hh
        go_simp
        first | exact ⟨Ext.refl _, h13⟩ | exact Ext.refl _
      intro u14 w8 hx hh
      have h14 : MadeF f l u14 w8 := hh 14 _ List.mem_cons_self
      clear hh
      obtain ⟨mk, hmk, g1, g2, g3⟩ := h14
      obtain ⟨ma, mc, rfl, -⟩ := hmk.shape
      replace ho := ho.ext hx
      (replace hb := hb.ext hx; replace q0 := hx.cell q0; replace q1 := hx.cell q1; replace z1 := cell_lt q0; replace p0 := hx.cell p0; replace p1 := hx.cell p1; replace p2 := hx.cell p2; replace p3 := hx.cell p3; replace hxs := hxs.ext hx; replace x1 := x1.trans hx; replace hl := hl.ext hx; clear hx)
      clear hform f0 f1
      go_simp
      go_wp2_with fail
      refine (Fewest_any _ _ l mk _ hl hmk).mono ?_
      rw [g2]
      rintro e w9 ⟨u, rfl, -, hx⟩
      replace ho := ho.ext hx
      (replace hb := hb.ext hx; replace q0 := hx.cell q0; replace q1 := hx.cell q1; replace z1 := cell_lt q0; replace p0 := hx.cell p0; replace p1 := hx.cell p1; replace p2 := hx.cell p2; replace p3 := hx.cell p3; replace hxs := hxs.ext hx; replace x1 := x1.trans hx; replace hl := hl.ext hx; clear hx)
      have hfar : ¬ ((fewManyM l mk : Nat) : Int) < (c : Int) := by have := Hcost.out; omega
      have hf30 := few_le30 l mk h15 (lettErr_ok g1).1
      have hc30 : c ≤ 30 := by have := Hcost.out; omega
      clear hf30
      generalize fewManyM l mk = far at *
      clear hmk g1 g2 g3
      have hc0 : ¬ (c : Int) < 0 := by omega
      go_wp2_with fail
      refine (has_any _ _ (ofM s l) _ ho).mono ?_
      rw [Hof.out]
      rintro e w10 ⟨rfl, hx⟩
      (replace hb := hb.ext hx; replace q0 := hx.cell q0; replace q1 := hx.cell q1; replace z1 := cell_lt q0; replace p0 := hx.cell p0; replace p1 := hx.cell p1; replace p2 := hx.cell p2; replace p3 := hx.cell p3; replace hxs := hxs.ext hx; replace x1 := x1.trans hx; replace hl := hl.ext hx; clear hx)
      clear ho
      have hbb : ∃ bb, ((c : Int) == 0) = bb := ⟨_, rfl⟩
      obtain ⟨bb, hbb⟩ := hbb
      rw [hbb]
      by_cases hl0 : l.length = 0
      · have hl0' : ((l.length : Int) == 0) = true := by rw [hl0]; rfl
        clear hl0
        cases bb
        all_goals
          go_wp2_with fail
          refine (awakeL_any _).mono ?_
          rintro e w11 ⟨rfl, hx⟩
          go_wp2
          go_ret
          exact ⟨rfl, x1.trans hx⟩
      · have hl0' : ((l.length : Int) == 0) = false := by simpa using hl0
        have mq := mod_nat xa l.length
        have ql : xa % l.length < l.length := Nat.mod_lt _ (by omega)
        generalize xa % l.length = q at *
        have wq : IntKind.i64.wrap (q : Int) = q := IntWalk.i64_in _ (by omega)
        have wx : IntKind.i64.wrap (xa : Int) = xa := IntWalk.i64_in _ (by omega)
        obtain ⟨lb, lo, rfl, -⟩ := SliceAt.get hl (by omega : 0 < l.length)
        have HL0 := Lib.hid hl0
        clear hl0
        cases bb
        all_goals
          go_upto_region 14 with fail
          refine mended_r14 hl ql h15 _ ?_
          intro v20 v124 v125 v126 v127 v128 v129 v130 v131 v132 v133 w11 hrow hx
          obtain ⟨⟨d1, d2, d3⟩, t1, t2, t3⟩ := other_ok H3.out ql (formSlotsM f.parts)
          rw [← Hcost.out] at d2 d3 t2 t3
          have wc1 : IntKind.i64.wrap ((c : Int) - 1) = (c : Int) - 1 := IntWalk.i64_in _ (by omega)
          have wc2 : IntKind.i64.wrap ((c : Int) + 1) = (c : Int) + 1 := IntWalk.i64_in _ (by omega)
          have hrow' : RowW w10.heap.size (dropW l q) v20 w11 := hrow
          have hat := hrow'.at_ (fun s hs => by have := word_size ((lettErr_ok d1).2 s hs); omega)
          have D1 := Lib.hid d1
          have T1 := Lib.hid t1
          (replace hb := hb.ext hx; replace q0 := hx.cell q0; replace q1 := hx.cell q1; replace z1 := cell_lt q0; replace p0 := hx.cell p0; replace p1 := hx.cell p1; replace p2 := hx.cell p2; replace p3 := hx.cell p3; replace hxs := hxs.ext hx; replace x1 := x1.trans hx; replace hl := hl.ext hx; clear hx)
          clear hrow hrow' d1 t1
          cases xt
          · obtain ⟨da, dc, rfl, -⟩ := hat.shape
            obtain ⟨m1, m2⟩ := Hmo.out _ D1.out
            have hme := fun w' v1 v2 (x1 : ShelfAt w' v1 s) (x2 : StrsAt w' v2 (dropW l q)) => Mend_any v1 v2 s k hkI (dropW l q) w' x1 x2
            rw [m1, m2] at hme
            generalize (costM (dropW l q) (formSlotsM f.parts)).2 = c2 at *
            generalize (costM (turnW l q) (formSlotsM f.parts)).2 = c3 at *
            have hin : inM (c2 : Int) ((c : Int) - 1) ((c : Int) + 1) = true := by unfold inM; rw [Bool.and_eq_true]; exact ⟨decide_eq_true (by omega), decide_eq_true (by omega)⟩
            have Hin := Lib.hid hin
            clear m1 m2 hin d2 d3 t2 t3
            go_wp2_with fail
            refine (hme _ _ _ hb hat).mono ?_
            rintro e w12 ⟨rfl, hx⟩
            replace x1 := x1.trans hx
            clear hx hat hme hb hl
            go_wp2_with fail
            refine (In_any _ _ _ _).mono ?_
            rw [Hin.out]
            rintro e w13 ⟨rfl, rfl⟩
            go_wp2_with fail
            refine (awakeL_any _).mono ?_
            rintro e w14 ⟨rfl, hx⟩
            go_wp2
            go_ret
            exact ⟨rfl, x1.trans hx⟩
          · go_upto_region 16 with fail
            refine mended_r16 hl ql h15 _ ?_
            intro y20 y136 y137 y138 y139 y140 y141 y142 y143 y144 y145 y146 y147 w12 hrow hx
            have hat := hrow.at_ (fun s hs => by have := word_size ((lettErr_ok T1.out).2 s hs); omega)
            (replace hb := hb.ext hx; replace q0 := hx.cell q0; replace q1 := hx.cell q1; replace z1 := cell_lt q0; replace p0 := hx.cell p0; replace p1 := hx.cell p1; replace p2 := hx.cell p2; replace p3 := hx.cell p3; replace hxs := hxs.ext hx; replace x1 := x1.trans hx; replace hl := hl.ext hx; clear hx)
            clear hrow
            obtain ⟨da, dc, rfl, -⟩ := hat.shape
            obtain ⟨m1, m2⟩ := Hmo.out _ T1.out
            have hme := fun w' v1 v2 (x1 : ShelfAt w' v1 s) (x2 : StrsAt w' v2 (turnW l q)) => Mend_any v1 v2 s k hkI (turnW l q) w' x1 x2
            rw [m1, m2] at hme
            generalize (costM (dropW l q) (formSlotsM f.parts)).2 = c2 at *
            generalize (costM (turnW l q) (formSlotsM f.parts)).2 = c3 at *
            have hin : inM (c3 : Int) ((c : Int) - 1) ((c : Int) + 1) = true := by unfold inM; rw [Bool.and_eq_true]; exact ⟨decide_eq_true (by omega), decide_eq_true (by omega)⟩
            have Hin := Lib.hid hin
            clear m1 m2 hin d2 d3 t2 t3
            go_wp2_with fail
            refine (hme _ _ _ hb hat).mono ?_
            rintro e w13 ⟨rfl, hx⟩
            replace x1 := x1.trans hx
            clear hx hat hme hb hl
            go_wp2_with fail
            refine (In_any _ _ _ _).mono ?_
            rw [Hin.out]
            rintro e w14 ⟨rfl, rfl⟩
            go_wp2_with fail
            refine (awakeL_any _).mono ?_
            rintro e w15 ⟨rfl, hx⟩
            go_wp2
            go_ret
            exact ⟨rfl, x1.trans hx⟩
end Go.Proofs.YtgcibmdohifiaaaGreat
