/-
  THE RULE FOR A REGION THAT DRAWS ITS ORDER, WITH A PIVOT: one operation with which each other one is in order (it waits for it, or is waited for), and that may turn more than the others do. Over any program.
  WHAT IS KEPT ACROSS A ROUND OF A LOOP OVER AN ITERATOR: all cells but those of some blocks, the loop's own variables.
  THE ITERATOR OF THE WAYS IN WHICH A LETTER IS OF A FORM: its inner function, which divides what is left of the letter among the parts that are left.
  THE ITERATOR OF THE WAYS IN WHICH A LETTER IS OF A FORM, whole: what ways returns, and what that yields.
-/
import Derived.Test.YtcamegaimleomaaGreatBunAA
import Derived.OrdersIn
import Derived.OwnWalkIn
import Derived.Test.YtcamegaimleomaaGreatBunAE
namespace Go.Proofs.YtcamegaimleomaaGreat
set_option linter.unusedSimpArgs false
set_option linter.unusedVariables false
open Go.RowKit
namespace Facts.Piv

variable {P : Program} {ops : Array Oper}

def pivotB (ops : Array Oper) (p : Nat) : Bool := (List.range ops.size).all fun j => decide (j = p) || (depsOf ops ops.size p).contains j || (depsOf ops ops.size j).contains p
theorem pivotB_spec {p : Nat} (h : pivotB ops p = true) : ∀ j, j < ops.size → j ≠ p → j ∈ depsOf ops ops.size p ∨ p ∈ depsOf ops ops.size j := by
  intro j hj hne
  simp only [pivotB, List.all_eq_true, List.mem_range, Bool.or_eq_true, decide_eq_true_eq, List.contains_iff_mem] at h
  rcases h j hj with (h | h) | h
  · exact absurd h hne
  · exact .inl h
  · exact .inr h
/-- two relations of worlds: what each operation keeps, and what the pivot keeps -/
structure Two (E C : World → World → Prop) : Prop where
  sub : ∀ a b, E a b → C a b
  te : ∀ a b c, E a b → E b c → E a c
  tc : ∀ a b c, C a b → C b c → C a c
  r : ∀ a, E a a
  d : ∀ a : World, E a a.drew

/-- an operation, and a region in whatever order, none of which asks for room -/
def opS (P : Program) (ops : Array Oper) (Q : Exit → Act → World → Prop) (i : Nat) (K : Act → World → Prop) (a : Act) (w : World) : Prop :=
  match ops[i]? with
  | none => K a w
  | some o => if Region.wanted o (yielded ops a.tmps) then o.wp P a w K Q else K (a.put o.dst undef) w
def anyS (P : Program) (ops : Array Oper) (Q : Exit → Act → World → Prop) : Nat → Array Bool → Act → World → Prop
  | 0, listed, a, w => Region.ready .any ops listed = [] ∧ Q .normal a w
  | fuel + 1, listed, a, w =>
    (Region.ready .any ops listed = [] → Q .normal a w) ∧
    ∀ i ∈ Region.ready .any ops listed, opS P ops Q i (anyS P ops Q fuel (listed.setIfInBounds i true)) a w
theorem opS_of_stepG {i : Nat} {o : Oper} {a : Act} {w : World} {S : Value → World → Prop} {Q : Exit → Act → World → Prop} {K : Act → World → Prop} (hi : ops[i]? = some o) (h : stepG P ops o a w S)
    (hK : ∀ v w', S v w' → K (a.put o.dst v) w') : opS P ops Q i K a w := by
  unfold opS
  simp only [hi]
  unfold stepG at h
  split
  · rename_i hw
    rw [if_pos hw] at h
    unfold Oper.wp
    generalize (execOp a.eval o).run P w = r at *
    cases r with
    | halt x w' => exact h.elim
    | ok n w' =>
      cases n <;> simp only [upon] at h <;> simp only [Oper.upon]
      case value v => exact hK _ _ h
      case skip => exact hK _ _ h
      case enter f args => exact h.mono fun e w'' ⟨v, he, hs⟩ => by subst he; exact hK _ _ hs
  · rename_i hw
    rw [if_neg hw] at h
    exact hK _ _ h
theorem opS_mono {i : Nat} {a : Act} {w : World} {Q : Exit → Act → World → Prop} {K K' : Act → World → Prop} (hk : ∀ a w, K a w → K' a w) (h : opS P ops Q i K a w) : opS P ops Q i K' a w := by
  unfold opS at *
  cases ho : ops[i]? with
  | none => rw [ho] at h; exact hk _ _ h
  | some o =>
    rw [ho] at h
    simp only at h ⊢
    split
    · rename_i hw; rw [if_pos hw] at h; exact Oper.wp_mono hk h
    · rename_i hw; rw [if_neg hw] at h; exact hk _ _ h
theorem any_of_anyS {Q : Exit → Act → World → Prop} : ∀ (fuel : Nat) (listed : Array Bool) (a : Act) (w : World), anyS P ops Q fuel listed a w → wpAny P .any ops Q fuel listed a w
  | 0, _, _, _, h => h
  | fuel + 1, listed, a, w, h => by
    refine ⟨h.1, fun i hi => ?_⟩
    have h1 := opS_mono (fun a w => any_of_anyS fuel _ a w) (h.2 i hi)
    unfold opS at h1
    unfold wpOp
    cases ho : ops[i]? with
    | none => rw [ho] at h1; exact h1
    | some o =>
      rw [ho] at h1
      simp only at h1 ⊢
      split
      · rename_i hw; rw [if_pos hw] at h1; exact .inl h1
      · rename_i hw; rw [if_neg hw] at h1; exact h1

theorem any_facts {E C : World → World → Prop} (T : Two E C) (p : Nat) (hp : pivotB ops p = true) {Q : Exit → Act → World → Prop} {a : Act} {w : World} (Φ : Nat → Value → World → Prop) (fix : Nat → Option Value) (hfix : ∀ i v u w, fix i = some v → Φ i u w → u = v) (hB : okB ops = true)
    (hkeep : ∀ i u w1 w2, i < ops.size → E w1 w2 → Φ i u w1 → Φ i u w2) (hkeepC : ∀ i u w1 w2, i < ops.size → (depsOf ops ops.size p).contains i = true → C w1 w2 → Φ i u w1 → Φ i u w2)
    (hops : ∀ i o, ops[i]? = some o → ∀ (vs : Nat → Value) w1, (∀ j v, fix j = some v → vs j = v) → ((depsOf ops ops.size i).contains p = false → E w w1) → C w w1 → (∀ j ∈ depsOf ops ops.size i, Φ j (vs j) w1) → stepG P ops o (acts ops a vs (fun _ => true) i) w1 (fun u w2 => (if i = p then C w1 w2 else E w1 w2) ∧ Φ i u w2))
    (hend : ∀ (vs : Nat → Value) w1, (∀ j v, fix j = some v → vs j = v) → C w w1 → (∀ i, i < ops.size → Φ i (vs i) w1) → Q .normal (acts ops a vs (fun _ => true) ops.size) w1) : anyS P ops Q ops.size (Array.replicate ops.size false) a { w with drawn := w.drawn + 1 } := by
  have hsel : ∀ (j : Nat) (o : Oper) cs b, ops[j]? = some o → o.op ≠ .select cs b := by
    have h2 := hB
    simp only [okB, Bool.and_eq_true] at h2
    exact Region.noSelect_spec h2.1
  suffices key : ∀ (fuel : Nat) (listed : Array Bool) (vs : Nat → Value) (w1 : World), (∀ j v, fix j = some v → vs j = v) → listed.size = ops.size → listed.toList.count true + fuel = ops.size → (listed.getD p false = false → E w w1) → C w w1 →
      (∀ j, listed.getD j false = true → ∀ i ∈ direct ops j, listed.getD i false = true) → (∀ j, j < ops.size → listed.getD j false = true → Φ j (vs j) w1) →
      anyS P ops Q fuel listed (acts ops a vs (fun j => listed.getD j false) ops.size) w1 by
    have h0 := key ops.size (Array.replicate ops.size false) (fun j => (fix j).getD undef) { w with drawn := w.drawn + 1 } (fun j v h => by simp [h]) (by simp) (by simp [List.count_replicate]) (fun _ => T.d w) (T.sub _ _ (T.d w))
      (fun j hj => by rw [getD_rep] at hj; cases hj) (fun j _ hj => by rw [getD_rep] at hj; cases hj)
    have e : acts ops a (fun j => (fix j).getD undef) (fun j => (Array.replicate ops.size false).getD j false) ops.size = a := by
      have : ∀ n, acts ops a (fun j => (fix j).getD undef) (fun j => (Array.replicate ops.size false).getD j false) n = a := by
        intro n
        induction n with
        | zero => rfl
        | succ n ih => simp only [acts]; rw [if_neg (by rw [getD_rep]; exact Bool.false_ne_true)]; exact ih
      exact this _
    rw [e] at h0
    exact h0
  intro fuel
  have hdone : ∀ (listed : Array Bool) (vs : Nat → Value) (w1 : World), (∀ j v, fix j = some v → vs j = v) → (∀ j, j < ops.size → listed.getD j false = true) → C w w1 → (∀ j, j < ops.size → listed.getD j false = true → Φ j (vs j) w1) →
      Q .normal (acts ops a vs (fun j => listed.getD j false) ops.size) w1 := by
    intro listed vs w1 hfx hall hx hΦ
    have := hend vs w1 hfx hx fun i hi => hΦ i hi (hall i hi)
    rwa [acts_congr a vs vs (fun _ => true) (fun j => listed.getD j false) ops.size fun j hj => ⟨(hall j hj).symm, fun _ => rfl⟩] at this
  induction fuel with
  | zero =>
    intro listed vs w1 hfx hsz hc hxE hx hcl hΦ
    have hall : ∀ j, j < ops.size → listed.getD j false = true := by
      intro j hj
      have hlen : listed.toList.count true = listed.toList.length := by simp only [Array.length_toList]; omega
      have := List.count_eq_length.1 hlen (listed[j]'(by omega)) (by simp)
      rw [Array.getD_eq_getD_getElem?, Array.getElem?_eq_getElem (by omega)]
      exact this.symm
    refine ⟨?_, hdone listed vs w1 hfx hall hx hΦ⟩
    rw [List.eq_nil_iff_forall_not_mem]
    intro i hi
    have hi1 := (mem_ready.1 hi)
    obtain ⟨o, ho, -⟩ := hi1.2
    have hlt : i < ops.size := (Array.getElem?_eq_some_iff.1 ho).1
    have h1 := hall i hlt
    have h2 := hi1.1
    rw [Array.getD_eq_getD_getElem?, Array.getElem?_eq_getElem (by omega)] at h1 h2
    simp only [Option.getD_some] at h1 h2
    rw [h1] at h2; cases h2
  | succ fuel ih =>
    intro listed vs w1 hfx hsz hc hxE hx hcl hΦ
    refine ⟨fun h => hdone listed vs w1 hfx (all_listed hB hsz h) hx hΦ, fun i hi => ?_⟩
    obtain ⟨hi0, o, ho, hafter⟩ := mem_ready.1 hi
    have hlt : i < ops.size := (Array.getElem?_eq_some_iff.1 ho).1
    have hnot : listed.getD i false = false := by
      rw [Array.getD_eq_getD_getElem?, Array.getElem?_eq_getElem (by omega)] at hi0 ⊢
      exact hi0
    have hdir := direct_ready ho hafter
    have hdeps := dep_in hcl ops.size i hdir
    have hdl : ∀ j ∈ depsOf ops ops.size i, j < ops.size := fun j hj => by
      have := hdeps j hj
      rcases Nat.lt_or_ge j listed.size with h' | h'
      · omega
      · simp [Array.getD_eq_getD_getElem?, Array.getElem?_eq_none h'] at this
    have hnp : (depsOf ops ops.size i).contains p = false → i ≠ p → listed.getD p false = false := fun hcp hip => by
      cases hlp : listed.getD p false with
      | false => rfl
      | true =>
        exfalso
        rcases pivotB_spec hp i hlt hip with h | h
        · have := dep_in hcl ops.size p (hcl p hlp) i h
          rw [hnot] at this; cases this
        · rw [← List.contains_iff_mem, hcp] at h; cases h
    have hxE' : (depsOf ops ops.size i).contains p = false → E w w1 := fun hcp => by
      by_cases hip : i = p
      · exact hxE (by rw [← hip]; exact hnot)
      · exact hxE (hnp hcp hip)
    have hst := hops i o ho vs w1 hfx hxE' hx fun j hj => hΦ j (hdl j hj) (hdeps j hj)
    -- a later one that has come up is apart from this one
    have hlater : ∀ j, i < j → j < ops.size → listed.getD j false = true → apartB ops i j = true := fun j h1 h2 h3 =>
      ((okB_spec hB j h2).2 i h1).resolve_right fun hmem => by
        have := dep_in hcl ops.size j (hcl j h3) i hmem
        rw [hnot] at this; cases this
    have hearlier : ∀ j, j < i → listed.getD j false = false → apartB ops j i = true := fun j h1 h3 =>
      ((okB_spec hB i hlt).2 j h1).resolve_right fun hmem => by
        have := hdeps j hmem
        rw [h3] at this; cases this
    have hacts : ∀ n, i ≤ n → n ≤ ops.size → ∀ t, t ∈ o.looksAt ops → (acts ops a vs (fun j => listed.getD j false) n).tmps[t]? = (acts ops a vs (fun _ => true) i).tmps[t]? := by
      intro n hin
      obtain ⟨k, rfl⟩ := Nat.exists_eq_add_of_le hin
      clear hin
      induction k with
      | zero =>
        intro _ t ht
        refine acts_slot a vs _ _ t i fun j hj hd => ?_
        cases hl : listed.getD j false with
        | true => rfl
        | false =>
          have hap := hearlier j hj hl
          have hoj : ops[j]? = some (ops[j]'(by omega)) := by simp [show j < ops.size from by omega]
          rw [hoj] at hd
          simp only [apartB, hoj, ho] at hap
          exact absurd ht ((Oper.apart_spec hap).1 t hd)
      | succ k ih2 =>
        intro hle t ht
        have ih2 := ih2 (by omega) t ht
        obtain ⟨n, hn⟩ : ∃ n, n = i + k := ⟨_, rfl⟩
        rw [← hn] at ih2
        rw [show i + (k + 1) = n + 1 from by omega]
        simp only [acts]
        by_cases hl : listed.getD n false = true
        · rw [if_pos hl]
          have hni : i ≠ n := fun e => by subst e; rw [hnot] at hl; cases hl
          have hap := hlater n (by omega) (by omega) hl
          have hon : ops[n]? = some (ops[n]'(by omega)) := by simp [show n < ops.size from by omega]
          simp only [apartB, hon, ho] at hap
          rw [put_other _ _ _ _ (fun hd => (Oper.apart_spec hap).2.2 t (by rw [hon] at hd; exact hd) ht)]
          exact ih2
        · rw [if_neg hl]; exact ih2
    have hst2 : stepG P ops o (acts ops a vs (fun j => listed.getD j false) ops.size) w1 (fun u w2 => (if i = p then C w1 w2 else E w1 w2) ∧ Φ i u w2) :=
      stepG_same (hsel i o · · ho) (fun t ht => (hacts ops.size (by omega) (Nat.le_refl _) t ht).symm) hst
    refine opS_of_stepG ho hst2 ?_
    rintro v w2 ⟨hx2, hv⟩
    have hod : (ops[i]?).bind (·.dst) = o.dst := by rw [ho]; rfl
    rw [← hod, acts_put a vs (fun j => listed.getD j false) i v hnot ops.size hlt (fun j h1 h2 h3 d hd hd2 => by
      have hap := hlater j h1 h2 h3
      have hoj : ops[j]? = some (ops[j]'h2) := by simp [h2]
      simp only [apartB, hoj, ho] at hap
      rw [ho] at hd; rw [hoj] at hd2
      exact (Oper.apart_spec hap).2.1 d hd hd2)]
    have hget : ∀ j, (listed.setIfInBounds i true).getD j false = (listed.getD j false || decide (j = i)) := by
      intro j
      by_cases hji : j = i
      · subst hji; simp [Array.getD_eq_getD_getElem?, show j < listed.size from by omega]
      · rw [getD_set_ne false (Ne.symm hji)]; simp [hji]
    have := ih (listed.setIfInBounds i true) (fun j => if j = i then v else vs j) w2 (fun j u hj => by
        by_cases hji : j = i
        · subst hji; simpa using hfix j u v w2 hj hv
        · simpa [hji] using hfx j u hj) (by simpa using hsz) (by
        rw [Array.toList_setIfInBounds, List.count_set (by simpa using (by omega : i < listed.size))]
        have e : (listed.toList[i]'(by simpa using (by omega : i < listed.size))) = false := by
          rw [Array.getD_eq_getD_getElem?, Array.getElem?_eq_getElem (by omega)] at hnot
          simpa using hnot
        have e' : (listed.toList[i]'(by simpa using (by omega : i < listed.size)) == true) = false := by rw [e]; rfl
        rw [e']; simp only [Bool.false_eq_true, if_false, beq_self_eq_true, if_true]; omega) (fun hl => by
          rw [hget] at hl
          simp only [Bool.or_eq_false_iff, decide_eq_false_iff_not] at hl
          rw [if_neg (fun e => hl.2 e.symm)] at hx2
          exact T.te _ _ _ (hxE hl.1) hx2) (by
          split at hx2
          · exact T.tc _ _ _ hx hx2
          · exact T.tc _ _ _ hx (T.sub _ _ hx2))
      (by
        intro j hj k hk
        rw [hget] at hj ⊢
        by_cases hji : j = i
        · subst hji; rw [hdir k hk]; rfl
        · simp only [hji, decide_false, Bool.or_false] at hj
          rw [hcl j hj k hk]; rfl)
      (by
        intro j hj hl
        by_cases hji : j = i
        · subst hji; simpa using hv
        · rw [hget] at hl
          simp only [hji, decide_false, Bool.or_false] at hl
          simp only [hji, if_false]
          split at hx2
          · rename_i hip
            subst hip
            refine hkeepC j _ _ _ hj ?_ hx2 (hΦ j hj hl)
            rw [List.contains_iff_mem]
            refine (pivotB_spec hp j hj hji).resolve_right fun h => ?_
            have := dep_in hcl ops.size j (hcl j hl) i h
            rw [hnot] at this; cases this
          · exact hkeep j _ _ _ hj hx2 (hΦ j hj hl))
    have e2 : (fun j => (listed.setIfInBounds i true).getD j false) = fun j => listed.getD j false || decide (j = i) := funext hget
    rw [e2] at this
    exact this

def Walk (E C : World → World → Prop) (p : Nat) (P : Program) (ops : Array Oper) (w : World) (Q : Exit → Act → World → Prop) : Nat → List Oper → List Spec → List (Nat × (World → Prop)) → Act → Prop
  | _, [], _, env, a => ∀ w1, C w w1 → (∀ j f, (j, f) ∈ env → f w1) → Q .normal a w1
  | _, _ :: _, [], _, _ => False
  | i, o :: rest, .val v :: ss, env, a => (∀ w1, ((depsOf ops ops.size i).contains p = false → E w w1) → C w w1 → Have ops i env w1 → stepG P ops o a w1 (fun u w2 => (if i = p then C w1 w2 else E w1 w2) ∧ u = v)) ∧ Walk E C p P ops w Q (i + 1) rest ss env (a.put o.dst v)
  | i, o :: rest, .fact f :: ss, env, a => (∀ w1, ((depsOf ops ops.size i).contains p = false → E w w1) → C w w1 → Have ops i env w1 → stepG P ops o a w1 (fun u w2 => (if i = p then C w1 w2 else E w1 w2) ∧ f u w2)) ∧ ∀ u, Walk E C p P ops w Q (i + 1) rest ss ((i, f u) :: env) (a.put o.dst u)

def keepsS (E C : World → World → Prop) (ops : Array Oper) (p : Nat) : Nat → List Spec → Prop
  | _, [] => True
  | i, .val _ :: r => keepsS E C ops p (i + 1) r
  | i, .fact f :: r => (∀ u w1 w2, E w1 w2 → f u w1 → f u w2) ∧ ((depsOf ops ops.size p).contains i = true → ∀ u w1 w2, C w1 w2 → f u w1 → f u w2) ∧ keepsS E C ops p (i + 1) r
theorem keepsS_get {E C : World → World → Prop} {p : Nat} : ∀ (ss : List Spec) (k i : Nat) (s : Spec), keepsS E C ops p k ss → ss[i]? = some s →
    (∀ u w1 w2, E w1 w2 → s.holds u w1 → s.holds u w2) ∧ ((depsOf ops ops.size p).contains (k + i) = true → ∀ u w1 w2, C w1 w2 → s.holds u w1 → s.holds u w2)
  | [], _, _, _, _, h => by simp at h
  | .val v :: r, k, 0, s, _, h => by simp at h; subst h; exact ⟨fun _ _ _ _ h => h, fun _ _ _ _ _ h => h⟩
  | .val v :: r, k, i + 1, s, hk, h => by
    have := keepsS_get r (k + 1) i s hk (by simpa using h)
    rwa [show k + 1 + i = k + (i + 1) from by omega] at this
  | .fact f :: r, k, 0, s, hk, h => by simp at h; subst h; exact ⟨hk.1, hk.2.1⟩
  | .fact f :: r, k, i + 1, s, hk, h => by
    have := keepsS_get r (k + 1) i s hk.2.2 (by simpa using h)
    rwa [show k + 1 + i = k + (i + 1) from by omega] at this

theorem walk_at {E C : World → World → Prop} {p : Nat} {w : World} {Q : Exit → Act → World → Prop} {a0 : Act} (ss : List Spec) (vs : Nat → Value) (hfx : ∀ j s v, ss[j]? = some s → s.fixed = some v → vs j = v) :
    ∀ (n k : Nat) (rest : List Oper) (env : List (Nat × (World → Prop))) (a : Act), n + k = ops.size → (∀ j, rest[j]? = ops[k + j]?) → rest.length = n → a = acts ops a0 vs (fun _ => true) k →
      (∀ j q, (j, q) ∈ env → ∃ f, ss[j]? = some (.fact f) ∧ j < k ∧ q = f (vs j)) → (∀ j f, ss[j]? = some (.fact f) → j < k → (j, f (vs j)) ∈ env) → Walk E C p P ops w Q k rest (ss.drop k) env a →
      (∀ i o, k ≤ i → ops[i]? = some o → ∃ s, ss[i]? = some s ∧ ∀ w1, ((depsOf ops ops.size i).contains p = false → E w w1) → C w w1 → (∀ j ∈ depsOf ops ops.size i, j < i → ∀ s, ss[j]? = some s → s.holds (vs j) w1) → stepG P ops o (acts ops a0 vs (fun _ => true) i) w1 (fun u w2 => (if i = p then C w1 w2 else E w1 w2) ∧ s.holds u w2)) ∧
      (∀ w1, C w w1 → (∀ i s, i < ops.size → ss[i]? = some s → s.holds (vs i) w1) → Q .normal (acts ops a0 vs (fun _ => true) ops.size) w1) := by
  intro n
  induction n with
  | zero =>
    intro k rest env a hk hr hl ha henv henv2 hw
    obtain rfl : rest = [] := List.length_eq_zero_iff.1 hl
    have e : k = ops.size := by omega
    subst e
    refine ⟨fun i o hi ho => by have := (Array.getElem?_eq_some_iff.1 ho).1; omega, fun w1 hx hall => ?_⟩
    simp only [Walk] at hw
    rw [← ha]
    refine hw w1 hx fun j q hq => ?_
    obtain ⟨f, hf, hj, rfl⟩ := henv j q hq
    exact hall j _ hj hf
  | succ n ih =>
    intro k rest env a hk hr hl ha henv henv2 hw
    obtain ⟨o, rest, rfl⟩ : ∃ o r, rest = o :: r := by cases rest with | nil => simp at hl | cons o r => exact ⟨o, r, rfl⟩
    have hok : ops[k]? = some o := by simpa using (hr 0).symm
    have hact : ∀ v, vs k = v → a.put o.dst v = acts ops a0 vs (fun _ => true) (k + 1) := fun v hv => by
      simp only [acts, if_true]; rw [← ha, hok, hv]; rfl
    cases hs : ss[k]? with
    | none =>
      rw [List.drop_eq_nil_of_le (by rcases Nat.lt_or_ge k ss.length with h | h; · rw [List.getElem?_eq_getElem h] at hs; cases hs
                                     · exact h)] at hw
      simp only [Walk] at hw
    | some s =>
      have hlt : k < ss.length := (List.getElem?_eq_some_iff.1 hs).1
      rw [List.drop_eq_getElem_cons hlt, (List.getElem?_eq_some_iff.1 hs).2] at hw
      have hlean : ∀ w1, (∀ j ∈ depsOf ops ops.size k, j < k → ∀ s, ss[j]? = some s → s.holds (vs j) w1) → Have ops k env w1 := by
        intro w1 h j q hq hc
        obtain ⟨f, hf, hj, rfl⟩ := henv j q hq
        exact h j (by simpa using hc) hj _ hf
      have hr' : ∀ j, rest[j]? = ops[k + 1 + j]? := fun j => by have := hr (j + 1); simpa [Nat.add_assoc, Nat.add_comm 1 j] using this
      cases s with
      | val v =>
        simp only [Walk] at hw
        have hv : vs k = v := hfx k _ v hs rfl
        obtain ⟨h1, h2⟩ := ih (k + 1) rest env _ (by omega) hr' (by simpa using hl) (hact v hv) (fun j q hq => by obtain ⟨f, hf, hj, e⟩ := henv j q hq; exact ⟨f, hf, by omega, e⟩)
          (fun j f hf hj => henv2 j f hf (by rcases Nat.lt_or_ge j k with h | h; · exact h
                                             · obtain rfl : j = k := by omega
                                               rw [hs] at hf; cases hf)) hw.2
        refine ⟨fun i o' hi ho => ?_, h2⟩
        rcases Nat.lt_or_ge k i with h | h
        · exact h1 i o' (by omega) ho
        · obtain rfl : i = k := by omega
          rw [hok] at ho; cases ho
          exact ⟨_, hs, fun w1 hE hx hd => by rw [← ha]; exact hw.1 w1 hE hx (hlean w1 hd)⟩
      | fact f =>
        simp only [Walk] at hw
        obtain ⟨h1, h2⟩ := ih (k + 1) rest ((k, f (vs k)) :: env) _ (by omega) hr' (by simpa using hl) (hact (vs k) rfl) (fun j q hq => by
            rcases List.mem_cons.1 hq with e | hq
            · cases e; exact ⟨f, hs, by omega, rfl⟩
            · obtain ⟨f, hf, hj, e⟩ := henv j q hq; exact ⟨f, hf, by omega, e⟩)
          (fun j g hg hj => by
            rcases Nat.lt_or_ge j k with h | h
            · exact List.mem_cons_of_mem _ (henv2 j g hg h)
            · obtain rfl : j = k := by omega
              rw [hs] at hg; cases hg
              exact List.mem_cons_self) (hw.2 (vs k))
        refine ⟨fun i o' hi ho => ?_, h2⟩
        rcases Nat.lt_or_ge k i with h | h
        · exact h1 i o' (by omega) ho
        · obtain rfl : i = k := by omega
          rw [hok] at ho; cases ho
          exact ⟨_, hs, fun w1 hE hx hd => by rw [← ha]; exact hw.1 w1 hE hx (hlean w1 hd)⟩

/-- THE RULE, for a region whose operations are written out: a spec for each operation, the walk in the text's order. -/
theorem any_region {E C : World → World → Prop} (T : Two E C) (p : Nat) {Q : Exit → Act → World → Prop} {a : Act} {w : World} {l : List Oper} (ss : List Spec) (hB : okB l.toArray = true) (hpv : pivotB l.toArray p = true) (hk : keepsS E C l.toArray p 0 ss)
    (h : Walk E C p P l.toArray w Q 0 l ss [] a) : anyS P l.toArray Q l.toArray.size (Array.replicate l.toArray.size false) a { w with drawn := w.drawn + 1 } := by
  have base := fun vs hfx => walk_at (E := E) (C := C) (p := p) (P := P) (ops := l.toArray) (w := w) (Q := Q) (a0 := a) ss vs hfx l.length 0 l [] a (by simp) (by simp) rfl rfl (fun _ _ h => by cases h) (fun _ _ _ h => by omega) h
  refine any_facts T p hpv (fun i => match ss[i]? with | some s => s.holds | none => fun _ _ => False) (fun i => (ss[i]?).bind Spec.fixed) ?_ hB ?_ ?_ ?_ ?_
  · intro i v u w hv hu
    cases hs : ss[i]? with
    | none => simp [hs] at hv
    | some s => cases s with
      | val x => simp only [hs, Option.bind_some, Spec.fixed, Option.some.injEq] at hv; subst hv; simpa [hs, Spec.holds] using hu
      | fact f => simp [hs, Spec.fixed] at hv
  · intro i u w1 w2 _ hx hu
    cases hs : ss[i]? with
    | none => simp [hs] at hu
    | some s => simp only [hs] at hu ⊢; exact (keepsS_get ss 0 i s hk hs).1 u w1 w2 hx hu
  · intro i u w1 w2 _ hc hx hu
    cases hs : ss[i]? with
    | none => simp [hs] at hu
    | some s => simp only [hs] at hu ⊢; exact (keepsS_get ss 0 i s hk hs).2 (by rw [Nat.zero_add]; exact hc) u w1 w2 hx hu
  · intro i o ho vs w1 hfx hE hx hd
    obtain ⟨h1, -⟩ := base vs fun j s v hs hv => hfx j v (by simp [hs, hv])
    obtain ⟨s, hs, hst⟩ := h1 i o (Nat.zero_le _) ho
    simp only [hs]
    refine hst w1 hE hx fun j hj _ s' hs' => ?_
    have := hd j hj
    simpa only [hs'] using this
  · intro vs w1 hfx hx hall
    obtain ⟨-, h2⟩ := base vs fun j s v hs hv => hfx j v (by simp [hs, hv])
    refine h2 w1 hx fun i s hi hs => ?_
    have := hall i hi
    simpa only [hs] using this
theorem wp_region {E C : World → World → Prop} (T : Two E C) (p : Nat) {id : Nat} {Q : Exit → Act → World → Prop} {a : Act} {w : World} {l : List Oper} (ss : List Spec) (hm : P.follows .mixedOrders = true) (hB : okB l.toArray = true) (hpv : pivotB l.toArray p = true) (hk : keepsS E C l.toArray p 0 ss)
    (h : Walk E C p P l.toArray w Q 0 l ss [] a) : (Code.region id l.toArray true).wp P Q a w :=
  wp_region_any hm (any_of_anyS _ _ _ _ (any_region T p ss hB hpv hk h))

/-! ### The same within a fence, for operations that call nothing -/
def quietOp : Op → Bool
  | .move .. | .assign .. | .pick .. | .alloc .. | .box .. | .load .. | .store .. | .binOp .. | .unOp .. | .fieldAddr .. | .indexAddr .. | .index .. | .lookup .. | .mapEntry .. | .entryStore .. | .extract .. => true
  | _ => false
def tame : Result Next → Prop
  | .ok (.value _) _ => True
  | .ok .skip _ => True
  | .ok _ _ => False
  | .halt _ _ => True
theorem tame_v (s : Sem Value) (w : World) : tame ((do pure (.value (← s)) : Sem Next).run P w) := by
  simp only [Sem.run_bind]
  cases s.run P w <;> simp [Result.andThen, tame]
theorem tame_u (s : Sem Unit) (w : World) : tame ((do s; pure .skip : Sem Next).run P w) := by
  simp only [Sem.run_bind]
  cases s.run P w <;> simp [Result.andThen, tame]
theorem tame_exec {o : Oper} (h : quietOp o.op = true) (ρ : Operand → Value) (w : World) : tame ((execOp ρ o).run P w) := by
  obtain ⟨guard, op, dst, ty, after, pos⟩ := o
  unfold execOp
  cases op <;> simp only [quietOp, Bool.false_eq_true] at h <;> first
    | exact tame_v _ w
    | exact tame_u _ w
    | (simp [tame]; done)
    | (simp only [Sem.run_bind]; cases (asBool (ρ _)).run P w <;> simp [Result.andThen, tame]; done)
theorem wpIn_of_wp {F : Fence} {n : Nat} {o : Oper} {a : Act} {w : World} {K : Act → World → Prop} {Q : Exit → Act → World → Prop} (hq : quietOp o.op = true) (h : o.wp P a w K Q) : o.wpIn F n P a w K Q := by
  unfold Oper.wpIn
  refine ⟨fun f hf => ?_, ?_⟩
  · unfold Oper.about at hf
    cases ho : o.op <;> rw [ho] at hf hq <;> simp [quietOp] at hf hq
  · rw [Oper.semAt_plain F _ _ (fun c hc => by rw [hc] at hq; simp [quietOp] at hq)]
    have ht := tame_exec (P := P) hq a.eval w
    unfold Oper.wp at h
    generalize (execOp a.eval o).run P w = r at *
    cases r with
    | ok x w' => cases x <;> simp only [tame] at ht <;> exact h
    | halt x w' => cases x <;> simp only [Oper.upon] at h <;> simp only [Oper.uponIn] <;> exact h
theorem anyIn_of_any {F : Fence} {n : Nat} {Q : Exit → Act → World → Prop} (hq : ∀ (i : Nat) (o : Oper), ops[i]? = some o → quietOp o.op = true) : ∀ (fuel : Nat) (listed : Array Bool) (a : Act) (w : World), anyS P ops Q fuel listed a w → wpAnyIn F n P .any ops Q fuel listed a w
  | 0, _, _, _, h => h
  | fuel + 1, listed, a, w, h => by
    refine ⟨h.1, fun i hi => ?_⟩
    have h1 := opS_mono (fun a w => anyIn_of_any (F := F) (n := n) hq fuel _ a w) (h.2 i hi)
    unfold opS at h1
    unfold wpOpIn
    cases ho : ops[i]? with
    | none => rw [ho] at h1; exact h1
    | some o =>
      rw [ho] at h1
      simp only at h1 ⊢
      split
      · rename_i hw
        rw [if_pos hw] at h1
        exact wpIn_of_wp (hq i o ho) h1
      · rename_i hw
        rw [if_neg hw] at h1
        refine ⟨fun f hf => ?_, h1⟩
        have hqo := hq i o ho
        unfold Oper.about at hf
        cases hop : o.op <;> rw [hop] at hf hqo <;> simp [quietOp] at hf hqo
theorem wpIn_region {F : Fence} {n : Nat} {E C : World → World → Prop} (T : Two E C) (p : Nat) {id : Nat} {Q : Exit → Act → World → Prop} {a : Act} {w : World} {l : List Oper} (ss : List Spec) (hm : P.follows .mixedOrders = true) (hB : okB l.toArray = true) (hpv : pivotB l.toArray p = true)
    (hq : (l.all fun o => quietOp o.op) = true) (hk : keepsS E C l.toArray p 0 ss)
    (h : Walk E C p P l.toArray w Q 0 l ss [] a) : (Code.region id l.toArray true).wpIn F n P Q a w := by
  refine wpIn_region_any hm (anyIn_of_any (fun i o ho => ?_) _ _ _ _ (any_region T p ss hB hpv hk h))
  rw [List.all_eq_true] at hq
  exact hq o (List.mem_of_getElem? (i := i) (by simpa using ho))
end Facts.Piv
end Go.Proofs.YtcamegaimleomaaGreat

namespace Go.Proofs.YtcamegaimleomaaGreat
set_option linter.unusedSimpArgs false
set_option linter.unusedVariables false
open Go.RowKit
set_option linter.unusedVariables false

/-- all cells outside the blocks from lo to hi are as they were -/
structure KeptO (lo hi : Nat) (w w' : World) : Prop where
  size : w.heap.size ≤ w'.heap.size
  all : ∀ p v, (p.block < lo ∨ hi ≤ p.block) → w.cell? p = some v → w'.cell? p = some v ∧ w'.frozen? p = w.frozen? p
theorem KeptO.refl (lo hi : Nat) (w : World) : KeptO lo hi w w := ⟨Nat.le_refl _, fun _ _ _ h => ⟨h, rfl⟩⟩
theorem KeptO.trans {lo hi : Nat} {a b c : World} (h : KeptO lo hi a b) (k : KeptO lo hi b c) : KeptO lo hi a c := ⟨Nat.le_trans h.size k.size, fun p v hb hp => by
  obtain ⟨h1, h2⟩ := h.all p v hb hp
  obtain ⟨k1, k2⟩ := k.all p v hb h1
  exact ⟨k1, k2.trans h2⟩⟩
theorem Ext.kept {w w' : World} (lo hi : Nat) (h : Ext w w') : KeptO lo hi w w' := ⟨h.size, fun _ _ _ hp => ⟨h.cell hp, h.frozen (cell_lt hp)⟩⟩
theorem KeptO.cell {lo hi : Nat} {w w' : World} (h : KeptO lo hi w w') {p : Addr} {v : Value} (hb : p.block < lo ∨ hi ≤ p.block) (hc : w.cell? p = some v) : w'.cell? p = some v := (h.all p v hb hc).1
theorem KeptO.frozen {lo hi : Nat} {w w' : World} (h : KeptO lo hi w w') {p : Addr} {v : Value} (hb : p.block < lo ∨ hi ≤ p.block) (hc : w.cell? p = some v) : w'.frozen? p = w.frozen? p := (h.all p v hb hc).2
/-- a store into a block of one's own keeps what lay before -/
theorem KeptO.setNew {lo hi : Nat} {a w : World} (h : KeptO lo hi a w) {p : Addr} (hp : a.heap.size ≤ p.block) (v : Value) : KeptO lo hi a (w.setCell p v) := ⟨Nat.le_trans h.size (by simp [World.setCell]), fun q u hb hq => by
  obtain ⟨h1, h2⟩ := h.all q u hb hq
  have hne : q.block ≠ p.block := by have := cell_lt hq; omega
  have he := Below.heap_setCell w p v q.block hne
  exact ⟨(World.cell?_of_block (w := w) he).trans h1, (World.frozen?_of_block (w := w) he).trans h2⟩⟩
theorem KeptO.putObj {lo hi : Nat} {W : World} {l : Nat} {o o' : Obj} (h : W.heap[l]? = some o) (hc : o.isCells = false) : KeptO lo hi W (W.putObj l o') :=
  ⟨by simp [World.putObj], fun p v _ hp => ⟨cell_kept hp (grownBy_putObj' W l o') (fun r e => by cases e; exact ⟨o, h, hc⟩), frozen_kept hp (grownBy_putObj' W l o') (fun r e => by cases e; exact ⟨o, h, hc⟩)⟩⟩
/-- what lay in an earlier world still lies -/
def Lies (w w' : World) : Prop := ∀ p v, w.cell? p = some v → w'.cell? p = some v
theorem KeptO.lies {lo hi : Nat} {w w' : World} (h : KeptO lo hi w w') (hw : w.heap.size ≤ lo) : Lies w w' := fun p v hp => h.cell (.inl (Nat.lt_of_lt_of_le (cell_lt hp) hw)) hp
theorem Ext.lies {w w' : World} (h : Ext w w') : Lies w w' := fun _ _ hp => h.cell hp
theorem Lies.trans {a b c : World} (h : Lies a b) (k : Lies b c) : Lies a c := fun p v hp => k p v (h p v hp)
theorem SliceAt.lies {α : Type} {sz : Nat} {R : World → Nat → Nat → α → Prop} (hR : ∀ w w' b o x, Lies w w' → R w b o x → R w' b o x) {w w' : World} {v : Value} {l : List α} (h : SliceAt sz R w v l) (hx : Lies w w') : SliceAt sz R w' v l := by
  obtain ⟨a, cap, h1, h2, h3, h4⟩ := h
  exact ⟨a, cap, h1, h2, h3, fun i hi => by obtain ⟨b, off, e, r⟩ := h4 i hi; exact ⟨b, off, e, hR _ _ _ _ _ hx r⟩⟩
theorem StrsAt.lies {w w' : World} {v : Value} {l : List ByteArray} (h : StrsAt w v l) (hx : Lies w w') : StrsAt w' v l :=
  SliceAt.lies (fun _ _ _ _ _ hx h => ⟨hx _ _ h.1, h.2⟩) h hx
theorem PartsAt.lies {w w' : World} {v : Value} {l : List Part} (h : PartsAt w v l) (hx : Lies w w') : PartsAt w' v l :=
  SliceAt.lies (fun _ _ _ _ _ hx h => ⟨by obtain ⟨u, h1, h2⟩ := h.1; exact ⟨u, hx _ _ h1, h2.lies hx⟩, hx _ _ h.2.1, hx _ _ h.2.2.1, h.2.2.2⟩) h hx
/-- what lies behind the first n words -/
theorem StrsAt.drop {w : World} {a : Option Addr} {m c : Nat} {l : List ByteArray} (h : StrsAt w (.slice a m c) l) (n : Nat) (hn : n ≤ l.length) : ∀ v, (v = .slice none 0 0 ∧ l.drop n = [] ∨ ∃ b o, a = some ⟨b, o, none⟩ ∧ v = .slice (some ⟨b, o + n, none⟩) (m - n) (c - n)) → StrsAt w v (l.drop n) := by
  obtain ⟨a', c', e, h2, h3, h4⟩ := h
  obtain ⟨rfl, rfl, rfl⟩ := Value.slice.inj e
  rintro v (⟨rfl, h0⟩ | ⟨b, o, rfl, rfl⟩)
  · rw [h0]; exact SliceAt.nil
  · refine ⟨_, _, by rw [List.length_drop], by rw [List.length_drop]; omega, by omega, fun i hi => ?_⟩
    rw [List.length_drop] at hi
    obtain ⟨b', o', e', r⟩ := h4 (n + i) (by omega)
    simp only [Option.some.injEq, Addr.mk.injEq, and_true] at e'
    obtain ⟨rfl, rfl⟩ := e'
    refine ⟨b, o + n, rfl, ?_⟩
    rw [List.getElem_drop, show o + n + i * 1 = o + (n + i) * 1 by omega]
    exact r
/-- the block of a row of slots that holds something -/
theorem rowS_lie {base : Nat} {l : List Slot} {u : Value} {w : World} (h : RowS base l u w) (hn : 1 ≤ l.length) : ∃ g c, u = .slice (some ⟨g, 0, none⟩) l.length c ∧ l.length ≤ c ∧ base ≤ g ∧ ∀ i, i < l.length → w.cell? ⟨g, i * 2, none⟩ = some (.string (l.getD i noSlot).word) ∧ w.cell? ⟨g, i * 2 + 1, none⟩ = some (.bool (l.getD i noSlot).free) := by
  have hcells := fun g hg => h.cells (g := g) hg
  rcases h.2 with ⟨rfl, h0⟩ | ⟨g, cap, cur, rfl, hb, hg, hnc, hcm, hcs, htake⟩
  · omega
  · refine ⟨g, cap, rfl, hnc, hb, fun i hi => ?_⟩
    obtain ⟨c0, c1⟩ := cellsS_get l i hi
    have r0 := hcells g rfl _ _ c0
    have r1 := hcells g rfl _ _ c1
    have ea : ∀ j, (⟨g, 0, none⟩ : Addr).add j = ⟨g, 0 + j, none⟩ := fun j => by unfold Addr.add; split <;> simp_all
    rw [ea, Nat.zero_add] at r0 r1
    have e : l.getD i noSlot = l[i] := by rw [List.getD_eq_getElem?_getD, List.getElem?_eq_getElem hi]; rfl
    rw [e]
    exact ⟨r0, r1⟩
theorem StrsAt.sliced {w : World} {a : Option Addr} {m c : Nat} {l : List ByteArray} (h : StrsAt w (.slice a m c) l) (n : Nat) (hn : n ≤ l.length) : StrsAt w (.slice (if c = n then a else a.map fun x => x.add (n * 1)) (l.length - n) (c - n)) (l.drop n) := by
  obtain ⟨a', c', e, h2, h3, h4⟩ := h
  obtain ⟨rfl, rfl, rfl⟩ := Value.slice.inj e
  refine ⟨_, _, by rw [List.length_drop], by rw [List.length_drop]; omega, by omega, fun i hi => ?_⟩
  rw [List.length_drop] at hi
  obtain ⟨b, o, rfl, r⟩ := h4 (n + i) (by omega)
  refine ⟨b, o + n, ?_, ?_⟩
  · rw [if_neg (by omega)]
    simp [Addr.add]
  · rw [List.getElem_drop, show o + n + i * 1 = o + (n + i) * 1 by omega]
    exact r
theorem two_free : Facts.Piv.Two Ext (fun _ _ => True) := ⟨fun _ _ _ => trivial, fun _ _ _ h k => h.trans k, fun _ _ _ _ _ => trivial, Ext.refl, fun a => ext_drew a⟩
/-- a bool that has come, and what is so then -/
def Came (G : World → Prop) (v : Value) (u : Value) (w : World) : Prop := u = v ∧ G w
theorem Came.keeps {G : World → Prop} {v : Value} (hG : ∀ A B, Ext A B → G A → G B) (u : Value) (w1 w2 : World) (h : Ext w1 w2) (hg : Came G v u w1) : Came G v u w2 := ⟨hg.1, hG _ _ h hg.2⟩
end Go.Proofs.YtcamegaimleomaaGreat

namespace Go.Proofs.YtcamegaimleomaaGreat
set_option linter.unusedSimpArgs false
set_option linter.unusedVariables false
open Go.RowKit
set_option linter.unusedVariables false

def divideF (fb yb gb : Nat) : Value := .func (.func 141) #[] #[.pointer (some ⟨fb, 0, none⟩), .pointer (some ⟨yb, 0, none⟩), .pointer (some ⟨gb, 0, none⟩)]
/-- the captured variables of the inner function -/
structure CapW (W : World) (l fb yb gb : Nat) (pv : Value) : Prop where
  parts : W.cell? ⟨fb, 1, none⟩ = some pv
  yield : W.cell? ⟨yb, 0, none⟩ = some (.func (.yield l) #[] #[])
  give : W.cell? ⟨gb, 0, none⟩ = some (divideF fb yb gb)
theorem CapW.kept {lo hi : Nat} {W W' : World} {l fb yb gb : Nat} {pv : Value} (h : CapW W l fb yb gb pv) (hx : KeptO lo hi W W') (h1 : fb < lo) (h2 : hi ≤ yb) (h3 : hi ≤ gb) : CapW W' l fb yb gb pv :=
  ⟨hx.cell (.inl h1) h.parts, hx.cell (.inr h2) h.yield, hx.cell (.inr h3) h.give⟩
def DivPost (lo hi : Nat) (J : List (Nat → Int) → World → Prop) (all : List (Nat → Int)) (W : World) (e : Ending) (W' : World) : Prop := e = .returned (.bool true) ∧ J all W' ∧ KeptO lo hi W W'

set_option maxRecDepth 100000 in
set_option maxHeartbeats 4000000 in
theorem divide_end (m l fb yb gb lo hi B0 : Nat) (pv : Value) (ps : List Part) (Wd : World) (hWd : Wd.heap.size ≤ lo) (hP : PartsAt Wd pv ps) (all : List (Nat → Int)) (J : List (Nat → Int) → World → Prop)
    (hJ : ∀ s A B, Below B0 A B → J s A → J s B) (hlo : fb < lo) (hy0 : hi ≤ yb) (hg0 : hi ≤ gb) (h5 : ps.length ≤ 5)
    (hY : ∀ pre x W1, J pre W1 → pre ++ [x] <+: all → YieldAt Fence.wide m Tryz.prog l #[countsV x] W1 fun e W' => e = .returned (.bool true) ∧ J (pre ++ [x]) W' ∧ KeptO lo hi W1 W')
    (left : List ByteArray) (lv : Value) (c : Nat → Int) (pre : List (Nat → Int)) (W : World) (hl : StrsAt Wd lv left) (hB : B0 ≤ W.heap.size) (hK : KeptO lo hi Wd W) (hC : CapW W l fb yb gb pv) (hp : J pre W) (hall : pre ++ (if left.length = 0 then [c] else []) <+: all) :
    Calls Tryz.prog 141 #[.int .i64 ps.length, lv, countsV c, .pointer (some ⟨fb, 0, none⟩), .pointer (some ⟨yb, 0, none⟩), .pointer (some ⟨gb, 0, none⟩)] W (DivPost lo hi J (pre ++ (if left.length = 0 then [c] else [])) W) := by
  obtain ⟨a, cap, rfl, hlc, hcm⟩ := hP.shape
  obtain ⟨la, lcap, rfl, hllc, hlcm⟩ := hl.shape
  obtain ⟨cp, cy, cg⟩ := hC
  have z1 := cell_lt cp
  have z2 := cell_lt cy
  unfold countsV at *
  by_cases h0 : left.length = 0
  · rw [if_pos h0] at hall ⊢
    have xb : Ext W (W.alloc (.cells #[.int .i64 (c 0), .int .i64 (c 1), .int .i64 (c 2), .int .i64 (c 3), .int .i64 (c 4)] 89)) := ext_alloc _ _
    obtain ⟨fn, tmps, assign, body, hy, hR⟩ := hY pre c _ (hJ _ _ _ (xb.below.mono hB) hp) hall
    have k0 : ¬ (0 : Int) < (left.length : Int) := by omega
    clear hY hJ hall
    go_enter Tryz.func141, Tryz.ntmps141
    go_wp2_with fail
    go_step3
    refine (wpIn_wide (n := m + 1)).1 ?_
    gi_wp2
    refine hR.mono ?_
    rintro e W3 ⟨rfl, hJ3, hk3⟩
    gi_wp2
    go_ret
    exact ⟨rfl, hJ3, (xb.kept lo hi).trans hk3⟩
  · rw [if_neg h0, List.append_nil]
    have k0 : (0 : Int) < (left.length : Int) := by omega
    have hpj := hJ pre W (W.alloc (.cells #[.int .i64 (c 0), .int .i64 (c 1), .int .i64 (c 2), .int .i64 (c 3), .int .i64 (c 4)] 89)) ((ext_alloc _ _).below.mono hB) hp
    clear hY hJ hall
    go_enter Tryz.func141, Tryz.ntmps141
    go_wp2
    go_step3
    go_wp2
    go_ret
    exact ⟨rfl, hpj, (ext_alloc _ _).kept lo hi⟩

theorem sizeOk_many {sl : List Slot} {left : List ByteArray} {n : Nat} (h : left.length < n) : sizeOk sl left n = false := by
  unfold sizeOk
  rw [decide_eq_false (by omega)]; rfl
theorem sizeOk_shut {sl : List Slot} {left : List ByteArray} {n : Nat} (h : n < sl.length) (hf : (sl.getD n noSlot).free = false) : sizeOk sl left n = false := by
  unfold sizeOk
  rw [decide_eq_false (p := sl.length ≤ n) (by omega), hf]; simp
theorem sizeOk_not {sl : List Slot} {left : List ByteArray} {n i : Nat} (h : i < n) (ht : takesM (sl.getD i noSlot) (left.getD i ByteArray.empty) = false) : sizeOk sl left n = false := by
  unfold sizeOk
  rw [Bool.and_eq_false_iff]; right
  rw [List.all_eq_false]
  exact ⟨i, List.mem_range.2 h, by simpa using ht⟩
theorem sizeOk_yes {sl : List Slot} {left : List ByteArray} {n : Nat} (h : n ≤ left.length) (hf : n < sl.length → (sl.getD n noSlot).free = true) (ht : ∀ i, i < n → takesM (sl.getD i noSlot) (left.getD i ByteArray.empty) = true) : sizeOk sl left n = true := by
  unfold sizeOk
  rw [decide_eq_true h, Bool.true_and, Bool.and_eq_true, Bool.or_eq_true, List.all_eq_true]
  refine ⟨?_, fun i hi => ht i (List.mem_range.1 hi)⟩
  by_cases e : n < sl.length
  · exact .inr (hf e)
  · exact .inl (decide_eq_true (by omega))
/-- the counts of a call's own -/
def CellsC (w : World) (b : Nat) (c : Nat → Int) : Prop := ∀ j, j < 5 → w.cell? ⟨b, j, none⟩ = some (.int .i64 (c j))
theorem CellsC.kept {lo hi : Nat} {w w' : World} {b : Nat} {c : Nat → Int} (h : CellsC w b c) (hx : KeptO lo hi w w') (hb : hi ≤ b) : CellsC w' b c := fun j hj => hx.cell (.inr hb) (h j hj)
theorem CellsC.set {w : World} {b : Nat} {c : Nat → Int} (h : CellsC w b c) {k : Nat} (hk : k < 5) (v : Int) : CellsC (w.setCell ⟨b, k, none⟩ (.int .i64 v)) b (updC c k v) := by
  intro j hj
  have hb := cell_lt (h k hk)
  by_cases e : j = k
  · subst e
    simp only [updC, if_true]
    exact World.cell?_setCell_same _ _ _ (h j hj)
  · simp only [updC, if_neg e]
    exact (World.cell?_setCell_other _ _ _ _ (fun h => e (Addr.mk.inj h).2.1.symm)).trans (h j hj)
theorem updC_self (c : Nat → Int) (k : Nat) : updC c k (c k) = c := by
  funext j
  unfold updC
  split
  · rename_i h; rw [h]
  · rfl
theorem updC_twice (c : Nat → Int) (k : Nat) (x y : Int) : updC (updC c k x) k y = updC c k y := by
  funext j
  unfold updC
  split <;> rfl
set_option maxRecDepth 100000 in
set_option maxHeartbeats 8000000 in
theorem divide_step (m l fb yb gb lo hi B0 : Nat) (pv : Value) (ps : List Part) (Wd : World) (hWd : Wd.heap.size ≤ lo) (hlh : lo ≤ hi) (hhB : hi ≤ B0) (hP : PartsAt Wd pv ps) (all : List (Nat → Int)) (J : List (Nat → Int) → World → Prop)
    (hJ : ∀ s A B, Below B0 A B → J s A → J s B) (hlo : fb < lo) (hy0 : hi ≤ yb) (hg0 : hi ≤ gb) (h5 : ps.length ≤ 5)
    (at_ : Nat) (hat : at_ < ps.length) (hV : ValidPart ps[at_]) (rest : List (List Slot)) (left : List ByteArray) (h15 : left.length ≤ 15) (lv : Value) (c : Nat → Int) (pre : List (Nat → Int)) (W : World) (hl : StrsAt Wd lv left) (hB : B0 ≤ W.heap.size) (hK : KeptO lo hi Wd W) (hC : CapW W l fb yb gb pv) (hp : J pre W)
    (hall : pre ++ waysF (partSlotsM ps[at_] :: rest) at_ left c <+: all)
    (hih : ∀ (n : Nat) (lv' : Value) (pre : List (Nat → Int)) (w : World), n ≤ left.length → StrsAt Wd lv' (left.drop n) → B0 ≤ w.heap.size → KeptO lo hi Wd w → CapW w l fb yb gb pv → J pre w → pre ++ waysF rest (at_ + 1) (left.drop n) (updC c at_ n) <+: all →
      Calls Tryz.prog 141 #[.int .i64 ((at_ : Int) + 1), lv', countsV (updC c at_ n), .pointer (some ⟨fb, 0, none⟩), .pointer (some ⟨yb, 0, none⟩), .pointer (some ⟨gb, 0, none⟩)] w (DivPost lo hi J (pre ++ waysF rest (at_ + 1) (left.drop n) (updC c at_ n)) w)) :
    Calls Tryz.prog 141 #[.int .i64 at_, lv, countsV c, .pointer (some ⟨fb, 0, none⟩), .pointer (some ⟨yb, 0, none⟩), .pointer (some ⟨gb, 0, none⟩)] W (DivPost lo hi J (pre ++ waysF (partSlotsM ps[at_] :: rest) at_ left c) W) := by
  have hPl := hP.lies (hK.lies hWd)
  obtain ⟨a, cap, rfl, hlc, hcm⟩ := hP.shape
  obtain ⟨la, lcap, rfl, hllc, hlcm⟩ := hl.shape
  have hC0 := hC
  obtain ⟨cp, cy, cg⟩ := hC
  have z1 := cell_lt cp
  obtain ⟨pb, po, rfl, ⟨u, h1, hs⟩, h2, h3', hplo, hphi⟩ := hPl.get hat
  have z4 := cell_lt h1
  generalize ps[at_] = y at *
  obtain ⟨ua, uc, rfl, -⟩ := hs.shape
  have k1 : (at_ : Int) < (ps.length : Int) := by omega
  have k2 : ((at_ : Int) == (ps.length : Int)) = false := by simp; omega
  have wat : IntKind.i64.wrap ((at_ : Int) + 1) = (at_ : Int) + 1 := IntWalk.i64_in _ (by omega)
  obtain ⟨W1, hW1⟩ : ∃ W1, W1 = W.alloc (.cells #[.int .i64 (c 0), .int .i64 (c 1), .int .i64 (c 2), .int .i64 (c 3), .int .i64 (c 4)] 89) := ⟨_, rfl⟩
  have x1 : Ext W W1 := by rw [hW1]; exact ext_alloc _ _
  have hcc : CellsC W1 W.heap.size c := by
    subst hW1
    exact cells_five (by simp [go_sem]) (by simp [go_sem]) (by simp [go_sem]) (by simp [go_sem]) (by simp [go_sem])
  have hfr : W1.frozen? ⟨W.heap.size, at_, none⟩ = false := by subst hW1; simp [go_sem]
  have z3 : W.heap.size < W1.heap.size := cell_lt (hcc 0 (by omega))
  have hsl := partSlots_len hV
  have hps := fun w h => partSlots_any (.agg #[.slice ua y.words.length uc, .int .i64 y.lo, .int .i64 y.hi]) y hV.n (by
        by_cases hw : y.words = []
        · exact (hV.r hw).2.2.2
        · rw [(hV.z hw).2]; decide) w h
  have hpv : PartV W1 (.agg #[.slice ua y.words.length uc, .int .i64 y.lo, .int .i64 y.hi]) y := ⟨_, rfl, hs.ext x1, hplo, hphi⟩
  have hdef : waysF (partSlotsM y :: rest) at_ left c = waysTo (fun n => waysF rest (at_ + 1) (left.drop n) (updC c at_ n)) (partSlotsM y) left ((partSlotsM y).length + 1) := rfl
  rw [hdef] at hall ⊢
  generalize partSlotsM y = sl at *
  obtain ⟨step, hstep⟩ : ∃ step : Nat → List (Nat → Int), step = fun n => waysF rest (at_ + 1) (left.drop n) (updC c at_ n) := ⟨_, rfl⟩
  have Hstep := Lib.hid hstep
  rw [← hstep] at hall ⊢
  have hihs : ∀ (n : Nat) (lv' : Value) (pre : List (Nat → Int)) (w : World), n ≤ left.length → StrsAt Wd lv' (left.drop n) → B0 ≤ w.heap.size → KeptO lo hi Wd w → CapW w l fb yb gb (.slice (some ⟨pb, po, none⟩) ps.length cap) → J pre w → pre ++ step n <+: all →
      Calls Tryz.prog 141 #[.int .i64 ((at_ : Int) + 1), lv', countsV (updC c at_ n), .pointer (some ⟨fb, 0, none⟩), .pointer (some ⟨yb, 0, none⟩), .pointer (some ⟨gb, 0, none⟩)] w (DivPost lo hi J (pre ++ step n) w) := by
    rw [hstep]; exact hih
  clear hih hstep hdef hV hs
  have HW := Lib.hid hW1
  have Hall := Lib.hid hall
  clear hW1 hall
  unfold countsV at *
  go_enter Tryz.func141, Tryz.ntmps141
  go_wp2_with fail
  go_step3
  go_wp2_with fail
  rw [← HW.out]
  refine (hps _ hpv).mono ?_
  rintro e w1 ⟨sv, rfl, hsv, hx1⟩
  obtain ⟨g, gc, rfl, hgc, hgb, hgcell⟩ := rowS_lie hsv hsl.1
  have xk : Ext W w1 := x1.trans hx1
  replace hcc : CellsC w1 W.heap.size c := fun j hj => hx1.cell (hcc j hj)
  replace hfr : w1.frozen? ⟨W.heap.size, at_, none⟩ = false := by rw [hx1.frozen z3]; exact hfr
  have hC1 := hC0.kept (xk.kept lo hi) hlo hy0 hg0
  have hp1 := hJ pre W w1 (xk.below.mono hB) hp
  have hB1 : B0 ≤ w1.heap.size := Nat.le_trans hB xk.size
  have hK1 := hK.trans (xk.kept lo hi)
  have hcb : hi ≤ W.heap.size := Nat.le_trans hhB hB
  have hK0 := hK.size
  have hB0 := hB
  have hCset : ∀ w', KeptO lo hi W w' → CapW w' l fb yb gb (.slice (some ⟨pb, po, none⟩) ps.length cap) := fun w' h => hC0.kept h hlo hy0 hg0
  have HCs := Lib.hid hCset
  clear hCset
  have hgb2 : hi ≤ g := by have := x1.size; omega
  have zg : g < w1.heap.size := cell_lt (hgcell 0 hsl.1).1
  clear hsv hx1 x1 hpv hps hC0 hK hp cp cy cg h1 h2 h3'
  go_wp2
  go_step3
  go_wp2
  go_loopw [39] (fun i wr => ∃ k : Nat, k ≤ sl.length + 1 ∧ i = .int .i64 k ∧ KeptO lo hi W wr ∧ B0 ≤ wr.heap.size ∧ KeptO lo hi Wd wr ∧ CapW wr l fb yb gb (.slice (some ⟨pb, po, none⟩) ps.length cap) ∧
    (∃ x, CellsC wr W.heap.size (updC c at_ x)) ∧ wr.frozen? ⟨W.heap.size, at_, none⟩ = false ∧ (∀ i, i < sl.length → wr.cell? ⟨g, i * 2, none⟩ = some (.string (sl.getD i noSlot).word) ∧ wr.cell? ⟨g, i * 2 + 1, none⟩ = some (.bool (sl.getD i noSlot).free)) ∧ J (pre ++ waysTo step sl left k) wr) (fun i _ => sl.length + 1 - (intOf i).toNat)
  case atStart => exact ⟨0, Nat.zero_le _, rfl, xk.kept lo hi, hB1, hK1, hC1, ⟨c at_, by rw [updC_self]; exact hcc⟩, hfr, hgcell, by rw [waysTo, List.append_nil]; exact hp1⟩
  case round =>
    obtain ⟨k, hk, rfl, hxr, hBr, hKr, hCr, ⟨x0, hcr⟩, hfr', hgr, hjr⟩ := hrel
    have Hgr := Lib.hid hgr
    clear hgr
    have zw := hxr.size
    have z5 : W.heap.size < wr.heap.size := cell_lt (hcr 0 (by omega))
    have z6 := hCr.parts
    have wk : IntKind.i64.wrap ((k : Int) + 1) = (k : Int) + 1 := IntWalk.i64_in _ (by omega)
    by_cases hk1 : k < sl.length + 1
    · have kk : (k : Int) < (sl.length : Int) + 1 := by omega
      by_cases hm : left.length < k
      · have hst := waysTo_miss step sl left k (sizeOk_many hm)
        have km : (left.length : Int) < (k : Int) := by omega
        have Hst := Lib.hid hst
        clear hst
        go_wp2
        go_roundw
        case rel => exact ⟨k + 1, by omega, by go_num, hxr, hBr, hKr, hCr, ⟨x0, hcr⟩, hfr', Hgr.out, by rw [Hst.out]; exact hjr⟩
        case measure => simp [intOf]; omega
      · have km : ¬ (left.length : Int) < (k : Int) := by omega
        obtain ⟨free, hfree⟩ : ∃ free : Bool, (sl.getD k noSlot).free = free := ⟨_, rfl⟩
        have hfcell : k < sl.length → wr.cell? ⟨g, k * 2 + 1, none⟩ = some (.bool free) := fun h => by rw [← hfree]; exact (Hgr.out k h).2
        by_cases hks : k < sl.length
        · have ks : (k : Int) < (sl.length : Int) := by omega
          replace hfcell := hfcell hks
          cases free
          · have hst := waysTo_miss step sl left k (sizeOk_shut hks hfree)
            have Hst := Lib.hid hst
            clear hst hfree
            go_wp2
            go_roundw
            case rel => exact ⟨k + 1, by omega, by go_num, hxr, hBr, hKr, hCr, ⟨x0, hcr⟩, hfr', Hgr.out, by rw [Hst.out]; exact hjr⟩
            case measure => simp [intOf]; omega
          · have Hfree : Hid (k < sl.length → (sl.getD k noSlot).free = true) := Lib.hid fun _ => hfree
            clear hfree
            go_wp2
            have hkl : k ≤ left.length := by omega
            have hksl : k ≤ sl.length := by omega
            have HL := Lib.hid (hl.lies (hKr.lies hWd))
            obtain ⟨wo, hwo⟩ : ∃ wo : World, wo = wr := ⟨_, rfl⟩
            subst hwo
            go_loopw [61] (fun i wq => ∃ j : Nat, j ≤ k ∧ i = .int .i64 j ∧ (∀ i, i < j → takesM (sl.getD i noSlot) (left.getD i ByteArray.empty) = true) ∧ Ext wo wq) (fun i _ => k - (intOf i).toNat)
            case atStart => exact ⟨0, Nat.zero_le _, rfl, fun i hi => absurd hi (Nat.not_lt_zero _), Ext.refl _⟩
            case round =>
              obtain ⟨j, hj, rfl, hta, hxq⟩ := hrel
              have Hta := Lib.hid hta
              clear hta
              by_cases hjk : j < k
              · have jk : (j : Int) < (k : Int) := by omega
                have js : (j : Int) < (sl.length : Int) := by omega
                have jl : (j : Int) < (left.length : Int) := by omega
                obtain ⟨lb, lo', rfl, hlw, -⟩ := HL.out.get (i := j) (by omega)
                rw [Nat.mul_one] at hlw
                have hlg : left.getD j ByteArray.empty = left[j] := by rw [List.getD_eq_getElem?_getD, List.getElem?_eq_getElem (by omega)]; rfl
                rw [← hlg] at hlw
                clear hlg
                obtain ⟨gw, gf⟩ := Hgr.out j (by omega)
                replace hlw := hxq.cell hlw
                replace gw := hxq.cell gw
                replace gf := hxq.cell gf
                have htk := fun w => takes_any (sl.getD j noSlot) (left.getD j ByteArray.empty) w
                have Hno := Lib.hid (fun h => sizeOk_not (sl := sl) (left := left) hjk h)
                have Hyes := Lib.hid (fun (h : takesM (sl.getD j noSlot) (left.getD j ByteArray.empty) = true) => h)
                unfold slotV at htk
                obtain ⟨s, hsd⟩ : ∃ s, sl.getD j noSlot = s := ⟨_, rfl⟩
                obtain ⟨x, hxd⟩ : ∃ x, left.getD j ByteArray.empty = x := ⟨_, rfl⟩
                rw [hsd, hxd] at htk Hno Hyes
                rw [hsd] at gw gf
                rw [hxd] at hlw
                have Hsx := Lib.hid (And.intro hsd hxd)
                clear hsd hxd
                go_wp2_with fail
                refine (htk _).mono ?_
                rintro e w2 ⟨rfl, hx2⟩
                have hx3 := hxq.trans hx2
                cases ht : takesM s x
                · have hst := waysTo_miss step sl left k (Hno.out ht)
                  have Hst := Lib.hid hst
                  have hjr3 := hJ _ _ _ (hx3.below.mono hBr) hjr
                  have x3k := hx3.kept lo hi
                  have hfr3 : w2.frozen? ⟨W.heap.size, at_, none⟩ = false := by rw [hx3.frozen z5]; exact hfr'
                  clear hst ht htk
                  go_wp2
                  go_roundw
                  case rel => exact ⟨k + 1, by omega, by go_num, hxr.trans x3k, Nat.le_trans hBr hx3.size, hKr.trans x3k, hCr.kept x3k hlo hy0 hg0, ⟨x0, hcr.kept x3k hcb⟩, hfr3, fun i hi => ⟨hx3.cell (Hgr.out i hi).1, hx3.cell (Hgr.out i hi).2⟩, by rw [Hst.out]; exact hjr3⟩
                  case measure => simp [intOf]; omega
                · have Ht := Lib.hid (Hyes.out ht)
                  clear ht htk
                  go_wp2
                  go_roundw
                  case rel => exact ⟨j + 1, by omega, by go_num, fun i hi => by
                    rcases Nat.lt_or_ge i j with h | h
                    · exact Hta.out i h
                    · obtain rfl : i = j := by omega
                      rw [Hsx.out.1, Hsx.out.2]; exact Ht.out, hx3⟩
                  case measure => simp [intOf]; omega
              · have hje : j = k := by omega
                subst hje
                have hst := waysTo_hit step sl left j (sizeOk_yes hkl Hfree.out Hta.out)
                have Hst := Lib.hid hst
                have hmono := waysTo_mono step sl left (k := j + 1) (m := sl.length + 1) (by omega)
                have Hmono := Lib.hid hmono
                clear hst hmono
                have hjq := hJ _ _ _ (hxq.below.mono hBr) hjr
                have xqk := hxq.kept lo hi
                have zq := hxq.size
                have hcq := hcr.kept xqk hcb
                have hcs := hcq.set (k := at_) (by omega) (j : Int)
                rw [updC_twice] at hcs
                have hck := hcq at_ (by omega)
                have zcq := cell_lt hck
                have hfq : wr.frozen? ⟨W.heap.size, at_, none⟩ = false := by rw [hxq.frozen z5]; exact hfr'
                have hCq := hCr.kept xqk hlo hy0 hg0
                have hKs : KeptO lo hi W (wr.setCell ⟨W.heap.size, at_, none⟩ (.int .i64 j)) := (hxr.trans xqk).setNew (Nat.le_refl _) _
                have hKd : KeptO lo hi Wd (wr.setCell ⟨W.heap.size, at_, none⟩ (.int .i64 j)) := (hKr.trans xqk).setNew (by have := hK0; omega) _
                have hjs : J (pre ++ waysTo step sl left j) (wr.setCell ⟨W.heap.size, at_, none⟩ (.int .i64 j)) := hJ _ _ _ ((Below.refl _ _).setCell (p := ⟨W.heap.size, at_, none⟩) hB0 _) hjq
                have hfs : (wr.setCell ⟨W.heap.size, at_, none⟩ (.int .i64 j)).frozen? ⟨W.heap.size, at_, none⟩ = false := by simpa [go_sem] using hfq
                have hCs : CapW (wr.setCell ⟨W.heap.size, at_, none⟩ (.int .i64 j)) l fb yb gb (.slice (some ⟨pb, po, none⟩) ps.length cap) := HCs.out _ hKs
                have hgs : ∀ i, i < sl.length → (wr.setCell ⟨W.heap.size, at_, none⟩ (.int .i64 j)).cell? ⟨g, i * 2, none⟩ = some (.string (sl.getD i noSlot).word) ∧ (wr.setCell ⟨W.heap.size, at_, none⟩ (.int .i64 j)).cell? ⟨g, i * 2 + 1, none⟩ = some (.bool (sl.getD i noSlot).free) := fun i hi => by
                  have he := Below.heap_setCell wr ⟨W.heap.size, at_, none⟩ (.int .i64 j) g (show g ≠ W.heap.size by omega)
                  exact ⟨(World.cell?_of_block (w := wr) he).trans (hxq.cell (Hgr.out i hi).1), (World.cell?_of_block (w := wr) he).trans (hxq.cell (Hgr.out i hi).2)⟩
                have hzs : (wr.setCell ⟨W.heap.size, at_, none⟩ (.int .i64 j)).heap.size = wr.heap.size := by simp [World.setCell]
                have hpre : (pre ++ waysTo step sl left j) ++ step j <+: all := by
                  have h1 := Hmono.out
                  rw [Hst.out] at h1
                  rw [List.append_assoc]
                  exact ((List.prefix_append_right_inj pre).2 h1).trans Hall.out
                have hslc := hl.sliced j hkl
                have Hgs := Lib.hid hgs
                have Hpre := Lib.hid hpre
                have Hslc := Lib.hid hslc
                have HG := Lib.hid Hgr.out
                have jl : (j : Int) ≤ (left.length : Int) := by omega
                have wk1 : IntKind.i64.wrap ((j : Int) + 1) = (j : Int) + 1 := IntWalk.i64_in _ (by omega)
                clear hgs hpre hslc Hgr hjq hcq
                go_wp2_with fail
                generalize wr.setCell ⟨W.heap.size, at_, none⟩ (.int .i64 j) = Ws at *
                obtain ⟨cc, hccd⟩ : ∃ cc, updC c at_ (j : Int) = cc := ⟨_, rfl⟩
                rw [hccd] at hcs
                have d0 := hcs 0 (by omega)
                have d1 := hcs 1 (by omega)
                have d2 := hcs 2 (by omega)
                have d3 := hcs 3 (by omega)
                have d4 := hcs 4 (by omega)
                have dg := hCs.give
                unfold divideF at dg
                have hBs : B0 ≤ Ws.heap.size := by omega
                have hiv := fun (lv' : Value) (w : World) h1 h2 h3 h4 h5 => hihs j lv' (pre ++ waysTo step sl left j) w hkl h1 h2 h3 h4 h5 Hpre.out
                rw [hccd] at hiv
                rw [List.append_assoc, ← Hst.out] at hiv
                obtain ⟨G, hGi, hGo, hGk⟩ : ∃ G : World → Prop, (∀ w, J (pre ++ waysTo step sl left (j + 1)) w → KeptO lo hi Ws w → G w) ∧ (∀ w, G w → J (pre ++ waysTo step sl left (j + 1)) w ∧ KeptO lo hi Ws w) ∧ ∀ A B, Ext A B → G A → G B :=
                  ⟨fun w => J (pre ++ waysTo step sl left (j + 1)) w ∧ KeptO lo hi Ws w, fun _ h1 h2 => ⟨h1, h2⟩, fun _ h => h, fun _ _ hx h => ⟨hJ _ _ _ (hx.below.mono (Nat.le_trans hBs h.2.size)) h.1, h.2.trans (hx.kept lo hi)⟩⟩
                apply Facts.Piv.wp_region two_free 7 [.val _, .val _, .val _, .val _, .val _, .val _, .val _, .fact (Came G (.bool true)), .fact (Came G (.bool false))] (by kernel_rfl) (by kernel_rfl) (by kernel_rfl) ?keep ?main
                case keep =>
                  exact ⟨Came.keeps hGk, fun h => absurd h (Bool.eq_false_iff.1 (by kernel_rfl)), Came.keeps hGk, fun h => absurd h (Bool.eq_false_iff.1 (by kernel_rfl)), trivial⟩
                case main =>
                  iterate 7 (refine ⟨fun w1 hE hx hh => ?_, ?_⟩; focus (clear hh hx; replace hE := hE (by kernel_rfl); (have e0 := hE.cell d0; have e1 := hE.cell d1; have e2 := hE.cell d2; have e3 := hE.cell d3; have e4 := hE.cell d4; have e5 := hE.cell dg); go_simp; first | exact ⟨Ext.refl _, rfl⟩ | exact Ext.refl _))
                  refine ⟨fun w1 hE hx hh => ?_, ?_⟩
                  · clear hh hx
                    replace hE := hE (by kernel_rfl)
                    go_simp
                    refine (hiv _ w1 ?_ (Nat.le_trans hBs hE.size) (hKd.trans (hE.kept lo hi)) (hCs.kept (hE.kept lo hi) hlo hy0 hg0) (hJ _ _ _ (hE.below.mono hBs) hjs)).mono ?_
                    · simpa using Hslc.out
                    rintro e w' ⟨rfl, hj2, hk2⟩
                    exact ⟨_, rfl, rfl, hGi _ hj2 ((hE.kept lo hi).trans hk2)⟩
                  intro u7
                  refine ⟨fun w1 hE hx hh => ?_, ?_⟩
                  · have h7 : Came G (.bool true) u7 w1 := hh 7 _ List.mem_cons_self (by kernel_rfl)
                    clear hh hE hx
                    have e := h7.1
                    subst e
                    have h8 := h7.2
                    clear h7
                    go_simp
                    first | exact ⟨Ext.refl _, rfl, h8⟩ | exact ⟨rfl, h8⟩
                  intro u8 w1 hx1 hh
                  have h8 : Came G (.bool false) u8 w1 := hh 8 _ List.mem_cons_self
                  clear hh hx1
                  have e := h8.1
                  subst e
                  obtain ⟨hj2, hk2⟩ := hGo _ h8.2
                  clear hGi hGo hGk h8 hiv
                  go_simp
                  go_wp2
                  go_roundw
                  case rel => exact ⟨j + 1, by omega, by go_num, hKs.trans hk2, Nat.le_trans hBs hk2.size, hKd.trans hk2, hCs.kept hk2 hlo hy0 hg0, ⟨j, by rw [hccd]; exact hcs.kept hk2 hcb⟩, by rw [hk2.frozen (.inr hcb) (hcs at_ (by omega))]; exact hfs, fun i hi => ⟨hk2.cell (.inr hgb2) (Hgs.out i hi).1, hk2.cell (.inr hgb2) (Hgs.out i hi).2⟩, hj2⟩
                  case measure => simp [intOf]; omega
        · have ks : ¬ (k : Int) < (sl.length : Int) := by omega
          have Hfree : Hid (k < sl.length → (sl.getD k noSlot).free = true) := Lib.hid fun h => absurd h hks
          clear hfcell hfree
          go_wp2
          have hkl : k ≤ left.length := by omega
          have hksl : k ≤ sl.length := by omega
          have HL := Lib.hid (hl.lies (hKr.lies hWd))
          obtain ⟨wo, hwo⟩ : ∃ wo : World, wo = wr := ⟨_, rfl⟩
          subst hwo
          go_loopw [61] (fun i wq => ∃ j : Nat, j ≤ k ∧ i = .int .i64 j ∧ (∀ i, i < j → takesM (sl.getD i noSlot) (left.getD i ByteArray.empty) = true) ∧ Ext wo wq) (fun i _ => k - (intOf i).toNat)
          case atStart => exact ⟨0, Nat.zero_le _, rfl, fun i hi => absurd hi (Nat.not_lt_zero _), Ext.refl _⟩
          case round =>
            obtain ⟨j, hj, rfl, hta, hxq⟩ := hrel
            have Hta := Lib.hid hta
            clear hta
            by_cases hjk : j < k
            · have jk : (j : Int) < (k : Int) := by omega
              have js : (j : Int) < (sl.length : Int) := by omega
              have jl : (j : Int) < (left.length : Int) := by omega
              obtain ⟨lb, lo', rfl, hlw, -⟩ := HL.out.get (i := j) (by omega)
              rw [Nat.mul_one] at hlw
              have hlg : left.getD j ByteArray.empty = left[j] := by rw [List.getD_eq_getElem?_getD, List.getElem?_eq_getElem (by omega)]; rfl
              rw [← hlg] at hlw
              clear hlg
              obtain ⟨gw, gf⟩ := Hgr.out j (by omega)
              replace hlw := hxq.cell hlw
              replace gw := hxq.cell gw
              replace gf := hxq.cell gf
              have htk := fun w => takes_any (sl.getD j noSlot) (left.getD j ByteArray.empty) w
              have Hno := Lib.hid (fun h => sizeOk_not (sl := sl) (left := left) hjk h)
              have Hyes := Lib.hid (fun (h : takesM (sl.getD j noSlot) (left.getD j ByteArray.empty) = true) => h)
              unfold slotV at htk
              obtain ⟨s, hsd⟩ : ∃ s, sl.getD j noSlot = s := ⟨_, rfl⟩
              obtain ⟨x, hxd⟩ : ∃ x, left.getD j ByteArray.empty = x := ⟨_, rfl⟩
              rw [hsd, hxd] at htk Hno Hyes
              rw [hsd] at gw gf
              rw [hxd] at hlw
              have Hsx := Lib.hid (And.intro hsd hxd)
              clear hsd hxd
              go_wp2_with fail
              refine (htk _).mono ?_
              rintro e w2 ⟨rfl, hx2⟩
              have hx3 := hxq.trans hx2
              cases ht : takesM s x
              · have hst := waysTo_miss step sl left k (Hno.out ht)
                have Hst := Lib.hid hst
                have hjr3 := hJ _ _ _ (hx3.below.mono hBr) hjr
                have x3k := hx3.kept lo hi
                have hfr3 : w2.frozen? ⟨W.heap.size, at_, none⟩ = false := by rw [hx3.frozen z5]; exact hfr'
                clear hst ht htk
                go_wp2
                go_roundw
                case rel => exact ⟨k + 1, by omega, by go_num, hxr.trans x3k, Nat.le_trans hBr hx3.size, hKr.trans x3k, hCr.kept x3k hlo hy0 hg0, ⟨x0, hcr.kept x3k hcb⟩, hfr3, fun i hi => ⟨hx3.cell (Hgr.out i hi).1, hx3.cell (Hgr.out i hi).2⟩, by rw [Hst.out]; exact hjr3⟩
                case measure => simp [intOf]; omega
              · have Ht := Lib.hid (Hyes.out ht)
                clear ht htk
                go_wp2
                go_roundw
                case rel => exact ⟨j + 1, by omega, by go_num, fun i hi => by
                  rcases Nat.lt_or_ge i j with h | h
                  · exact Hta.out i h
                  · obtain rfl : i = j := by omega
                    rw [Hsx.out.1, Hsx.out.2]; exact Ht.out, hx3⟩
                case measure => simp [intOf]; omega
            · have hje : j = k := by omega
              subst hje
              have hst := waysTo_hit step sl left j (sizeOk_yes hkl Hfree.out Hta.out)
              have Hst := Lib.hid hst
              have hmono := waysTo_mono step sl left (k := j + 1) (m := sl.length + 1) (by omega)
              have Hmono := Lib.hid hmono
              clear hst hmono
              have hjq := hJ _ _ _ (hxq.below.mono hBr) hjr
              have xqk := hxq.kept lo hi
              have zq := hxq.size
              have hcq := hcr.kept xqk hcb
              have hcs := hcq.set (k := at_) (by omega) (j : Int)
              rw [updC_twice] at hcs
              have hck := hcq at_ (by omega)
              have zcq := cell_lt hck
              have hfq : wr.frozen? ⟨W.heap.size, at_, none⟩ = false := by rw [hxq.frozen z5]; exact hfr'
              have hCq := hCr.kept xqk hlo hy0 hg0
              have hKs : KeptO lo hi W (wr.setCell ⟨W.heap.size, at_, none⟩ (.int .i64 j)) := (hxr.trans xqk).setNew (Nat.le_refl _) _
              have hKd : KeptO lo hi Wd (wr.setCell ⟨W.heap.size, at_, none⟩ (.int .i64 j)) := (hKr.trans xqk).setNew (by have := hK0; omega) _
              have hjs : J (pre ++ waysTo step sl left j) (wr.setCell ⟨W.heap.size, at_, none⟩ (.int .i64 j)) := hJ _ _ _ ((Below.refl _ _).setCell (p := ⟨W.heap.size, at_, none⟩) hB0 _) hjq
              have hfs : (wr.setCell ⟨W.heap.size, at_, none⟩ (.int .i64 j)).frozen? ⟨W.heap.size, at_, none⟩ = false := by simpa [go_sem] using hfq
              have hCs : CapW (wr.setCell ⟨W.heap.size, at_, none⟩ (.int .i64 j)) l fb yb gb (.slice (some ⟨pb, po, none⟩) ps.length cap) := HCs.out _ hKs
              have hgs : ∀ i, i < sl.length → (wr.setCell ⟨W.heap.size, at_, none⟩ (.int .i64 j)).cell? ⟨g, i * 2, none⟩ = some (.string (sl.getD i noSlot).word) ∧ (wr.setCell ⟨W.heap.size, at_, none⟩ (.int .i64 j)).cell? ⟨g, i * 2 + 1, none⟩ = some (.bool (sl.getD i noSlot).free) := fun i hi => by
                have he := Below.heap_setCell wr ⟨W.heap.size, at_, none⟩ (.int .i64 j) g (show g ≠ W.heap.size by omega)
                exact ⟨(World.cell?_of_block (w := wr) he).trans (hxq.cell (Hgr.out i hi).1), (World.cell?_of_block (w := wr) he).trans (hxq.cell (Hgr.out i hi).2)⟩
              have hzs : (wr.setCell ⟨W.heap.size, at_, none⟩ (.int .i64 j)).heap.size = wr.heap.size := by simp [World.setCell]
              have hpre : (pre ++ waysTo step sl left j) ++ step j <+: all := by
                have h1 := Hmono.out
                rw [Hst.out] at h1
                rw [List.append_assoc]
                exact ((List.prefix_append_right_inj pre).2 h1).trans Hall.out
              have hslc := hl.sliced j hkl
              have Hgs := Lib.hid hgs
              have Hpre := Lib.hid hpre
              have Hslc := Lib.hid hslc
              have HG := Lib.hid Hgr.out
              have jl : (j : Int) ≤ (left.length : Int) := by omega
              have wk1 : IntKind.i64.wrap ((j : Int) + 1) = (j : Int) + 1 := IntWalk.i64_in _ (by omega)
              clear hgs hpre hslc Hgr hjq hcq
              go_wp2_with fail
              generalize wr.setCell ⟨W.heap.size, at_, none⟩ (.int .i64 j) = Ws at *
              obtain ⟨cc, hccd⟩ : ∃ cc, updC c at_ (j : Int) = cc := ⟨_, rfl⟩
              rw [hccd] at hcs
              have d0 := hcs 0 (by omega)
              have d1 := hcs 1 (by omega)
              have d2 := hcs 2 (by omega)
              have d3 := hcs 3 (by omega)
              have d4 := hcs 4 (by omega)
              have dg := hCs.give
              unfold divideF at dg
              have hBs : B0 ≤ Ws.heap.size := by omega
              have hiv := fun (lv' : Value) (w : World) h1 h2 h3 h4 h5 => hihs j lv' (pre ++ waysTo step sl left j) w hkl h1 h2 h3 h4 h5 Hpre.out
              rw [hccd] at hiv
              rw [List.append_assoc, ← Hst.out] at hiv
              obtain ⟨G, hGi, hGo, hGk⟩ : ∃ G : World → Prop, (∀ w, J (pre ++ waysTo step sl left (j + 1)) w → KeptO lo hi Ws w → G w) ∧ (∀ w, G w → J (pre ++ waysTo step sl left (j + 1)) w ∧ KeptO lo hi Ws w) ∧ ∀ A B, Ext A B → G A → G B :=
                ⟨fun w => J (pre ++ waysTo step sl left (j + 1)) w ∧ KeptO lo hi Ws w, fun _ h1 h2 => ⟨h1, h2⟩, fun _ h => h, fun _ _ hx h => ⟨hJ _ _ _ (hx.below.mono (Nat.le_trans hBs h.2.size)) h.1, h.2.trans (hx.kept lo hi)⟩⟩
              apply Facts.Piv.wp_region two_free 7 [.val _, .val _, .val _, .val _, .val _, .val _, .val _, .fact (Came G (.bool true)), .fact (Came G (.bool false))] (by kernel_rfl) (by kernel_rfl) (by kernel_rfl) ?keep ?main
              case keep =>
                exact ⟨Came.keeps hGk, fun h => absurd h (Bool.eq_false_iff.1 (by kernel_rfl)), Came.keeps hGk, fun h => absurd h (Bool.eq_false_iff.1 (by kernel_rfl)), trivial⟩
              case main =>
                iterate 7 (refine ⟨fun w1 hE hx hh => ?_, ?_⟩; focus (clear hh hx; replace hE := hE (by kernel_rfl); (have e0 := hE.cell d0; have e1 := hE.cell d1; have e2 := hE.cell d2; have e3 := hE.cell d3; have e4 := hE.cell d4; have e5 := hE.cell dg); go_simp; first | exact ⟨Ext.refl _, rfl⟩ | exact Ext.refl _))
                refine ⟨fun w1 hE hx hh => ?_, ?_⟩
                · clear hh hx
                  replace hE := hE (by kernel_rfl)
                  go_simp
                  refine (hiv _ w1 ?_ (Nat.le_trans hBs hE.size) (hKd.trans (hE.kept lo hi)) (hCs.kept (hE.kept lo hi) hlo hy0 hg0) (hJ _ _ _ (hE.below.mono hBs) hjs)).mono ?_
                  · simpa using Hslc.out
                  rintro e w' ⟨rfl, hj2, hk2⟩
                  exact ⟨_, rfl, rfl, hGi _ hj2 ((hE.kept lo hi).trans hk2)⟩
                intro u7
                refine ⟨fun w1 hE hx hh => ?_, ?_⟩
                · have h7 : Came G (.bool true) u7 w1 := hh 7 _ List.mem_cons_self (by kernel_rfl)
                  clear hh hE hx
                  have e := h7.1
                  subst e
                  have h8 := h7.2
                  clear h7
                  go_simp
                  first | exact ⟨Ext.refl _, rfl, h8⟩ | exact ⟨rfl, h8⟩
                intro u8 w1 hx1 hh
                have h8 : Came G (.bool false) u8 w1 := hh 8 _ List.mem_cons_self
                clear hh hx1
                have e := h8.1
                subst e
                obtain ⟨hj2, hk2⟩ := hGo _ h8.2
                clear hGi hGo hGk h8 hiv
                go_simp
                go_wp2
                go_roundw
                case rel => exact ⟨j + 1, by omega, by go_num, hKs.trans hk2, Nat.le_trans hBs hk2.size, hKd.trans hk2, hCs.kept hk2 hlo hy0 hg0, ⟨j, by rw [hccd]; exact hcs.kept hk2 hcb⟩, by rw [hk2.frozen (.inr hcb) (hcs at_ (by omega))]; exact hfs, fun i hi => ⟨hk2.cell (.inr hgb2) (Hgs.out i hi).1, hk2.cell (.inr hgb2) (Hgs.out i hi).2⟩, hj2⟩
                case measure => simp [intOf]; omega
    · have hke : k = sl.length + 1 := by omega
      subst hke
      have kk : ¬ ((sl.length + 1 : Nat) : Int) < (sl.length : Int) + 1 := by omega
      go_wp2
      go_ret
      exact ⟨rfl, hjr, hxr⟩
end Go.Proofs.YtcamegaimleomaaGreat

namespace Go.Proofs.YtcamegaimleomaaGreat
set_option linter.unusedSimpArgs false
set_option linter.unusedVariables false
open Go.RowKit
set_option linter.unusedVariables false

theorem divide_any (m l fb yb gb lo hi B0 : Nat) (pv : Value) (ps : List Part) (Wd : World) (hWd : Wd.heap.size ≤ lo) (hlh : lo ≤ hi) (hhB : hi ≤ B0) (hP : PartsAt Wd pv ps) (hV : ∀ p ∈ ps, ValidPart p) (all : List (Nat → Int)) (J : List (Nat → Int) → World → Prop)
    (hJ : ∀ s A B, Below B0 A B → J s A → J s B) (hlo : fb < lo) (hy0 : hi ≤ yb) (hg0 : hi ≤ gb) (h5 : ps.length ≤ 5)
    (hY : ∀ pre x W1, J pre W1 → pre ++ [x] <+: all → YieldAt Fence.wide m Tryz.prog l #[countsV x] W1 fun e W' => e = .returned (.bool true) ∧ J (pre ++ [x]) W' ∧ KeptO lo hi W1 W') :
    ∀ (rem at_ : Nat) (left : List ByteArray) (lv : Value) (c : Nat → Int) (pre : List (Nat → Int)) (W : World), at_ + rem = ps.length → left.length ≤ 15 → StrsAt Wd lv left → B0 ≤ W.heap.size → KeptO lo hi Wd W → CapW W l fb yb gb pv → J pre W → pre ++ waysF ((ps.drop at_).map partSlotsM) at_ left c <+: all →
      Calls Tryz.prog 141 #[.int .i64 at_, lv, countsV c, .pointer (some ⟨fb, 0, none⟩), .pointer (some ⟨yb, 0, none⟩), .pointer (some ⟨gb, 0, none⟩)] W (DivPost lo hi J (pre ++ waysF ((ps.drop at_).map partSlotsM) at_ left c) W) := by
  intro rem
  induction rem with
  | zero =>
    intro at_ left lv c pre W hat h15 hl hB hK hC hp hall
    obtain rfl : at_ = ps.length := by omega
    rw [List.drop_length] at hall ⊢
    exact divide_end m l fb yb gb lo hi B0 pv ps Wd hWd hP all J hJ hlo hy0 hg0 h5 hY left lv c pre W hl hB hK hC hp hall
  | succ rem ih =>
    intro at_ left lv c pre W hat h15 hl hB hK hC hp hall
    have hlt : at_ < ps.length := by omega
    have hd : ps.drop at_ = ps[at_] :: ps.drop (at_ + 1) := List.drop_eq_getElem_cons hlt
    rw [hd, List.map_cons] at hall ⊢
    refine divide_step m l fb yb gb lo hi B0 pv ps Wd hWd hlh hhB hP all J hJ hlo hy0 hg0 h5 at_ hlt (hV _ (List.getElem_mem hlt)) _ left h15 lv c pre W hl hB hK hC hp hall ?_
    intro n lv' pre w hn hl' hB' hK' hC' hp' hall'
    exact ih (at_ + 1) (left.drop n) lv' (updC c at_ n) pre w (by omega) (by rw [List.length_drop]; omega) hl' hB' hK' hC' hp' hall'

set_option maxRecDepth 100000 in
set_option maxHeartbeats 2000000 in
theorem ways_seq (n lo hi fb wb : Nat) (pv lv : Value) (ps : List Part) (l : List ByteArray) (Wd w : World) (hWd : Wd.heap.size ≤ lo) (hlh : lo ≤ hi) (hhw : hi ≤ w.heap.size) (hP : PartsAt Wd pv ps) (hV : ∀ p ∈ ps, ValidPart p) (h5 : ps.length ≤ 5) (h15 : l.length ≤ 15) (hl : StrsAt Wd lv l) (hK : KeptO lo hi Wd w)
    (hfb : fb < lo) (hwb : wb < lo) (hcf : w.cell? ⟨fb, 1, none⟩ = some pv) (hcw : w.cell? ⟨wb, 0, none⟩ = some lv) :
    SeqOwn n Tryz.prog 140 #[.pointer (some ⟨fb, 0, none⟩), .pointer (some ⟨wb, 0, none⟩)] (fun c => #[countsV c]) (KeptO lo hi) (formWays ps l) w := by
  intro y J W hW hJ hY h0
  have hxW : Ext w W := hW
  obtain ⟨W3, hW3⟩ : ∃ W3, W3 = (W.alloc (.cells #[.func (.yield y) #[] #[]] 174)).alloc (.cells #[divideF fb W.heap.size (W.heap.size + 1)] 233) := ⟨_, rfl⟩
  have hx3 : Ext W W3 := by rw [hW3]; exact (ext_alloc _ _).alloc _
  have hzW := hxW.size
  have hc : CapW W3 y fb W.heap.size (W.heap.size + 1) pv := ⟨hx3.cell (hxW.cell hcf), by rw [hW3]; simp [go_sem], by rw [hW3]; simp [go_sem]⟩
  have hd := divide_any (n - 1) y fb W.heap.size (W.heap.size + 1) lo hi W.heap.size pv ps Wd hWd hlh (by omega) hP hV (formWays ps l) J hJ hfb (by omega) (by omega) h5 hY ps.length 0 l lv (fun _ => 0) [] W3 (by omega) h15 hl hx3.size ((hK.trans (hxW.kept _ _)).trans (hx3.kept _ _)) hc (hJ _ _ _ hx3.below h0) (by rw [List.drop_zero, List.nil_append]; exact List.prefix_rfl)
  rw [List.drop_zero, List.nil_append] at hd
  replace hcw := hxW.cell hcw
  have zwb := cell_lt hcw
  have hcg3 := hc.give
  obtain ⟨la, lc, rfl, -⟩ := hl.shape
  have HW := Lib.hid hW3
  unfold countsV at hd
  simp only [Int.natCast_zero] at hd
  unfold divideF at HW hcg3
  change Calls _ _ _ _ (DivPost lo hi J (formWays ps l) W3) at hd
  clear hW3 hY hJ hc
  refine callsIn_wide.2 ?_
  simp only [List.append_toArray, List.cons_append, List.nil_append]
  go_enter Tryz.func140, Tryz.ntmps140
  go_wp2_with fail
  rw [← HW.out]
  refine hd.mono ?_
  rintro e W4 ⟨rfl, hj, hck⟩
  go_wp2
  go_end0
  exact ⟨⟨_, rfl⟩, hj⟩

set_option maxRecDepth 100000 in
theorem ways_any (fv lv : Value) (f : Form) (l : List ByteArray) (w : World) (hf : FormV w fv f) (hl : StrsAt w lv l) :
    Calls Tryz.prog 99 #[fv, lv] w fun e w' => ∃ fb wb pv, e = .returned (.func (.func 140) #[] #[.pointer (some ⟨fb, 0, none⟩), .pointer (some ⟨wb, 0, none⟩)]) ∧
      w'.cell? ⟨fb, 1, none⟩ = some pv ∧ PartsAt w' pv f.parts ∧ w'.cell? ⟨wb, 0, none⟩ = some lv ∧ Ext w w' := by
  obtain ⟨pv, rfl, hns, hp⟩ := hf
  obtain ⟨a, cap, rfl, hlc, hcm⟩ := hp.shape
  obtain ⟨la, lc, rfl, -⟩ := hl.shape
  go_enter Tryz.func99, Tryz.ntmps99
  go_wp2
  go_ret
  refine ⟨_, _, .slice a f.parts.length cap, rfl, by simp [go_sem], hp.ext (by first | (with_reducible exact Ext.refl _) | (with_reducible assumption) | (show Below _ _ _; go_grown; done)), by simp [go_sem], (by first | (with_reducible exact Ext.refl _) | (with_reducible assumption) | (show Below _ _ _; go_grown; done))⟩
end Go.Proofs.YtcamegaimleomaaGreat
