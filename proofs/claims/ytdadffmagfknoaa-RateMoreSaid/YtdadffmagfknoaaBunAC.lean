/-
  THE RULE FOR A REGION THAT DRAWS ITS ORDER, WITH FACTS THAT SPEAK OF EARLIER VALUES TOO: what an operation yields may be said of the values of the operations that it waits for. With a pivot, or with none. Over any program.
  THE RULE FOR A REGION THAT DRAWS ITS ORDER, in which one operation (p) may write, and others need not wait for it, nor it for them: what is said of those is kept by what it writes. Over any program.
  A REGION THAT DRAWS ITS ORDER, WHOSE LAST OPERATION WAITS FOR ALL OTHERS: the others first, then this one, by a fact of its own. Over any program.
  A BOX OF CELLS: what lies in it, and what does behind stores into it.
  WHAT AN AGENT PAYS: roundings, house.entry and entry.pays of the program.
-/
import Derived.Test.YtdadffmagfknoaaBunAB
import Derived.Test.YtdadffmagfknoaaBunAA
namespace Go.Proofs.Ytdadffmagfknoaa
set_option linter.unusedSimpArgs false
set_option linter.unusedVariables false
open Go.RowKit
set_option linter.unusedVariables false
set_option linter.unusedSimpArgs false
namespace Facts.Dep
open Facts.Piv (Two anyS opS any_of_anyS opS_of_stepG pivotB pivotB_spec)

variable {P : Program} {ops : Array Oper}

def upd (vs : Nat → Value) (i : Nat) (v : Value) : Nat → Value := fun j => if j = i then v else vs j
theorem upon_mono {S T : Value → World → Prop} (h : ∀ u w, S u w → T u w) : ∀ r : Result Next, upon P S r → upon P T r
  | .ok (.value v) w', hh => h _ _ hh
  | .ok .skip w', hh => h _ _ hh
  | .ok (.enter f args) w', hh => Calls.mono hh fun e w'' ⟨v, he, hs⟩ => ⟨v, he, h _ _ hs⟩
  | .halt _ _, hh => hh.elim
theorem stepG_mono {o : Oper} {a : Act} {w : World} {S T : Value → World → Prop} (hh : stepG P ops o a w S) (h : ∀ u w, S u w → T u w) : stepG P ops o a w T := by
  unfold stepG at *
  split
  · rename_i hw; rw [if_pos hw] at hh; exact upon_mono h _ hh
  · rename_i hw; rw [if_neg hw] at hh; exact h _ _ hh
theorem any_facts {E C : World → World → Prop} (T : Two E C) (p : Nat) (hp : pivotB ops p = true ∨ ∀ a b, C a b → E a b) {Q : Exit → Act → World → Prop} {a : Act} {w : World} (Φ : Nat → (Nat → Value) → World → Prop) (fix : Nat → Option Value) (hfix : ∀ i v vs w, fix i = some v → Φ i vs w → vs i = v) (hloc : ∀ i vs us w, i < ops.size → (∀ j, j = i ∨ (depsOf ops ops.size i).contains j = true → vs j = us j) → Φ i vs w → Φ i us w) (hB : okB ops = true)
    (hkeep : ∀ i vs w1 w2, i < ops.size → E w1 w2 → Φ i vs w1 → Φ i vs w2) (hkeepC : ∀ i vs w1 w2, i < ops.size → (depsOf ops ops.size p).contains i = true → C w1 w2 → Φ i vs w1 → Φ i vs w2)
    (hops : ∀ i o, ops[i]? = some o → ∀ (vs : Nat → Value) w1, (∀ j v, fix j = some v → vs j = v) → ((depsOf ops ops.size i).contains p = false → E w w1) → C w w1 → (∀ j ∈ depsOf ops ops.size i, Φ j vs w1) → stepG P ops o (acts ops a vs (fun _ => true) i) w1 (fun u w2 => (if i = p then C w1 w2 else E w1 w2) ∧ Φ i (upd vs i u) w2))
    (hend : ∀ (vs : Nat → Value) w1, (∀ j v, fix j = some v → vs j = v) → C w w1 → (∀ i, i < ops.size → Φ i vs w1) → Q .normal (acts ops a vs (fun _ => true) ops.size) w1) : anyS P ops Q ops.size (Array.replicate ops.size false) a { w with drawn := w.drawn + 1 } := by
  have hsel : ∀ (j : Nat) (o : Oper) cs b, ops[j]? = some o → o.op ≠ .select cs b := by
    have h2 := hB
    simp only [okB, Bool.and_eq_true] at h2
    exact Region.noSelect_spec h2.1
  suffices key : ∀ (fuel : Nat) (listed : Array Bool) (vs : Nat → Value) (w1 : World), (∀ j v, fix j = some v → vs j = v) → listed.size = ops.size → listed.toList.count true + fuel = ops.size → (listed.getD p false = false → E w w1) → C w w1 →
      (∀ j, listed.getD j false = true → ∀ i ∈ direct ops j, listed.getD i false = true) → (∀ j, j < ops.size → listed.getD j false = true → Φ j vs w1) →
      anyS P ops Q fuel listed (acts ops a vs (fun j => listed.getD j false) ops.size) w1 by
    have h0 := key ops.size (Array.replicate ops.size false) (fun j => (fix j).getD undef) { w with drawn := w.drawn + 1 } (fun j v h => by simp [h]) (by simp) (by simp [List.count_replicate]) (fun _ => T.d w) (T.sub _ _ (T.d w))
      (fun j hj => by rw [getD_rep] at hj; cases hj) (fun j _ hj => by rw [getD_rep] at hj; cases hj)
    have e : acts ops a (fun j => (fix j).getD undef) (fun j => (Array.replicate ops.size false).getD j false) ops.size = a := by
      have : ∀ n, acts ops a (fun j => (fix j).getD undef) (fun j => (Array.replicate ops.size false).getD j false) n = a := by
        intro n
        induction n with
        | zero => rfl
        | succ n ih => simp only [acts]; rw [if_neg (by rw [getD_rep]; exact Bool.false_ne_true)]; exact ih
      exact this _
    rw [e] at h0
    exact h0
  intro fuel
  have hdone : ∀ (listed : Array Bool) (vs : Nat → Value) (w1 : World), (∀ j v, fix j = some v → vs j = v) → (∀ j, j < ops.size → listed.getD j false = true) → C w w1 → (∀ j, j < ops.size → listed.getD j false = true → Φ j vs w1) →
      Q .normal (acts ops a vs (fun j => listed.getD j false) ops.size) w1 := by
    intro listed vs w1 hfx hall hx hΦ
    have := hend vs w1 hfx hx fun i hi => hΦ i hi (hall i hi)
    rwa [acts_congr a vs vs (fun _ => true) (fun j => listed.getD j false) ops.size fun j hj => ⟨(hall j hj).symm, fun _ => rfl⟩] at this
  induction fuel with
  | zero =>
    intro listed vs w1 hfx hsz hc hxE hx hcl hΦ
    have hall : ∀ j, j < ops.size → listed.getD j false = true := by
      intro j hj
      have hlen : listed.toList.count true = listed.toList.length := by simp only [Array.length_toList]; omega
      have := List.count_eq_length.1 hlen (listed[j]'(by omega)) (by simp)
      rw [Array.getD_eq_getD_getElem?, Array.getElem?_eq_getElem (by omega)]
      exact this.symm
    refine ⟨?_, hdone listed vs w1 hfx hall hx hΦ⟩
    rw [List.eq_nil_iff_forall_not_mem]
    intro i hi
    have hi1 := (mem_ready.1 hi)
    obtain ⟨o, ho, -⟩ := hi1.2
    have hlt : i < ops.size := (Array.getElem?_eq_some_iff.1 ho).1
    have h1 := hall i hlt
    have h2 := hi1.1
    rw [Array.getD_eq_getD_getElem?, Array.getElem?_eq_getElem (by omega)] at h1 h2
    simp only [Option.getD_some] at h1 h2
    rw [h1] at h2; cases h2
  | succ fuel ih =>
    intro listed vs w1 hfx hsz hc hxE hx hcl hΦ
    refine ⟨fun h => hdone listed vs w1 hfx (all_listed hB hsz h) hx hΦ, fun i hi => ?_⟩
    obtain ⟨hi0, o, ho, hafter⟩ := mem_ready.1 hi
    have hlt : i < ops.size := (Array.getElem?_eq_some_iff.1 ho).1
    have hnot : listed.getD i false = false := by
      rw [Array.getD_eq_getD_getElem?, Array.getElem?_eq_getElem (by omega)] at hi0 ⊢
      exact hi0
    have hdir := direct_ready ho hafter
    have hdeps := dep_in hcl ops.size i hdir
    have hdl : ∀ j ∈ depsOf ops ops.size i, j < ops.size := fun j hj => by
      have := hdeps j hj
      rcases Nat.lt_or_ge j listed.size with h' | h'
      · omega
      · simp [Array.getD_eq_getD_getElem?, Array.getElem?_eq_none h'] at this
    have hnp : pivotB ops p = true → (depsOf ops ops.size i).contains p = false → i ≠ p → listed.getD p false = false := fun hp hcp hip => by
      cases hlp : listed.getD p false with
      | false => rfl
      | true =>
        exfalso
        rcases pivotB_spec hp i hlt hip with h | h
        · have := dep_in hcl ops.size p (hcl p hlp) i h
          rw [hnot] at this; cases this
        · rw [← List.contains_iff_mem, hcp] at h; cases h
    have hxE' : (depsOf ops ops.size i).contains p = false → E w w1 := fun hcp => by
      rcases hp with hp | hp
      · by_cases hip : i = p
        · exact hxE (by rw [← hip]; exact hnot)
        · exact hxE (hnp hp hcp hip)
      · exact hp _ _ hx
    have hst := hops i o ho vs w1 hfx hxE' hx fun j hj => hΦ j (hdl j hj) (hdeps j hj)
    -- a later one that has come up is apart from this one
    have hlater : ∀ j, i < j → j < ops.size → listed.getD j false = true → apartB ops i j = true := fun j h1 h2 h3 =>
      ((okB_spec hB j h2).2 i h1).resolve_right fun hmem => by
        have := dep_in hcl ops.size j (hcl j h3) i hmem
        rw [hnot] at this; cases this
    have hearlier : ∀ j, j < i → listed.getD j false = false → apartB ops j i = true := fun j h1 h3 =>
      ((okB_spec hB i hlt).2 j h1).resolve_right fun hmem => by
        have := hdeps j hmem
        rw [h3] at this; cases this
    have hacts : ∀ n, i ≤ n → n ≤ ops.size → ∀ t, t ∈ o.looksAt ops → (acts ops a vs (fun j => listed.getD j false) n).tmps[t]? = (acts ops a vs (fun _ => true) i).tmps[t]? := by
      intro n hin
      obtain ⟨k, rfl⟩ := Nat.exists_eq_add_of_le hin
      clear hin
      induction k with
      | zero =>
        intro _ t ht
        refine acts_slot a vs _ _ t i fun j hj hd => ?_
        cases hl : listed.getD j false with
        | true => rfl
        | false =>
          have hap := hearlier j hj hl
          have hoj : ops[j]? = some (ops[j]'(by omega)) := by simp [show j < ops.size from by omega]
          rw [hoj] at hd
          simp only [apartB, hoj, ho] at hap
          exact absurd ht ((Oper.apart_spec hap).1 t hd)
      | succ k ih2 =>
        intro hle t ht
        have ih2 := ih2 (by omega) t ht
        obtain ⟨n, hn⟩ : ∃ n, n = i + k := ⟨_, rfl⟩
        rw [← hn] at ih2
        rw [show i + (k + 1) = n + 1 from by omega]
        simp only [acts]
        by_cases hl : listed.getD n false = true
        · rw [if_pos hl]
          have hni : i ≠ n := fun e => by subst e; rw [hnot] at hl; cases hl
          have hap := hlater n (by omega) (by omega) hl
          have hon : ops[n]? = some (ops[n]'(by omega)) := by simp [show n < ops.size from by omega]
          simp only [apartB, hon, ho] at hap
          rw [put_other _ _ _ _ (fun hd => (Oper.apart_spec hap).2.2 t (by rw [hon] at hd; exact hd) ht)]
          exact ih2
        · rw [if_neg hl]; exact ih2
    have hst2 : stepG P ops o (acts ops a vs (fun j => listed.getD j false) ops.size) w1 (fun u w2 => (if i = p then C w1 w2 else E w1 w2) ∧ Φ i (upd vs i u) w2) :=
      stepG_same (hsel i o · · ho) (fun t ht => (hacts ops.size (by omega) (Nat.le_refl _) t ht).symm) hst
    refine opS_of_stepG ho hst2 ?_
    rintro v w2 ⟨hx2, hv⟩
    have hod : (ops[i]?).bind (·.dst) = o.dst := by rw [ho]; rfl
    rw [← hod, acts_put a vs (fun j => listed.getD j false) i v hnot ops.size hlt (fun j h1 h2 h3 d hd hd2 => by
      have hap := hlater j h1 h2 h3
      have hoj : ops[j]? = some (ops[j]'h2) := by simp [h2]
      simp only [apartB, hoj, ho] at hap
      rw [ho] at hd; rw [hoj] at hd2
      exact (Oper.apart_spec hap).2.1 d hd hd2)]
    have hget : ∀ j, (listed.setIfInBounds i true).getD j false = (listed.getD j false || decide (j = i)) := by
      intro j
      by_cases hji : j = i
      · subst hji; simp [Array.getD_eq_getD_getElem?, show j < listed.size from by omega]
      · rw [getD_set_ne false (Ne.symm hji)]; simp [hji]
    have := ih (listed.setIfInBounds i true) (upd vs i v) w2 (fun j u hj => by
        by_cases hji : j = i
        · subst hji; exact hfix j u _ w2 hj hv
        · simpa [upd, hji] using hfx j u hj) (by simpa using hsz) (by
        rw [Array.toList_setIfInBounds, List.count_set (by simpa using (by omega : i < listed.size))]
        have e : (listed.toList[i]'(by simpa using (by omega : i < listed.size))) = false := by
          rw [Array.getD_eq_getD_getElem?, Array.getElem?_eq_getElem (by omega)] at hnot
          simpa using hnot
        have e' : (listed.toList[i]'(by simpa using (by omega : i < listed.size)) == true) = false := by rw [e]; rfl
        rw [e']; simp only [Bool.false_eq_true, if_false, beq_self_eq_true, if_true]; omega) (fun hl => by
          rw [hget] at hl
          simp only [Bool.or_eq_false_iff, decide_eq_false_iff_not] at hl
          rw [if_neg (fun e => hl.2 e.symm)] at hx2
          exact T.te _ _ _ (hxE hl.1) hx2) (by
          split at hx2
          · exact T.tc _ _ _ hx hx2
          · exact T.tc _ _ _ hx (T.sub _ _ hx2))
      (by
        intro j hj k hk
        rw [hget] at hj ⊢
        by_cases hji : j = i
        · subst hji; rw [hdir k hk]; rfl
        · simp only [hji, decide_false, Bool.or_false] at hj
          rw [hcl j hj k hk]; rfl)
      (by
        intro j hj hl
        by_cases hji : j = i
        · subst hji; exact hv
        · rw [hget] at hl
          simp only [hji, decide_false, Bool.or_false] at hl
          have hnd : (depsOf ops ops.size j).contains i = false := by
            rw [Bool.eq_false_iff, ne_eq, List.contains_iff_mem]
            intro h
            have := dep_in hcl ops.size j (hcl j hl) i h
            rw [hnot] at this; cases this
          have hold : Φ j (upd vs i v) w1 := hloc j vs _ _ hj (fun x hx => by
            unfold upd
            split
            · rename_i hxi
              subst hxi
              rcases hx with hx | hx
              · exact absurd hx.symm hji
              · rw [hnd] at hx; cases hx
            · rfl) (hΦ j hj hl)
          split at hx2
          · rename_i hip
            rcases hp with hp | hp
            · subst hip
              refine hkeepC j _ _ _ hj ?_ hx2 hold
              rw [List.contains_iff_mem]
              refine (pivotB_spec hp j hj hji).resolve_right fun h => ?_
              rw [← List.contains_iff_mem, hnd] at h; cases h
            · exact hkeep j _ _ _ hj (hp _ _ hx2) hold
          · exact hkeep j _ _ _ hj hx2 hold)
    have e2 : (fun j => (listed.setIfInBounds i true).getD j false) = fun j => listed.getD j false || decide (j = i) := funext hget
    rw [e2] at this
    exact this


/-- what is said of an operation: its value; a fact of its value; a fact of its value and of those of earlier ones that it waits for -/
inductive Spec where
  | val (v : Value)
  | fact (f : Value → World → Prop)
  | on (js : List Nat) (f : List Value → Value → World → Prop)
def Spec.holds : Spec → (Nat → Value) → Value → World → Prop
  | .val v, _, u, _ => u = v
  | .fact f, _, u, w => f u w
  | .on js f, vs, u, w => f (js.map vs) u w
def Spec.fixed : Spec → Option Value
  | .val v => some v
  | _ => none
def Spec.js : Spec → List Nat
  | .on js _ => js
  | _ => []
def locB (ops : Array Oper) : Nat → List Spec → Bool
  | _, [] => true
  | i, s :: r => s.js.all (fun j => (depsOf ops ops.size i).contains j && decide (j < i)) && locB ops (i + 1) r
def look : List (Nat × Value) → Nat → Value
  | [], _ => undef
  | p :: r, j => if p.1 = j then p.2 else look r j
def Walk (E C : World → World → Prop) (p : Nat) (P : Program) (ops : Array Oper) (w : World) (Q : Exit → Act → World → Prop) : Nat → List Oper → List Spec → List (Nat × (World → Prop)) → List (Nat × Value) → Act → Prop
  | _, [], _, env, _, a => ∀ w1, C w w1 → (∀ j f, (j, f) ∈ env → f w1) → Q .normal a w1
  | _, _ :: _, [], _, _, _ => False
  | i, o :: rest, .val v :: ss, env, us, a => (∀ w1, ((depsOf ops ops.size i).contains p = false → E w w1) → C w w1 → Have ops i env w1 → stepG P ops o a w1 (fun u w2 => (if i = p then C w1 w2 else E w1 w2) ∧ u = v)) ∧ Walk E C p P ops w Q (i + 1) rest ss env ((i, v) :: us) (a.put o.dst v)
  | i, o :: rest, .fact f :: ss, env, us, a => (∀ w1, ((depsOf ops ops.size i).contains p = false → E w w1) → C w w1 → Have ops i env w1 → stepG P ops o a w1 (fun u w2 => (if i = p then C w1 w2 else E w1 w2) ∧ f u w2)) ∧ ∀ u, Walk E C p P ops w Q (i + 1) rest ss ((i, f u) :: env) ((i, u) :: us) (a.put o.dst u)
  | i, o :: rest, .on js f :: ss, env, us, a => (∀ w1, ((depsOf ops ops.size i).contains p = false → E w w1) → C w w1 → Have ops i env w1 → stepG P ops o a w1 (fun u w2 => (if i = p then C w1 w2 else E w1 w2) ∧ f (js.map (look us)) u w2)) ∧ ∀ u, Walk E C p P ops w Q (i + 1) rest ss ((i, f (js.map (look us)) u) :: env) ((i, u) :: us) (a.put o.dst u)
def keepsS (E C : World → World → Prop) (ops : Array Oper) (p : Nat) : Nat → List Spec → Prop
  | _, [] => True
  | i, .val _ :: r => keepsS E C ops p (i + 1) r
  | i, .fact f :: r => (∀ u w1 w2, E w1 w2 → f u w1 → f u w2) ∧ ((depsOf ops ops.size p).contains i = true → ∀ u w1 w2, C w1 w2 → f u w1 → f u w2) ∧ keepsS E C ops p (i + 1) r
  | i, .on _ f :: r => (∀ l u w1 w2, E w1 w2 → f l u w1 → f l u w2) ∧ ((depsOf ops ops.size p).contains i = true → ∀ l u w1 w2, C w1 w2 → f l u w1 → f l u w2) ∧ keepsS E C ops p (i + 1) r
theorem keepsS_get {E C : World → World → Prop} {p : Nat} : ∀ (ss : List Spec) (k i : Nat) (s : Spec), keepsS E C ops p k ss → ss[i]? = some s →
    (∀ vs u w1 w2, E w1 w2 → s.holds vs u w1 → s.holds vs u w2) ∧ ((depsOf ops ops.size p).contains (k + i) = true → ∀ vs u w1 w2, C w1 w2 → s.holds vs u w1 → s.holds vs u w2)
  | [], _, _, _, _, h => by simp at h
  | .val v :: r, k, 0, s, _, h => by simp at h; subst h; exact ⟨fun _ _ _ _ _ h => h, fun _ _ _ _ _ _ h => h⟩
  | .val v :: r, k, i + 1, s, hk, h => by
    have := keepsS_get r (k + 1) i s hk (by simpa using h)
    rwa [show k + 1 + i = k + (i + 1) from by omega] at this
  | .fact f :: r, k, 0, s, hk, h => by simp at h; subst h; exact ⟨fun _ => hk.1, fun hc _ => hk.2.1 hc⟩
  | .fact f :: r, k, i + 1, s, hk, h => by
    have := keepsS_get r (k + 1) i s hk.2.2 (by simpa using h)
    rwa [show k + 1 + i = k + (i + 1) from by omega] at this
  | .on js f :: r, k, 0, s, hk, h => by simp at h; subst h; exact ⟨fun vs => hk.1 (js.map vs), fun hc vs => hk.2.1 hc (js.map vs)⟩
  | .on js f :: r, k, i + 1, s, hk, h => by
    have := keepsS_get r (k + 1) i s hk.2.2 (by simpa using h)
    rwa [show k + 1 + i = k + (i + 1) from by omega] at this
theorem locB_get : ∀ (ss : List Spec) (k i : Nat) (s : Spec), locB ops k ss = true → ss[i]? = some s → ∀ j ∈ s.js, (depsOf ops ops.size (k + i)).contains j = true ∧ j < k + i
  | [], _, _, _, _, h => by simp at h
  | s0 :: r, k, 0, s, hl, h => by
    simp at h; subst h
    simp only [locB, Bool.and_eq_true, List.all_eq_true] at hl
    intro j hj
    have := hl.1 j hj
    simpa using this
  | s0 :: r, k, i + 1, s, hl, h => by
    simp only [locB, Bool.and_eq_true] at hl
    have := locB_get r (k + 1) i s hl.2 (by simpa using h)
    rwa [show k + 1 + i = k + (i + 1) from by omega] at this
theorem holds_loc {s : Spec} {vs us : Nat → Value} {u : Value} {w : World} (h : ∀ j ∈ s.js, vs j = us j) (hh : s.holds vs u w) : s.holds us u w := by
  cases s with
  | val v => exact hh
  | fact f => exact hh
  | on js f =>
    have e : js.map vs = js.map us := List.map_congr_left h
    show f (js.map us) u w
    rw [← e]; exact hh

theorem walk_at {E C : World → World → Prop} {p : Nat} {w : World} {Q : Exit → Act → World → Prop} {a0 : Act} (ss : List Spec) (hlb : locB ops 0 ss = true) (vs : Nat → Value) (hfx : ∀ j s v, ss[j]? = some s → s.fixed = some v → vs j = v) :
    ∀ (n k : Nat) (rest : List Oper) (env : List (Nat × (World → Prop))) (us : List (Nat × Value)) (a : Act), n + k = ops.size → (∀ j, rest[j]? = ops[k + j]?) → rest.length = n → a = acts ops a0 vs (fun _ => true) k →
      (∀ j q, (j, q) ∈ env → ∃ s, ss[j]? = some s ∧ j < k ∧ q = s.holds vs (vs j)) → (∀ j s, ss[j]? = some s → s.fixed = none → j < k → (j, s.holds vs (vs j)) ∈ env) → (∀ j, j < k → look us j = vs j) → Walk E C p P ops w Q k rest (ss.drop k) env us a →
      (∀ i o, k ≤ i → ops[i]? = some o → ∃ s, ss[i]? = some s ∧ ∀ w1, ((depsOf ops ops.size i).contains p = false → E w w1) → C w w1 → (∀ j ∈ depsOf ops ops.size i, j < i → ∀ s, ss[j]? = some s → s.holds vs (vs j) w1) → stepG P ops o (acts ops a0 vs (fun _ => true) i) w1 (fun u w2 => (if i = p then C w1 w2 else E w1 w2) ∧ s.holds vs u w2)) ∧
      (∀ w1, C w w1 → (∀ i s, i < ops.size → ss[i]? = some s → s.holds vs (vs i) w1) → Q .normal (acts ops a0 vs (fun _ => true) ops.size) w1) := by
  intro n
  induction n with
  | zero =>
    intro k rest env us a hk hr hl ha henv henv2 hus hw
    obtain rfl : rest = [] := List.length_eq_zero_iff.1 hl
    have e : k = ops.size := by omega
    subst e
    refine ⟨fun i o hi ho => by have := (Array.getElem?_eq_some_iff.1 ho).1; omega, fun w1 hx hall => ?_⟩
    simp only [Walk] at hw
    rw [← ha]
    refine hw w1 hx fun j q hq => ?_
    obtain ⟨s, hs, hj, rfl⟩ := henv j q hq
    exact hall j s hj hs
  | succ n ih =>
    intro k rest env us a hk hr hl ha henv henv2 hus hw
    obtain ⟨o, rest, rfl⟩ : ∃ o r, rest = o :: r := by cases rest with | nil => simp at hl | cons o r => exact ⟨o, r, rfl⟩
    have hok : ops[k]? = some o := by simpa using (hr 0).symm
    have hact : ∀ v, vs k = v → a.put o.dst v = acts ops a0 vs (fun _ => true) (k + 1) := fun v hv => by
      simp only [acts, if_true]; rw [← ha, hok, hv]; rfl
    cases hs : ss[k]? with
    | none =>
      rw [List.drop_eq_nil_of_le (by rcases Nat.lt_or_ge k ss.length with h | h; · rw [List.getElem?_eq_getElem h] at hs; cases hs
                                     · exact h)] at hw
      simp only [Walk] at hw
    | some s =>
      have hlt : k < ss.length := (List.getElem?_eq_some_iff.1 hs).1
      rw [List.drop_eq_getElem_cons hlt, (List.getElem?_eq_some_iff.1 hs).2] at hw
      have hlean : ∀ w1, (∀ j ∈ depsOf ops ops.size k, j < k → ∀ s, ss[j]? = some s → s.holds vs (vs j) w1) → Have ops k env w1 := by
        intro w1 h j q hq hc
        obtain ⟨s, hs, hj, rfl⟩ := henv j q hq
        exact h j (by simpa using hc) hj s hs
      have hr' : ∀ j, rest[j]? = ops[k + 1 + j]? := fun j => by have := hr (j + 1); simpa [Nat.add_assoc, Nat.add_comm 1 j] using this
      have hus' : ∀ v, vs k = v → ∀ j, j < k + 1 → look ((k, v) :: us) j = vs j := fun v hv j hj => by
        simp only [look]
        split
        · rename_i e; rw [← e, hv]
        · rename_i e; exact hus j (by omega)
      have hmap : s.js.map (look us) = s.js.map vs := List.map_congr_left fun j hj => hus j (by have := (locB_get ss 0 k s hlb hs j hj).2; omega)
      cases s with
      | val v =>
        simp only [Walk] at hw
        have hv : vs k = v := hfx k _ v hs rfl
        obtain ⟨h1, h2⟩ := ih (k + 1) rest env _ _ (by omega) hr' (by simpa using hl) (hact v hv) (fun j q hq => by obtain ⟨s, hs, hj, e⟩ := henv j q hq; exact ⟨s, hs, by omega, e⟩)
          (fun j s hs' hf hj => henv2 j s hs' hf (by rcases Nat.lt_or_ge j k with h | h; · exact h
                                                     · obtain rfl : j = k := by omega
                                                       rw [hs] at hs'; cases hs'; cases hf)) (hus' v hv) hw.2
        refine ⟨fun i o' hi ho => ?_, h2⟩
        rcases Nat.lt_or_ge k i with hik | hik
        · exact h1 i o' (by omega) ho
        · obtain rfl : i = k := by omega
          rw [hok] at ho; cases ho
          exact ⟨_, hs, fun w1 hE hx hd => by rw [← ha]; exact hw.1 w1 hE hx (hlean w1 hd)⟩
      | fact f =>
        simp only [Walk] at hw
        obtain ⟨h1, h2⟩ := ih (k + 1) rest _ _ _ (by omega) hr' (by simpa using hl) (hact (vs k) rfl)
          (fun j q hq => by
            rcases List.mem_cons.1 hq with e | hq
            · cases e; exact ⟨_, hs, by omega, rfl⟩
            · obtain ⟨s, hs, hj, e⟩ := henv j q hq; exact ⟨s, hs, by omega, e⟩)
          (fun j s hs' hf hj => by
            rcases Nat.lt_or_ge j k with h | h
            · exact List.mem_cons_of_mem _ (henv2 j s hs' hf h)
            · obtain rfl : j = k := by omega
              rw [hs] at hs'; cases hs'; exact List.mem_cons_self) (hus' _ rfl) (hw.2 (vs k))
        refine ⟨fun i o' hi ho => ?_, h2⟩
        rcases Nat.lt_or_ge k i with hik | hik
        · exact h1 i o' (by omega) ho
        · obtain rfl : i = k := by omega
          rw [hok] at ho; cases ho
          exact ⟨_, hs, fun w1 hE hx hd => by rw [← ha]; exact hw.1 w1 hE hx (hlean w1 hd)⟩
      | on js f =>
        simp only [Walk] at hw
        simp only [Spec.js] at hmap
        rw [hmap] at hw
        obtain ⟨h1, h2⟩ := ih (k + 1) rest _ _ _ (by omega) hr' (by simpa using hl) (hact (vs k) rfl)
          (fun j q hq => by
            rcases List.mem_cons.1 hq with e | hq
            · cases e; exact ⟨_, hs, by omega, rfl⟩
            · obtain ⟨s, hs, hj, e⟩ := henv j q hq; exact ⟨s, hs, by omega, e⟩)
          (fun j s hs' hf hj => by
            rcases Nat.lt_or_ge j k with h | h
            · exact List.mem_cons_of_mem _ (henv2 j s hs' hf h)
            · obtain rfl : j = k := by omega
              rw [hs] at hs'; cases hs'; exact List.mem_cons_self) (hus' _ rfl) (hw.2 (vs k))
        refine ⟨fun i o' hi ho => ?_, h2⟩
        rcases Nat.lt_or_ge k i with hik | hik
        · exact h1 i o' (by omega) ho
        · obtain rfl : i = k := by omega
          rw [hok] at ho; cases ho
          exact ⟨_, hs, fun w1 hE hx hd => by rw [← ha]; exact hw.1 w1 hE hx (hlean w1 hd)⟩

/-- THE RULE, for a region whose operations are written out: a spec for each operation, the walk in the text's order. -/
theorem any_region {E C : World → World → Prop} (T : Two E C) (p : Nat) {Q : Exit → Act → World → Prop} {a : Act} {w : World} {l : List Oper} (ss : List Spec) (hB : okB l.toArray = true) (hpv : pivotB l.toArray p = true ∨ ∀ a b, C a b → E a b) (hlb : locB l.toArray 0 ss = true) (hk : keepsS E C l.toArray p 0 ss)
    (h : Walk E C p P l.toArray w Q 0 l ss [] [] a) : anyS P l.toArray Q l.toArray.size (Array.replicate l.toArray.size false) a { w with drawn := w.drawn + 1 } := by
  have base := fun vs hfx => walk_at (E := E) (C := C) (p := p) (P := P) (ops := l.toArray) (w := w) (Q := Q) (a0 := a) ss hlb vs hfx l.length 0 l [] [] a (by simp) (by simp) rfl rfl (fun _ _ h => by cases h) (fun _ _ _ _ h => by omega) (fun _ h => by omega) h
  refine any_facts T p hpv (fun i vs => match ss[i]? with | some s => s.holds vs (vs i) | none => fun _ => False) (fun i => (ss[i]?).bind Spec.fixed) ?_ ?_ hB ?_ ?_ ?_ ?_
  · intro i v vs w hv hu
    cases hs : ss[i]? with
    | none => simp [hs] at hv
    | some s => cases s with
      | val x => simp only [hs, Option.bind_some, Spec.fixed, Option.some.injEq] at hv; subst hv; simpa [hs, Spec.holds] using hu
      | fact f => simp [hs, Spec.fixed] at hv
      | on js f => simp [hs, Spec.fixed] at hv
  · intro i vs us w hi hj hu
    cases hs : ss[i]? with
    | none => simp [hs] at hu
    | some s =>
      simp only [hs] at hu ⊢
      rw [← hj i (.inl rfl)]
      exact holds_loc (fun j hjs => hj j (.inr (by have := (locB_get ss 0 i s hlb hs j hjs).1; rwa [Nat.zero_add] at this))) hu
  · intro i vs w1 w2 _ hx hu
    cases hs : ss[i]? with
    | none => simp [hs] at hu
    | some s => simp only [hs] at hu ⊢; exact (keepsS_get ss 0 i s hk hs).1 vs _ w1 w2 hx hu
  · intro i vs w1 w2 _ hc hx hu
    cases hs : ss[i]? with
    | none => simp [hs] at hu
    | some s => simp only [hs] at hu ⊢; exact (keepsS_get ss 0 i s hk hs).2 (by rw [Nat.zero_add]; exact hc) vs _ w1 w2 hx hu
  · intro i o ho vs w1 hfx hE hx hd
    obtain ⟨h1, -⟩ := base vs fun j s v hs hv => hfx j v (by simp [hs, hv])
    obtain ⟨s, hs, hst⟩ := h1 i o (Nat.zero_le _) ho
    simp only [hs]
    have hst := hst w1 hE hx fun j hj _ s' hs' => by
      have := hd j hj
      simpa only [hs'] using this
    refine stepG_mono hst fun u w2 ⟨h1, h2⟩ => ⟨h1, ?_⟩
    have e : upd vs i u i = u := by simp [upd]
    rw [e]
    refine holds_loc (fun j hjs => ?_) h2
    have := (locB_get ss 0 i s hlb hs j hjs).2
    simp only [upd]
    rw [if_neg (by omega)]
  · intro vs w1 hfx hx hall
    obtain ⟨-, h2⟩ := base vs fun j s v hs hv => hfx j v (by simp [hs, hv])
    refine h2 w1 hx fun i s hi hs => ?_
    have := hall i hi
    simpa only [hs] using this
theorem wp_region {E C : World → World → Prop} (T : Two E C) (p : Nat) {id : Nat} {Q : Exit → Act → World → Prop} {a : Act} {w : World} {l : List Oper} (ss : List Spec) (hm : P.follows .mixedOrders = true) (hB : okB l.toArray = true) (hpv : pivotB l.toArray p = true ∨ ∀ a b, C a b → E a b) (hlb : locB l.toArray 0 ss = true) (hk : keepsS E C l.toArray p 0 ss)
    (h : Walk E C p P l.toArray w Q 0 l ss [] [] a) : (Code.region id l.toArray true).wp P Q a w :=
  wp_region_any hm (any_of_anyS _ _ _ _ (any_region T p ss hB hpv hlb hk h))
end Facts.Dep
end Go.Proofs.Ytdadffmagfknoaa

namespace Go.Proofs.Ytdadffmagfknoaa
set_option linter.unusedSimpArgs false
set_option linter.unusedVariables false
open Go.RowKit
set_option linter.unusedVariables false
set_option linter.unusedSimpArgs false
namespace Facts.Dep.Free
open Facts.Piv (Two anyS opS any_of_anyS opS_of_stepG)
variable {P : Program} {ops : Array Oper}

theorem any_facts {E C : World → World → Prop} (T : Two E C) (p : Nat) {Q : Exit → Act → World → Prop} {a : Act} {w : World} (Φ : Nat → (Nat → Value) → World → Prop) (fix : Nat → Option Value) (hfix : ∀ i v vs w, fix i = some v → Φ i vs w → vs i = v) (hloc : ∀ i vs us w, i < ops.size → (∀ j, j = i ∨ (depsOf ops ops.size i).contains j = true → vs j = us j) → Φ i vs w → Φ i us w) (hB : okB ops = true)
    (hkeep : ∀ i vs w1 w2, i < ops.size → E w1 w2 → Φ i vs w1 → Φ i vs w2) (hkeepC : ∀ i vs w1 w2, i < ops.size → i ≠ p → (depsOf ops ops.size i).contains p = false → C w1 w2 → Φ i vs w1 → Φ i vs w2)
    (hops : ∀ i o, ops[i]? = some o → ∀ (vs : Nat → Value) w1, (∀ j v, fix j = some v → vs j = v) → C w w1 → (∀ j ∈ depsOf ops ops.size i, Φ j vs w1) → stepG P ops o (acts ops a vs (fun _ => true) i) w1 (fun u w2 => (if i = p then C w1 w2 else E w1 w2) ∧ Φ i (upd vs i u) w2))
    (hend : ∀ (vs : Nat → Value) w1, (∀ j v, fix j = some v → vs j = v) → C w w1 → (∀ i, i < ops.size → Φ i vs w1) → Q .normal (acts ops a vs (fun _ => true) ops.size) w1) : anyS P ops Q ops.size (Array.replicate ops.size false) a { w with drawn := w.drawn + 1 } := by
  have hsel : ∀ (j : Nat) (o : Oper) cs b, ops[j]? = some o → o.op ≠ .select cs b := by
    have h2 := hB
    simp only [okB, Bool.and_eq_true] at h2
    exact Region.noSelect_spec h2.1
  suffices key : ∀ (fuel : Nat) (listed : Array Bool) (vs : Nat → Value) (w1 : World), (∀ j v, fix j = some v → vs j = v) → listed.size = ops.size → listed.toList.count true + fuel = ops.size → C w w1 →
      (∀ j, listed.getD j false = true → ∀ i ∈ direct ops j, listed.getD i false = true) → (∀ j, j < ops.size → listed.getD j false = true → Φ j vs w1) →
      anyS P ops Q fuel listed (acts ops a vs (fun j => listed.getD j false) ops.size) w1 by
    have h0 := key ops.size (Array.replicate ops.size false) (fun j => (fix j).getD undef) { w with drawn := w.drawn + 1 } (fun j v h => by simp [h]) (by simp) (by simp [List.count_replicate]) (T.sub _ _ (T.d w))
      (fun j hj => by rw [getD_rep] at hj; cases hj) (fun j _ hj => by rw [getD_rep] at hj; cases hj)
    have e : acts ops a (fun j => (fix j).getD undef) (fun j => (Array.replicate ops.size false).getD j false) ops.size = a := by
      have : ∀ n, acts ops a (fun j => (fix j).getD undef) (fun j => (Array.replicate ops.size false).getD j false) n = a := by
        intro n
        induction n with
        | zero => rfl
        | succ n ih => simp only [acts]; rw [if_neg (by rw [getD_rep]; exact Bool.false_ne_true)]; exact ih
      exact this _
    rw [e] at h0
    exact h0
  intro fuel
  have hdone : ∀ (listed : Array Bool) (vs : Nat → Value) (w1 : World), (∀ j v, fix j = some v → vs j = v) → (∀ j, j < ops.size → listed.getD j false = true) → C w w1 → (∀ j, j < ops.size → listed.getD j false = true → Φ j vs w1) →
      Q .normal (acts ops a vs (fun j => listed.getD j false) ops.size) w1 := by
    intro listed vs w1 hfx hall hx hΦ
    have := hend vs w1 hfx hx fun i hi => hΦ i hi (hall i hi)
    rwa [acts_congr a vs vs (fun _ => true) (fun j => listed.getD j false) ops.size fun j hj => ⟨(hall j hj).symm, fun _ => rfl⟩] at this
  induction fuel with
  | zero =>
    intro listed vs w1 hfx hsz hc hx hcl hΦ
    have hall : ∀ j, j < ops.size → listed.getD j false = true := by
      intro j hj
      have hlen : listed.toList.count true = listed.toList.length := by simp only [Array.length_toList]; omega
      have := List.count_eq_length.1 hlen (listed[j]'(by omega)) (by simp)
      rw [Array.getD_eq_getD_getElem?, Array.getElem?_eq_getElem (by omega)]
      exact this.symm
    refine ⟨?_, hdone listed vs w1 hfx hall hx hΦ⟩
    rw [List.eq_nil_iff_forall_not_mem]
    intro i hi
    have hi1 := (mem_ready.1 hi)
    obtain ⟨o, ho, -⟩ := hi1.2
    have hlt : i < ops.size := (Array.getElem?_eq_some_iff.1 ho).1
    have h1 := hall i hlt
    have h2 := hi1.1
    rw [Array.getD_eq_getD_getElem?, Array.getElem?_eq_getElem (by omega)] at h1 h2
    simp only [Option.getD_some] at h1 h2
    rw [h1] at h2; cases h2
  | succ fuel ih =>
    intro listed vs w1 hfx hsz hc hx hcl hΦ
    refine ⟨fun h => hdone listed vs w1 hfx (all_listed hB hsz h) hx hΦ, fun i hi => ?_⟩
    obtain ⟨hi0, o, ho, hafter⟩ := mem_ready.1 hi
    have hlt : i < ops.size := (Array.getElem?_eq_some_iff.1 ho).1
    have hnot : listed.getD i false = false := by
      rw [Array.getD_eq_getD_getElem?, Array.getElem?_eq_getElem (by omega)] at hi0 ⊢
      exact hi0
    have hdir := direct_ready ho hafter
    have hdeps := dep_in hcl ops.size i hdir
    have hdl : ∀ j ∈ depsOf ops ops.size i, j < ops.size := fun j hj => by
      have := hdeps j hj
      rcases Nat.lt_or_ge j listed.size with h' | h'
      · omega
      · simp [Array.getD_eq_getD_getElem?, Array.getElem?_eq_none h'] at this
    have hst := hops i o ho vs w1 hfx hx fun j hj => hΦ j (hdl j hj) (hdeps j hj)
    -- a later one that has come up is apart from this one
    have hlater : ∀ j, i < j → j < ops.size → listed.getD j false = true → apartB ops i j = true := fun j h1 h2 h3 =>
      ((okB_spec hB j h2).2 i h1).resolve_right fun hmem => by
        have := dep_in hcl ops.size j (hcl j h3) i hmem
        rw [hnot] at this; cases this
    have hearlier : ∀ j, j < i → listed.getD j false = false → apartB ops j i = true := fun j h1 h3 =>
      ((okB_spec hB i hlt).2 j h1).resolve_right fun hmem => by
        have := hdeps j hmem
        rw [h3] at this; cases this
    have hacts : ∀ n, i ≤ n → n ≤ ops.size → ∀ t, t ∈ o.looksAt ops → (acts ops a vs (fun j => listed.getD j false) n).tmps[t]? = (acts ops a vs (fun _ => true) i).tmps[t]? := by
      intro n hin
      obtain ⟨k, rfl⟩ := Nat.exists_eq_add_of_le hin
      clear hin
      induction k with
      | zero =>
        intro _ t ht
        refine acts_slot a vs _ _ t i fun j hj hd => ?_
        cases hl : listed.getD j false with
        | true => rfl
        | false =>
          have hap := hearlier j hj hl
          have hoj : ops[j]? = some (ops[j]'(by omega)) := by simp [show j < ops.size from by omega]
          rw [hoj] at hd
          simp only [apartB, hoj, ho] at hap
          exact absurd ht ((Oper.apart_spec hap).1 t hd)
      | succ k ih2 =>
        intro hle t ht
        have ih2 := ih2 (by omega) t ht
        obtain ⟨n, hn⟩ : ∃ n, n = i + k := ⟨_, rfl⟩
        rw [← hn] at ih2
        rw [show i + (k + 1) = n + 1 from by omega]
        simp only [acts]
        by_cases hl : listed.getD n false = true
        · rw [if_pos hl]
          have hni : i ≠ n := fun e => by subst e; rw [hnot] at hl; cases hl
          have hap := hlater n (by omega) (by omega) hl
          have hon : ops[n]? = some (ops[n]'(by omega)) := by simp [show n < ops.size from by omega]
          simp only [apartB, hon, ho] at hap
          rw [put_other _ _ _ _ (fun hd => (Oper.apart_spec hap).2.2 t (by rw [hon] at hd; exact hd) ht)]
          exact ih2
        · rw [if_neg hl]; exact ih2
    have hst2 : stepG P ops o (acts ops a vs (fun j => listed.getD j false) ops.size) w1 (fun u w2 => (if i = p then C w1 w2 else E w1 w2) ∧ Φ i (upd vs i u) w2) :=
      stepG_same (hsel i o · · ho) (fun t ht => (hacts ops.size (by omega) (Nat.le_refl _) t ht).symm) hst
    refine opS_of_stepG ho hst2 ?_
    rintro v w2 ⟨hx2, hv⟩
    have hod : (ops[i]?).bind (·.dst) = o.dst := by rw [ho]; rfl
    rw [← hod, acts_put a vs (fun j => listed.getD j false) i v hnot ops.size hlt (fun j h1 h2 h3 d hd hd2 => by
      have hap := hlater j h1 h2 h3
      have hoj : ops[j]? = some (ops[j]'h2) := by simp [h2]
      simp only [apartB, hoj, ho] at hap
      rw [ho] at hd; rw [hoj] at hd2
      exact (Oper.apart_spec hap).2.1 d hd hd2)]
    have hget : ∀ j, (listed.setIfInBounds i true).getD j false = (listed.getD j false || decide (j = i)) := by
      intro j
      by_cases hji : j = i
      · subst hji; simp [Array.getD_eq_getD_getElem?, show j < listed.size from by omega]
      · rw [getD_set_ne false (Ne.symm hji)]; simp [hji]
    have := ih (listed.setIfInBounds i true) (upd vs i v) w2 (fun j u hj => by
        by_cases hji : j = i
        · subst hji; exact hfix j u _ w2 hj hv
        · simpa [upd, hji] using hfx j u hj) (by simpa using hsz) (by
        rw [Array.toList_setIfInBounds, List.count_set (by simpa using (by omega : i < listed.size))]
        have e : (listed.toList[i]'(by simpa using (by omega : i < listed.size))) = false := by
          rw [Array.getD_eq_getD_getElem?, Array.getElem?_eq_getElem (by omega)] at hnot
          simpa using hnot
        have e' : (listed.toList[i]'(by simpa using (by omega : i < listed.size)) == true) = false := by rw [e]; rfl
        rw [e']; simp only [Bool.false_eq_true, if_false, beq_self_eq_true, if_true]; omega) (by
          split at hx2
          · exact T.tc _ _ _ hx hx2
          · exact T.tc _ _ _ hx (T.sub _ _ hx2))
      (by
        intro j hj k hk
        rw [hget] at hj ⊢
        by_cases hji : j = i
        · subst hji; rw [hdir k hk]; rfl
        · simp only [hji, decide_false, Bool.or_false] at hj
          rw [hcl j hj k hk]; rfl)
      (by
        intro j hj hl
        by_cases hji : j = i
        · subst hji; exact hv
        · rw [hget] at hl
          simp only [hji, decide_false, Bool.or_false] at hl
          have hnd : (depsOf ops ops.size j).contains i = false := by
            rw [Bool.eq_false_iff, ne_eq, List.contains_iff_mem]
            intro h
            have := dep_in hcl ops.size j (hcl j hl) i h
            rw [hnot] at this; cases this
          have hold : Φ j (upd vs i v) w1 := hloc j vs _ _ hj (fun x hx => by
            unfold upd
            split
            · rename_i hxi
              subst hxi
              rcases hx with hx | hx
              · exact absurd hx.symm hji
              · rw [hnd] at hx; cases hx
            · rfl) (hΦ j hj hl)
          split at hx2
          · rename_i hip
            refine hkeepC j _ _ _ hj (fun e => hji (e.trans hip.symm)) ?_ hx2 hold
            rw [← hip]; exact hnd
          · exact hkeep j _ _ _ hj hx2 hold)
    have e2 : (fun j => (listed.setIfInBounds i true).getD j false) = fun j => listed.getD j false || decide (j = i) := funext hget
    rw [e2] at this
    exact this


def Walk (E C : World → World → Prop) (p : Nat) (P : Program) (ops : Array Oper) (w : World) (Q : Exit → Act → World → Prop) : Nat → List Oper → List Spec → List (Nat × (World → Prop)) → List (Nat × Value) → Act → Prop
  | _, [], _, env, _, a => ∀ w1, C w w1 → (∀ j f, (j, f) ∈ env → f w1) → Q .normal a w1
  | _, _ :: _, [], _, _, _ => False
  | i, o :: rest, .val v :: ss, env, us, a => (∀ w1, C w w1 → Have ops i env w1 → stepG P ops o a w1 (fun u w2 => (if i = p then C w1 w2 else E w1 w2) ∧ u = v)) ∧ Walk E C p P ops w Q (i + 1) rest ss env ((i, v) :: us) (a.put o.dst v)
  | i, o :: rest, .fact f :: ss, env, us, a => (∀ w1, C w w1 → Have ops i env w1 → stepG P ops o a w1 (fun u w2 => (if i = p then C w1 w2 else E w1 w2) ∧ f u w2)) ∧ ∀ u, Walk E C p P ops w Q (i + 1) rest ss ((i, f u) :: env) ((i, u) :: us) (a.put o.dst u)
  | i, o :: rest, .on js f :: ss, env, us, a => (∀ w1, C w w1 → Have ops i env w1 → stepG P ops o a w1 (fun u w2 => (if i = p then C w1 w2 else E w1 w2) ∧ f (js.map (look us)) u w2)) ∧ ∀ u, Walk E C p P ops w Q (i + 1) rest ss ((i, f (js.map (look us)) u) :: env) ((i, u) :: us) (a.put o.dst u)
def keepsS (E C : World → World → Prop) (ops : Array Oper) (p : Nat) : Nat → List Spec → Prop
  | _, [] => True
  | i, .val _ :: r => keepsS E C ops p (i + 1) r
  | i, .fact f :: r => (∀ u w1 w2, E w1 w2 → f u w1 → f u w2) ∧ (i ≠ p → (depsOf ops ops.size i).contains p = false → ∀ u w1 w2, C w1 w2 → f u w1 → f u w2) ∧ keepsS E C ops p (i + 1) r
  | i, .on _ f :: r => (∀ l u w1 w2, E w1 w2 → f l u w1 → f l u w2) ∧ (i ≠ p → (depsOf ops ops.size i).contains p = false → ∀ l u w1 w2, C w1 w2 → f l u w1 → f l u w2) ∧ keepsS E C ops p (i + 1) r
theorem keepsS_get {E C : World → World → Prop} {p : Nat} : ∀ (ss : List Spec) (k i : Nat) (s : Spec), keepsS E C ops p k ss → ss[i]? = some s →
    (∀ vs u w1 w2, E w1 w2 → s.holds vs u w1 → s.holds vs u w2) ∧ (k + i ≠ p → (depsOf ops ops.size (k + i)).contains p = false → ∀ vs u w1 w2, C w1 w2 → s.holds vs u w1 → s.holds vs u w2)
  | [], _, _, _, _, h => by simp at h
  | .val v :: r, k, 0, s, _, h => by simp at h; subst h; exact ⟨fun _ _ _ _ _ h => h, fun _ _ _ _ _ _ _ h => h⟩
  | .val v :: r, k, i + 1, s, hk, h => by
    have := keepsS_get r (k + 1) i s hk (by simpa using h)
    rwa [show k + 1 + i = k + (i + 1) from by omega] at this
  | .fact f :: r, k, 0, s, hk, h => by simp at h; subst h; exact ⟨fun _ => hk.1, fun hi hc _ => hk.2.1 hi hc⟩
  | .fact f :: r, k, i + 1, s, hk, h => by
    have := keepsS_get r (k + 1) i s hk.2.2 (by simpa using h)
    rwa [show k + 1 + i = k + (i + 1) from by omega] at this
  | .on js f :: r, k, 0, s, hk, h => by simp at h; subst h; exact ⟨fun vs => hk.1 (js.map vs), fun hi hc vs => hk.2.1 hi hc (js.map vs)⟩
  | .on js f :: r, k, i + 1, s, hk, h => by
    have := keepsS_get r (k + 1) i s hk.2.2 (by simpa using h)
    rwa [show k + 1 + i = k + (i + 1) from by omega] at this
theorem walk_at {E C : World → World → Prop} {p : Nat} {w : World} {Q : Exit → Act → World → Prop} {a0 : Act} (ss : List Spec) (hlb : locB ops 0 ss = true) (vs : Nat → Value) (hfx : ∀ j s v, ss[j]? = some s → s.fixed = some v → vs j = v) :
    ∀ (n k : Nat) (rest : List Oper) (env : List (Nat × (World → Prop))) (us : List (Nat × Value)) (a : Act), n + k = ops.size → (∀ j, rest[j]? = ops[k + j]?) → rest.length = n → a = acts ops a0 vs (fun _ => true) k →
      (∀ j q, (j, q) ∈ env → ∃ s, ss[j]? = some s ∧ j < k ∧ q = s.holds vs (vs j)) → (∀ j s, ss[j]? = some s → s.fixed = none → j < k → (j, s.holds vs (vs j)) ∈ env) → (∀ j, j < k → look us j = vs j) → Walk E C p P ops w Q k rest (ss.drop k) env us a →
      (∀ i o, k ≤ i → ops[i]? = some o → ∃ s, ss[i]? = some s ∧ ∀ w1, C w w1 → (∀ j ∈ depsOf ops ops.size i, j < i → ∀ s, ss[j]? = some s → s.holds vs (vs j) w1) → stepG P ops o (acts ops a0 vs (fun _ => true) i) w1 (fun u w2 => (if i = p then C w1 w2 else E w1 w2) ∧ s.holds vs u w2)) ∧
      (∀ w1, C w w1 → (∀ i s, i < ops.size → ss[i]? = some s → s.holds vs (vs i) w1) → Q .normal (acts ops a0 vs (fun _ => true) ops.size) w1) := by
  intro n
  induction n with
  | zero =>
    intro k rest env us a hk hr hl ha henv henv2 hus hw
    obtain rfl : rest = [] := List.length_eq_zero_iff.1 hl
    have e : k = ops.size := by omega
    subst e
    refine ⟨fun i o hi ho => by have := (Array.getElem?_eq_some_iff.1 ho).1; omega, fun w1 hx hall => ?_⟩
    simp only [Walk] at hw
    rw [← ha]
    refine hw w1 hx fun j q hq => ?_
    obtain ⟨s, hs, hj, rfl⟩ := henv j q hq
    exact hall j s hj hs
  | succ n ih =>
    intro k rest env us a hk hr hl ha henv henv2 hus hw
    obtain ⟨o, rest, rfl⟩ : ∃ o r, rest = o :: r := by cases rest with | nil => simp at hl | cons o r => exact ⟨o, r, rfl⟩
    have hok : ops[k]? = some o := by simpa using (hr 0).symm
    have hact : ∀ v, vs k = v → a.put o.dst v = acts ops a0 vs (fun _ => true) (k + 1) := fun v hv => by
      simp only [acts, if_true]; rw [← ha, hok, hv]; rfl
    cases hs : ss[k]? with
    | none =>
      rw [List.drop_eq_nil_of_le (by rcases Nat.lt_or_ge k ss.length with h | h; · rw [List.getElem?_eq_getElem h] at hs; cases hs
                                     · exact h)] at hw
      simp only [Walk] at hw
    | some s =>
      have hlt : k < ss.length := (List.getElem?_eq_some_iff.1 hs).1
      rw [List.drop_eq_getElem_cons hlt, (List.getElem?_eq_some_iff.1 hs).2] at hw
      have hlean : ∀ w1, (∀ j ∈ depsOf ops ops.size k, j < k → ∀ s, ss[j]? = some s → s.holds vs (vs j) w1) → Have ops k env w1 := by
        intro w1 h j q hq hc
        obtain ⟨s, hs, hj, rfl⟩ := henv j q hq
        exact h j (by simpa using hc) hj s hs
      have hr' : ∀ j, rest[j]? = ops[k + 1 + j]? := fun j => by have := hr (j + 1); simpa [Nat.add_assoc, Nat.add_comm 1 j] using this
      have hus' : ∀ v, vs k = v → ∀ j, j < k + 1 → look ((k, v) :: us) j = vs j := fun v hv j hj => by
        simp only [look]
        split
        · rename_i e; rw [← e, hv]
        · rename_i e; exact hus j (by omega)
      have hmap : s.js.map (look us) = s.js.map vs := List.map_congr_left fun j hj => hus j (by have := (locB_get ss 0 k s hlb hs j hj).2; omega)
      cases s with
      | val v =>
        simp only [Walk] at hw
        have hv : vs k = v := hfx k _ v hs rfl
        obtain ⟨h1, h2⟩ := ih (k + 1) rest env _ _ (by omega) hr' (by simpa using hl) (hact v hv) (fun j q hq => by obtain ⟨s, hs, hj, e⟩ := henv j q hq; exact ⟨s, hs, by omega, e⟩)
          (fun j s hs' hf hj => henv2 j s hs' hf (by rcases Nat.lt_or_ge j k with h | h; · exact h
                                                     · obtain rfl : j = k := by omega
                                                       rw [hs] at hs'; cases hs'; cases hf)) (hus' v hv) hw.2
        refine ⟨fun i o' hi ho => ?_, h2⟩
        rcases Nat.lt_or_ge k i with hik | hik
        · exact h1 i o' (by omega) ho
        · obtain rfl : i = k := by omega
          rw [hok] at ho; cases ho
          exact ⟨_, hs, fun w1 hx hd => by rw [← ha]; exact hw.1 w1 hx (hlean w1 hd)⟩
      | fact f =>
        simp only [Walk] at hw
        obtain ⟨h1, h2⟩ := ih (k + 1) rest _ _ _ (by omega) hr' (by simpa using hl) (hact (vs k) rfl)
          (fun j q hq => by
            rcases List.mem_cons.1 hq with e | hq
            · cases e; exact ⟨_, hs, by omega, rfl⟩
            · obtain ⟨s, hs, hj, e⟩ := henv j q hq; exact ⟨s, hs, by omega, e⟩)
          (fun j s hs' hf hj => by
            rcases Nat.lt_or_ge j k with h | h
            · exact List.mem_cons_of_mem _ (henv2 j s hs' hf h)
            · obtain rfl : j = k := by omega
              rw [hs] at hs'; cases hs'; exact List.mem_cons_self) (hus' _ rfl) (hw.2 (vs k))
        refine ⟨fun i o' hi ho => ?_, h2⟩
        rcases Nat.lt_or_ge k i with hik | hik
        · exact h1 i o' (by omega) ho
        · obtain rfl : i = k := by omega
          rw [hok] at ho; cases ho
          exact ⟨_, hs, fun w1 hx hd => by rw [← ha]; exact hw.1 w1 hx (hlean w1 hd)⟩
      | on js f =>
        simp only [Walk] at hw
        simp only [Spec.js] at hmap
        rw [hmap] at hw
        obtain ⟨h1, h2⟩ := ih (k + 1) rest _ _ _ (by omega) hr' (by simpa using hl) (hact (vs k) rfl)
          (fun j q hq => by
            rcases List.mem_cons.1 hq with e | hq
            · cases e; exact ⟨_, hs, by omega, rfl⟩
            · obtain ⟨s, hs, hj, e⟩ := henv j q hq; exact ⟨s, hs, by omega, e⟩)
          (fun j s hs' hf hj => by
            rcases Nat.lt_or_ge j k with h | h
            · exact List.mem_cons_of_mem _ (henv2 j s hs' hf h)
            · obtain rfl : j = k := by omega
              rw [hs] at hs'; cases hs'; exact List.mem_cons_self) (hus' _ rfl) (hw.2 (vs k))
        refine ⟨fun i o' hi ho => ?_, h2⟩
        rcases Nat.lt_or_ge k i with hik | hik
        · exact h1 i o' (by omega) ho
        · obtain rfl : i = k := by omega
          rw [hok] at ho; cases ho
          exact ⟨_, hs, fun w1 hx hd => by rw [← ha]; exact hw.1 w1 hx (hlean w1 hd)⟩

/-- THE RULE, for a region whose operations are written out: a spec for each operation, the walk in the text's order. -/
theorem any_region {E C : World → World → Prop} (T : Two E C) (p : Nat) {Q : Exit → Act → World → Prop} {a : Act} {w : World} {l : List Oper} (ss : List Spec) (hB : okB l.toArray = true) (hlb : locB l.toArray 0 ss = true) (hk : keepsS E C l.toArray p 0 ss)
    (h : Walk E C p P l.toArray w Q 0 l ss [] [] a) : anyS P l.toArray Q l.toArray.size (Array.replicate l.toArray.size false) a { w with drawn := w.drawn + 1 } := by
  have base := fun vs hfx => walk_at (E := E) (C := C) (p := p) (P := P) (ops := l.toArray) (w := w) (Q := Q) (a0 := a) ss hlb vs hfx l.length 0 l [] [] a (by simp) (by simp) rfl rfl (fun _ _ h => by cases h) (fun _ _ _ _ h => by omega) (fun _ h => by omega) h
  refine any_facts T p (fun i vs => match ss[i]? with | some s => s.holds vs (vs i) | none => fun _ => False) (fun i => (ss[i]?).bind Spec.fixed) ?_ ?_ hB ?_ ?_ ?_ ?_
  · intro i v vs w hv hu
    cases hs : ss[i]? with
    | none => simp [hs] at hv
    | some s => cases s with
      | val x => simp only [hs, Option.bind_some, Spec.fixed, Option.some.injEq] at hv; subst hv; simpa [hs, Spec.holds] using hu
      | fact f => simp [hs, Spec.fixed] at hv
      | on js f => simp [hs, Spec.fixed] at hv
  · intro i vs us w hi hj hu
    cases hs : ss[i]? with
    | none => simp [hs] at hu
    | some s =>
      simp only [hs] at hu ⊢
      rw [← hj i (.inl rfl)]
      exact holds_loc (fun j hjs => hj j (.inr (by have := (locB_get ss 0 i s hlb hs j hjs).1; rwa [Nat.zero_add] at this))) hu
  · intro i vs w1 w2 _ hx hu
    cases hs : ss[i]? with
    | none => simp [hs] at hu
    | some s => simp only [hs] at hu ⊢; exact (keepsS_get ss 0 i s hk hs).1 vs _ w1 w2 hx hu
  · intro i vs w1 w2 _ hip hc hx hu
    cases hs : ss[i]? with
    | none => simp [hs] at hu
    | some s => simp only [hs] at hu ⊢; exact (keepsS_get ss 0 i s hk hs).2 (by rw [Nat.zero_add]; exact hip) (by rw [Nat.zero_add]; exact hc) vs _ w1 w2 hx hu
  · intro i o ho vs w1 hfx hx hd
    obtain ⟨h1, -⟩ := base vs fun j s v hs hv => hfx j v (by simp [hs, hv])
    obtain ⟨s, hs, hst⟩ := h1 i o (Nat.zero_le _) ho
    simp only [hs]
    have hst := hst w1 hx fun j hj _ s' hs' => by
      have := hd j hj
      simpa only [hs'] using this
    refine stepG_mono hst fun u w2 ⟨h1, h2⟩ => ⟨h1, ?_⟩
    have e : upd vs i u i = u := by simp [upd]
    rw [e]
    refine holds_loc (fun j hjs => ?_) h2
    have := (locB_get ss 0 i s hlb hs j hjs).2
    simp only [upd]
    rw [if_neg (by omega)]
  · intro vs w1 hfx hx hall
    obtain ⟨-, h2⟩ := base vs fun j s v hs hv => hfx j v (by simp [hs, hv])
    refine h2 w1 hx fun i s hi hs => ?_
    have := hall i hi
    simpa only [hs] using this
theorem wp_region {E C : World → World → Prop} (T : Two E C) (p : Nat) {id : Nat} {Q : Exit → Act → World → Prop} {a : Act} {w : World} {l : List Oper} (ss : List Spec) (hm : P.follows .mixedOrders = true) (hB : okB l.toArray = true) (hlb : locB l.toArray 0 ss = true) (hk : keepsS E C l.toArray p 0 ss)
    (h : Walk E C p P l.toArray w Q 0 l ss [] [] a) : (Code.region id l.toArray true).wp P Q a w :=
  wp_region_any hm (any_of_anyS _ _ _ _ (any_region T p ss hB hlb hk h))
end Facts.Dep.Free
end Go.Proofs.Ytdadffmagfknoaa

namespace Go.Proofs.Ytdadffmagfknoaa
set_option linter.unusedSimpArgs false
set_option linter.unusedVariables false
open Go.RowKit
set_option linter.unusedVariables false
set_option linter.unusedSimpArgs false
namespace Facts.Peel
open Facts.Piv (Two anyS opS any_of_anyS opS_of_stepG)
variable {P : Program}

theorem wp_monoQ {o : Oper} {a : Act} {w : World} {K : Act → World → Prop} {Q Q' : Exit → Act → World → Prop} (h : ∀ e a w, e ≠ .normal → Q e a w → Q' e a w) (hh : o.wp P a w K Q) : o.wp P a w K Q' := by
  unfold Oper.wp at *
  generalize (execOp a.eval o).run P w = r at *
  cases r with
  | ok n w' =>
    cases n <;> simp only [Oper.upon] at hh ⊢ <;>
      first
        | exact hh
        | exact h _ _ _ (by simp) hh
        | exact Calls.mono hh (fun e w'' he => by
            cases e
            · exact he
            · exact h _ _ _ (by simp) he
            · obtain ⟨a0, w0, hq⟩ := he
              exact ⟨a0, w0, h _ _ _ (by simp) hq⟩)
  | halt x w' => cases x <;> simp only [Oper.upon] at hh ⊢ <;> first | exact hh | exact h _ _ _ (by simp) hh
def lastB (l : List Oper) (o : Oper) : Bool :=
  (l.all fun x => (match x.guard with | some g => decide (g.1 < l.length) | none => true) && (x.after.toList.all fun e => !Region.binds .any e || decide (e.on < l.length))) && (o.after.toList.all fun e => !Region.binds .any e || decide (e.on < l.length)) &&
    (List.range l.length).all fun i => (depsOf (l ++ [o]).toArray (l.length + 1) l.length).contains i
theorem push_getD (listed : Array Bool) (j : Nat) (d : Bool) (h : j < listed.size) : (listed.push false).getD j d = listed.getD j d := by
  rw [Array.getD_eq_getD_getElem?, Array.getD_eq_getD_getElem?, Array.getElem?_push, if_neg (by omega)]
theorem push_last (listed : Array Bool) (d : Bool) : (listed.push false).getD listed.size d = false := by
  rw [Array.getD_eq_getD_getElem?, Array.getElem?_push, if_pos rfl]; rfl
theorem push_set (listed : Array Bool) (i : Nat) (h : i < listed.size) : (listed.push false).setIfInBounds i true = (listed.setIfInBounds i true).push false := by
  apply Array.ext_getElem?
  intro j
  rw [Array.getElem?_setIfInBounds, Array.getElem?_push, Array.getElem?_push, Array.getElem?_setIfInBounds]
  simp only [Array.size_push, Array.size_setIfInBounds]
  by_cases e : i = j
  · subst e
    rw [if_pos rfl, if_neg (show ¬ i = listed.size by omega), if_pos rfl, if_pos h, if_pos (show i < listed.size + 1 by omega)]
  · rw [if_neg e, if_neg e]
theorem any_peel {l : List Oper} {o : Oper} {Q : Exit → Act → World → Prop} (hlast : lastB l o = true) (hB : okB (l ++ [o]).toArray = true) :
    ∀ (fuel : Nat) (listed : Array Bool) (a : Act) (w : World), listed.size = l.length → listed.toList.count true + fuel = l.length → (∀ j, (listed.push false).getD j false = true → ∀ i ∈ direct (l ++ [o]).toArray j, (listed.push false).getD i false = true) →
      anyS P l.toArray (fun e a w => e = .normal ∧ stepG P (l ++ [o]).toArray o a w (fun u w2 => Q .normal (a.put o.dst u) w2)) fuel listed a w → anyS P (l ++ [o]).toArray Q (fuel + 1) (listed.push false) a w := by
  simp only [lastB, Bool.and_eq_true, List.all_eq_true, List.mem_range, Bool.or_eq_true, decide_eq_true_eq] at hlast
  obtain ⟨⟨hl1, hl2⟩, hl3⟩ := hlast
  have hat : ∀ i, i < l.length → (l ++ [o]).toArray[i]? = l.toArray[i]? := fun i hi => by
    simp only [List.getElem?_toArray]; exact List.getElem?_append_left hi
  have hato : (l ++ [o]).toArray[l.length]? = some o := by simp
  have hsz : (l ++ [o]).toArray.size = l.length + 1 := by simp
  have hb : ∀ x ∈ l, ∀ e ∈ x.after, Region.binds .any e = true → e.on < l.length := fun x hx e he hbd => by
    rcases (hl1 x hx).2 e (by simpa using he) with h | h
    · rw [hbd] at h; cases h
    · exact h
  have hbo : ∀ e ∈ o.after, Region.binds .any e = true → e.on < l.length := fun e he hbd => by
    rcases hl2 e (by simpa using he) with h | h
    · rw [hbd] at h; cases h
    · exact h
  have hmem : ∀ i x, l.toArray[i]? = some x → i < l.length ∧ x ∈ l := fun i x h => by
    rw [List.getElem?_toArray] at h
    exact ⟨(List.getElem?_eq_some_iff.1 h).1, List.mem_of_getElem? h⟩
  -- what is ready
  have ready1 : ∀ (listed : Array Bool), listed.size = l.length → ∀ i, i < l.length → (i ∈ Region.ready .any (l ++ [o]).toArray (listed.push false) ↔ i ∈ Region.ready .any l.toArray listed) := fun listed hs i hi => by
    rw [mem_ready, mem_ready, hat i hi, push_getD _ _ _ (by omega)]
    constructor
    · rintro ⟨h1, x, hx, h2⟩
      exact ⟨h1, x, hx, fun e he hbd => by have := h2 e he hbd; rwa [push_getD _ _ _ (by have := hb x (hmem i x hx).2 e he hbd; omega)] at this⟩
    · rintro ⟨h1, x, hx, h2⟩
      exact ⟨h1, x, hx, fun e he hbd => by rw [push_getD _ _ _ (by have := hb x (hmem i x hx).2 e he hbd; omega)]; exact h2 e he hbd⟩
  have ready2 : ∀ (listed : Array Bool), listed.size = l.length → ∀ i, i ∈ Region.ready .any (l ++ [o]).toArray (listed.push false) → i < l.length ∨ i = l.length := fun listed hs i hi => by
    obtain ⟨-, x, hx, -⟩ := mem_ready.1 hi
    have := (Array.getElem?_eq_some_iff.1 hx).1
    omega
  have ready3 : ∀ (listed : Array Bool), listed.size = l.length → (∀ j, j < l.length → listed.getD j false = true) → l.length ∈ Region.ready .any (l ++ [o]).toArray (listed.push false) := fun listed hs hall => by
    rw [mem_ready]
    refine ⟨by rw [← hs]; exact push_last _ _, o, hato, fun e he hbd => ?_⟩
    have := hbo e he hbd
    rw [push_getD _ _ _ (by omega)]
    exact hall _ this
  have ready4 : ∀ (listed : Array Bool), listed.size = l.length → (∀ j, (listed.push false).getD j false = true → ∀ i ∈ direct (l ++ [o]).toArray j, (listed.push false).getD i false = true) → l.length ∈ Region.ready .any (l ++ [o]).toArray (listed.push false) → ∀ j, j < l.length → listed.getD j false = true := fun listed hs hcl hr j hj => by
    obtain ⟨-, x, hx, h2⟩ := mem_ready.1 hr
    rw [hato] at hx
    obtain rfl := Option.some.inj hx
    have hd := dep_in hcl (l.length + 1) l.length (direct_ready hato h2) j (by simpa using hl3 j hj)
    rwa [push_getD _ _ _ (by omega)] at hd
  have full : ∀ (listed : Array Bool), listed.size = l.length → listed.toList.count true = l.length → ∀ j, j < l.length → listed.getD j false = true := fun listed hs hc j hj => by
    have hlen : listed.toList.count true = listed.toList.length := by simp only [Array.length_toList]; omega
    have := List.count_eq_length.1 hlen (listed[j]'(by omega)) (by simp)
    rw [Array.getD_eq_getD_getElem?, Array.getElem?_eq_getElem (by omega)]
    exact this.symm
  have setfull : ∀ (listed : Array Bool), listed.size = l.length → (∀ j, j < l.length → listed.getD j false = true) → Region.ready .any (l ++ [o]).toArray ((listed.push false).setIfInBounds l.length true) = [] := fun listed hs hall => by
    rw [List.eq_nil_iff_forall_not_mem]
    intro i hi
    obtain ⟨h1, x, hx, -⟩ := mem_ready.1 hi
    have hlt := (Array.getElem?_eq_some_iff.1 hx).1
    rw [hsz] at hlt
    by_cases e : i = l.length
    · subst e
      rw [Array.getD_eq_getD_getElem?, Array.getElem?_setIfInBounds, if_pos rfl] at h1
      simp [hs] at h1
    · rw [getD_set_ne true (Ne.symm e), push_getD _ _ _ (by omega)] at h1
      have := hall i (by omega)
      rw [Array.getD_eq_getD_getElem?, Array.getElem?_eq_getElem (by omega)] at h1 this
      simp only [Option.getD_some] at h1 this
      rw [h1] at this; cases this
  have hlast : ∀ (fuel : Nat) (listed : Array Bool) (a : Act) (w : World), listed.size = l.length → (∀ j, j < l.length → listed.getD j false = true) → stepG P (l ++ [o]).toArray o a w (fun u w2 => Q .normal (a.put o.dst u) w2) →
      opS P (l ++ [o]).toArray Q l.length (anyS P (l ++ [o]).toArray Q fuel ((listed.push false).setIfInBounds l.length true)) a w := fun fuel listed a w hs hall h => by
    refine opS_of_stepG hato h fun v w' hq => ?_
    have hr := setfull listed hs hall
    cases fuel with
    | zero => exact ⟨hr, hq⟩
    | succ fuel => exact ⟨fun _ => hq, fun i hi => by rw [hr] at hi; cases hi⟩
  intro fuel
  induction fuel with
  | zero =>
    intro listed a w hs hc hcl h
    have hall := full listed hs (by omega)
    refine ⟨fun hn => ?_, fun i hi => ?_⟩
    · have := ready3 listed hs hall
      rw [hn] at this; cases this
    · rcases ready2 listed hs i hi with h1 | h1
      · exfalso
        have h2 := (mem_ready.1 hi).1
        rw [push_getD _ _ _ (by omega)] at h2
        have := hall i h1
        rw [Array.getD_eq_getD_getElem?, Array.getElem?_eq_getElem (by omega)] at h2 this
        simp only [Option.getD_some] at h2 this
        rw [h2] at this; cases this
      · subst h1
        exact hlast 0 listed a w hs hall h.2.2
  | succ fuel ih =>
    intro listed a w hs hc hcl h
    refine ⟨fun hn => ?_, fun i hi => ?_⟩
    · exfalso
      have hnr : Region.ready .any l.toArray listed = [] := by
        rw [List.eq_nil_iff_forall_not_mem]
        intro i hi
        have hlt : i < l.length := by obtain ⟨-, x, hx, -⟩ := mem_ready.1 hi; exact (hmem i x hx).1
        have := (ready1 listed hs i hlt).2 hi
        rw [hn] at this; cases this
      -- by the order of the operations all have come up
      have hall : ∀ j, j < l.length → listed.getD j false = true := by
        intro j
        induction j using Nat.strongRecOn with
        | _ j ihj =>
          intro hj
          cases hl : listed.getD j false with
          | true => rfl
          | false =>
            exfalso
            have hr : j ∈ Region.ready .any l.toArray listed := by
              rw [mem_ready]
              refine ⟨?_, l[j], by simp [hj], fun e he hbd => ?_⟩
              · rw [Array.getD_eq_getD_getElem?, Array.getElem?_eq_getElem (by omega)] at hl ⊢
                exact hl
              · have hin : e.on ∈ direct (l ++ [o]).toArray j := by
                  simp only [direct, hat j hj, show l.toArray[j]? = some l[j] by simp [hj], List.mem_map, List.mem_filter]
                  exact ⟨e, ⟨by simpa using he, hbd⟩, rfl⟩
                have := (okB_spec hB j (by rw [hsz]; omega)).1 e.on hin
                exact ihj e.on this (by omega)
            rw [hnr] at hr; cases hr
      have hcount : listed.toList.count true = l.length := by
        have : listed.toList.count true = listed.toList.length := List.count_eq_length.2 fun b hb => by
          obtain ⟨i, hi, rfl⟩ := List.getElem_of_mem hb
          have := hall i (by simpa [hs] using hi)
          rw [Array.getD_eq_getD_getElem?, Array.getElem?_eq_getElem (by simpa using hi)] at this
          simpa using this.symm
        rw [this]; simpa using hs
      omega
    · rcases ready2 listed hs i hi with h1 | h1
      · have hr := (ready1 listed hs i h1).1 hi
        have hstep := h.2 i hr
        obtain ⟨hl0, x, hx, hafter⟩ := mem_ready.1 hi
        rw [hat i h1] at hx
        unfold opS at hstep ⊢
        rw [hat i h1, hx]
        rw [hx] at hstep
        simp only at hstep ⊢
        have hw : Region.wanted x (yielded (l ++ [o]).toArray a.tmps) = Region.wanted x (yielded l.toArray a.tmps) := by
          unfold Region.wanted
          cases hg : x.guard with
          | none => rfl
          | some g =>
            obtain ⟨g, want⟩ := g
            have := (hl1 x (hmem i x hx).2).1
            rw [hg] at this
            have hlt : g < l.length := by simpa using this
            simp only [yielded, hat g hlt]
        have hnot : listed.getD i false = false := by
          rw [push_getD _ _ _ (by omega)] at hl0
          rw [Array.getD_eq_getD_getElem?, Array.getElem?_eq_getElem (by omega)] at hl0 ⊢
          exact hl0
        have hK : ∀ a w, anyS P l.toArray (fun e a w => e = .normal ∧ stepG P (l ++ [o]).toArray o a w (fun u w2 => Q .normal (a.put o.dst u) w2)) fuel (listed.setIfInBounds i true) a w → anyS P (l ++ [o]).toArray Q (fuel + 1) ((listed.push false).setIfInBounds i true) a w := fun a w hh => by
          rw [push_set _ _ (by omega)]
          refine ih _ a w (by simpa using hs) ?_ ?_ hh
          · rw [Array.toList_setIfInBounds, List.count_set (by simpa using (by omega : i < listed.size))]
            have e : (listed.toList[i]'(by simpa using (by omega : i < listed.size))) = false := by
              rw [Array.getD_eq_getD_getElem?, Array.getElem?_eq_getElem (by omega)] at hnot
              simpa using hnot
            have e' : (listed.toList[i]'(by simpa using (by omega : i < listed.size)) == true) = false := by rw [e]; rfl
            rw [e']; simp only [Bool.false_eq_true, if_false, beq_self_eq_true, if_true]; omega
          · rw [← push_set _ _ (by omega)]
            intro j hj k hk
            by_cases e : j = i
            · subst e
              have h2 := direct_ready (ops := (l ++ [o]).toArray) (by rw [hat j h1]; exact hx) hafter k hk
              by_cases e2 : k = j
              · subst e2
                rw [Array.getD_eq_getD_getElem?, Array.getElem?_setIfInBounds, if_pos rfl, if_pos (by simp; omega)]; rfl
              · rw [getD_set_ne false (Ne.symm e2)]; exact h2
            · rw [getD_set_ne false (Ne.symm e)] at hj
              have h2 := hcl j hj k hk
              by_cases e2 : k = i
              · subst e2
                rw [Array.getD_eq_getD_getElem?, Array.getElem?_setIfInBounds, if_pos rfl, if_pos (by simp; omega)]; rfl
              · rw [getD_set_ne false (Ne.symm e2)]; exact h2
        rw [hw]
        split
        · rename_i hww
          rw [if_pos hww] at hstep
          exact Oper.wp_mono hK (wp_monoQ (fun e a w he hq => absurd hq.1 he) hstep)
        · rename_i hww
          rw [if_neg hww] at hstep
          exact hK _ _ hstep
      · subst h1
        have hall := ready4 listed hs hcl hi
        have hr : Region.ready .any l.toArray listed = [] := by
          rw [List.eq_nil_iff_forall_not_mem]
          intro i hi2
          obtain ⟨h2, x, hx, -⟩ := mem_ready.1 hi2
          have hlt := (hmem i x hx).1
          have := hall i hlt
          rw [Array.getD_eq_getD_getElem?, Array.getElem?_eq_getElem (by omega)] at h2 this
          simp only [Option.getD_some] at h2 this
          rw [h2] at this; cases this
        exact hlast (fuel + 1) listed a w hs hall (h.1 hr).2
/-- THE RULE: the others by 'Facts.Dep.Free', the last one by a fact of its own -/
theorem wp_region {E C : World → World → Prop} (T : Two E C) (p : Nat) {id : Nat} {Q : Exit → Act → World → Prop} {a : Act} {w : World} {l : List Oper} {o : Oper} (ss : List Dep.Spec) (hm : P.follows .mixedOrders = true) (hlast : lastB l o = true) (hB' : okB (l ++ [o]).toArray = true) (hB : okB l.toArray = true) (hlb : Dep.locB l.toArray 0 ss = true) (hk : Dep.Free.keepsS E C l.toArray p 0 ss)
    (h : Dep.Free.Walk E C p P l.toArray w (fun e a w => e = .normal ∧ stepG P (l ++ [o]).toArray o a w (fun u w2 => Q .normal (a.put o.dst u) w2)) 0 l ss [] [] a) : (Code.region id (l ++ [o]).toArray true).wp P Q a w := by
  have h1 := Dep.Free.any_region T p ss hB hlb hk h
  have h2 := any_peel (P := P) (Q := Q) hlast hB' l.toArray.size (Array.replicate l.toArray.size false) a { w with drawn := w.drawn + 1 } (by simp) (by simp [List.count_replicate]) (fun j hj => by
    exfalso
    rw [Array.getD_eq_getD_getElem?, Array.getElem?_push] at hj
    split at hj
    · simp at hj
    · rw [← Array.getD_eq_getD_getElem?, getD_rep] at hj; cases hj) h1
  have e : (l ++ [o]).toArray.size = l.toArray.size + 1 := by simp
  refine wp_region_any hm (any_of_anyS _ _ _ _ ?_)
  rw [e, Array.replicate_succ]
  exact h2
/-- the same, told by the number of the last operation -/
theorem wp_regionL {E C : World → World → Prop} (T : Two E C) (n p : Nat) {id : Nat} {Q : Exit → Act → World → Prop} {a : Act} {w : World} {L : List Oper} (ss : List Dep.Spec) (hm : P.follows .mixedOrders = true) (hL : L.length = n + 1) (hlast : lastB (L.take n) (L.getD n default) = true) (hB' : okB L.toArray = true) (hB : okB (L.take n).toArray = true) (hlb : Dep.locB (L.take n).toArray 0 ss = true) (hk : Dep.Free.keepsS E C (L.take n).toArray p 0 ss)
    (h : Dep.Free.Walk E C p P (L.take n).toArray w (fun e a w => e = .normal ∧ stepG P L.toArray (L.getD n default) a w (fun u w2 => Q .normal (a.put (L.getD n default).dst u) w2)) 0 (L.take n) ss [] [] a) : (Code.region id L.toArray true).wp P Q a w := by
  have e : L = L.take n ++ [L.getD n default] := by
    conv => lhs; rw [← List.take_append_drop n L]
    congr 1
    rw [List.drop_eq_getElem_cons (by omega), List.drop_of_length_le (by omega), List.getD_eq_getElem?_getD, List.getElem?_eq_getElem (by omega)]
    rfl
  have := wp_region (P := P) (id := id) (Q := Q) T p (o := L.getD n default) ss hm hlast (by rw [← e]; exact hB') hB hlb hk (by rw [← e]; exact h)
  rwa [← e] at this
end Facts.Peel
end Go.Proofs.Ytdadffmagfknoaa

namespace Go.Proofs.Ytdadffmagfknoaa
set_option linter.unusedSimpArgs false
set_option linter.unusedVariables false
open Go.RowKit

/-- these cells lie in a block, from its first one on -/
def BoxIs (w : World) (B : Nat) (l : List Value) : Prop := ∀ j v, l[j]? = some v → w.cell? ⟨B, j, none⟩ = some v
theorem BoxIs.ext {w w' : World} {B : Nat} {l : List Value} (h : BoxIs w B l) (hx : Ext w w') : BoxIs w' B l := fun j v hj => hx.cell (h j v hj)
theorem BoxIs.set {w : World} {B : Nat} {l : List Value} (h : BoxIs w B l) (k : Nat) (hk : k < l.length) (v : Value) : BoxIs (w.setCell ⟨B, k, none⟩ v) B (l.set k v) := by
  intro j u hj
  by_cases e : j = k
  · subst e
    rw [List.getElem?_set_self hk] at hj
    cases hj
    exact set_cell (h j l[j] (List.getElem?_eq_getElem hk)) v
  · rw [List.getElem?_set_ne (fun e' => e e'.symm)] at hj
    exact set_other (h j u hj) (.inr (fun e' => e e'.symm)) v
theorem BoxIs.other {w : World} {B : Nat} {l : List Value} (h : BoxIs w B l) {p : Addr} (hp : p.block ≠ B) (v : Value) : BoxIs (w.setCell p v) B l :=
  fun j u hj => set_other (h j u hj) (.inl hp) v
theorem BoxIs.lt {w : World} {B : Nat} {a : Value} {l : List Value} (h : BoxIs w B (a :: l)) : B < w.heap.size := by
  have := h 0 a rfl
  unfold World.cell? at this
  rcases Nat.lt_or_ge B w.heap.size with hh | hh
  · exact hh
  · rw [Array.getElem?_eq_none hh] at this; cases this
end Go.Proofs.Ytdadffmagfknoaa

namespace Go.Proofs.Ytdadffmagfknoaa
set_option linter.unusedSimpArgs false
set_option linter.unusedVariables false
open Go.RowKit
set_option linter.unusedVariables false
set_option maxRecDepth 100000

theorem two_ee : Facts.Piv.Two Ext Ext := ⟨fun _ _ h => h, fun _ _ _ h k => h.trans k, fun _ _ _ h k => h.trans k, Ext.refl, fun a => ext_drew a⟩
/-- a way to round -/
def roundF (n : Int) : Value := if n = 0 then .func (.func 117) #[] #[] else if n = 1 then .func (.func 118) #[] #[] else .func (.func 119) #[] #[]
theorem quo10 {n : Int} (h : 0 ≤ n) : Int.tdiv n 10 = n / 10 := Int.tdiv_eq_ediv_of_nonneg h
theorem round1_any (n : Int) (h : 0 ≤ n ∧ n ≤ 100000) (w : World) : Calls Try.prog 117 #[.int .i64 n] w fun e w' => e = .returned (.int .i64 (n / 10)) ∧ w = w' := by
  have w1 : IntKind.i64.wrap (Int.tdiv n 10) = n / 10 := by rw [quo10 h.1]; exact IntWalk.i64_in _ (by omega)
  go_enter Try.func117, Try.ntmps117
  go_wp2
  go_ret
  exact ⟨rfl, rfl⟩
theorem round2_any (n : Int) (h : 0 ≤ n ∧ n ≤ 100000) (w : World) : Calls Try.prog 118 #[.int .i64 n] w fun e w' => e = .returned (.int .i64 ((n + 9) / 10)) ∧ w = w' := by
  have w0 : IntKind.i64.wrap (n + 10) = n + 10 := IntWalk.i64_in _ (by omega)
  have w2 : IntKind.i64.wrap (n + 10 - 1) = n + 9 := by rw [show n + 10 - 1 = n + 9 from by omega]; exact IntWalk.i64_in _ (by omega)
  have w1 : IntKind.i64.wrap (Int.tdiv (n + 9) 10) = (n + 9) / 10 := by rw [quo10 (by omega)]; exact IntWalk.i64_in _ (by omega)
  go_enter Try.func118, Try.ntmps118
  go_wp2
  go_ret
  exact ⟨rfl, rfl⟩
theorem round3_any (n : Int) (h : 0 ≤ n ∧ n ≤ 100000) (w : World) : Calls Try.prog 119 #[.int .i64 n] w fun e w' => e = .returned (.int .i64 ((n + 5) / 10)) ∧ w = w' := by
  have w0 : IntKind.i64.wrap (n + 5) = n + 5 := IntWalk.i64_in _ (by omega)
  have w1 : IntKind.i64.wrap (Int.tdiv (n + 5) 10) = (n + 5) / 10 := by rw [quo10 (by omega)]; exact IntWalk.i64_in _ (by omega)
  go_enter Try.func119, Try.ntmps119
  go_wp2
  go_ret
  exact ⟨rfl, rfl⟩
/-- the ways to round, in memory -/
def RoundsAt (u : Value) (w : World) : Prop := ∃ B, u = .slice (some ⟨B, 0, none⟩) 3 3 ∧ w.cell? ⟨B, 0, none⟩ = some (roundF 0) ∧ w.cell? ⟨B, 1, none⟩ = some (roundF 1) ∧ w.cell? ⟨B, 2, none⟩ = some (roundF 2)
theorem RoundsAt.ext {u : Value} {w w' : World} (h : RoundsAt u w) (hx : Ext w w') : RoundsAt u w' := by
  obtain ⟨B, e, h0, h1, h2⟩ := h; exact ⟨B, e, hx.cell h0, hx.cell h1, hx.cell h2⟩
noncomputable def RoundsAt.B {u : Value} {w : World} (h : RoundsAt u w) : Nat := Exists.choose h
theorem RoundsAt.spec {u : Value} {w : World} (h : RoundsAt u w) : u = .slice (some ⟨h.B, 0, none⟩) 3 3 ∧ w.cell? ⟨h.B, 0, none⟩ = some (roundF 0) ∧ w.cell? ⟨h.B, 1, none⟩ = some (roundF 1) ∧ w.cell? ⟨h.B, 2, none⟩ = some (roundF 2) := Exists.choose_spec h
/-- the place of a way to round -/
def RoundP (n : Nat) (f : Value) (u : Value) (w : World) : Prop := ∃ B : Nat, u = .pointer (some ⟨B, n, none⟩) ∧ w.cell? ⟨B, n, none⟩ = some f
theorem RoundP.ext {n : Nat} {f u : Value} {w w' : World} (h : RoundP n f u w) (hx : Ext w w') : RoundP n f u w' := by
  obtain ⟨B, e, h0⟩ := h; exact ⟨B, e, hx.cell h0⟩
noncomputable def RoundP.B {n : Nat} {f u : Value} {w : World} (h : RoundP n f u w) : Nat := Exists.choose h
theorem RoundP.spec {n : Nat} {f u : Value} {w : World} (h : RoundP n f u w) : u = .pointer (some ⟨h.B, n, none⟩) ∧ w.cell? ⟨h.B, n, none⟩ = some f := Exists.choose_spec h
theorem roundF_func (n : Int) : ∃ f, roundF n = .func (.func f) #[] #[] := by
  unfold roundF
  split
  · exact ⟨_, rfl⟩
  · split
    · exact ⟨_, rfl⟩
    · exact ⟨_, rfl⟩
theorem RoundsAt.get {u : Value} {w : World} (h : RoundsAt u w) {n : Nat} (hn : n < 3) : w.cell? ⟨h.B, n, none⟩ = some (roundF n) := by
  have s := h.spec
  have : n = 0 ∨ n = 1 ∨ n = 2 := by omega
  rcases this with rfl | rfl | rfl
  · exact s.2.1
  · exact s.2.2.1
  · exact s.2.2.2
theorem roundings_any (w : World) : Calls Try.prog 106 #[] w fun e w' => ∃ u, e = .returned u ∧ RoundsAt u w' ∧ Ext w w' := by
  go_enter Try.func106, Try.ntmps106
  go_wp2
  go_ret
  exact ⟨_, rfl, ⟨_, rfl, by simp [go_sem, roundF], by simp [go_sem, roundF], by simp [go_sem, roundF]⟩, (by first | (with_reducible exact Ext.refl _) | (with_reducible assumption) | (show Below _ _ _; go_grown; done))⟩
/-- an entry that is looked at, with its agent, and how this one rounds -/
def entryV (e : Ent) (a : Agt) : Value := .agg #[.int .i64 e.agent, .int .i64 e.day, .int .i64 e.near, .int .i64 e.far, .string a.name, .int .i64 a.fee, .int .i64 a.round, roundF a.round]
set_option maxHeartbeats 1000000 in
theorem pays_any (e : Ent) (a : Agt) (rate : Int) (hf : 0 ≤ a.fee ∧ a.fee ≤ 20) (hr : 0 ≤ a.round ∧ a.round ≤ 2) (hn : 0 ≤ e.near ∧ e.near ≤ 99) (h20 : 0 ≤ rate ∧ rate ≤ 20) (w : World) :
    Calls Try.prog 72 #[entryV e a, .int .i64 rate] w fun r w' => r = .returned (.int .i64 (payM a e.near rate)) ∧ Ext w w' := by
  have w1 : IntKind.i64.wrap (e.near - a.fee) = e.near - a.fee := IntWalk.i64_in _ (by omega)
  have w0 : wrap64 0 = 0 := by kernel_rfl
  have hp : ∀ m, max (e.near - a.fee) 0 = m → payM a e.near rate = if a.round = 1 then (m * rate + 9) / 10 else if a.round = 2 then (m * rate + 5) / 10 else m * rate / 10 := fun m hm => by unfold payM; rw [hm]
  unfold entryV
  have hr3 : a.round = 0 ∨ a.round = 1 ∨ a.round = 2 := by omega
  by_cases hneg : e.near - a.fee < 0
  · rw [hp 0 (by omega), Int.zero_mul]
    clear hp
    rcases hr3 with h0 | h0 | h0
    · rw [h0, show roundF 0 = .func (.func 117) #[] #[] from rfl, if_neg (by decide), if_neg (by decide)]
      clear h0 hr
      go_enter Try.func72, Try.ntmps72
      go_wp2_with fail
      refine (round1_any 0 (by omega) _).mono ?_
      rintro e w2 ⟨rfl, rfl⟩
      go_wp2
      go_ret
      exact ⟨rfl, (by first | (with_reducible exact Ext.refl _) | (with_reducible assumption) | (show Below _ _ _; go_grown; done))⟩
    · rw [h0, show roundF 1 = .func (.func 118) #[] #[] from rfl, if_pos rfl]
      clear h0 hr
      go_enter Try.func72, Try.ntmps72
      go_wp2_with fail
      refine (round2_any 0 (by omega) _).mono ?_
      rintro e w2 ⟨rfl, rfl⟩
      go_wp2
      go_ret
      exact ⟨rfl, (by first | (with_reducible exact Ext.refl _) | (with_reducible assumption) | (show Below _ _ _; go_grown; done))⟩
    · rw [h0, show roundF 2 = .func (.func 119) #[] #[] from rfl, if_neg (by decide), if_pos rfl]
      clear h0 hr
      go_enter Try.func72, Try.ntmps72
      go_wp2_with fail
      refine (round3_any 0 (by omega) _).mono ?_
      rintro e w2 ⟨rfl, rfl⟩
      go_wp2
      go_ret
      exact ⟨rfl, (by first | (with_reducible exact Ext.refl _) | (with_reducible assumption) | (show Below _ _ _; go_grown; done))⟩
  · rw [hp (e.near - a.fee) (by omega)]
    have p0 : 0 ≤ (e.near - a.fee) * rate := Int.mul_nonneg (by omega) h20.1
    have p1 : (e.near - a.fee) * rate ≤ 99 * 20 := Int.mul_le_mul (by omega) h20.2 h20.1 (by omega)
    have w2 : IntKind.i64.wrap ((e.near - a.fee) * rate) = (e.near - a.fee) * rate := IntWalk.i64_in _ (by omega)
    clear hp
    rcases hr3 with h0 | h0 | h0
    · rw [h0, show roundF 0 = .func (.func 117) #[] #[] from rfl, if_neg (by decide), if_neg (by decide)]
      clear h0 hr
      go_enter Try.func72, Try.ntmps72
      go_wp2_with fail
      refine (round1_any ((e.near - a.fee) * rate) (by omega) _).mono ?_
      rintro e w2 ⟨rfl, rfl⟩
      go_wp2
      go_ret
      exact ⟨rfl, (by first | (with_reducible exact Ext.refl _) | (with_reducible assumption) | (show Below _ _ _; go_grown; done))⟩
    · rw [h0, show roundF 1 = .func (.func 118) #[] #[] from rfl, if_pos rfl]
      clear h0 hr
      go_enter Try.func72, Try.ntmps72
      go_wp2_with fail
      refine (round2_any ((e.near - a.fee) * rate) (by omega) _).mono ?_
      rintro e w2 ⟨rfl, rfl⟩
      go_wp2
      go_ret
      exact ⟨rfl, (by first | (with_reducible exact Ext.refl _) | (with_reducible assumption) | (show Below _ _ _; go_grown; done))⟩
    · rw [h0, show roundF 2 = .func (.func 119) #[] #[] from rfl, if_neg (by decide), if_pos rfl]
      clear h0 hr
      go_enter Try.func72, Try.ntmps72
      go_wp2_with fail
      refine (round3_any ((e.near - a.fee) * rate) (by omega) _).mono ?_
      rintro e w2 ⟨rfl, rfl⟩
      go_wp2
      go_ret
      exact ⟨rfl, (by first | (with_reducible exact Ext.refl _) | (with_reducible assumption) | (show Below _ _ _; go_grown; done))⟩
/-- a house that is looked at: with what its agents pay -/
def houseV (h : House) (ra aa ea : Option Addr) (rc ac ec : Nat) (m : Value) : Value := .agg #[.int .i64 h.days, .slice ra h.rates.length rc, .int .i64 h.step, .slice aa h.agents.length ac, .slice ea h.entries.length ec, m]
set_option maxHeartbeats 2000000 in
theorem entry_any (h : House) (ra aa ea : Option Addr) (rc ac ec : Nat) (m : Value) (e : Ent) (a : Agt) (w : World) (ha : AgentsAt w (.slice aa h.agents.length ac) h.agents) (i : Nat) (hi : i < h.agents.length) (hei : e.agent = i) (hai : h.agents[i] = a) (hr : 0 ≤ a.round ∧ a.round ≤ 2) :
    Calls Try.prog 71 #[houseV h ra aa ea rc ac ec m, entV e] w fun r w' => r = .returned (entryV e a) ∧ Ext w w' := by
  obtain ⟨b, o, rfl, a0, a1, a2, -⟩ := ha.get hi
  rw [hai] at a0 a1 a2
  have k1 : (i : Int) < (h.agents.length : Int) := by omega
  have z0 : b < w.heap.size := cell_lt a0
  have b0 : ∀ o1 o2 o3, (((w.alloc o1).alloc o2).alloc o3).cell? ⟨b, o + i * 3, none⟩ = some (.string a.name) := fun o1 o2 o3 => (((ext_alloc _ _).alloc _).alloc _ : Ext w _).cell a0
  have b1 : ∀ o1 o2 o3, (((w.alloc o1).alloc o2).alloc o3).cell? ⟨b, o + i * 3 + 1, none⟩ = some (.int .i64 a.fee) := fun o1 o2 o3 => (((ext_alloc _ _).alloc _).alloc _ : Ext w _).cell a1
  have b2 : ∀ o1 o2 o3, (((w.alloc o1).alloc o2).alloc o3).cell? ⟨b, o + i * 3 + 2, none⟩ = some (.int .i64 a.round) := fun o1 o2 o3 => (((ext_alloc _ _).alloc _).alloc _ : Ext w _).cell a2
  clear a0 a1 a2
  clear ha hai
  unfold houseV entV entryV
  rw [hei]
  obtain ⟨f, hf⟩ := roundF_func a.round
  obtain ⟨n, hn⟩ : ∃ n : Nat, a.round = n := ⟨a.round.toNat, by omega⟩
  have hn3 : n < 3 := by omega
  rw [hf]
  rw [hn] at hf b2 ⊢
  have Hf := Lib.hid hf
  clear hf hr hn
  go_enter Try.func71, Try.ntmps71
  go_wp2_with fail
  obtain ⟨W, hW⟩ : ∃ W, W = ((((w.alloc (.cells #[.int .i64 h.days, .slice ra h.rates.length rc, .int .i64 h.step, .slice (some ⟨b, o, none⟩) h.agents.length ac, .slice ea h.entries.length ec, m] 85)).alloc (.cells #[.int .i64 i, .int .i64 e.day, .int .i64 e.near, .int .i64 e.far] 58)).alloc (.cells #[.int .i64 0, .int .i64 0, .int .i64 0, .int .i64 0, .string ⟨#[]⟩, .int .i64 0, .int .i64 0, Value.nilFunc] 112)).alloc (.cells #[.string a.name, .int .i64 a.fee, .int .i64 n] 72)) := ⟨_, rfl⟩
  have xW : Ext w W := by rw [hW]; exact (((ext_alloc _ _).alloc _).alloc _).alloc _
  have e0 : W.cell? ⟨w.heap.size + 1, 0, none⟩ = some (.int .i64 i) := by rw [hW]; simp [go_sem]
  have e1 : W.cell? ⟨w.heap.size + 1, 1, none⟩ = some (.int .i64 e.day) := by rw [hW]; simp [go_sem]
  have e2 : W.cell? ⟨w.heap.size + 1, 2, none⟩ = some (.int .i64 e.near) := by rw [hW]; simp [go_sem]
  have e3 : W.cell? ⟨w.heap.size + 1, 3, none⟩ = some (.int .i64 e.far) := by rw [hW]; simp [go_sem]
  have g0 : W.cell? ⟨w.heap.size + 3, 0, none⟩ = some (.string a.name) := by rw [hW]; simp [go_sem]
  have g1 : W.cell? ⟨w.heap.size + 3, 1, none⟩ = some (.int .i64 a.fee) := by rw [hW]; simp [go_sem]
  have g2 : W.cell? ⟨w.heap.size + 3, 2, none⟩ = some (.int .i64 n) := by rw [hW]; simp [go_sem]
  have hB : BoxIs W (w.heap.size + 2) [.int .i64 0, .int .i64 0, .int .i64 0, .int .i64 0, .string ⟨#[]⟩, .int .i64 0, .int .i64 0, Value.nilFunc] := by
    intro j v hj
    rw [hW]
    match j, hj with
    | 0, hj => simp at hj; subst hj; simp [go_sem]
    | 1, hj => simp at hj; subst hj; simp [go_sem]
    | 2, hj => simp at hj; subst hj; simp [go_sem]
    | 3, hj => simp at hj; subst hj; simp [go_sem]
    | 4, hj => simp at hj; subst hj; simp [go_sem]
    | 5, hj => simp at hj; subst hj; simp [go_sem]
    | 6, hj => simp at hj; subst hj; simp [go_sem]
    | 7, hj => simp at hj; subst hj; simp [go_sem]
  have fz : ∀ j, W.frozen? ⟨w.heap.size + 2, j, none⟩ = false := fun j => by rw [hW]; simp [go_sem]
  rw [← hW]
  clear hW b0 b1 b2
  have k0 : (n : Int) < 3 := by omega
  apply Facts.Peel.wp_regionL two_ee 8 7 [.val (.agg #[.int .i64 i, .int .i64 e.day, .int .i64 e.near, .int .i64 e.far]), .val (.agg #[.string a.name, .int .i64 a.fee, .int .i64 n]), .fact RoundsAt, .val _, .val (.int .i64 n), .fact (RoundP n (.func (.func f) #[] #[])), .val (.agg #[.func (.func f) #[] #[]]), .val (.agg #[.int .i64 i, .int .i64 e.day, .int .i64 e.near, .int .i64 e.far, .string a.name, .int .i64 a.fee, .int .i64 n, .func (.func f) #[] #[]])] (by kernel_rfl) (by kernel_rfl) (by kernel_rfl) (by kernel_rfl) (by kernel_rfl) (by kernel_rfl) ?keep ?main
  case keep => exact ⟨fun u a c hx h => h.ext hx, fun _ _ u a c hx h => h.ext hx, fun u a c hx h => h.ext hx, fun _ _ u a c hx h => h.ext hx, trivial⟩
  case main =>
    simp only [List.take_succ_cons, List.take_zero, List.getD_cons_succ, List.getD_cons_zero]
    iterate 2 (refine ⟨fun w1 hC hh => ?_, ?_⟩; focus (have hx := hC; clear hh hC; (have f0 := hx.cell e0; have f1 := hx.cell e1; have f2 := hx.cell e2; have f3 := hx.cell e3; have f4 := hx.cell g0; have f5 := hx.cell g1; have f6 := hx.cell g2); go_simp; first | exact ⟨Ext.refl _, rfl⟩ | exact Ext.refl _))
    refine ⟨fun w1 hx hh => ?_, ?_⟩
    · clear hh
      go_simp
      refine (roundings_any w1).mono ?_
      rintro e w' ⟨u, rfl, h1, hx2⟩
      exact ⟨_, rfl, hx2, h1⟩
    intro u2
    iterate 2 (refine ⟨fun w1 hC hh => ?_, ?_⟩; focus (have hx := hC; clear hh hC; have f6 := hx.cell g2; go_simp; first | exact ⟨Ext.refl _, rfl⟩ | exact Ext.refl _))
    refine ⟨fun w1 hx hh => ?_, ?_⟩
    · have h2 : RoundsAt u2 w1 := hh 2 _ List.mem_cons_self (by kernel_rfl)
      clear hh
      have s2 := h2.spec
      have hc := h2.get hn3
      rw [Hf.out] at hc
      generalize h2.B = B2 at *
      have e9 := s2.1
      clear s2 h2
      subst e9
      go_simp
      exact ⟨Ext.refl _, B2, rfl, hc⟩
    intro u5
    refine ⟨fun w1 hx hh => ?_, ?_⟩
    · have h5 : RoundP n (.func (.func f) #[] #[]) u5 w1 := hh 5 _ List.mem_cons_self (by kernel_rfl)
      clear hh
      have s5 := h5.spec
      generalize h5.B = B5 at *
      have e9 := s5.1
      have hc := s5.2
      clear s5 h5
      subst e9
      go_simp
      first | exact Ext.refl _ | exact ⟨Ext.refl _, rfl⟩
    iterate 1 (refine ⟨fun w1 hC hh => ?_, ?_⟩; focus (have hx := hC; clear hh hC; skip; go_simp; first | exact ⟨Ext.refl _, rfl⟩ | exact Ext.refl _))
    intro w5 hx5 hh
    clear hh
    have hB5 := hB.ext hx5
    have q0 := hB5 0 _ rfl
    have q1 := hB5 1 _ rfl
    have q2 := hB5 2 _ rfl
    have q3 := hB5 3 _ rfl
    have q4 := hB5 4 _ rfl
    have q5 := hB5 5 _ rfl
    have q6 := hB5 6 _ rfl
    have q7 := hB5 7 _ rfl
    have zB : w.heap.size + 2 < W.heap.size := hB.lt
    have fz5 : ∀ j, w5.frozen? ⟨w.heap.size + 2, j, none⟩ = false := fun j => by rw [hx5.frozen zB]; exact fz j
    have xx := xW.trans hx5
    have hS := (((((((hB5.set 0 (by simp) (.int .i64 i)).set 1 (by simp) (.int .i64 e.day)).set 2 (by simp) (.int .i64 e.near)).set 3 (by simp) (.int .i64 e.far)).set 4 (by simp) (.string a.name)).set 5 (by simp) (.int .i64 a.fee)).set 6 (by simp) (.int .i64 n)).set 7 (by simp) (.func (.func f) #[] #[])
    simp only [List.set_cons_zero, List.set_cons_succ] at hS
    have xS : Ext w ((((((((w5.setCell ⟨w.heap.size + 2, 0, none⟩ (.int .i64 i)).setCell ⟨w.heap.size + 2, 1, none⟩ (.int .i64 e.day)).setCell ⟨w.heap.size + 2, 2, none⟩ (.int .i64 e.near)).setCell ⟨w.heap.size + 2, 3, none⟩ (.int .i64 e.far)).setCell ⟨w.heap.size + 2, 4, none⟩ (.string a.name)).setCell ⟨w.heap.size + 2, 5, none⟩ (.int .i64 a.fee)).setCell ⟨w.heap.size + 2, 6, none⟩ (.int .i64 n)).setCell ⟨w.heap.size + 2, 7, none⟩ (.func (.func f) #[] #[])) :=
      (((((((xx.setCell (by simp) _).setCell (by simp) _).setCell (by simp) _).setCell (by simp) _).setCell (by simp) _).setCell (by simp) _).setCell (by simp) _).setCell (by simp) _
    have r0 := hS 0 _ rfl
    have r1 := hS 1 _ rfl
    have r2 := hS 2 _ rfl
    have r3 := hS 3 _ rfl
    have r4 := hS 4 _ rfl
    have r5 := hS 5 _ rfl
    have r6 := hS 6 _ rfl
    have r7 := hS 7 _ rfl
    have HS := Lib.hid xS
    clear hS hB5 hB xx xW xS hx5 fz
    refine ⟨rfl, ?_⟩
    go_simp
    go_wp2
    refine bodyPost_ret (v := .agg #[.int .i64 i, .int .i64 e.day, .int .i64 e.near, .int .i64 e.far, .string a.name, .int .i64 a.fee, .int .i64 n, .func (.func f) #[] #[]]) (by simp [results, Try.results71, go_sem, r0, r1, r2, r3, r4, r5, r6, r7]) rfl ⟨rfl, HS.out⟩
end Go.Proofs.Ytdadffmagfknoaa
