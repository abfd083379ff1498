/-
  A RULE FOR A REGION THAT DRAWS ITS ORDER: what each operation yields is said by a fact of its own, which holds in each later world, and which may lean on the facts of the operations that it waits for alone. Then behind the region, in whatever order it went, all facts hold. Over any program.
-/
import Derived.Test.YtbodmgilcohfjaaBase
import Derived.Still
import Derived.StillTail
import Derived.Orders
import Derived.Deep.QuietTactic
import Derived.KernelRfl
namespace Go.Proofs.Ytbodmgilcohfjaa
open Go.RowKit
namespace Facts
variable {P : Program} {ops : Array Oper}

/-- it has returned, and so on -/
def Ret (S : Value → World → Prop) (e : Ending) (w : World) : Prop := ∃ v, e = .returned v ∧ S v w
def upon (P : Program) (S : Value → World → Prop) : Result Next → Prop
  | .ok (.value v) w' => S v w'
  | .ok .skip w' => S undef w'
  | .ok (.enter f args) w' => Calls P f args w' (Ret S)
  | _ => False
theorem upon_value {S : Value → World → Prop} {v : Value} {w : World} : upon P S (.ok (.value v) w) = S v w := rfl
theorem upon_skip {S : Value → World → Prop} {w : World} : upon P S (.ok .skip w) = S undef w := rfl
theorem upon_enter {S : Value → World → Prop} {f : FuncId} {args : Array Value} {w : World} : upon P S (.ok (.enter f args) w) = Calls P f args w (Ret S) := rfl
def stepG (P : Program) (ops : Array Oper) (o : Oper) (a : Act) (w : World) (S : Value → World → Prop) : Prop :=
  if Region.wanted o (yielded ops a.tmps) then upon P S ((execOp a.eval o).run P w) else S undef w

theorem wp_of_stepG {i : Nat} {o : Oper} {a : Act} {w : World} {S : Value → World → Prop} {Q : Exit → Act → World → Prop} {K : Act → World → Prop} (hi : ops[i]? = some o) (h : stepG P ops o a w S)
    (hK : ∀ v w', S v w' → K (a.put o.dst v) w') : wpOp P ops Q i K a w := by
  unfold wpOp
  simp only [hi]
  unfold stepG at h
  split
  · rename_i hw
    rw [if_pos hw] at h
    left
    unfold Oper.wp
    generalize (execOp a.eval o).run P w = r at *
    cases r with
    | halt x w' => exact h.elim
    | ok n w' =>
      cases n <;> simp only [upon] at h <;> simp only [Oper.upon]
      case value v => exact hK _ _ h
      case skip => exact hK _ _ h
      case enter f args => exact h.mono fun e w'' ⟨v, he, hs⟩ => by subst he; exact hK _ _ hs
  · rename_i hw
    rw [if_neg hw] at h
    exact hK _ _ h

def direct (ops : Array Oper) (j : Nat) : List Nat :=
  match ops[j]? with
  | some o => (o.after.toList.filter (Region.binds .any)).map (·.on)
  | none => []
def depsOf (ops : Array Oper) : Nat → Nat → List Nat
  | 0, _ => []
  | n + 1, j => direct ops j ++ (direct ops j).flatMap (depsOf ops n)
def apartB (ops : Array Oper) (i j : Nat) : Bool :=
  match ops[i]?, ops[j]? with
  | some x, some y => x.apart ops y
  | _, _ => true
def okB (ops : Array Oper) : Bool :=
  Region.noSelect ops && (List.range ops.size).all fun j => (direct ops j).all (fun i => decide (i < j)) && (List.range j).all fun i => apartB ops i j || (depsOf ops ops.size j).contains i

def acts (ops : Array Oper) (a : Act) (vs : Nat → Value) (f : Nat → Bool) : Nat → Act
  | 0 => a
  | n + 1 => if f n then (acts ops a vs f n).put ((ops[n]?).bind (·.dst)) (vs n) else acts ops a vs f n

theorem put_size (a : Act) (d : Option Tmp) (v : Value) : (a.put d v).tmps.size = a.tmps.size := by
  cases d <;> simp [Act.put]
theorem acts_size (a : Act) (vs : Nat → Value) (f : Nat → Bool) (n : Nat) : (acts ops a vs f n).tmps.size = a.tmps.size := by
  induction n with
  | zero => rfl
  | succ n ih => simp only [acts]; split <;> simp [put_size, ih]
theorem put_other (a : Act) (d : Option Tmp) (v : Value) (t : Nat) (h : d ≠ some t) : (a.put d v).tmps[t]? = a.tmps[t]? := by
  cases d with
  | none => rfl
  | some d => simp only [Act.put]; rw [Array.getElem?_setIfInBounds_ne (fun e => h (by rw [e]))]
theorem put_same (a b : Act) (t : Nat) (v : Value) (h : a.tmps.size = b.tmps.size) : (a.put (some t) v).tmps[t]? = (b.put (some t) v).tmps[t]? := by
  simp only [Act.put]
  rw [Array.getElem?_setIfInBounds_self, Array.getElem?_setIfInBounds_self, h]
/-- a slot that is written by the same ones is the same -/
theorem acts_slot (a : Act) (vs : Nat → Value) (f g : Nat → Bool) (t : Nat) : ∀ n, (∀ j, j < n → (ops[j]?).bind (·.dst) = some t → f j = g j) → (acts ops a vs f n).tmps[t]? = (acts ops a vs g n).tmps[t]? := by
  intro n
  induction n with
  | zero => intro _; rfl
  | succ n ih =>
    intro h
    have ih := ih fun j hj => h j (by omega)
    simp only [acts]
    by_cases hd : (ops[n]?).bind (·.dst) = some t
    · rw [h n (by omega) hd]
      split
      · rw [hd]; exact put_same _ _ _ _ (by rw [acts_size, acts_size])
      · exact ih
    · split <;> split
      · rw [put_other _ _ _ _ hd, put_other _ _ _ _ hd]; exact ih
      · rw [put_other _ _ _ _ hd]; exact ih
      · rw [put_other _ _ _ _ hd]; exact ih
      · exact ih
theorem eval_slot {a b : Act} {t : Nat} (h : a.tmps[t]? = b.tmps[t]?) : a.eval (.tmp t) = b.eval (.tmp t) := by
  simp only [Act.eval, Array.getD_eq_getD_getElem?, h]
theorem exec_same (o : Oper) (hs : ∀ cs b, o.op ≠ .select cs b) {a b : Act} (h : ∀ t, t ∈ o.looksAt ops → a.tmps[t]? = b.tmps[t]?) : execOp a.eval o = execOp b.eval o :=
  execOp_congr o hs fun x hx => by
    cases x with
    | tmp t => exact eval_slot (h t (List.mem_append_left _ (List.mem_filterMap.2 ⟨.tmp t, by simpa using hx, rfl⟩)))
    | const v => rfl
    | global g => rfl
    | func f => rfl
theorem wanted_same (o : Oper) {a b : Act} (h : ∀ t, t ∈ o.looksAt ops → a.tmps[t]? = b.tmps[t]?) : Region.wanted o (yielded ops a.tmps) = Region.wanted o (yielded ops b.tmps) := by
  unfold Region.wanted
  cases hg : o.guard with
  | none => rfl
  | some gw =>
    obtain ⟨g, want⟩ := gw
    simp only [yielded]
    cases hd : (ops[g]?).bind (·.dst) with
    | none => rfl
    | some t =>
      have := h t (List.mem_append_right _ (by simp [hg, hd]))
      simp only [Option.bind_some, this]
theorem stepG_same {o : Oper} (hs : ∀ cs b, o.op ≠ .select cs b) {a b : Act} {w : World} {S : Value → World → Prop} (h : ∀ t, t ∈ o.looksAt ops → a.tmps[t]? = b.tmps[t]?) (hh : stepG P ops o a w S) : stepG P ops o b w S := by
  unfold stepG at *
  rw [← wanted_same o h, ← exec_same o hs h]; exact hh
theorem acts_congr (a : Act) (vs us : Nat → Value) (f g : Nat → Bool) : ∀ n, (∀ j, j < n → f j = g j ∧ (f j = true → vs j = us j)) → acts ops a vs f n = acts ops a us g n := by
  intro n
  induction n with
  | zero => intro _; rfl
  | succ n ih =>
    intro h
    simp only [acts]
    rw [ih fun j hj => h j (by omega), ← (h n (by omega)).1]
    split
    · rename_i hf; rw [(h n (by omega)).2 hf]
    · rfl
/-- an operation that comes later is put in its place -/
theorem acts_put (a : Act) (vs : Nat → Value) (f : Nat → Bool) (i : Nat) (v : Value) (hf : f i = false) : ∀ n, i < n → (∀ j, i < j → j < n → f j = true → ∀ d, (ops[i]?).bind (·.dst) = some d → (ops[j]?).bind (·.dst) ≠ some d) →
    (acts ops a vs f n).put ((ops[i]?).bind (·.dst)) v = acts ops a (fun j => if j = i then v else vs j) (fun j => f j || decide (j = i)) n := by
  intro n
  induction n with
  | zero => intro h; omega
  | succ n ih =>
    intro hin h
    simp only [acts]
    by_cases hn : i = n
    · subst hn
      simp only [hf, Bool.false_or, decide_true, if_true, Bool.false_eq_true, if_false]
      rw [acts_congr a vs (fun j => if j = i then v else vs j) f (fun j => f j || decide (j = i)) i fun j hj => ⟨by simp [show j ≠ i from by omega], fun _ => by simp [show j ≠ i from by omega]⟩]
    · have ih := ih (by omega) fun j h1 h2 => h j h1 (by omega)
      have hne : (f n || decide (n = i)) = f n := by rw [decide_eq_false (fun e => hn e.symm), Bool.or_false]
      have hni : (if n = i then v else vs n) = vs n := if_neg fun e => hn e.symm
      rw [hne, hni]
      cases hfn : f n
      · simp only [Bool.false_eq_true, if_false]; exact ih
      · simp only [if_true]
        rw [← ih]
        exact (Act.put_comm _ _ _ fun d hd hd2 => h n (by omega) (by omega) hfn d hd2 hd)

theorem dep_in {listed : Array Bool} (hcl : ∀ j, listed.getD j false = true → ∀ i ∈ direct ops j, listed.getD i false = true) : ∀ (n j : Nat), (∀ i ∈ direct ops j, listed.getD i false = true) → ∀ i ∈ depsOf ops n j, listed.getD i false = true
  | 0, _, _, _, hi => by simp [depsOf] at hi
  | n + 1, j, hj, i, hi => by
    simp only [depsOf, List.mem_append, List.mem_flatMap] at hi
    rcases hi with hi | ⟨k, hk, hi⟩
    · exact hj i hi
    · exact dep_in hcl n k (hcl k (hj k hk)) i hi

theorem okB_spec (h : okB ops = true) : (∀ j, j < ops.size → (∀ i ∈ direct ops j, i < j) ∧ ∀ i, i < j → apartB ops i j = true ∨ i ∈ depsOf ops ops.size j) := by
  intro j hj
  simp only [okB, Bool.and_eq_true, List.all_eq_true, List.mem_range, decide_eq_true_eq, Bool.or_eq_true, List.contains_iff_mem] at h
  exact h.2 j hj

theorem direct_ready {j : Nat} {listed : Array Bool} {o : Oper} (ho : ops[j]? = some o) (h : ∀ e ∈ o.after, Region.binds .any e = true → listed.getD e.on false = true) : ∀ i ∈ direct ops j, listed.getD i false = true := by
  intro i hi
  simp only [direct, ho, List.mem_map, List.mem_filter] at hi
  obtain ⟨e, ⟨he, hb⟩, rfl⟩ := hi
  exact h e (by simpa using he) hb
theorem ready_direct {j : Nat} {listed : Array Bool} {o : Oper} (ho : ops[j]? = some o) (h : ∀ i ∈ direct ops j, listed.getD i false = true) : ∀ e ∈ o.after, Region.binds .any e = true → listed.getD e.on false = true := by
  intro e he hb
  exact h e.on (by simp only [direct, ho, List.mem_map, List.mem_filter]; exact ⟨e, ⟨by simpa using he, hb⟩, rfl⟩)

/-- nothing is ready any more: all have come up -/
theorem all_listed (hB : okB ops = true) {listed : Array Bool} (hsz : listed.size = ops.size) (h : Region.ready .any ops listed = []) : ∀ j, j < ops.size → listed.getD j false = true := by
  intro j
  induction j using Nat.strongRecOn with
  | _ j ih =>
    intro hj
    cases hl : listed.getD j false with
    | true => rfl
    | false =>
      exfalso
      have hr : j ∈ Region.ready .any ops listed := by
        rw [mem_ready]
        refine ⟨?_, ops[j], by simp [hj], ready_direct (by simp [hj]) fun i hi => ih i ((okB_spec hB j hj).1 i hi) (Nat.lt_trans ((okB_spec hB j hj).1 i hi) hj)⟩
        rw [Array.getD_eq_getD_getElem?, Array.getElem?_eq_getElem (by omega)] at hl ⊢
        exact hl
      rw [h] at hr; cases hr

theorem getD_rep (m j : Nat) : (Array.replicate m false).getD j false = false := getD_replicate_false m j
theorem wp_facts {id : Nat} {Q : Exit → Act → World → Prop} {a : Act} {w : World} (Φ : Nat → Value → World → Prop) (fix : Nat → Option Value) (hfix : ∀ i v u w, fix i = some v → Φ i u w → u = v) (hm : P.follows .mixedOrders = true) (hB : okB ops = true)
    (hkeep : ∀ i u w1 w2, i < ops.size → Ext w1 w2 → Φ i u w1 → Φ i u w2)
    (hops : ∀ i o, ops[i]? = some o → ∀ (vs : Nat → Value) w1, (∀ j v, fix j = some v → vs j = v) → Ext w w1 → (∀ j ∈ depsOf ops ops.size i, Φ j (vs j) w1) → stepG P ops o (acts ops a vs (fun _ => true) i) w1 (fun u w2 => Ext w1 w2 ∧ Φ i u w2))
    (hend : ∀ (vs : Nat → Value) w1, (∀ j v, fix j = some v → vs j = v) → Ext w w1 → (∀ i, i < ops.size → Φ i (vs i) w1) → Q .normal (acts ops a vs (fun _ => true) ops.size) w1) : (Code.region id ops true).wp P Q a w := by
  have hsel : ∀ (j : Nat) (o : Oper) cs b, ops[j]? = some o → o.op ≠ .select cs b := by
    have h2 := hB
    simp only [okB, Bool.and_eq_true] at h2
    exact Region.noSelect_spec h2.1
  refine wp_region_any hm ?_
  suffices key : ∀ (fuel : Nat) (listed : Array Bool) (vs : Nat → Value) (w1 : World), (∀ j v, fix j = some v → vs j = v) → listed.size = ops.size → listed.toList.count true + fuel = ops.size → Ext w w1 →
      (∀ j, listed.getD j false = true → ∀ i ∈ direct ops j, listed.getD i false = true) → (∀ j, j < ops.size → listed.getD j false = true → Φ j (vs j) w1) →
      wpAny P .any ops Q fuel listed (acts ops a vs (fun j => listed.getD j false) ops.size) w1 by
    have h0 := key ops.size (Array.replicate ops.size false) (fun j => (fix j).getD undef) { w with drawn := w.drawn + 1 } (fun j v h => by simp [h]) (by simp) (by simp [List.count_replicate]) (ext_drew w)
      (fun j hj => by rw [getD_rep] at hj; cases hj) (fun j _ hj => by rw [getD_rep] at hj; cases hj)
    have e : acts ops a (fun j => (fix j).getD undef) (fun j => (Array.replicate ops.size false).getD j false) ops.size = a := by
      have : ∀ n, acts ops a (fun j => (fix j).getD undef) (fun j => (Array.replicate ops.size false).getD j false) n = a := by
        intro n
        induction n with
        | zero => rfl
        | succ n ih => simp only [acts]; rw [if_neg (by rw [getD_rep]; exact Bool.false_ne_true)]; exact ih
      exact this _
    rw [e] at h0
    exact h0
  intro fuel
  have hdone : ∀ (listed : Array Bool) (vs : Nat → Value) (w1 : World), (∀ j v, fix j = some v → vs j = v) → (∀ j, j < ops.size → listed.getD j false = true) → Ext w w1 → (∀ j, j < ops.size → listed.getD j false = true → Φ j (vs j) w1) →
      Q .normal (acts ops a vs (fun j => listed.getD j false) ops.size) w1 := by
    intro listed vs w1 hfx hall hx hΦ
    have := hend vs w1 hfx hx fun i hi => hΦ i hi (hall i hi)
    rwa [acts_congr a vs vs (fun _ => true) (fun j => listed.getD j false) ops.size fun j hj => ⟨(hall j hj).symm, fun _ => rfl⟩] at this
  induction fuel with
  | zero =>
    intro listed vs w1 hfx hsz hc hx hcl hΦ
    have hall : ∀ j, j < ops.size → listed.getD j false = true := by
      intro j hj
      have hlen : listed.toList.count true = listed.toList.length := by simp only [Array.length_toList]; omega
      have := List.count_eq_length.1 hlen (listed[j]'(by omega)) (by simp)
      rw [Array.getD_eq_getD_getElem?, Array.getElem?_eq_getElem (by omega)]
      exact this.symm
    refine ⟨?_, hdone listed vs w1 hfx hall hx hΦ⟩
    rw [List.eq_nil_iff_forall_not_mem]
    intro i hi
    have hi1 := (mem_ready.1 hi)
    obtain ⟨o, ho, -⟩ := hi1.2
    have hlt : i < ops.size := (Array.getElem?_eq_some_iff.1 ho).1
    have h1 := hall i hlt
    have h2 := hi1.1
    rw [Array.getD_eq_getD_getElem?, Array.getElem?_eq_getElem (by omega)] at h1 h2
    simp only [Option.getD_some] at h1 h2
    rw [h1] at h2; cases h2
  | succ fuel ih =>
    intro listed vs w1 hfx hsz hc hx hcl hΦ
    refine ⟨fun h => hdone listed vs w1 hfx (all_listed hB hsz h) hx hΦ, fun i hi => ?_⟩
    obtain ⟨hi0, o, ho, hafter⟩ := mem_ready.1 hi
    have hlt : i < ops.size := (Array.getElem?_eq_some_iff.1 ho).1
    have hnot : listed.getD i false = false := by
      rw [Array.getD_eq_getD_getElem?, Array.getElem?_eq_getElem (by omega)] at hi0 ⊢
      exact hi0
    have hdir := direct_ready ho hafter
    have hdeps := dep_in hcl ops.size i hdir
    have hdl : ∀ j ∈ depsOf ops ops.size i, j < ops.size := fun j hj => by
      have := hdeps j hj
      rcases Nat.lt_or_ge j listed.size with h' | h'
      · omega
      · simp [Array.getD_eq_getD_getElem?, Array.getElem?_eq_none h'] at this
    have hst := hops i o ho vs w1 hfx hx fun j hj => hΦ j (hdl j hj) (hdeps j hj)
    -- a later one that has come up is apart from this one
    have hlater : ∀ j, i < j → j < ops.size → listed.getD j false = true → apartB ops i j = true := fun j h1 h2 h3 =>
      ((okB_spec hB j h2).2 i h1).resolve_right fun hmem => by
        have := dep_in hcl ops.size j (hcl j h3) i hmem
        rw [hnot] at this; cases this
    have hearlier : ∀ j, j < i → listed.getD j false = false → apartB ops j i = true := fun j h1 h3 =>
      ((okB_spec hB i hlt).2 j h1).resolve_right fun hmem => by
        have := hdeps j hmem
        rw [h3] at this; cases this
    have hacts : ∀ n, i ≤ n → n ≤ ops.size → ∀ t, t ∈ o.looksAt ops → (acts ops a vs (fun j => listed.getD j false) n).tmps[t]? = (acts ops a vs (fun _ => true) i).tmps[t]? := by
      intro n hin
      obtain ⟨k, rfl⟩ := Nat.exists_eq_add_of_le hin
      clear hin
      induction k with
      | zero =>
        intro _ t ht
        refine acts_slot a vs _ _ t i fun j hj hd => ?_
        cases hl : listed.getD j false with
        | true => rfl
        | false =>
          have hap := hearlier j hj hl
          have hoj : ops[j]? = some (ops[j]'(by omega)) := by simp [show j < ops.size from by omega]
          rw [hoj] at hd
          simp only [apartB, hoj, ho] at hap
          exact absurd ht ((Oper.apart_spec hap).1 t hd)
      | succ k ih2 =>
        intro hle t ht
        have ih2 := ih2 (by omega) t ht
        obtain ⟨n, hn⟩ : ∃ n, n = i + k := ⟨_, rfl⟩
        rw [← hn] at ih2
        rw [show i + (k + 1) = n + 1 from by omega]
        simp only [acts]
        by_cases hl : listed.getD n false = true
        · rw [if_pos hl]
          have hni : i ≠ n := fun e => by subst e; rw [hnot] at hl; cases hl
          have hap := hlater n (by omega) (by omega) hl
          have hon : ops[n]? = some (ops[n]'(by omega)) := by simp [show n < ops.size from by omega]
          simp only [apartB, hon, ho] at hap
          rw [put_other _ _ _ _ (fun hd => (Oper.apart_spec hap).2.2 t (by rw [hon] at hd; exact hd) ht)]
          exact ih2
        · rw [if_neg hl]; exact ih2
    have hst2 : stepG P ops o (acts ops a vs (fun j => listed.getD j false) ops.size) w1 (fun u w2 => Ext w1 w2 ∧ Φ i u w2) :=
      stepG_same (hsel i o · · ho) (fun t ht => (hacts ops.size (by omega) (Nat.le_refl _) t ht).symm) hst
    refine wp_of_stepG ho hst2 ?_
    rintro v w2 ⟨hx2, hv⟩
    have hod : (ops[i]?).bind (·.dst) = o.dst := by rw [ho]; rfl
    rw [← hod, acts_put a vs (fun j => listed.getD j false) i v hnot ops.size hlt (fun j h1 h2 h3 d hd hd2 => by
      have hap := hlater j h1 h2 h3
      have hoj : ops[j]? = some (ops[j]'h2) := by simp [h2]
      simp only [apartB, hoj, ho] at hap
      rw [ho] at hd; rw [hoj] at hd2
      exact (Oper.apart_spec hap).2.1 d hd hd2)]
    have hget : ∀ j, (listed.setIfInBounds i true).getD j false = (listed.getD j false || decide (j = i)) := by
      intro j
      by_cases hji : j = i
      · subst hji; simp [Array.getD_eq_getD_getElem?, show j < listed.size from by omega]
      · rw [getD_set_ne false (Ne.symm hji)]; simp [hji]
    have := ih (listed.setIfInBounds i true) (fun j => if j = i then v else vs j) w2 (fun j u hj => by
        by_cases hji : j = i
        · subst hji; simpa using hfix j u v w2 hj hv
        · simpa [hji] using hfx j u hj) (by simpa using hsz) (by
        rw [Array.toList_setIfInBounds, List.count_set (by simpa using (by omega : i < listed.size))]
        have e : (listed.toList[i]'(by simpa using (by omega : i < listed.size))) = false := by
          rw [Array.getD_eq_getD_getElem?, Array.getElem?_eq_getElem (by omega)] at hnot
          simpa using hnot
        have e' : (listed.toList[i]'(by simpa using (by omega : i < listed.size)) == true) = false := by rw [e]; rfl
        rw [e']; simp only [Bool.false_eq_true, if_false, beq_self_eq_true, if_true]; omega) (hx.trans hx2)
      (by
        intro j hj k hk
        rw [hget] at hj ⊢
        by_cases hji : j = i
        · subst hji; rw [hdir k hk]; rfl
        · simp only [hji, decide_false, Bool.or_false] at hj
          rw [hcl j hj k hk]; rfl)
      (by
        intro j hj hl
        by_cases hji : j = i
        · subst hji; simpa using hv
        · rw [hget] at hl
          simp only [hji, decide_false, Bool.or_false] at hl
          simp only [hji, if_false]
          exact hkeep j _ _ _ hj hx2 (hΦ j hj hl))
    have e2 : (fun j => (listed.setIfInBounds i true).getD j false) = fun j => listed.getD j false || decide (j = i) := funext hget
    rw [e2] at this
    exact this

inductive Spec where
  | val (v : Value)
  | fact (f : Value → World → Prop)
def Spec.holds : Spec → Value → World → Prop
  | .val v, u, _ => u = v
  | .fact f, u, w => f u w
def Spec.fixed : Spec → Option Value
  | .val v => some v
  | .fact _ => none
/-- the facts that an operation may lean on -/
def Have (ops : Array Oper) (i : Nat) (env : List (Nat × (World → Prop))) (w : World) : Prop := ∀ j p, (j, p) ∈ env → (depsOf ops ops.size i).contains j = true → p w
def Walk (P : Program) (ops : Array Oper) (w : World) (Q : Exit → Act → World → Prop) : Nat → List Oper → List Spec → List (Nat × (World → Prop)) → Act → Prop
  | _, [], _, env, a => ∀ w1, Ext w w1 → (∀ j p, (j, p) ∈ env → p w1) → Q .normal a w1
  | _, _ :: _, [], _, _ => False
  | i, o :: rest, .val v :: ss, env, a => (∀ w1, Ext w w1 → Have ops i env w1 → stepG P ops o a w1 (fun u w2 => Ext w1 w2 ∧ u = v)) ∧ Walk P ops w Q (i + 1) rest ss env (a.put o.dst v)
  | i, o :: rest, .fact f :: ss, env, a => (∀ w1, Ext w w1 → Have ops i env w1 → stepG P ops o a w1 (fun u w2 => Ext w1 w2 ∧ f u w2)) ∧ ∀ u, Walk P ops w Q (i + 1) rest ss ((i, f u) :: env) (a.put o.dst u)

def keepsS (w : World) : List Spec → Prop
  | [] => True
  | .val _ :: r => keepsS w r
  | .fact f :: r => (∀ u w1 w2, Ext w1 w2 → f u w1 → f u w2) ∧ keepsS w r
theorem keepsS_get (w : World) : ∀ (ss : List Spec) (i : Nat) (s : Spec), keepsS w ss → ss[i]? = some s → ∀ u w1 w2, Ext w1 w2 → s.holds u w1 → s.holds u w2
  | [], _, _, _, h => by simp at h
  | .val v :: r, 0, s, _, h => by simp at h; subst h; exact fun _ _ _ _ h => h
  | .val v :: r, i + 1, s, hk, h => keepsS_get w r i s hk (by simpa using h)
  | .fact f :: r, 0, s, hk, h => by simp at h; subst h; exact hk.1
  | .fact f :: r, i + 1, s, hk, h => keepsS_get w r i s hk.2 (by simpa using h)

theorem walk_at {w : World} {Q : Exit → Act → World → Prop} {a0 : Act} (ss : List Spec) (vs : Nat → Value) (hfx : ∀ j s v, ss[j]? = some s → s.fixed = some v → vs j = v) :
    ∀ (n k : Nat) (rest : List Oper) (env : List (Nat × (World → Prop))) (a : Act), n + k = ops.size → (∀ j, rest[j]? = ops[k + j]?) → rest.length = n → a = acts ops a0 vs (fun _ => true) k →
      (∀ j p, (j, p) ∈ env → ∃ f, ss[j]? = some (.fact f) ∧ j < k ∧ p = f (vs j)) → (∀ j f, ss[j]? = some (.fact f) → j < k → (j, f (vs j)) ∈ env) → Walk P ops w Q k rest (ss.drop k) env a →
      (∀ i o, k ≤ i → ops[i]? = some o → ∃ s, ss[i]? = some s ∧ ∀ w1, Ext w w1 → (∀ j ∈ depsOf ops ops.size i, j < i → ∀ s, ss[j]? = some s → s.holds (vs j) w1) → stepG P ops o (acts ops a0 vs (fun _ => true) i) w1 (fun u w2 => Ext w1 w2 ∧ s.holds u w2)) ∧
      (∀ w1, Ext w w1 → (∀ i s, i < ops.size → ss[i]? = some s → s.holds (vs i) w1) → Q .normal (acts ops a0 vs (fun _ => true) ops.size) w1) := by
  intro n
  induction n with
  | zero =>
    intro k rest env a hk hr hl ha henv henv2 hw
    obtain rfl : rest = [] := List.length_eq_zero_iff.1 hl
    have e : k = ops.size := by omega
    subst e
    refine ⟨fun i o hi ho => by have := (Array.getElem?_eq_some_iff.1 ho).1; omega, fun w1 hx hall => ?_⟩
    simp only [Walk] at hw
    rw [← ha]
    refine hw w1 hx fun j p hp => ?_
    obtain ⟨f, hf, hj, rfl⟩ := henv j p hp
    exact hall j _ hj hf
  | succ n ih =>
    intro k rest env a hk hr hl ha henv henv2 hw
    obtain ⟨o, rest, rfl⟩ : ∃ o r, rest = o :: r := by cases rest with | nil => simp at hl | cons o r => exact ⟨o, r, rfl⟩
    have hok : ops[k]? = some o := by simpa using (hr 0).symm
    have hact : ∀ v, vs k = v → a.put o.dst v = acts ops a0 vs (fun _ => true) (k + 1) := fun v hv => by
      simp only [acts, if_true]; rw [← ha, hok, hv]; rfl
    cases hs : ss[k]? with
    | none =>
      rw [List.drop_eq_nil_of_le (by rcases Nat.lt_or_ge k ss.length with h | h; · rw [List.getElem?_eq_getElem h] at hs; cases hs
                                     · exact h)] at hw
      simp only [Walk] at hw
    | some s =>
      have hlt : k < ss.length := (List.getElem?_eq_some_iff.1 hs).1
      rw [List.drop_eq_getElem_cons hlt, (List.getElem?_eq_some_iff.1 hs).2] at hw
      have hlean : ∀ w1, (∀ j ∈ depsOf ops ops.size k, j < k → ∀ s, ss[j]? = some s → s.holds (vs j) w1) → Have ops k env w1 := by
        intro w1 h j p hp hc
        obtain ⟨f, hf, hj, rfl⟩ := henv j p hp
        exact h j (by simpa using hc) hj _ hf
      have hr' : ∀ j, rest[j]? = ops[k + 1 + j]? := fun j => by have := hr (j + 1); simpa [Nat.add_assoc, Nat.add_comm 1 j] using this
      cases s with
      | val v =>
        simp only [Walk] at hw
        have hv : vs k = v := hfx k _ v hs rfl
        obtain ⟨h1, h2⟩ := ih (k + 1) rest env _ (by omega) hr' (by simpa using hl) (hact v hv) (fun j p hp => by obtain ⟨f, hf, hj, e⟩ := henv j p hp; exact ⟨f, hf, by omega, e⟩)
          (fun j f hf hj => henv2 j f hf (by rcases Nat.lt_or_ge j k with h | h; · exact h
                                             · obtain rfl : j = k := by omega
                                               rw [hs] at hf; cases hf)) hw.2
        refine ⟨fun i o' hi ho => ?_, h2⟩
        rcases Nat.lt_or_ge k i with h | h
        · exact h1 i o' (by omega) ho
        · obtain rfl : i = k := by omega
          rw [hok] at ho; cases ho
          exact ⟨_, hs, fun w1 hx hd => by rw [← ha]; exact hw.1 w1 hx (hlean w1 hd)⟩
      | fact f =>
        simp only [Walk] at hw
        obtain ⟨h1, h2⟩ := ih (k + 1) rest ((k, f (vs k)) :: env) _ (by omega) hr' (by simpa using hl) (hact (vs k) rfl) (fun j p hp => by
            rcases List.mem_cons.1 hp with e | hp
            · cases e; exact ⟨f, hs, by omega, rfl⟩
            · obtain ⟨f, hf, hj, e⟩ := henv j p hp; exact ⟨f, hf, by omega, e⟩)
          (fun j g hg hj => by
            rcases Nat.lt_or_ge j k with h | h
            · exact List.mem_cons_of_mem _ (henv2 j g hg h)
            · obtain rfl : j = k := by omega
              rw [hs] at hg; cases hg
              exact List.mem_cons_self) (hw.2 (vs k))
        refine ⟨fun i o' hi ho => ?_, h2⟩
        rcases Nat.lt_or_ge k i with h | h
        · exact h1 i o' (by omega) ho
        · obtain rfl : i = k := by omega
          rw [hok] at ho; cases ho
          exact ⟨_, hs, fun w1 hx hd => by rw [← ha]; exact hw.1 w1 hx (hlean w1 hd)⟩

/-- THE RULE, for a region whose operations are written out: a spec for each operation, the walk in the text's order. -/
theorem wp_region {id : Nat} {Q : Exit → Act → World → Prop} {a : Act} {w : World} {l : List Oper} (ss : List Spec) (hm : P.follows .mixedOrders = true) (hB : okB l.toArray = true) (hk : keepsS w ss)
    (h : Walk P l.toArray w Q 0 l ss [] a) : (Code.region id l.toArray true).wp P Q a w := by
  have base := fun vs hfx => walk_at (P := P) (ops := l.toArray) (w := w) (Q := Q) (a0 := a) ss vs hfx l.length 0 l [] a (by simp) (by simp) rfl rfl (fun _ _ h => by cases h) (fun _ _ _ h => by omega) h
  refine wp_facts (fun i => match ss[i]? with | some s => s.holds | none => fun _ _ => False) (fun i => (ss[i]?).bind Spec.fixed) ?_ hm hB ?_ ?_ ?_
  · intro i v u w hv hu
    cases hs : ss[i]? with
    | none => simp [hs] at hv
    | some s => cases s with
      | val x => simp only [hs, Option.bind_some, Spec.fixed, Option.some.injEq] at hv; subst hv; simpa [hs, Spec.holds] using hu
      | fact f => simp [hs, Spec.fixed] at hv
  · intro i u w1 w2 _ hx hu
    cases hs : ss[i]? with
    | none => simp [hs] at hu
    | some s => simp only [hs] at hu ⊢; exact keepsS_get w ss i s hk hs u w1 w2 hx hu
  · intro i o ho vs w1 hfx hx hd
    obtain ⟨h1, -⟩ := base vs fun j s v hs hv => hfx j v (by simp [hs, hv])
    obtain ⟨s, hs, hst⟩ := h1 i o (Nat.zero_le _) ho
    simp only [hs]
    refine hst w1 hx fun j hj _ s' hs' => ?_
    have := hd j hj
    simpa only [hs'] using this
  · intro vs w1 hfx hx hall
    obtain ⟨-, h2⟩ := base vs fun j s v hs hv => hfx j v (by simp [hs, hv])
    refine h2 w1 hx fun i s hi hs => ?_
    have := hall i hi
    simpa only [hs] using this
attribute [go_sem] stepG upon_value upon_skip upon_enter
end Facts
end Go.Proofs.Ytbodmgilcohfjaa
