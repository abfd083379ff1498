/-
  THE LISTS OF SOME OF THE INDICES OF A SET, the shorter ones first, those that are as long number by number; and the first of them of which something is so. No program.
  A BLOCK, OR A BRANCHING, TAKEN OUT OF A FUNCTION'S TEXT, so that it can be walked in a declaration of its own. Over any program.
  A STATEMENT THAT IS A REGION, TAKEN OUT OF A FUNCTION'S TEXT, so that it can be walked in a declaration of its own. Over any program.
  A REGION WALKED OVER A FRAME THAT IS A VARIABLE: what its slots hold is said by facts alone. Over any program.
  WHAT sets.Parts' INNER FUNCTION YIELDS: each list of so many numbers behind those that were chosen before. The region of its call of itself.
  WHAT sets.Parts' INNER FUNCTION YIELDS: the region of its call of itself.
  WHAT sets.Parts' INNER FUNCTION YIELDS, whole.
  sets.Parts, whole: what it returns, and what that yields.
  A REGION THAT DRAWS ITS ORDER, IN A ROUND OF A RANGE OVER A FUNCTION, whose operations may call functions. Over any program.
  WHAT sets.Parts, sets.All AND slices.Clone RETURN.
  THE FEWEST ENTRIES without which there is a truth: sets.Fewest over isTrueWithout, of the program.
  A HOUSE WITHOUT AN ERROR IS VALID.
  THE ARGUMENTS: index, pence; open: the house that is looked at, and its error: of the program.
  WHAT Wrong RETURNS, for any house: of the program.
-/
import Derived.Test.YtdadffmagfknoaaBunAI
import Derived.Test.YtdadffmagfknoaaBunAD
import Derived.Test.YtdadffmagfknoaaBunAA
import Derived.Test.YtdadffmagfknoaaBunAC
import Derived.Test.YtdadffmagfknoaaBunAE
import Derived.Test.YtdadffmagfknoaaBunAH
import Derived.Deep.CutBlock
import Derived.Outline
import Derived.RegionTactic
import Derived.BigRegion
import Derived.Deep.DeepCutAuto
import Derived.Test.YtdadffmagfknoaaBunAB
import Derived.LoopIn
import Derived.TacticsInMore
import Derived.RangeFuncNested
import Derived.Laws.AppendOwnNone
import Derived.Lib.LazyBuf
import Derived.Test.YtdadffmagfknoaaBunAG
namespace Go.Proofs.Ytdadffmagfknoaa
set_option linter.unusedSimpArgs false
set_option linter.unusedVariables false
open Go.RowKit
set_option linter.unusedVariables false

/-- the lists of so many of some numbers -/
def combM : Nat → List Nat → List (List Nat)
  | 0, _ => [[]]
  | _ + 1, [] => []
  | m + 1, i :: l => (combM m l).map (i :: ·) ++ combM (m + 1) l
/-- .. behind numbers that were chosen before -/
def giveL (m : Nat) (p l : List Nat) : List (List Nat) := (combM m l).map (p ++ ·)
theorem giveL_zero (p l : List Nat) : giveL 0 p l = [p] := by cases l <;> simp [giveL, combM]
theorem giveL_nil (m : Nat) (p : List Nat) : giveL (m + 1) p [] = [] := rfl
theorem giveL_cons (m i : Nat) (p l : List Nat) : giveL (m + 1) p (i :: l) = giveL m (p ++ [i]) l ++ giveL (m + 1) p l := by
  simp [giveL, combM, Function.comp_def]
theorem giveL_none (m : Nat) (l : List Nat) : giveL m [] l = combM m l := by simp [giveL]
/-- what the first k numbers, as the first one chosen, give -/
def giveTo (m : Nat) (p l : List Nat) (k : Nat) : List (List Nat) := (List.range k).flatMap fun a => giveL m (p ++ [l.getD a 0]) (l.drop (a + 1))
theorem giveTo_zero (m : Nat) (p l : List Nat) : giveTo m p l 0 = [] := rfl
theorem giveTo_succ (m : Nat) (p l : List Nat) (k : Nat) : giveTo m p l (k + 1) = giveTo m p l k ++ giveL m (p ++ [l.getD k 0]) (l.drop (k + 1)) := by
  simp [giveTo, List.range_succ]
theorem giveTo_all (m : Nat) (p l : List Nat) : giveTo m p l l.length = giveL (m + 1) p l := by
  induction l with
  | nil => rfl
  | cons i l ih =>
    rw [giveL_cons, ← ih]
    unfold giveTo
    rw [List.length_cons, List.range_succ_eq_map, List.flatMap_cons, List.flatMap_map]
    rfl
/-- what the lists of fewer than so many are -/
def partsTo (l : List Nat) (k : Nat) : List (List Nat) := (List.range k).flatMap fun m => combM m l
theorem partsTo_succ (l : List Nat) (k : Nat) : partsTo l (k + 1) = partsTo l k ++ giveL k [] l := by
  simp [partsTo, List.range_succ, giveL_none]
def partsM (l : List Nat) : List (List Nat) := partsTo l (l.length + 1)
theorem partsTo_prefix (l : List Nat) {k m : Nat} (h : k ≤ m) : partsTo l k <+: partsTo l m := by
  obtain ⟨d, rfl⟩ := Nat.exists_eq_add_of_le h
  clear h
  induction d with
  | zero => exact List.prefix_rfl
  | succ d ih => exact ih.trans (by rw [← Nat.add_assoc, partsTo_succ]; exact List.prefix_append _ _)
theorem giveTo_prefix (m : Nat) (p l : List Nat) {j k : Nat} (h : j ≤ k) : giveTo m p l j <+: giveTo m p l k := by
  obtain ⟨d, rfl⟩ := Nat.exists_eq_add_of_le h
  clear h
  induction d with
  | zero => exact List.prefix_rfl
  | succ d ih => exact ih.trans (by rw [← Nat.add_assoc, giveTo_succ]; exact List.prefix_append _ _)

theorem combM_sub : ∀ (m : Nat) (l q : List Nat), q ∈ combM m l → (∀ x ∈ q, x ∈ l) ∧ q.length = m
  | 0, l, q, h => by
    have : q = [] := by cases l <;> simpa [combM] using h
    subst this; simp
  | m + 1, [], q, h => by simp [combM] at h
  | m + 1, i :: l, q, h => by
    rw [combM, List.mem_append] at h
    rcases h with h | h
    · obtain ⟨r, hr, rfl⟩ := List.mem_map.1 h
      obtain ⟨h1, h2⟩ := combM_sub m l r hr
      refine ⟨fun x hx => ?_, by simp [h2]⟩
      rcases List.mem_cons.1 hx with e | hx
      · simp [e]
      · exact List.mem_cons_of_mem _ (h1 x hx)
    · obtain ⟨h1, h2⟩ := combM_sub (m + 1) l q h
      exact ⟨fun x hx => List.mem_cons_of_mem _ (h1 x hx), h2⟩
theorem parts_sub {l q : List Nat} (h : q ∈ partsM l) : (∀ x ∈ q, x ∈ l) ∧ q.length ≤ l.length := by
  unfold partsM partsTo at h
  obtain ⟨m, hm, hq⟩ := List.mem_flatMap.1 h
  obtain ⟨h1, h2⟩ := combM_sub m l q hq
  have := List.mem_range.1 hm
  exact ⟨h1, by omega⟩
theorem parts_set : ∀ n : Fin 6, (∀ q ∈ partsM (membersM (2 ^ n.1 - 1)), membersM (bitsM q) = q ∧ bitsM q < 2 ^ n.1) ∧ (partsM (membersM (2 ^ n.1 - 1))).Pairwise (fun a b => cmpFew a b < 0) := by decide +kernel
theorem parts_has : ∀ (n : Fin 6) (s : Fin 32), s.1 < 2 ^ n.1 → membersM s.1 ∈ partsM (membersM (2 ^ n.1 - 1)) ∧ bitsM (membersM s.1) = s.1 := by decide +kernel
theorem cmpFew_asym : ∀ (s t : Fin 32), (cmpFew (membersM s.1) (membersM t.1) < 0 → ¬ cmpFew (membersM t.1) (membersM s.1) < 0) ∧ (¬ cmpFew (membersM s.1) (membersM t.1) < 0 → ¬ cmpFew (membersM t.1) (membersM s.1) < 0 → membersM s.1 = membersM t.1) := by decide +kernel
theorem two_pow_lt32 {n : Nat} (hn : n ≤ 5) : 2 ^ n ≤ 32 := Nat.pow_le_pow_right (n := 2) (by decide) hn
theorem fewIs_one {P : Nat → Bool} {n : Nat} (hn : n ≤ 5) {a b : Option (List Nat)} (ha : FewIs P (2 ^ n) a) (hb : FewIs P (2 ^ n) b) : a = b := by
  have h32 := two_pow_lt32 hn
  cases a with
  | none =>
    cases b with
    | none => rfl
    | some g => obtain ⟨⟨s, h1, h2, -⟩, -⟩ := hb; rw [ha s h1] at h2; cases h2
  | some f =>
    cases b with
    | none => obtain ⟨⟨s, h1, h2, -⟩, -⟩ := ha; rw [hb s h1] at h2; cases h2
    | some g =>
      obtain ⟨⟨s, h1, h2, rfl⟩, h3⟩ := ha
      obtain ⟨⟨t, k1, k2, rfl⟩, k3⟩ := hb
      have := (cmpFew_asym ⟨s, by omega⟩ ⟨t, by omega⟩).2 (k3 s h1 h2) (h3 t k1 k2)
      simpa using this
/-- the first of the parts of which something is so is the first of the fewest -/
theorem find_few (P : Nat → Bool) {n : Nat} (hn : n ≤ 5) : (partsM (membersM (2 ^ n - 1))).find? (fun q => P (bitsM q)) = fewTo P (2 ^ n) := by
  have h32 := two_pow_lt32 hn
  obtain ⟨hq, hs⟩ := parts_set ⟨n, by omega⟩
  have hh := fun s (h : s < 2 ^ n) => parts_has ⟨n, by omega⟩ ⟨s, by omega⟩ h
  simp only at hq hs hh
  refine fewIs_one hn ?_ (fewTo_is P _)
  cases hf : (partsM (membersM (2 ^ n - 1))).find? (fun q => P (bitsM q)) with
  | none =>
    intro s h
    rw [List.find?_eq_none] at hf
    have := hf _ (hh s h).1
    rw [(hh s h).2] at this
    simpa using this
  | some q =>
    rw [List.find?_eq_some_iff_append] at hf
    obtain ⟨hp, xa, xb, he, hno⟩ := hf
    have hm : q ∈ partsM (membersM (2 ^ n - 1)) := by rw [he]; simp
    obtain ⟨e1, e2⟩ := hq q hm
    refine ⟨⟨bitsM q, e2, hp, e1⟩, fun s h hps hlt => ?_⟩
    obtain ⟨m1, m2⟩ := hh s h
    rw [he] at m1 hs
    rcases List.mem_append.1 m1 with m1 | m1
    · have := hno _ m1
      rw [m2, hps] at this
      cases this
    · rcases List.mem_cons.1 m1 with m1 | m1
      · rw [m1] at hlt
        have : cmpFew q q = 0 := cmpSS_self _
        omega
      · have h1 := (List.pairwise_cons.1 (List.pairwise_append.1 hs).2.1).1 _ m1
        rw [← e1] at h1 hlt
        exact (cmpFew_asym ⟨bitsM q, by omega⟩ ⟨s, by omega⟩).1 h1 hlt
end Go.Proofs.Ytdadffmagfknoaa

namespace Go.Proofs.Ytdadffmagfknoaa
set_option linter.unusedSimpArgs false
set_option linter.unusedVariables false
open Go.RowKit
def findBlock (n : Nat) : Code → Option Code
  | .block i c => if i = n then some (.block i c) else findBlock n c
  | .seq a b => match findBlock n a with
    | some c => some c
    | none => findBlock n b
  | .loop c => findBlock n c
  | .scope c => findBlock n c
  | .cond _ a b => match findBlock n a with
    | some c => some c
    | none => findBlock n b
  | _ => none
def findCond (t : Nat) : Code → Option Code
  | .cond (.tmp i) a b => if i = t then some (.cond (.tmp i) a b) else match findCond t a with
    | some c => some c
    | none => findCond t b
  | .seq a b => match findCond t a with
    | some c => some c
    | none => findCond t b
  | .loop c => findCond t c
  | .scope c => findCond t c
  | .block _ c => findCond t c
  | _ => none
noncomputable def blockOf (f : Func) (n : Nat) : Code := ((f.body.bind (findBlock n)).getD .skip)
noncomputable def condOf (f : Func) (n : Nat) : Code := ((f.body.bind (findCond n)).getD .skip)
end Go.Proofs.Ytdadffmagfknoaa

namespace Go.Proofs.Ytdadffmagfknoaa
set_option linter.unusedSimpArgs false
set_option linter.unusedVariables false
open Go.RowKit
def findRegion (n : Nat) : Code → Option Code
  | .region i ops d => if i = n then some (.region i ops d) else none
  | .block _ c => findRegion n c
  | .seq a b => match findRegion n a with
    | some c => some c
    | none => findRegion n b
  | .loop c => findRegion n c
  | .scope c => findRegion n c
  | .cond _ a b => match findRegion n a with
    | some c => some c
    | none => findRegion n b
  | _ => none
noncomputable def regionOf (f : Func) (n : Nat) : Code := ((f.body.bind (findRegion n)).getD .skip)
end Go.Proofs.Ytdadffmagfknoaa

namespace Go.Proofs.Ytdadffmagfknoaa
set_option linter.unusedSimpArgs false
set_option linter.unusedVariables false
open Go.RowKit
namespace Facts
theorem wp_frame {P : Program} {c : Code} {Q : Exit → Act → World → Prop} {a : Act} {w : World} (h : ∀ A : Act, A = a → Code.wp P c Q A w) : Code.wp P c Q a w := h a rfl
theorem eval_put_same (a : Act) (t : Nat) (v : Value) (h : t < a.tmps.size) : (a.put (some t) v).eval (.tmp t) = v := by
  simp only [Act.put, Act.eval]
  rw [Array.getD_eq_getD_getElem?, Array.getElem?_setIfInBounds_self, if_pos h]; rfl
theorem eval_put_other (a : Act) (d t : Nat) (v : Value) (h : d ≠ t) : (a.put (some d) v).eval (.tmp t) = a.eval (.tmp t) := by
  simp only [Act.put, Act.eval]
  rw [Array.getD_eq_getD_getElem?, Array.getD_eq_getD_getElem?, Array.getElem?_setIfInBounds_ne h]
theorem eval_put_none (a : Act) (v : Value) (o : Operand) : (a.put none v).eval o = a.eval o := rfl
theorem eval_const (a : Act) (v : Value) : a.eval (.const v) = v := rfl
theorem eval_func (a : Act) (f : FuncId) : a.eval (.func f) = .func (.func f) #[] #[] := rfl
theorem size_put (a : Act) (d : Option Tmp) (v : Value) : (a.put d v).tmps.size = a.tmps.size := put_size a d v
end Facts
end Go.Proofs.Ytdadffmagfknoaa

namespace Go.Proofs.Ytdadffmagfknoaa
set_option linter.unusedSimpArgs false
set_option linter.unusedVariables false
open Go.RowKit
set_option linter.unusedVariables false
set_option linter.unusedSimpArgs false
set_option maxRecDepth 100000

namespace Facts.App
variable {P : Program} {ops : Array Oper}
theorem stepG_append_fits {o : Oper} {a : Act} {w : World} {S : Value → World → Prop} (hgd : o.guard = none) (s x : Operand) (t : TypeId)
    (ho : o.op = .call { callee := .builtin .append, args := #[s, x], argTypes := #[t, t] })
    (base : Nat) (e : TypeId) (i : TypeInfo) (size : Nat) (ht : P.underlying t = some (.slice e)) (hi : P.info? e = some i) (hsize : i.size = size)
    (g n cap : Nat) (xs : List Value) (hs : a.eval s = .slice (some ⟨g, 0, none⟩) n cap) (hown : w.ownsRow base e size (.slice (some ⟨g, 0, none⟩) n cap) n xs)
    (ad : Addr) (m c : Nat) (news : List Value) (hx : a.eval x = .slice (some ad) m c) (hl : news.length = m * size) (hnews : ∀ j u, news[j]? = some u → w.cell? (ad.add j) = some u) (h1 : ∀ u ∈ news, u.oneCell' = true)
    (hroom : n + m ≤ cap)
    (h : ∀ w', w'.ownsRow base e size (.slice (some ⟨g, 0, none⟩) (n + m) cap) (n + m) (xs ++ news) → w.grownBy w' (some g) → S (.slice (some ⟨g, 0, none⟩) (n + m) cap) w') : stepG P ops o a w S := by
  obtain ⟨w', hr, h2, h3⟩ := run_append_fits (P := P) w base t o.type e i size ht hi hsize g n cap xs hown ad m c news hl hnews h1 hroom
  unfold stepG
  have hw : Region.wanted o (yielded ops a.tmps) = true := by unfold Region.wanted; rw [hgd]
  rw [if_pos hw]
  unfold execOp
  simp only [ho, resolve, invoke, builtin, Sem.run_bind, Sem.run_pure, Result.andThen_ok, List.map_toArray, List.map_cons, List.map_nil, hs, hx, hr]
  exact h w' h2 h3
end Facts.App

/-- numbers in memory -/
def natsV (l : List Nat) : List Value := (ints l).map (Value.int .i64)
/-- the function that calls itself -/
def pgiveF (yb gb : Nat) : Value := .func (.func 127) #[] #[.pointer (some ⟨yb, 0, none⟩), .pointer (some ⟨gb, 0, none⟩)]
/-- the captured variables, as they lie in memory -/
structure CapP (W : World) (l yb gb : Nat) : Prop where
  yield : W.cell? ⟨yb, 0, none⟩ = some (.func (.yield l) #[] #[])
  give : W.cell? ⟨gb, 0, none⟩ = some (pgiveF yb gb)
theorem CapP.keptX {W W' : World} {l yb gb B n : Nat} (h : CapP W l yb gb) (hx : KeptX B n W W') (hy : yb ≠ B) (hg : gb ≠ B) : CapP W' l yb gb := ⟨hx.cell hy h.yield, hx.cell hg h.give⟩
/-- a list that lies in no cell of a block -/
def IntsX (B : Nat) (W : World) (v : Value) (l : List Int) : Prop := IntsAt W v l ∧ (l ≠ [] → ∀ ad n c, v = .slice (some ad) n c → ad.block ≠ B)
theorem IntsX.keptX {B n : Nat} {W W' : World} {v : Value} {l : List Int} (h : IntsX B W v l) (hx : KeptX B n W W') : IntsX B W' v l := by
  obtain ⟨⟨a, cap, rfl, h2, h3, h4⟩, hb⟩ := h
  refine ⟨⟨a, cap, rfl, h2, h3, fun i hi => ?_⟩, hb⟩
  obtain ⟨b, o, rfl, r⟩ := h4 i hi
  exact ⟨b, o, rfl, hx.cell (hb (fun e => by rw [e] at hi; exact absurd hi (Nat.not_lt_zero _)) ⟨b, o, none⟩ _ _ rfl) r.1, r.2⟩
/-- what is left of a list behind its first numbers -/
theorem IntsX.left {B b o n c k : Nat} {W : World} {l : List Int} (h : IntsX B W (.slice (some ⟨b, o, none⟩) n c) l) (hk : k ≤ n) {ad : Addr} (e : (if c = k then some (⟨b, o, none⟩ : Addr) else some ⟨b, o + k, none⟩) = some ad) : IntsX B W (.slice (some ad) (n - k) (c - k)) (l.drop k) := by
  obtain ⟨⟨a, cap, e1, h2, h3, h4⟩, hb⟩ := h
  obtain ⟨rfl, rfl, rfl⟩ := Value.slice.inj e1
  have hl : (l.drop k).length = l.length - k := List.length_drop
  have hbl : ad.block = b := by
    split at e
    · obtain rfl := Option.some.inj e; rfl
    · obtain rfl := Option.some.inj e; rfl
  refine ⟨⟨some ad, c - k, by rw [hl], by omega, by omega, fun i hi => ?_⟩, fun hne ad' n' c' e' => ?_⟩
  · rw [hl] at hi
    obtain ⟨b', o', e2, r⟩ := h4 (k + i) (by omega)
    obtain ⟨rfl, rfl, -⟩ := Addr.mk.inj (Option.some.inj e2)
    have hck : c ≠ k := by omega
    rw [if_neg hck] at e
    obtain rfl := Option.some.inj e
    refine ⟨b, o + k, rfl, ?_⟩
    rw [List.getElem_drop]
    rw [Nat.mul_one] at r ⊢
    rw [Nat.add_assoc]; exact r
  · obtain ⟨e2, -, -⟩ := Value.slice.inj e'
    obtain rfl := Option.some.inj e2
    rw [hbl]; exact hb (fun e => hne (by rw [e]; exact List.drop_nil)) ⟨b, o, none⟩ _ _ rfl
def GivePostP (B n : Nat) (J Jx : List (List Nat) → World → Prop) (all pre : List (List Nat)) (W : World) (e : Ending) (W' : World) : Prop :=
  (e = .returned (.bool true) ∧ J pre W' ∧ KeptX B n W W') ∨ (e = .returned (.bool false) ∧ ∃ p, p <+: all ∧ Jx p W')
/-- a list that is yielded, as it lies in memory -/
def EncP (x : List Nat) (vs : Array Value) (W : World) : Prop := ∃ v, vs = #[v] ∧ IntsAt W v (ints x)

/-- one new number, in a block of its own -/
def NewP (B : Nat) (x : Value) (u : Value) (w : World) : Prop := ∃ b, b ≠ B ∧ u = .slice (some ⟨b, 0, none⟩) 1 1 ∧ w.cell? ⟨b, 0, none⟩ = some x
theorem NewP.keptX {B n : Nat} {x u : Value} {w w' : World} (h : NewP B x u w) (hx : KeptX B n w w') : NewP B x u w' := by
  obtain ⟨b, h1, h2, h3⟩ := h; exact ⟨b, h1, h2, hx.cell h1 h3⟩
/-- the row, one number longer -/
def RowP (base B n cap : Nat) (xs : List Value) (u : Value) (w : World) : Prop := u = .slice (some ⟨B, 0, none⟩) n cap ∧ w.ownsRow base 3 1 u n xs
def CP (B n B0 : Nat) (w w' : World) : Prop := KeptX B n w w' ∧ (B0 ≤ w.heap.size → Below B0 w w')
def SP (B n B0 : Nat) (i : Nat) (w w' : World) : Prop := if i = 4 then CP B n B0 w w' else Ext w w'
theorem cP_ext {B n B0 : Nat} {w w' : World} (h : Ext w w') : CP B n B0 w w' := ⟨(Ext.keptC h).x B n, fun hb => h.below.mono hb⟩
theorem manyP (B n B0 : Nat) : Facts.Dep.Many.ManyT (SP B n B0) (CP B n B0) := ⟨fun i w w' h => by
  unfold SP at h
  split at h
  · exact h
  · exact cP_ext h, fun a b c h k => ⟨h.1.trans k.1, fun hb => (h.2 hb).trans (k.2 (Nat.le_trans hb h.1.size))⟩, fun w => cP_ext (ext_drew w)⟩
theorem sPe {B n B0 i : Nat} {w w' : World} (hi : i ≠ 4) (h : Ext w w') : SP B n B0 i w w' := by unfold SP; rw [if_neg hi]; exact h
theorem no_falseP {X : Bool} (h : X = false) (h2 : X = true) : False := by rw [h] at h2; cases h2
theorem one_cellsP {a : Value} {w : World} {B : Nat} (h2 : w.cell? ⟨B, 0, none⟩ = some a) : ∀ j v, [a][j]? = some v → w.cell? ((⟨B, 0, none⟩ : Addr).add j) = some v := by
  intro j v hj
  match j, hj with
  | 0, hj => simp at hj; subst hj; simpa [Addr.add] using h2
end Go.Proofs.Ytdadffmagfknoaa

namespace Go.Proofs.Ytdadffmagfknoaa
set_option linter.unusedSimpArgs false
set_option linter.unusedVariables false
open Go.RowKit
set_option linter.unusedVariables false
set_option linter.unusedSimpArgs false
set_option maxRecDepth 100000
set_option maxHeartbeats 4000000 in
theorem pgive_r6 {u5 u6 u7 u8 u11 u12 u13 u14 u15 u16 u17 u18 u19 u20 u21 u22 u23 u24 u25 u26 u27 u28 u29 u30 u31 u32 u33 u34 u35 u36 : Value} {R : World} {l yb gb PB cap B0 base n b o nl c at_ m x : Nat} {xs : List Nat} (hC : CapP R l yb gb) (hyb : yb ≠ PB) (hgb : gb ≠ PB) (hB : B0 ≤ R.heap.size) (hB1 : B0 ≤ PB) (hown : R.ownsRow base 3 1 (.slice (some ⟨PB, 0, none⟩) n cap) n (natsV xs)) (hroom : n + 1 ≤ cap) (hat : at_ < nl) (hnc : nl ≤ c) (hc63 : c ≤ 9223372036854775807) (hm63 : m < 2 ^ 32) (Qs : Value → World → Prop)
    (hcall : ∀ (ad : Addr) (w1 : World), (if c = at_ + 1 then some (⟨b, o, none⟩ : Addr) else some ⟨b, o + (at_ + 1), none⟩) = some ad → CP PB n B0 R w1 → w1.ownsRow base 3 1 (.slice (some ⟨PB, 0, none⟩) (n + 1) cap) (n + 1) (natsV xs ++ [.int .i64 x]) →
      Calls Try.prog 127 #[(.slice (some ⟨PB, 0, none⟩) (n + 1) cap), .slice (some ad) (nl - (at_ + 1)) (c - (at_ + 1)), .int .i64 m, .pointer (some ⟨yb, 0, none⟩), .pointer (some ⟨gb, 0, none⟩)] w1 fun e w2 => ∃ f, e = .returned (.bool f) ∧ Qs (.bool f) w2)
    (Q : Exit → Act → World → Prop)
    (hQ : ∀ (v23 v24 v25 v26 v27 v28 v29 v30 v31 v32 v33 v34 : Value) (f : Bool) (wc : World), Qs (.bool f) wc → Q .normal ⟨#[(.slice (some ⟨PB, 0, none⟩) n cap), .slice (some ⟨b, o, none⟩) nl c, .int .i64 ((m : Int) + 1), .pointer (some ⟨yb, 0, none⟩), .pointer (some ⟨gb, 0, none⟩), u5, u6, u7, u8, .int .i64 at_, .int .i64 x, u11, u12, u13, u14, u15, u16, u17, u18, u19, u20, u21, u22, v23, v24, v25, v26, v27, v28, v29, v30, v31, v32, v33, v34, .bool (!f), u36], []⟩ wc) :
    Code.wp Try.prog (regionOf Try.f127 6) Q ⟨#[(.slice (some ⟨PB, 0, none⟩) n cap), .slice (some ⟨b, o, none⟩) nl c, .int .i64 ((m : Int) + 1), .pointer (some ⟨yb, 0, none⟩), .pointer (some ⟨gb, 0, none⟩), u5, u6, u7, u8, .int .i64 at_, .int .i64 x, u11, u12, u13, u14, u15, u16, u17, u18, u19, u20, u21, u22, u23, u24, u25, u26, u27, u28, u29, u30, u31, u32, u33, u34, u35, u36], []⟩ R := by
  conv => arg 2; whnf
  obtain ⟨i0, hi, hz0, hz1, hz2⟩ := info_parts infoInt
  have HQ := Lib.hid hQ
  have HC := Lib.hid hC
  have HCALL := Lib.hid hcall
  have HOWN := Lib.hid hown
  have hPB : PB < R.heap.size := (hown.lt PB rfl).2
  clear hQ hC hcall hown
  have k1 : (at_ : Int) < (nl : Int) := by omega
  have k2 : (at_ : Int) ≤ (nl : Int) := by omega
  have k3 : (at_ : Int) + 1 ≤ (nl : Int) := by omega
  have k4 : at_ + 1 ≤ nl := by omega
  have k5 : at_ + 1 ≤ c := by omega
  have wk : IntKind.i64.wrap ((at_ : Int) + 1) = (at_ : Int) + 1 := IntWalk.i64_in _ (by omega)
  have wm : IntKind.i64.wrap (m : Int) = (m : Int) := IntWalk.i64_in _ (by omega)
  obtain ⟨ad, had⟩ : ∃ ad, (if c = at_ + 1 then some (⟨b, o, none⟩ : Addr) else some ⟨b, o + (at_ + 1), none⟩) = some ad := by split <;> exact ⟨_, rfl⟩
  have Had := Lib.hid had
  apply Facts.wp_frame
  intro A hA
  have f0 : ∀ h, A.tmps[0]'h = (.slice (some ⟨PB, 0, none⟩) n cap) := by rw [hA]; exact fun _ => rfl
  have f1 : ∀ h, A.tmps[1]'h = .slice (some ⟨b, o, none⟩) nl c := by rw [hA]; exact fun _ => rfl
  have f2 : ∀ h, A.tmps[2]'h = .int .i64 ((m : Int) + 1) := by rw [hA]; exact fun _ => rfl
  have f4 : ∀ h, A.tmps[4]'h = .pointer (some ⟨gb, 0, none⟩) := by rw [hA]; exact fun _ => rfl
  have f9 : ∀ h, A.tmps[9]'h = .int .i64 at_ := by rw [hA]; exact fun _ => rfl
  have f10 : ∀ h, A.tmps[10]'h = .int .i64 x := by rw [hA]; exact fun _ => rfl
  have fsz : A.tmps.size = 37 := by rw [hA]; rfl
  have HA := Lib.hid hA
  clear hA
  apply Facts.Dep.Many.wp_regionL2 (manyP PB n B0) 11 [.val (pgiveF yb gb), .val _, .val _, .fact (NewP PB (.int .i64 x)), .fact (RowP base PB (n + 1) cap (natsV xs ++ [.int .i64 x])), .val _, .val _, .val _, .val (.slice (some ad) (nl - (at_ + 1)) (c - (at_ + 1))), .val _, .val _] (by kernel_rfl) (by kernel_rfl) (by kernel_rfl) (by kernel_rfl) (by kernel_rfl) (by kernel_rfl) (by kernel_rfl) (by kernel_rfl) ?keep ?main
  case keep =>
    exact ⟨fun j hj hc u a c hx h => by
      unfold SP at hx
      split at hx
      · exact h.keptX hx.1
      · exact h.keptX ((Ext.keptC hx).x PB 0), fun j hj hc u a c hx h => by
      unfold SP at hx
      split at hx
      · rename_i e; exact absurd e hj
      · exact ⟨h.1, Ext.owns h.2 hx⟩, trivial⟩
  case main =>
    refine ⟨fun w1 hC hh => ?_, ?_⟩
    · clear hh
      have c0 := hC.1.cell hgb HC.out.give
      unfold pgiveF at c0 ⊢
      clear hC
      go_simp
      first | exact ⟨sPe (by decide) (Ext.refl _), rfl⟩ | exact sPe (by decide) (Ext.refl _)
    iterate 2 (refine ⟨fun w1 hC hh => ?_, ?_⟩; focus (clear hh; skip; clear hC; go_simp; first | exact ⟨sPe (by decide) (Ext.refl _), rfl⟩ | exact sPe (by decide) (Ext.refl _)))
    refine ⟨fun w1 hC hh => ?_, ?_⟩
    · clear hh
      have hs := hC.1.size
      clear hC
      go_simp
      exact ⟨sPe (by decide) (ext_alloc _ _), w1.heap.size, by omega, rfl, by simp [go_sem]⟩
    intro u3
    refine ⟨fun w1 hC hh => ?_, ?_⟩
    · have h3 : NewP PB (.int .i64 x) u3 w1 := hh 3 _ List.mem_cons_self (by kernel_rfl)
      obtain ⟨nb, hnb, rfl, hcell⟩ := h3
      have ho := hC.1.owns HOWN.out (Nat.le_refl _)
      clear hh
      refine Facts.App.stepG_append_fits rfl (.tmp 24) (.tmp 26) 30 rfl base 3 i0 1 Try.underlying30 hi hz1 PB n cap (natsV xs) (by go_simp) ho ⟨nb, 0, none⟩ 1 1 [.int .i64 x] (by go_simp) rfl (one_cellsP hcell) (by simp [Value.oneCell']) hroom ?_
      intro w' ho' hg
      refine ⟨by unfold SP; rw [if_pos rfl]; exact ⟨keptX_grown ho ho' hg (by omega), fun hb => Below.grown (Below.refl _ _) hg hb (fun k hk => by cases hk; exact hB1)⟩, rfl, ho'⟩
    intro u4
    iterate 6 (refine ⟨fun w1 hC hh => ?_, ?_⟩; focus (clear hh; skip; clear hC; go_simp; first | exact ⟨sPe (by decide) (Ext.refl _), rfl⟩ | exact sPe (by decide) (Ext.refl _)))
    clear had
    intro w5 hC5 hh
    have h4 : RowP base PB (n + 1) cap (natsV xs ++ [.int .i64 x]) u4 w5 := hh 4 _ List.mem_cons_self
    obtain ⟨rfl, ho5⟩ := h4
    clear hh
    refine ⟨rfl, ?_⟩
    have hcl := HCALL.out ad w5 Had.out hC5 ho5
    unfold pgiveF
    go_simp
    refine hcl.mono ?_
    rintro e w2 ⟨f, rfl, hq⟩
    refine ⟨_, rfl, ?_⟩
    have hA := HA.out
    subst hA
    have hQ := HQ.out
    go_simp
    exact hQ _ _ _ _ _ _ _ _ _ _ _ _ f _ hq
end Go.Proofs.Ytdadffmagfknoaa

namespace Go.Proofs.Ytdadffmagfknoaa
set_option linter.unusedSimpArgs false
set_option linter.unusedVariables false
open Go.RowKit
set_option linter.unusedVariables false
set_option linter.unusedSimpArgs false
set_option maxRecDepth 100000
theorem own_ints {W : World} {base PB cap : Nat} {p : List Nat} (h : W.ownsRow base 3 1 (.slice (some ⟨PB, 0, none⟩) p.length cap) p.length (natsV p)) (hI : ∀ x ∈ p, x < 5) : IntsAt W (.slice (some ⟨PB, 0, none⟩) p.length cap) (ints p) := by
  have hl : (ints p).length = p.length := by simp [ints]
  rw [← hl] at h ⊢
  exact IntsAt.of_own h fun x hx => by
    simp only [ints, List.mem_map] at hx
    obtain ⟨y, hy, rfl⟩ := hx
    have := hI y hy
    unfold I64; omega
set_option maxHeartbeats 2000000 in
theorem pgive_end (mm l yb gb PB cap base : Nat) (all : List (List Nat)) (J Jx : List (List Nat) → World → Prop) (hY : (∀ pre x vs W1, J pre W1 → EncP x vs W1 → pre ++ [x] <+: all → YieldAt Fence.wide mm Try.prog l vs W1 fun e W' => (e = .returned (.bool true) ∧ J (pre ++ [x]) W' ∧ KeptC W1 W') ∨ (e = .returned (.bool false) ∧ Jx (pre ++ [x]) W')))
    (p : List Nat) (lv : Value) (pre : List (List Nat)) (W : World) (hC : CapP W l yb gb) (hp : J pre W) (hown : W.ownsRow base 3 1 (.slice (some ⟨PB, 0, none⟩) p.length cap) p.length (natsV p)) (hI : ∀ x ∈ p, x < 5) (hall : pre ++ [p] <+: all) :
    Calls Try.prog 127 #[(.slice (some ⟨PB, 0, none⟩) p.length cap), lv, .int .i64 0, .pointer (some ⟨yb, 0, none⟩), .pointer (some ⟨gb, 0, none⟩)] W (GivePostP PB p.length J Jx all (pre ++ [p]) W) := by
  have cy := hC.yield
  have z2 := cell_lt cy
  obtain ⟨fn, tmps, assign, body, hy, hR⟩ := hY pre p #[(.slice (some ⟨PB, 0, none⟩) p.length cap)] W hp ⟨_, rfl, own_ints hown hI⟩ hall
  have HA := Lib.hid hall
  have HR := Lib.hid hR
  have hn : ∃ n, n = p.length := ⟨_, rfl⟩
  clear hY hI hown hall hR hC hp
  go_enter Try.func127, Try.ntmps127
  go_upto_region 2 with fail
  refine (wpIn_wide (n := mm + 1)).1 ?_
  gi_wp2
  refine HR.out.mono ?_
  rintro e W3 (⟨rfl, hJ3, hk3⟩ | ⟨rfl, hJx3⟩)
  · gi_wp2
    go_wp2
    go_ret
    exact .inl ⟨rfl, hJ3, hk3.x PB _⟩
  · gi_wp2
    go_wp2
    go_ret
    exact .inr ⟨rfl, _, HA.out, hJx3⟩
theorem natsV_snoc (p : List Nat) (x : Nat) : natsV (p ++ [x]) = natsV p ++ [.int .i64 x] := by simp [natsV, ints]
set_option maxHeartbeats 4000000 in
theorem pgive_step (m l yb gb PB cap base B0 : Nat) (all : List (List Nat)) (J Jx : List (List Nat) → World → Prop) (hJ : ∀ s A B, Below B0 A B → J s A → J s B) (hyb : yb ≠ PB) (hgb : gb ≠ PB) (hB1 : B0 ≤ PB) (hm : m < 2 ^ 31)
    (p : List Nat) (lv : Value) (left : List Nat) (pre : List (List Nat)) (W : World) (hB : B0 ≤ W.heap.size) (hC : CapP W l yb gb) (hp : J pre W) (hown : W.ownsRow base 3 1 (.slice (some ⟨PB, 0, none⟩) p.length cap) p.length (natsV p)) (hI : ∀ x ∈ p, x < 5) (hL : ∀ x ∈ left, x < 5) (hfit : p.length + left.length ≤ cap) (hlv : IntsX PB W lv (ints left)) (hall : pre ++ giveL (m + 1) p left <+: all)
    (hih : ∀ (q : List Nat) (lv : Value) (left : List Nat) (pre : List (List Nat)) (w : World), B0 ≤ w.heap.size → CapP w l yb gb → J pre w → w.ownsRow base 3 1 (.slice (some ⟨PB, 0, none⟩) q.length cap) q.length (natsV q) → (∀ x ∈ q, x < 5) → (∀ x ∈ left, x < 5) → q.length + left.length ≤ cap → IntsX PB w lv (ints left) → pre ++ giveL m q left <+: all →
      Calls Try.prog 127 #[(.slice (some ⟨PB, 0, none⟩) q.length cap), lv, .int .i64 m, .pointer (some ⟨yb, 0, none⟩), .pointer (some ⟨gb, 0, none⟩)] w (GivePostP PB q.length J Jx all (pre ++ giveL m q left) w)) :
    Calls Try.prog 127 #[(.slice (some ⟨PB, 0, none⟩) p.length cap), lv, .int .i64 ((m : Int) + 1), .pointer (some ⟨yb, 0, none⟩), .pointer (some ⟨gb, 0, none⟩)] W (GivePostP PB p.length J Jx all (pre ++ giveL (m + 1) p left) W) := by
  have hlv0 := hlv
  obtain ⟨⟨a, c, rfl, hlc, hcm, hcell⟩, hab⟩ := hlv
  have hil : (ints left).length = left.length := by simp [ints]
  rw [hil] at hlc hlv0 ⊢
  have hc2 : ∀ i, i < left.length → ∃ b off, a = some ⟨b, off, none⟩ ∧ W.cell? ⟨b, off + i, none⟩ = some (.int .i64 ((left.getD i 0 : Nat) : Int)) := fun i hi => by
    obtain ⟨b, off, e, r, -⟩ := hcell i (by omega)
    refine ⟨b, off, e, ?_⟩
    rw [Nat.mul_one] at r
    rw [r, List.getD_eq_getElem?_getD, List.getElem?_eq_getElem hi]
    simp [ints]
  have HC := Lib.hid hC
  have HJ := Lib.hid hJ
  have HOWN := Lib.hid hown
  have HI := Lib.hid hI
  have HL := Lib.hid hL
  have HLV := Lib.hid hlv0
  have HALL := Lib.hid hall
  have HIH := Lib.hid hih
  have HC2 := Lib.hid hc2
  have HAB := Lib.hid hab
  have hil2 := Lib.hid hil
  obtain ⟨n, hn⟩ : ∃ n, n = p.length := ⟨_, rfl⟩
  obtain ⟨nl, hnl⟩ : ∃ nl, nl = left.length := ⟨_, rfl⟩
  rw [← hnl] at HLV
  rw [← hn, ← hnl] at hfit ⊢
  rw [← hn] at HOWN
  rw [← hnl] at hlc
  have Hn := Lib.hid hn
  have Hnl := Lib.hid hnl
  have hmz : (((m : Int) + 1) == 0) = false := by rw [beq_eq_false_iff_ne]; omega
  have hnlI : (nl : Int) ≤ 9223372036854775807 := by omega
  have hp0 : J (pre ++ giveTo m p left 0) W := by rw [giveTo_zero, List.append_nil]; exact hp
  have HP0 := Lib.hid hp0
  clear hC hJ hown hI hL hlv0 hall hih hc2 hcell hab hil hn hnl hp hp0
  go_enter Try.func127, Try.ntmps127
  go_wp2
  go_loopw [18] (fun i wr => ∃ k : Nat, k ≤ nl ∧ i = .int .i64 k ∧ KeptX PB n W wr ∧ J (pre ++ giveTo m p left k) wr ∧ B0 ≤ wr.heap.size) (fun i _ => nl - (intOf i).toNat)
  case atStart => exact ⟨0, Nat.zero_le _, rfl, KeptX.refl _ _ _, HP0.out, hB⟩
  case round =>
    obtain ⟨k, hk, rfl, hKx, hj, hBr⟩ := hrel
    by_cases hlt : k < nl
    · have k1 : (k : Int) < (nl : Int) := by omega
      obtain ⟨b, o, rfl, hck⟩ := HC2.out k (by have := Hnl.out; omega)
      have hx5 : left.getD k 0 < 5 := by
        rw [List.getD_eq_getElem?_getD, List.getElem?_eq_getElem (by have := Hnl.out; omega)]
        exact HL.out _ (List.getElem_mem _)
      have hst := giveTo_succ m p left k
      generalize hx : left.getD k 0 = x at *
      have hbPB : b ≠ PB := HAB.out (fun e => by have := Hnl.out; rw [← hil2.out, e] at this; simp at this; omega) ⟨b, o, none⟩ _ _ rfl
      have hck2 := hKx.cell (p := ⟨b, o + k, none⟩) hbPB hck
      have zb := cell_lt hck2
      have Hst := Lib.hid hst
      have Hx := Lib.hid hx
      have HKx := Lib.hid hKx
      have Hj := Lib.hid hj
      clear hst hx hKx hj hck
      go_upto_region 6 with fail
      refine pgive_r6 (n := n) (xs := p) (x := x) (m := m) (at_ := k) (nl := nl) (c := c) (b := b) (o := o) (base := base) (cap := cap) (B0 := B0) (l := l) (HC.out.keptX HKx.out hyb hgb) hyb hgb hBr hB1 (HKx.out.owns HOWN.out (Nat.le_refl _)) (by omega) hlt hlc (by omega) (by omega) (fun v w2 => (v = .bool true ∧ J (pre ++ giveTo m p left (k + 1)) w2 ∧ KeptX PB n wr w2) ∨ (v = .bool false ∧ ∃ q, q <+: all ∧ Jx q w2)) ?call _ ?_
      case call =>
        intro ad w1 had hCP ho1
        have hn1 : n + 1 = (p ++ [x]).length := by rw [List.length_append, ← Hn.out]; rfl
        have hlk : left.drop k = x :: left.drop (k + 1) := by
          rw [List.drop_eq_getElem_cons (by have := Hnl.out; omega), ← Hx.out, List.getD_eq_getElem?_getD, List.getElem?_eq_getElem (by have := Hnl.out; omega)]; rfl
        have hJ1 : J (pre ++ giveTo m p left k) w1 := HJ.out _ _ _ (hCP.2 hBr) Hj.out
        rw [← natsV_snoc] at ho1
        have hX1 := (HLV.out.keptX (HKx.out.trans hCP.1)).left (k := k + 1) (by omega) had
        have hdr : (ints left).drop (k + 1) = ints (left.drop (k + 1)) := by simp [ints]
        rw [hdr] at hX1
        have hcl := HIH.out (p ++ [x]) (.slice (some ad) (nl - (k + 1)) (c - (k + 1))) (left.drop (k + 1)) (pre ++ giveTo m p left k) w1 (Nat.le_trans hBr hCP.1.size) (HC.out.keptX (HKx.out.trans hCP.1) hyb hgb) hJ1 (by rw [← hn1]; exact ho1) (fun y hy => by
          rcases List.mem_append.1 hy with hy | hy
          · exact HI.out y hy
          · rw [List.mem_singleton] at hy; subst hy; exact hx5) (fun y hy => HL.out y (List.mem_of_mem_drop hy)) (by rw [← hn1, List.length_drop, ← Hnl.out]; omega) hX1 (by
          rw [List.append_assoc, ← Hst.out]
          refine List.IsPrefix.trans ?_ HALL.out
          rw [← giveTo_all]
          exact (List.prefix_append_right_inj pre).2 (giveTo_prefix m p left (by rw [← Hnl.out]; omega)))
        rw [← hn1, List.append_assoc, ← Hst.out] at hcl
        refine hcl.mono ?_
        rintro e w2 (⟨rfl, h1, h2⟩ | ⟨rfl, h1⟩)
        · exact ⟨true, rfl, .inl ⟨rfl, h1, hCP.1.trans (h2.mono (by omega))⟩⟩
        · exact ⟨false, rfl, .inr ⟨rfl, h1⟩⟩
      intro v23 v24 v25 v26 v27 v28 v29 v30 v31 v32 v33 v34 f wc hq
      cases f
      · rcases hq with ⟨h, -⟩ | ⟨-, hq⟩
        · cases h
        go_wp2
        go_ret
        exact .inr ⟨rfl, hq⟩
      · rcases hq with ⟨-, hj2, hk2⟩ | ⟨h, -⟩
        rotate_left
        · cases h
        have hk3 := HKx.out.trans hk2
        have hs3 := hk2.size
        go_wp2
        go_roundw
        case rel => exact ⟨k + 1, by omega, by go_num, hk3, hj2, by omega⟩
        case measure => simp [intOf]; omega
    · obtain rfl : k = nl := by omega
      have HKx := Lib.hid hKx
      have Hj := Lib.hid hj
      clear hKx hj
      go_wp2
      go_ret
      exact .inl ⟨rfl, by rw [← giveTo_all, ← Hnl.out]; exact Hj.out, HKx.out⟩
end Go.Proofs.Ytdadffmagfknoaa

namespace Go.Proofs.Ytdadffmagfknoaa
set_option linter.unusedSimpArgs false
set_option linter.unusedVariables false
open Go.RowKit
set_option linter.unusedVariables false
set_option linter.unusedSimpArgs false
set_option maxRecDepth 100000
theorem pgive_any (mm l yb gb PB cap base B0 : Nat) (all : List (List Nat)) (J Jx : List (List Nat) → World → Prop) (hJ : ∀ s A B, Below B0 A B → J s A → J s B) (hyb : yb ≠ PB) (hgb : gb ≠ PB) (hB1 : B0 ≤ PB) (hY : (∀ pre x vs W1, J pre W1 → EncP x vs W1 → pre ++ [x] <+: all → YieldAt Fence.wide mm Try.prog l vs W1 fun e W' => (e = .returned (.bool true) ∧ J (pre ++ [x]) W' ∧ KeptC W1 W') ∨ (e = .returned (.bool false) ∧ Jx (pre ++ [x]) W'))) :
    ∀ (m : Nat), m < 2 ^ 31 → ∀ (p : List Nat) (lv : Value) (left : List Nat) (pre : List (List Nat)) (w : World), B0 ≤ w.heap.size → CapP w l yb gb → J pre w → w.ownsRow base 3 1 (.slice (some ⟨PB, 0, none⟩) p.length cap) p.length (natsV p) → (∀ x ∈ p, x < 5) → (∀ x ∈ left, x < 5) → p.length + left.length ≤ cap → IntsX PB w lv (ints left) → pre ++ giveL m p left <+: all →
      Calls Try.prog 127 #[(.slice (some ⟨PB, 0, none⟩) p.length cap), lv, .int .i64 m, .pointer (some ⟨yb, 0, none⟩), .pointer (some ⟨gb, 0, none⟩)] w (GivePostP PB p.length J Jx all (pre ++ giveL m p left) w) := by
  intro m
  induction m with
  | zero =>
    intro hm p lv left pre w hB hC hp hown hI hL hfit hlv hall
    rw [giveL_zero] at hall ⊢
    exact pgive_end mm l yb gb PB cap base all J Jx hY p lv pre w hC hp hown hI hall
  | succ m ih =>
    intro hm p lv left pre w hB hC hp hown hI hL hfit hlv hall
    exact pgive_step m l yb gb PB cap base B0 all J Jx hJ hyb hgb hB1 (by omega) p lv left pre w hB hC hp hown hI hL hfit hlv hall (ih (by omega))
theorem make_rowP (w : World) (n base : Nat) (hn : n ≤ 5) (hb : base ≤ w.heap.size) :
    ∃ w', (Instr.makeSlice 30 (.int .i64 0) (.int .i64 (n : Int))).run Try.prog w = .ok (.slice (some ⟨w.heap.size, 0, none⟩) 0 n) w' ∧ w'.ownsRow base 3 1 (.slice (some ⟨w.heap.size, 0, none⟩) 0 n) 0 [] ∧ Ext w w' ∧ w'.heap.size = w.heap.size + 1 := by
  obtain ⟨i0, hi, hz0, hz1, hz2⟩ := info_parts infoInt
  have hr := run_make (P := Try.prog) w 30 3 i0 (.int .i64 0) Try.underlying30 hi hz0 .i64 .i64 0 n (Int.le_refl _) (by omega) (by rw [hz2]; omega) (by omega)
  refine ⟨_, hr, ⟨rfl, .inr ⟨w.heap.size, n, _, rfl, hb, heap_alloc_new w _, by omega, by unfold maxLen; omega, ?_, by simp⟩⟩, ext_alloc _ _, by simp⟩
  have hsz : (madeCells (Value.int .i64 0).cells ((n : Int).toNat * i0.size)).toList = List.replicate n (.int .i64 0) := by
    rw [hz1, Nat.mul_one, Int.toNat_natCast]; exact toList_madeCells_one _ _
  rw [← Array.length_toList, hsz]; simp
set_option maxHeartbeats 2000000 in
theorem parts_seq (n mb : Nat) (mv : Value) (M : List Nat) (hM : ∀ x ∈ M, x < 5) (hlen : M.length ≤ 5) (w : World) (hmb : w.cell? ⟨mb, 0, none⟩ = some mv) (hmv : IntsAt w mv (ints M)) :
    SeqV n Try.prog 126 #[.pointer (some ⟨mb, 0, none⟩)] EncP KeptC (partsM M) w := by
  intro y J Jx W hW hJ hY h0
  have hxW : Ext w W := hW
  have cm := hxW.cell hmb
  have hmW := hmv.ext hxW
  obtain ⟨a, c, rfl, hlc, hcm⟩ := hmW.shape
  have hil : (ints M).length = M.length := by simp [ints]
  rw [hil] at hlc hmW cm
  have zm := cell_lt cm
  have HM := Lib.hid hM
  have HMW := Lib.hid hmW
  obtain ⟨Wg, hWg⟩ : ∃ Wg, Wg = (W.alloc (.cells #[.func (.yield y) #[] #[]] 163)).alloc (.cells #[pgiveF W.heap.size (W.heap.size + 1)] 164) := ⟨_, rfl⟩
  have xg : Ext W Wg := by rw [hWg]; exact (ext_alloc _ _).alloc _
  have cy : Wg.cell? ⟨W.heap.size, 0, none⟩ = some (.func (.yield y) #[] #[]) := by rw [hWg]; simp [go_sem]
  have cg : Wg.cell? ⟨W.heap.size + 1, 0, none⟩ = some (pgiveF W.heap.size (W.heap.size + 1)) := by rw [hWg]; simp [go_sem]
  have zg : Wg.heap.size = W.heap.size + 2 := by rw [hWg]; simp
  obtain ⟨W3, mk3, row3, x3, z3⟩ := make_rowP Wg M.length W.heap.size hlen (by omega)
  have cm3 := x3.cell (xg.cell cm)
  have cg3 := x3.cell cg
  have cap3 : CapP W3 y W.heap.size (W.heap.size + 1) := ⟨x3.cell cy, cg3⟩
  have hX3 : IntsX Wg.heap.size W3 (.slice a M.length c) (ints M) := by
    refine ⟨(hmW.ext xg).ext x3, fun hne ad n' c' e => ?_⟩
    obtain ⟨rfl, -, -⟩ := Value.slice.inj e
    obtain ⟨b, o, e2, hc0, -⟩ := SliceAt.get hmW (i := 0) (List.length_pos_iff.2 hne)
    obtain rfl := Option.some.inj e2
    have := cell_lt hc0
    simp only at this ⊢
    omega
  have hJ3 : J [] W3 := hJ _ _ _ (xg.trans x3).below h0
  have hgv := pgive_any (n - 1) y W.heap.size (W.heap.size + 1) Wg.heap.size M.length W.heap.size W.heap.size (partsM M) J Jx hJ (by omega) (by omega) (by omega) hY
  have hz3 : W.heap.size ≤ W3.heap.size := by omega
  have HG := Lib.hid hgv
  have HJ := Lib.hid hJ3
  have HX := Lib.hid hX3
  have HC := Lib.hid cap3
  have HR := Lib.hid row3
  unfold pgiveF at hWg cg3
  obtain ⟨PB, hPB⟩ : ∃ PB, PB = Wg.heap.size := ⟨_, rfl⟩
  rw [← hPB] at mk3 HX HR HG
  have zPB : PB = W.heap.size + 1 + 1 := by omega
  have hl31 : (M.length : Int) + 1 ≤ 9223372036854775807 := by omega
  have wl : IntKind.i64.wrap ((M.length : Int) + 1) = (M.length : Int) + 1 := IntWalk.i64_in _ (by omega)
  obtain ⟨nl, hnl⟩ : ∃ nl, nl = M.length := ⟨_, rfl⟩
  rw [← hnl] at mk3 cm3 HX HR HG wl hl31 hlc hlen cm
  have Hnl := Lib.hid hnl
  have hlb : nl ≤ 5 := hlen
  rw [hWg] at mk3
  clear hgv hJ3 hX3 cap3 row3 hJ hY hmW hmv hmb hnl hil HMW h0 cg cy
  refine callsIn_wide.2 ?_
  simp only [List.append_toArray, List.cons_append, List.nil_append]
  go_enter Try.func126, Try.ntmps126
  go_wp2
  go_loopw [13] (fun i wr => ∃ k : Nat, k ≤ nl + 1 ∧ i = .int .i64 k ∧ KeptX PB 0 W3 wr ∧ J (partsTo M k) wr) (fun i _ => nl + 1 - (intOf i).toNat)
  case atStart => exact ⟨0, Nat.zero_le _, rfl, KeptX.refl _ _ _, HJ.out⟩
  case round =>
    obtain ⟨k, hk, rfl, hKx, hj⟩ := hrel
    by_cases hlt : k < nl + 1
    · have k1 : (k : Int) < (nl : Int) + 1 := by omega
      have d1 := hKx.cell (p := ⟨mb, 0, none⟩) (by simp; omega) cm3
      have d3 := hKx.cell (p := ⟨W.heap.size + 1, 0, none⟩) (by simp; omega) cg3
      have zz1 := cell_lt d1
      have zz2 := cell_lt d3
      have hst := partsTo_succ M k
      have hpx : partsTo M k ++ giveL k [] M <+: partsM M := by rw [← hst]; exact partsTo_prefix M (by have := Hnl.out; omega)
      have hcl := HG.out k (by omega) [] (.slice a nl c) M (partsTo M k) wr (Nat.le_trans hz3 hKx.size) (HC.out.keptX hKx (by omega) (by omega)) hj (hKx.owns HR.out (Nat.le_refl _)) (fun x hx => by cases hx) HM.out (by have := Hnl.out; simp; omega) (HX.out.keptX hKx) hpx
      rw [← hst] at hcl
      have HKx := Lib.hid hKx
      have HJ2 := Lib.hid hj
      clear hKx hj hst hpx
      simp only [List.length_nil] at hcl
      rw [zPB] at hcl
      go_wp2_with fail
      refine hcl.mono ?_
      rintro e w2 (⟨rfl, hj2, hk2⟩ | ⟨rfl, q, hq1, hq2⟩)
      · rw [← zPB] at hk2
        have hk3 := HKx.out.trans hk2
        clear d1 d3 zz1 zz2 hcl
        go_wp2
        go_roundw
        case rel => exact ⟨k + 1, by omega, by go_num, hk3, hj2⟩
        case measure => simp [intOf]; omega
      · clear d1 d3 zz1 zz2 hcl
        go_wp2
        refine bodyPost_ret (results_none rfl _ _ _) rfl ?_
        exact ⟨⟨_, rfl⟩, .inr ⟨q, hq1, hq2⟩⟩
    · obtain rfl : k = nl + 1 := by omega
      have HJ2 := Lib.hid hj
      clear hKx hj
      go_wp2
      go_end0
      exact ⟨⟨_, rfl⟩, .inl (by have := HJ2.out; rw [Hnl.out] at this; exact this)⟩
end Go.Proofs.Ytdadffmagfknoaa

namespace Go.Proofs.Ytdadffmagfknoaa
set_option linter.unusedSimpArgs false
set_option linter.unusedVariables false
open Go.RowKit
set_option linter.unusedVariables false
set_option linter.unusedSimpArgs false
namespace Facts.Dep.Many
open Facts.Piv (anyS opS any_of_anyS opS_of_stepG opS_mono)
variable {P : Program} {ops : Array Oper}
def noDefer : Op → Bool
  | .defer _ => false
  | _ => true
theorem wpIn_of_wp_round {l n : Nat} {o : Oper} {a : Act} {w : World} {K : Act → World → Prop} {Q : Exit → Act → World → Prop} (hd : noDefer o.op = true) (h : o.wp P a w K Q) : o.wpIn (Fence.wide.inRound l) n P a w K Q := by
  refine ⟨fun _ _ => trivial, ?_⟩
  rw [Oper.semAt_plain _ _ _ (fun c hc => by rw [hc] at hd; cases hd)]
  unfold Oper.wp at h
  generalize (execOp a.eval o).run P w = r at *
  cases r with
  | ok x w' =>
    cases x <;> simp only [Oper.upon] at h <;> simp only [Oper.uponIn] <;> first
      | exact h
      | exact ⟨fun hf => by simp [Fence.wide, Fence.inRound] at hf, CallsIn.inRound l (callsIn_wide.2 h)⟩
      | exact ⟨fun hf => by simp [Fence.wide, Fence.inRound] at hf, fun c cs _ => let ⟨v, w2, r, s⟩ := h c cs; ⟨v, w2, r, stepsIn_wide.2 s⟩⟩
      | exact h.elim
  | halt x w' => cases x <;> simp only [Oper.upon] at h <;> simp only [Oper.uponIn] <;> exact h
theorem anyIn_of_any_round {l n : Nat} {Q : Exit → Act → World → Prop} (hq : ∀ (i : Nat) (o : Oper), ops[i]? = some o → noDefer o.op = true) : ∀ (fuel : Nat) (listed : Array Bool) (a : Act) (w : World), anyS P ops Q fuel listed a w → wpAnyIn (Fence.wide.inRound l) n P .any ops Q fuel listed a w
  | 0, _, _, _, h => h
  | fuel + 1, listed, a, w, h => by
    refine ⟨h.1, fun i hi => ?_⟩
    have h1 := opS_mono (fun a w => anyIn_of_any_round (l := l) (n := n) hq fuel _ a w) (h.2 i hi)
    unfold opS at h1
    unfold wpOpIn
    cases ho : ops[i]? with
    | none => rw [ho] at h1; exact h1
    | some o =>
      rw [ho] at h1
      simp only at h1 ⊢
      split
      · rename_i hw
        rw [if_pos hw] at h1
        exact wpIn_of_wp_round (hq i o ho) h1
      · rename_i hw
        rw [if_neg hw] at h1
        exact ⟨fun _ _ => trivial, h1⟩
theorem wpIn_round {S : Nat → World → World → Prop} {C : World → World → Prop} (T : ManyT S C) {lp n : Nat} {id : Nat} {Q : Exit → Act → World → Prop} {a : Act} {w : World} {l : List Oper} (ss : List Spec) (hm : P.follows .mixedOrders = true) (hB : okB l.toArray = true) (hlb : locB l.toArray 0 ss = true) (hk : keepsS S l.toArray 0 ss)
    (hq : (l.all fun o => noDefer o.op) = true) (h : Walk S C P l.toArray w Q 0 l ss [] [] a) : (Code.region id l.toArray true).wpIn (Fence.wide.inRound lp) n P Q a w := by
  refine wpIn_region_any hm (anyIn_of_any_round (fun i o ho => ?_) _ _ _ _ (any_region T ss hB hlb hk h))
  rw [List.all_eq_true] at hq
  exact hq o (List.mem_of_getElem? (i := i) (by simpa using ho))
def AllE (_ : Nat) (w w' : World) : Prop := Ext w w'
theorem manyE : ManyT AllE Ext := ⟨fun _ _ _ h => h, fun _ _ _ h k => h.trans k, fun w => ext_drew w⟩
end Facts.Dep.Many
end Go.Proofs.Ytdadffmagfknoaa

namespace Go.Proofs.Ytdadffmagfknoaa
set_option linter.unusedSimpArgs false
set_option linter.unusedVariables false
open Go.RowKit
set_option linter.unusedVariables false
set_option linter.unusedSimpArgs false
set_option maxRecDepth 100000
/-- a function that yields the parts of a set -/
def PartsF (n : Nat) (v : Value) (w : World) : Prop := ∃ mb mv, v = .func (.func 126) #[] #[.pointer (some ⟨mb, 0, none⟩)] ∧ w.cell? ⟨mb, 0, none⟩ = some mv ∧ IntsAt w mv (ints (membersM n))
theorem members_five (n : Nat) : (∀ x ∈ membersM n, x < 5) ∧ (membersM n).length ≤ 5 := ⟨fun x hx => (membersM_mem hx).2, membersTo_len n 5⟩
theorem parts_any (n : Nat) (hn : n < 32) (w : World) : Calls Try.prog 120 #[.int .i64 n] w fun e w' => ∃ v, e = .returned v ∧ PartsF n v w' ∧ Ext w w' := by
  have hmk := fun w => members_any n hn w
  unfold PartsF
  generalize ints (membersM n) = M at *
  go_enter Try.func120, Try.ntmps120
  go_wp2_with fail
  refine (hmk _).mono ?_
  rintro e w1 ⟨u, rfl, hu, hx⟩
  obtain ⟨a, c, rfl, -⟩ := hu.shape
  have HU := Lib.hid hu
  clear hu hmk
  go_wp2
  go_ret
  exact ⟨_, rfl, ⟨_, _, rfl, by simp [go_sem], HU.out.ext (ext_alloc _ _)⟩, hx.alloc _⟩
theorem shl_all6 : ∀ n : Fin 6, wrap64 (wrap64 (2 ^ n.1) - 1) = ((2 ^ n.1 - 1 : Nat) : Int) := by decide +kernel
theorem setsAll_any (n : Nat) (hn : n ≤ 5) (w : World) : Calls Try.prog 113 #[.int .i64 n] w fun e w' => e = .returned (.int .i64 ((2 ^ n - 1 : Nat) : Int)) ∧ Ext w w' := by
  have h := shl_all6 ⟨n, by omega⟩
  simp only at h
  generalize ((2 ^ n - 1 : Nat) : Int) = z at *
  go_enter Try.func113, Try.ntmps113
  go_wp2
  go_ret
  exact ⟨ret_int h, Ext.refl _⟩
theorem intsC_news {w : World} {ad : Addr} {n c : Nat} {l : List Int} (h : IntsAt w (.slice (some ad) n c) l) : ∀ j u, (l.map (Value.int .i64))[j]? = some u → w.cell? (ad.add j) = some u := by
  intro j u hu
  have hj : j < l.length := by
    rcases Nat.lt_or_ge j l.length with h1 | h1
    · exact h1
    · rw [List.getElem?_eq_none (by simpa using h1)] at hu; cases hu
  obtain ⟨a, cap, e, -, -, h4⟩ := h
  obtain ⟨b, o, e2, r⟩ := h4 j hj
  have e3 := (Value.slice.inj e).1
  rw [e2] at e3
  obtain rfl := Option.some.inj e3
  rw [List.getElem?_eq_getElem (by simpa using hj)] at hu
  obtain rfl := Option.some.inj hu
  have ea : (⟨b, o, none⟩ : Addr).add j = ⟨b, o + j * 1, none⟩ := by unfold Addr.add; split <;> simp_all
  rw [ea, List.getElem_map]
  exact r.1
theorem intsC_cells (l : List Int) : ∀ u ∈ l.map (Value.int .i64), u.oneCell' = true := fun u hu => by
  obtain ⟨x, -, rfl⟩ := List.mem_map.1 hu
  simp [Value.oneCell']
set_option maxHeartbeats 1000000 in
theorem clone_any (v : Value) (l : List Nat) (h5 : ∀ x ∈ l, x < 5) (hl5 : l.length ≤ 5) (w : World) (hl : IntsAt w v (ints l)) :
    Calls Try.prog 121 #[v] w fun e w' => ∃ u, e = .returned u ∧ IntsAt w' u (ints l) ∧ Ext w w' := by
  obtain ⟨i0, hi, hz0, hz1, hz2⟩ := info_parts infoInt
  have hI : ∀ x ∈ ints l, I64 x := fun x hx => by
    simp only [ints, List.mem_map] at hx
    obtain ⟨y, hy, rfl⟩ := hx
    have := h5 y hy
    unfold I64; omega
  have HI := Lib.hid hI
  have hll : (ints l).length ≤ 5 := by simpa [ints] using hl5
  generalize ints l = L at *
  have HL := Lib.hid hl
  obtain ⟨a, c, rfl, hlc, -⟩ := hl.shape
  clear hI h5 hl5 hl
  cases a with
  | none =>
    have hL0 : L.length = 0 := by
      rcases Nat.eq_zero_or_pos L.length with h | h
      · exact h
      · obtain ⟨b, o, e, -⟩ := SliceAt.get HL.out h; cases e
    have hL : L = [] := List.eq_nil_of_length_eq_zero hL0
    subst hL
    have hnil : (binOp .eql 30 (.slice none 0 c) (.slice none 0 0)).run Try.prog w = .ok (.bool true) w := run_eql_slice_nil (P := Try.prog) w 30 3 none 0 c Try.underlying30
    go_enter Try.func121, Try.ntmps121
    go_wp2
    go_ret
    exact ⟨_, rfl, SliceAt.nil, Ext.refl _⟩
  | some ad =>
    obtain ⟨nL, hnL⟩ : ∃ nL, nL = L.length := ⟨_, rfl⟩
    have HnL := Lib.hid hnL
    rw [← hnL] at HL hll hlc ⊢
    clear hnL
    have hnil : (binOp .eql 30 (.slice (some ad) nL c) (.slice none 0 0)).run Try.prog w = .ok (.bool false) w := run_eql_slice_nil (P := Try.prog) w 30 3 (some ad) nL c Try.underlying30
    go_enter Try.func121, Try.ntmps121
    go_wp2_with (at_builtin; refine wpList_append_own _ rfl _ _ 30 rfl (w.heap.size) 3 i0 (.int .i64 0) 1 8 Try.underlying30 hi hz0 hz1 hz2 rfl (by decide) _ _ _ rfl (World.ownsRow_made w #[] 0 (Nat.le_refl _) (by unfold maxLen; omega) rfl) ad nL c (L.map (Value.int .i64)) rfl (by have := HnL.out; simp; omega) (intsC_news (HL.out.ext (ext_alloc _ _))) (intsC_cells _) (by unfold maxLen; omega) (by omega) (by simp) ?_; intro v1 w1 hown1 hgrow1 _; have x1 : Ext w w1 := Ext.grown (ext_alloc _ _) hgrow1 (fun k hk => Nat.le_of_eq (Option.some.inj (show some w.heap.size = some k from hk))))
    go_ret
    exact ⟨_, rfl, IntsAt.of_own (by have := HnL.out; subst this; simpa using hown1) HI.out, x1⟩
end Go.Proofs.Ytdadffmagfknoaa

namespace Go.Proofs.Ytdadffmagfknoaa
set_option linter.unusedSimpArgs false
set_option linter.unusedVariables false
open Go.RowKit
set_option linter.unusedVariables false
set_option maxRecDepth 100000
attribute [local go_sem] Oper.semAt_some
def trueP (h : House) (s : Nat) : Bool := !decide (truL h (outB s) = [])
/-- what is so behind a round that returned -/
structure FwX (w0 : World) (rb : Nat) (q : List Nat) (W : World) : Prop where
  list : ∃ a n c, W.cell? ⟨rb, 0, none⟩ = some (.slice a n c) ∧ IntsAt W (.slice a n c) (ints q)
  found : W.cell? ⟨rb + 1, 0, none⟩ = some (.bool true)
  ext : Below rb w0 W
theorem FwX.put {w0 : World} {rb l : Nat} {q : List Nat} {A : World} {o o' : Obj} (h : FwX w0 rb q A) (ho : A.heap[l]? = some o) (hc : o.isCells = false) (hr : rb ≤ l) : FwX w0 rb q (A.putObj l o') := by
  have hk := KeptC.putObj (o' := o') ho hc
  obtain ⟨a, n, c, h1, h2⟩ := h.list
  exact ⟨⟨a, n, c, hk.cell h1, SliceAt.lies (fun _ _ _ _ _ hx h => ⟨hx _ _ h.1, h.2⟩) h2 hk.lies⟩, hk.cell h.found, h.ext.trans (below_put hr)⟩
theorem IntsAt.setOther {w : World} {v y : Value} {l : List Int} {b o : Nat} (h : IntsAt w v l) (hp : w.cell? ⟨b, o, none⟩ = some y) (hy : ∀ z, y ≠ .int .i64 z) (x : Value) : IntsAt (w.setCell ⟨b, o, none⟩ x) v l := by
  obtain ⟨a, cap, e, h1, h2, h3⟩ := h
  refine ⟨a, cap, e, h1, h2, fun i hi => ?_⟩
  obtain ⟨b', o', e1, r⟩ := h3 i hi
  refine ⟨b', o', e1, set_other r.1 ?_ _, r.2⟩
  by_cases hb : b = b'
  · subst hb
    right
    intro ho
    simp only at ho
    have := r.1
    rw [← ho, hp] at this
    exact hy _ (Option.some.inj this)
  · exact .inl hb
set_option maxHeartbeats 4000000 in
theorem fewestOf_wrong (hv : Value) (h : House) (hV : ValidH h) (s : Nat) (hs : s < 32) (w : World) (hl : LookAt w hv h) :
    Calls Try.prog 112 #[.int .i64 s, (.func (.func 87) #[hv] #[])] w
      fun e w' => ∃ u f, e = .returned (.tuple #[u, .bool f]) ∧ f = ((partsM (membersM s)).find? (fun q => trueP h (bitsM q))).isSome ∧ IntsAt w' u (ints (((partsM (membersM s)).find? (fun q => trueP h (bitsM q))).getD [])) ∧ Ext w w' := by
  have hclo := fun s (hs : s < 32) w hl => isTrueWithout_any hv h hV s hs w hl
  change ∀ s, s < 32 → ∀ w, LookAt w hv h → Calls Try.prog _ _ w (fun e w' => e = .returned (.bool (trueP h s)) ∧ Ext w w') at hclo
  generalize trueP h = P at *
  have hpt := fun w => parts_any s hs w
  unfold PartsF at hpt
  obtain ⟨m5, ml5⟩ := members_five s
  generalize membersM s = M at *
  have HL := Lib.hid hl
  have HCLO := Lib.hid hclo
  clear hl hclo
  refine (callsIn_wide (n := 4)).1 (callsIn_of_wp_marks Try.func112 rfl trivial ?_ rfl)
  simp only [Try.ntmps112, List.size_toArray, List.length_cons, List.length_nil, Nat.reduceAdd, Nat.reduceSub, Array.replicate_succ, Array.replicate_zero, List.push_toArray, List.append_toArray, List.nil_append, List.cons_append]
  refine wpIn_wide.2 ?_
  go_wp2_with fail
  refine (hpt _).mono ?_
  rintro e W0 ⟨v, rfl, hT, hx0⟩
  obtain ⟨mb, mv, rfl, hcm, hmv⟩ := hT
  have x0 : Ext w W0 := (((ext_alloc _ _).alloc _).alloc _).trans hx0
  have r0 : W0.cell? ⟨w.heap.size, 0, none⟩ = some (.func (.func 87) #[hv] #[]) := hx0.cell (by simp [go_sem])
  have r1 : W0.cell? ⟨w.heap.size + 1, 0, none⟩ = some (.slice none 0 0) := hx0.cell (by simp [go_sem])
  have r2 : W0.cell? ⟨w.heap.size + 1 + 1, 0, none⟩ = some (.bool false) := hx0.cell (by simp [go_sem])
  have rf1 : W0.frozen? ⟨w.heap.size + 1, 0, none⟩ = false := by rw [hx0.frozen (by simp)]; simp [go_sem]
  have rf2 : W0.frozen? ⟨w.heap.size + 1 + 1, 0, none⟩ = false := by rw [hx0.frozen (by simp)]; simp [go_sem]
  have z2 : w.heap.size + 1 + 1 < W0.heap.size := cell_lt r2
  have hsq := parts_seq 3 mb mv M m5 ml5 W0 hcm hmv
  have HM5 := Lib.hid m5
  have HML := Lib.hid ml5
  clear hx0 hcm hmv hpt m5 ml5
  go_wp2_with fail
  refine (wpIn_wide (n := 4)).1 ?_
  refine wpIn_seqV (by omega) rfl (enters_of Try.func126 (by kernel_rfl) rfl) hsq (fun h k => h.trans k) ?kb (Below.refl _ _) ?hps
    (fun pre W => (∀ q ∈ pre, P (bitsM q) = false) ∧ Below W0.heap.size W0 W) (fun pre W => ∃ q pre', pre = pre' ++ [q] ∧ (∀ y ∈ pre', P (bitsM y) = false) ∧ P (bitsM q) = true ∧ FwX W0 (w.heap.size + 1) q W) ?hI ?hIx ⟨(fun q hq => absurd hq (List.not_mem_nil)), Below.refl _ _⟩
    (fun x a' W => ∃ v, IntsAt W v (ints x) ∧ a' = { tmps := #[.int .i64 s, (.func (.func 87) #[hv] #[]), undef, .pointer (some ⟨w.heap.size, 0, none⟩), .pointer (some ⟨w.heap.size + 1, 0, none⟩), .pointer (some ⟨w.heap.size + 1 + 1, 0, none⟩), v, .int .i64 s, .func (.func 126) #[] #[.pointer (some ⟨mb, 0, none⟩)], v, undef, undef, undef, undef, undef, undef], defers := [] }) ?hAx ?assign ?body ?done ?stop
  case kb => exact fun W l o o' hl h hc _ hm => KeptC.putObj h hc
  case hps => rintro x vs W ⟨v, rfl, -⟩; rfl
  case hI => exact fun s A B hx h => ⟨h.1, h.2.trans hx⟩
  case hIx => exact fun s A l o' hl ⟨o, ho, hc⟩ ⟨q, p, h1, h2, h3, h4⟩ => ⟨q, p, h1, h2, h3, h4.put ho hc (by omega)⟩
  case hAx =>
    rintro x a' A l o' hl ⟨o, ho, hc⟩ ⟨v, h1, h2⟩
    exact ⟨v, SliceAt.lies (fun _ _ _ _ _ hx h => ⟨hx _ _ h.1, h.2⟩) h1 (KeptC.putObj (o' := o') ho hc).lies, h2⟩
  case assign =>
    rintro l pre x vs W K hI ⟨v, rfl, hv'⟩ hK
    clear r0 r1 r2 rf1 rf2 hsq
    have HV := Lib.hid hv'
    clear hv'
    gi_wp2
    exact hK _ _ ((KeepsOthers.refl _).from _) (KeptC.refl _) hI ⟨_, HV.out, rfl⟩
  case body =>
    rintro l pre x a' W ⟨hpre, hB⟩ ⟨v, hv', rfl⟩ hpx
    have hz := hB.size
    have hmem : x ∈ partsM M := hpx.subset (by simp)
    obtain ⟨hs1, hs2⟩ := parts_sub hmem
    have h5 : ∀ y ∈ x, y < 5 := fun y hy => HM5.out y (hs1 y hy)
    have h32 := bitsM_lt x h5
    have xW : Ext w W := ⟨hB.os.trans x0.os, hB.tape.trans x0.tape, hB.output.trans x0.output, by have := x0.size; omega, fun k hk => (hB.block k (by have := x0.size; omega)).trans (x0.block k hk)⟩
    have s0 : W.cell? ⟨w.heap.size, 0, none⟩ = some (.func (.func 87) #[hv] #[]) := (hB.cell (p := ⟨w.heap.size, 0, none⟩) (by simp; omega)).trans r0
    have s1 : W.cell? ⟨w.heap.size + 1, 0, none⟩ = some (.slice none 0 0) := (hB.cell (p := ⟨w.heap.size + 1, 0, none⟩) (by simp; omega)).trans r1
    have s2 : W.cell? ⟨w.heap.size + 1 + 1, 0, none⟩ = some (.bool false) := (hB.cell (p := ⟨w.heap.size + 1 + 1, 0, none⟩) (by simp; omega)).trans r2
    have sf1 : W.frozen? ⟨w.heap.size + 1, 0, none⟩ = false := (hB.frozen (p := ⟨w.heap.size + 1, 0, none⟩) (by simp; omega)).trans rf1
    have sf2 : W.frozen? ⟨w.heap.size + 1 + 1, 0, none⟩ = false := (hB.frozen (p := ⟨w.heap.size + 1 + 1, 0, none⟩) (by simp; omega)).trans rf2
    have hV2 := Lib.hid hv'
    have H5 := Lib.hid h5
    have hcl := fun w1 (hx : Ext W w1) => HCLO.out (bitsM x) h32 w1 (HL.out.ext (xW.trans hx))
    have hHc := Lib.hid hcl
    have hPx : ∃ pb, P (bitsM x) = pb := ⟨_, rfl⟩
    obtain ⟨a, c, rfl, -⟩ := hv'.shape
    clear r0 r1 r2 rf1 rf2 hsq hv' hcl h5 hs1 hmem hpx
    gi_wp2_with fail
    apply Facts.Dep.Many.wpIn_round Facts.Dep.Many.manyE [.val (.func (.func 87) #[hv] #[]), .val (.slice a (ints x).length c), .val (.int .i64 (bitsM x)), .val (.bool (P (bitsM x)))] (by kernel_rfl) (by kernel_rfl) (by kernel_rfl) trivial (by kernel_rfl) ?main
    case main =>
    refine ⟨fun w1 hx hh => ?_, ?_⟩
    · have c0 := hx.cell s0
      clear hh
      go_simp
      exact Ext.refl _
    refine ⟨fun w1 hx hh => ?_, ?_⟩
    · clear hh
      go_simp
      exact Ext.refl _
    refine ⟨fun w1 hx hh => ?_, ?_⟩
    · clear hh
      have hb := bits_any _ x H5.out w1 (hV2.out.ext hx)
      go_simp
      refine hb.mono ?_
      rintro e w2 ⟨rfl, rfl⟩
      exact ⟨_, rfl, Ext.refl _, rfl⟩
    refine ⟨fun w1 hx hh => ?_, ?_⟩
    · clear hh
      have hb := hHc.out w1 hx
      go_simp
      refine hb.mono ?_
      rintro e w2 ⟨rfl, hx2⟩
      exact ⟨_, rfl, hx2, rfl⟩
    intro w5 hx5 hh
    clear hh
    have xw5 := xW.trans hx5
    have s1' := hx5.cell s1
    have s2' := hx5.cell s2
    have sf1' : w5.frozen? ⟨w.heap.size + 1, 0, none⟩ = false := (hx5.frozen (cell_lt s1)).trans sf1
    have sf2' : w5.frozen? ⟨w.heap.size + 1 + 1, 0, none⟩ = false := (hx5.frozen (cell_lt s2)).trans sf2
    have hlx : x.length ≤ 5 := Nat.le_trans hs2 HML.out
    have hcln := clone_any _ x H5.out hlx w5 (hV2.out.ext hx5)
    clear s0 s1 s2 sf1 sf2 hPx
    go_simp
    cases hpb : P (bitsM x)
    · have HP := Lib.hid hpb
      have HPre := Lib.hid hpre
      clear hpb hpre hcln s1' s2' sf1' sf2'
      gi_wp2
      refine ⟨hx5.keepsFrom _, Ext.keptC hx5, fun y hy => ?_, hB.trans (hx5.below.mono hz)⟩
      rcases List.mem_append.1 hy with hy | hy
      · exact HPre.out y hy
      · rw [List.mem_singleton] at hy; subst hy; exact HP.out
    · have HP := Lib.hid hpb
      have HPre := Lib.hid hpre
      clear hpb hpre
      gi_wp2_with fail
      refine ⟨trivial, ?_⟩
      refine (CallsIn.inRound l (callsIn_wide.2 hcln)).mono ?_
      rintro e w6 ⟨u, rfl, hu, hx6⟩
      have t1 := hx6.cell s1'
      have t2 := hx6.cell s2'
      have tf1 : w6.frozen? ⟨w.heap.size + 1, 0, none⟩ = false := (hx6.frozen (cell_lt s1')).trans sf1'
      have tf2 : w6.frozen? ⟨w.heap.size + 1 + 1, 0, none⟩ = false := (hx6.frozen (cell_lt s2')).trans sf2'
      obtain ⟨ua, uc, rfl, -⟩ := hu.shape
      have HU := Lib.hid hu
      clear s1' s2' sf1' sf2' hcln hu
      gi_wp2
      refine ⟨(((hx5.keepsFrom _).trans (hx6.keepsFrom _)).trans (((KeepsOthers.setCell _ _ _).trans (KeepsOthers.setCell _ _ _)).from _)), x, pre, rfl, HPre.out, HP.out, ⟨_, _, _, set_other (set_cell t1 _) (.inl (by simp)) _, ?_⟩, ?_, ?_⟩
      · exact (HU.out.setOther t1 (fun z e => by cases e) _).setOther (set_other t2 (.inl (by simp)) _) (fun z e => by cases e) _
      · exact set_cell (set_other t2 (.inl (by simp)) _) _
      · exact (((hB.mono (by omega)).trans (hx5.below.mono (by omega))).trans (hx6.below.mono (by have := hx5.size; omega))).trans (((Below.refl _ _).setCell (p := ⟨w.heap.size + 1, 0, none⟩) (Nat.le_refl _) _).setCell (p := ⟨w.heap.size + 1 + 1, 0, none⟩) (by simp) _)
  case done =>
    rintro D W hD ⟨hI, hB⟩ hDm
    have hz := hB.size
    have s1 : W.cell? ⟨w.heap.size + 1, 0, none⟩ = some (.slice none 0 0) := (hB.cell (p := ⟨w.heap.size + 1, 0, none⟩) (by simp; omega)).trans r1
    have s2 : W.cell? ⟨w.heap.size + 1 + 1, 0, none⟩ = some (.bool false) := (hB.cell (p := ⟨w.heap.size + 1 + 1, 0, none⟩) (by simp; omega)).trans r2
    have sf1 : W.frozen? ⟨w.heap.size + 1, 0, none⟩ = false := (hB.frozen (p := ⟨w.heap.size + 1, 0, none⟩) (by simp; omega)).trans rf1
    have sf2 : W.frozen? ⟨w.heap.size + 1 + 1, 0, none⟩ = false := (hB.frozen (p := ⟨w.heap.size + 1 + 1, 0, none⟩) (by simp; omega)).trans rf2
    have hnone : (partsM M).find? (fun q => P (bitsM q)) = none := List.find?_eq_none.2 fun q hq => by rw [hI q hq]; decide
    obtain ⟨Ws, hWs⟩ : ∃ Ws, ((W.setCell ⟨w.heap.size + 1, 0, none⟩ (.slice none 0 0)).setCell ⟨w.heap.size + 1 + 1, 0, none⟩ (.bool false)) = Ws := ⟨_, rfl⟩
    have u1 : Ws.cell? ⟨w.heap.size + 1, 0, none⟩ = some (.slice none 0 0) := by rw [← hWs]; exact set_other (set_cell s1 _) (.inl (by simp)) _
    have u2 : Ws.cell? ⟨w.heap.size + 1 + 1, 0, none⟩ = some (.bool false) := by rw [← hWs]; exact set_cell (set_other s2 (.inl (by simp)) _) _
    have hDs : Ws.heap[D]? = some (.deferred (some [])) := by rw [← hWs, Below.heap_setCell _ _ _ _ (by simp; omega), Below.heap_setCell _ _ _ _ (by simp; omega)]; exact hDm
    have xs5 : Ext w Ws := by rw [← hWs]; exact ((x0.trans ⟨hB.os, hB.tape, hB.output, hB.size, fun k hk => hB.block k hk⟩).setCell (by simp) _).setCell (by simp; omega) _
    have xF : Ext w (Ws.putObj D (.deferred none)) := Ext.grown xs5 (grownBy_putObj' Ws D (.deferred none)) (fun r e => by cases e; omega)
    have kf := KeptC.putObj (o' := .deferred none) hDs rfl
    have e1 := kf.cell u1
    have e2 := kf.cell u2
    have E1 := Lib.hid e1
    have E2 := Lib.hid e2
    have HD := Lib.hid hDs
    have HX := Lib.hid xF
    have HW := Lib.hid hWs
    have HN := Lib.hid hnone
    clear r0 r1 r2 rf1 rf2 hsq hDs xs5 xF e1 e2 hWs hI u1 u2 kf hnone
    go_wp2
    rw [HW.out]
    refine ⟨by simp, .inl ⟨D, _, rfl, run_takeDeferred HD.out, ?_⟩⟩
    have e1 := E1.out
    have e2 := E2.out
    have hx := HX.out
    have hn := HN.out
    generalize (Ws.putObj D (.deferred none)) = Wf at *
    refine ⟨.tuple #[.slice none 0 0, .bool false], by simp [results, Try.results112, go_sem, e1, e2], ?_⟩
    exact ⟨_, _, rfl, by rw [hn]; rfl, by rw [hn]; exact SliceAt.nil, hx⟩
  case stop =>
    rintro D pre W hD hpre ⟨q, pre', rfl, h1, h2, hX⟩ hDm
    have xw : Ext w W := ⟨hX.ext.os.trans x0.os, hX.ext.tape.trans x0.tape, hX.ext.output.trans x0.output, by have := hX.ext.size; have := x0.size; omega, fun k hk => (hX.ext.block k (by omega)).trans (x0.block k hk)⟩
    have hx : Ext w (W.putObj D (.deferred none)) := Ext.grown xw (grownBy_putObj' W D (.deferred none)) (fun r e => by cases e; omega)
    have hF := hX.put (o' := .deferred none) hDm rfl (by omega)
    obtain ⟨ua, un, uc, e1, hu⟩ := hF.list
    have e2 := hF.found
    have hfind : (partsM M).find? (fun q => P (bitsM q)) = some q := by
      obtain ⟨t, ht⟩ := hpre
      rw [List.find?_eq_some_iff_append]
      exact ⟨h2, pre', t, by rw [← ht, List.append_assoc]; rfl, fun y hy => by rw [h1 y hy]; rfl⟩
    clear r0 r1 r2 rf1 rf2 hsq hF
    refine wpIn_ret ?_
    show (Exit.inBlock 0 _) .ret _ _
    refine ⟨by simp, .inl ⟨D, _, rfl, run_takeDeferred hDm, ?_⟩⟩
    generalize (W.putObj D (.deferred none)) = Wf at *
    refine ⟨.tuple #[.slice ua un uc, .bool true], by simp [results, Try.results112, go_sem, e1, e2], ?_⟩
    exact ⟨_, _, rfl, by rw [hfind]; rfl, by rw [hfind]; exact hu, hx⟩
set_option maxHeartbeats 1000000 in
theorem fewest_wrong (hv : Value) (h : House) (hV : ValidH h) (n : Nat) (hn : n ≤ 5) (w : World) (hl : LookAt w hv h) :
    Calls Try.prog 86 #[.int .i64 n, (.func (.func 87) #[hv] #[])] w
      fun e w' => ∃ u f, e = .returned (.tuple #[u, .bool f]) ∧ f = (fewTo (trueP h) (2 ^ n)).isSome ∧ IntsAt w' u (ints ((fewTo (trueP h) (2 ^ n)).getD [])) ∧ Ext w w' := by
  have h32 := two_pow_lt32 hn
  have hp := Nat.two_pow_pos n
  have hall := fun w => setsAll_any n hn w
  have hfo := fun w hl => fewestOf_wrong hv h hV (2 ^ n - 1) (by omega) w hl
  rw [find_few (trueP h) hn] at hfo
  generalize (fewTo (trueP h) (2 ^ n)) = r at *
  generalize 2 ^ n - 1 = s at *
  have HFO := Lib.hid hfo
  have HL := Lib.hid hl
  clear hfo hl h32 hp
  go_enter Try.func86, Try.ntmps86
  go_wp2_with fail
  refine (hall _).mono ?_
  rintro e w1 ⟨rfl, hx1⟩
  go_wp2_with fail
  refine (HFO.out _ (HL.out.ext hx1)).mono ?_
  rintro e w2 ⟨u, f, rfl, hf, hu, hx2⟩
  have HU := Lib.hid hu
  have HF := Lib.hid hf
  clear hu hf hall
  go_wp2
  go_ret2
  exact ⟨_, _, rfl, HF.out, HU.out, hx1.trans hx2⟩
end Go.Proofs.Ytdadffmagfknoaa

namespace Go.Proofs.Ytdadffmagfknoaa
set_option linter.unusedSimpArgs false
set_option linter.unusedVariables false
open Go.RowKit
set_option linter.unusedVariables false
theorem not_inM {x lo hi : Int} (h : ¬ inM x lo hi = false) : lo ≤ x ∧ x ≤ hi := (inM_iff _ _ _).1 (by simpa using h)
theorem noneFrom {α : Type} (f : List α → α → Int) : ∀ (l pre : List α), (firstErrFrom f pre l).2 = 0 → ∀ x ∈ l, ∃ p, f p x = 0
  | [], _, _, x, hx => by cases hx
  | y :: r, pre, h, x, hx => by
    rw [firstErrFrom] at h
    by_cases h0 : f pre y = 0
    · rw [if_pos h0] at h
      rcases List.mem_cons.1 hx with rfl | h1
      · exact ⟨pre, h0⟩
      · exact noneFrom f r _ h x h1
    · rw [if_neg h0] at h
      exact absurd h h0
theorem listErr_ok {α : Type} {most : Int} {l : List α} {f : Int × Int} (h : (listErr most l f).2 = 0) : (l.length : Int) ≤ most ∧ f.2 = 0 := by
  unfold listErr at h
  split at h
  · cases h
  · exact ⟨by omega, h⟩
theorem validH_of {h : House} (he : raErr h = 0) : ValidH h := by
  unfold raErr raCheck at he
  split at he
  · cases he
  rename_i h1
  split at he
  · cases he
  rename_i h2
  split at he
  · rename_i h3; exact absurd he h3
  rename_i h3
  split at he
  · cases he
  rename_i h4
  split at he
  · rename_i h5; exact absurd he h5
  rename_i h5
  split at he
  · rename_i h6; exact absurd he h6
  rename_i h6
  have e3 := Decidable.not_not.1 h3
  have e5 := listErr_ok (Decidable.not_not.1 h5)
  have e6 := listErr_ok (Decidable.not_not.1 h6)
  refine ⟨not_inM h1, Decidable.not_not.1 h2, ?_, not_inM h4, by omega, ?_, by omega, ?_⟩
  · intro s hs
    obtain ⟨p, hp⟩ := noneFrom spanE _ _ e3 s hs
    unfold spanE spanErrM at hp
    split at hp
    · cases hp
    rename_i g1
    split at hp
    · cases hp
    rename_i g2
    have a1 := not_inM (fun e => g1 (.inl e))
    have a2 := not_inM (fun e => g1 (.inr e))
    omega
  · intro a ha
    obtain ⟨p, hp⟩ := noneFrom agentErrM _ _ e5.2 a ha
    unfold agentErrM at hp
    split at hp
    · rename_i g; exact absurd hp g
    split at hp
    · cases hp
    rename_i g1
    exact ⟨not_inM (fun e => g1 (.inl e)), not_inM (fun e => g1 (.inr e))⟩
  · intro e hin
    obtain ⟨p, hp⟩ := noneFrom (rentE h.agents.length h.days) _ _ e6.2 e hin
    unfold rentE entErrM at hp
    split at hp
    · cases hp
    rename_i g1
    split at hp
    · cases hp
    rename_i g2
    have a1 := not_inM (fun e => g1 (.inl e))
    have a2 := not_inM (fun e => g1 (.inr e))
    have a3 := not_inM (fun e => g2 (.inl e))
    have a4 := not_inM (fun e => g2 (.inr e))
    exact ⟨by omega, by omega, a3, a4⟩
end Go.Proofs.Ytdadffmagfknoaa

namespace Go.Proofs.Ytdadffmagfknoaa
set_option linter.unusedSimpArgs false
set_option linter.unusedVariables false
open Go.RowKit
set_option linter.unusedVariables false
set_option maxRecDepth 100000
theorem indexR_any (n m : Int) (w : World) : Calls Try.prog 66 #[.int .i64 n, .int .i64 m] w fun e w' => e = .returned (argV ⟨n, IntKind.i64.wrap (m - 1), 4⟩) ∧ Ext w w' := by
  obtain ⟨x, hx⟩ : ∃ x, IntKind.i64.wrap (m - 1) = x := ⟨_, rfl⟩
  rw [hx]
  unfold argV
  go_enter Try.func66, Try.ntmps66
  go_wp2
  refine bodyPost_ret (v := .agg #[.int .i64 n, .int .i64 x, .int .i64 4]) (by simp [results, Try.results66, go_sem]) rfl ⟨rfl, (by first | (with_reducible exact Ext.refl _) | (with_reducible assumption) | (show Below _ _ _; go_grown; done))⟩
theorem penceR_any (n m : Int) (w : World) : Calls Try.prog 70 #[.int .i64 n, .int .i64 m] w fun e w' => e = .returned (argV ⟨n, m, 7⟩) ∧ Ext w w' := by
  unfold argV
  go_enter Try.func70, Try.ntmps70
  go_wp2
  refine bodyPost_ret (v := .agg #[.int .i64 n, .int .i64 m, .int .i64 7]) (by simp [results, Try.results70, go_sem]) rfl ⟨rfl, (by first | (with_reducible exact Ext.refl _) | (with_reducible assumption) | (show Below _ _ _; go_grown; done))⟩
def openR (h : House) (l : List ArgR) : Int := if raErr h ≠ 0 then raErr h else (firstErr argE l).2
theorem openR_congr {h : House} {l l' : List ArgR} (e : raErr h = 0 → l = l') : openR h l = openR h l' := by
  unfold openR
  by_cases h0 : raErr h = 0
  · rw [e h0]
  · rw [if_pos h0, if_pos h0]
/-- a house of six cells; if there is no error, one that is looked at -/
def OpenRG (w0 w : World) (v : Value) (h : House) (er : Int) : Prop := (∃ d ra rn rc s aa an ac ea en ec m, v = .agg #[.int .i64 d, .slice ra rn rc, .int .i64 s, .slice aa an ac, .slice ea en ec, .map m]) ∧ (er = 0 → LookG w0 0 w v h)
theorem OpenRG.look {w0 w : World} {v : Value} {h : House} {er : Int} (hh : OpenRG w0 w v h er) (hx : Ext w0 w) (e : er = 0) : LookAt w v h := (hh.2 e).look hx
theorem OpenRG.kept {w0 w w' : World} {v : Value} {h : House} {er : Int} (hh : OpenRG w0 w v h er) (hk : ∀ (B : Nat) es k, w.heap[B]? = some (Obj.map es k) → w'.heap[B]? = some (Obj.map es k)) : OpenRG w0 w' v h er := ⟨hh.1, fun e => (hh.2 e).kept hk⟩
theorem OpenRG.ext {w0 w w' : World} {v : Value} {h : House} {er : Int} (hh : OpenRG w0 w v h er) (hx : Ext w w') : OpenRG w0 w' v h er := hh.kept hx.maps
theorem set6_box {W : World} {rb : Nat} {a b c d e f x y z u v t : Value} (h : BoxIs W rb [a, b, c, d, e, f]) : BoxIs ((((((W.setCell ⟨rb, 0, none⟩ x).setCell ⟨rb, 1, none⟩ y).setCell ⟨rb, 2, none⟩ z).setCell ⟨rb, 3, none⟩ u).setCell ⟨rb, 4, none⟩ v).setCell ⟨rb, 5, none⟩ t) rb [x, y, z, u, v, t] := by
  have h1 := h.set 0 (by simp) x
  have h2 := h1.set 1 (by simp) y
  have h3 := h2.set 2 (by simp) z
  have h4 := h3.set 3 (by simp) u
  have h5 := h4.set 4 (by simp) v
  have h6 := h5.set 5 (by simp) t
  simpa using h6
theorem set6_ext {w W : World} {rb : Nat} (h : Ext w W) (hb : w.heap.size ≤ rb) (x y z u v t : Value) : Ext w ((((((W.setCell ⟨rb, 0, none⟩ x).setCell ⟨rb, 1, none⟩ y).setCell ⟨rb, 2, none⟩ z).setCell ⟨rb, 3, none⟩ u).setCell ⟨rb, 4, none⟩ v).setCell ⟨rb, 5, none⟩ t) :=
  (((((h.setCell (p := ⟨rb, 0, none⟩) hb _).setCell (p := ⟨rb, 1, none⟩) hb _).setCell (p := ⟨rb, 2, none⟩) hb _).setCell (p := ⟨rb, 3, none⟩) hb _).setCell (p := ⟨rb, 4, none⟩) hb _).setCell (p := ⟨rb, 5, none⟩) hb _
theorem set6_heap {W : World} {D rb : Nat} (x y z u v t : Value) (h : D ≠ rb) : ((((((W.setCell ⟨rb, 0, none⟩ x).setCell ⟨rb, 1, none⟩ y).setCell ⟨rb, 2, none⟩ z).setCell ⟨rb, 3, none⟩ u).setCell ⟨rb, 4, none⟩ v).setCell ⟨rb, 5, none⟩ t).heap[D]? = W.heap[D]? := by
  rw [Below.heap_setCell _ _ _ _ (by simpa using h), Below.heap_setCell _ _ _ _ (by simpa using h), Below.heap_setCell _ _ _ _ (by simpa using h), Below.heap_setCell _ _ _ _ (by simpa using h), Below.heap_setCell _ _ _ _ (by simpa using h), Below.heap_setCell _ _ _ _ (by simpa using h)]
set_option maxHeartbeats 2000000 in
theorem openR_any (hv av : Value) (H : House) (l : List ArgR) (w0 w : World) (hh : HouseAt w0 hv H) (hx0 : Ext w0 w) (hl : ArgsAt w av l) :
    Calls Try.prog 59 #[hv, av] w fun e w' => ∃ v, e = .returned (.tuple #[v, .int .i64 (openR H l)]) ∧ OpenRG w0 w' v H (openR H l) ∧ Ext w w' := by
  have hh0 := hh.ext hx0
  have hhw := hh
  have X0 := Lib.hid hx0
  obtain ⟨ra, rc, aa, ac, ea, ec, rfl, hdi, hsi, -, -, -⟩ := hh
  have hck := fun w hl => raCheck_any (.agg #[.int .i64 H.days, .slice ra H.rates.length rc, .int .i64 H.step, .slice aa H.agents.length ac, .slice ea H.entries.length ec]) H w hl
  have hlk := fun hV w' hx => look2_any (.agg #[.int .i64 H.days, .slice ra H.rates.length rc, .int .i64 H.step, .slice aa H.agents.length ac, .slice ea H.entries.length ec]) H hV w0 w' hhw (X0.out.trans hx)
  have hvo : raErr H = 0 → ValidH H := validH_of
  have hpo : openR H l = if raErr H ≠ 0 then raErr H else (firstErr argE l).2 := rfl
  have hre : (raCheck H).2.2 = raErr H := rfl
  rw [hre] at hck
  rw [hpo]
  clear hpo hre
  generalize raErr H = ce at *
  generalize hfe : (firstErr argE l).2 = fe at *
  have Hfe := Lib.hid hfe
  clear hfe
  obtain ⟨a2, c2, rfl, -⟩ := hl.shape
  have HL := Lib.hid hl
  have HH := Lib.hid hh0
  clear hl hh0 hx0
  go_enter Try.func59, Try.ntmps59
  go_wp2_with fail
  refine (hck _ (HH.out.ext ((by first | (with_reducible exact Ext.refl _) | (with_reducible assumption) | (show Below _ _ _; go_grown; done))))).mono ?_
  rintro e w1 ⟨rfl, hx1⟩
  generalize (raCheck H).1 = cp at *
  generalize (raCheck H).2.1 = ca at *
  have q0 : BoxIs w1 w.heap.size [.int .i64 H.days, .slice ra H.rates.length rc, .int .i64 H.step, .slice aa H.agents.length ac, .slice ea H.entries.length ec] := BoxIs.ext (fun j v hj => by
    match j, hj with
    | 0, hj => simp at hj; subst hj; simp [go_sem]
    | 1, hj => simp at hj; subst hj; simp [go_sem]
    | 2, hj => simp at hj; subst hj; simp [go_sem]
    | 3, hj => simp at hj; subst hj; simp [go_sem]
    | 4, hj => simp at hj; subst hj; simp [go_sem]) hx1
  have r0 : BoxIs w1 (w.heap.size + 1) [.int .i64 0, .slice none 0 0, .int .i64 0, .slice none 0 0, .slice none 0 0, .map none] := BoxIs.ext (fun j v hj => by
    match j, hj with
    | 0, hj => simp at hj; subst hj; simp [go_sem]
    | 1, hj => simp at hj; subst hj; simp [go_sem]
    | 2, hj => simp at hj; subst hj; simp [go_sem]
    | 3, hj => simp at hj; subst hj; simp [go_sem]
    | 4, hj => simp at hj; subst hj; simp [go_sem]
    | 5, hj => simp at hj; subst hj; simp [go_sem]) hx1
  have rf : ∀ o, w1.frozen? ⟨w.heap.size + 1, o, none⟩ = false := fun o => by rw [hx1.frozen (by simp)]; simp [go_sem]
  have x1 : Ext w w1 := ((ext_alloc _ _).alloc _).trans hx1
  clear hx1 hck
  have i0 := q0 0 _ rfl
  have i1 := q0 1 _ rfl
  have i2 := q0 2 _ rfl
  have i3 := q0 3 _ rfl
  have i4 := q0 4 _ rfl
  have j0 := r0 0 _ rfl
  have j1 := r0 1 _ rfl
  have j2 := r0 2 _ rfl
  have j3 := r0 3 _ rfl
  have j4 := r0 4 _ rfl
  have j5 := r0 5 _ rfl
  have zr : w.heap.size + 1 < w1.heap.size := cell_lt j0
  have zq : w.heap.size < w1.heap.size := cell_lt i0
  by_cases h0 : ce = 0
  rotate_left
  · have k0 : (ce != 0) = true := by simpa using h0
    have hb := set6_box (x := .int .i64 0) (y := .slice none 0 0) (z := .int .i64 0) (u := .slice none 0 0) (v := .slice none 0 0) (t := .map none) r0
    have hx := set6_ext x1 (rb := w.heap.size + 1) (by omega) (.int .i64 0) (.slice none 0 0) (.int .i64 0) (.slice none 0 0) (.slice none 0 0) (.map none)
    have HB := Lib.hid hb
    have HX := Lib.hid hx
    have H0 := Lib.hid h0
    clear h0 hb hx x1 r0 q0
    go_wp2
    have hb := HB.out
    have hx := HX.out
    generalize ((((((w1.setCell ⟨w.heap.size + 1, 0, none⟩ (.int .i64 0)).setCell ⟨w.heap.size + 1, 1, none⟩ (.slice none 0 0)).setCell ⟨w.heap.size + 1, 2, none⟩ (.int .i64 0)).setCell ⟨w.heap.size + 1, 3, none⟩ (.slice none 0 0)).setCell ⟨w.heap.size + 1, 4, none⟩ (.slice none 0 0)).setCell ⟨w.heap.size + 1, 5, none⟩ (.map none)) = Wf at *
    have s0 := hb 0 _ rfl
    have s1 := hb 1 _ rfl
    have s2 := hb 2 _ rfl
    have s3 := hb 3 _ rfl
    have s4 := hb 4 _ rfl
    have s5 := hb 5 _ rfl
    (refine bodyPost_ret (v := .tuple #[.agg #[.int .i64 0, .slice none 0 0, .int .i64 0, .slice none 0 0, .slice none 0 0, .map none], .int .i64 ce]) (by simp [results, Try.results59, go_sem, s0, s1, s2, s3, s4, s5]) rfl ?_)
    refine ⟨_, rfl, ⟨⟨_, _, _, _, _, _, _, _, _, _, _, _, rfl⟩, fun e => absurd e H0.out⟩, hx⟩
  subst h0
  have HV := Lib.hid (hvo rfl)
  clear hvo
  go_wp2_with fail
  refine (firstArg_any _ l _ (HL.out.ext x1)).mono ?_
  rintro e w2 ⟨rfl, hx2⟩
  rw [Hfe.out]
  generalize (firstErr argE l).1 = fa at *
  have x2 := x1.trans hx2
  replace r0 := r0.ext hx2
  replace rf : ∀ o, w2.frozen? ⟨w.heap.size + 1, o, none⟩ = false := fun o => by rw [hx2.frozen zr]; exact rf o
  replace i0 := hx2.cell i0
  replace i1 := hx2.cell i1
  replace i2 := hx2.cell i2
  replace i3 := hx2.cell i3
  replace i4 := hx2.cell i4
  replace j0 := hx2.cell j0
  replace j1 := hx2.cell j1
  replace j2 := hx2.cell j2
  replace j3 := hx2.cell j3
  replace j4 := hx2.cell j4
  replace j5 := hx2.cell j5
  have zr2 : w.heap.size + 1 < w2.heap.size := cell_lt j0
  have zq2 : w.heap.size < w2.heap.size := cell_lt i0
  clear hx2 zr zq q0
  by_cases h0 : fe = 0
  rotate_left
  · have k0 : (fe != 0) = true := by simpa using h0
    have hb := set6_box (x := .int .i64 0) (y := .slice none 0 0) (z := .int .i64 0) (u := .slice none 0 0) (v := .slice none 0 0) (t := .map none) r0
    have hx := set6_ext x2 (rb := w.heap.size + 1) (by omega) (.int .i64 0) (.slice none 0 0) (.int .i64 0) (.slice none 0 0) (.slice none 0 0) (.map none)
    have HB := Lib.hid hb
    have HX := Lib.hid hx
    have H0 := Lib.hid h0
    clear h0 hb hx x1 x2 r0
    go_wp2
    have hb := HB.out
    have hx := HX.out
    generalize ((((((w2.setCell ⟨w.heap.size + 1, 0, none⟩ (.int .i64 0)).setCell ⟨w.heap.size + 1, 1, none⟩ (.slice none 0 0)).setCell ⟨w.heap.size + 1, 2, none⟩ (.int .i64 0)).setCell ⟨w.heap.size + 1, 3, none⟩ (.slice none 0 0)).setCell ⟨w.heap.size + 1, 4, none⟩ (.slice none 0 0)).setCell ⟨w.heap.size + 1, 5, none⟩ (.map none)) = Wf at *
    have s0 := hb 0 _ rfl
    have s1 := hb 1 _ rfl
    have s2 := hb 2 _ rfl
    have s3 := hb 3 _ rfl
    have s4 := hb 4 _ rfl
    have s5 := hb 5 _ rfl
    (refine bodyPost_ret (v := .tuple #[.agg #[.int .i64 0, .slice none 0 0, .int .i64 0, .slice none 0 0, .slice none 0 0, .map none], .int .i64 fe]) (by simp [results, Try.results59, go_sem, s0, s1, s2, s3, s4, s5]) rfl ?_)
    refine ⟨_, rfl, ⟨⟨_, _, _, _, _, _, _, _, _, _, _, _, rfl⟩, fun e => absurd e H0.out⟩, hx⟩
  subst h0
  go_wp2_with fail
  refine (hlk HV.out _ x2).mono ?_
  rintro e w3 ⟨u, rfl, hu, hx3⟩
  have hu0 := hu
  obtain ⟨ra', rc', aa', ac', ea', ec', B', M', rfl, g1, g2, g3, g4, g5, g6⟩ := hu
  have x3 := x2.trans hx3
  replace r0 := r0.ext hx3
  replace rf : ∀ o, w3.frozen? ⟨w.heap.size + 1, o, none⟩ = false := fun o => by rw [hx3.frozen zr2]; exact rf o
  replace j0 := hx3.cell j0
  replace j1 := hx3.cell j1
  replace j2 := hx3.cell j2
  replace j3 := hx3.cell j3
  replace j4 := hx3.cell j4
  replace j5 := hx3.cell j5
  have zr3 : w.heap.size + 1 < w3.heap.size := cell_lt j0
  have hb := set6_box (x := .int .i64 H.days) (y := .slice ra' H.rates.length rc') (z := .int .i64 H.step) (u := .slice aa' H.agents.length ac') (v := .slice ea' H.entries.length ec') (t := .map (some B')) r0
  have hx := set6_ext x3 (rb := w.heap.size + 1) (by omega) (.int .i64 H.days) (.slice ra' H.rates.length rc') (.int .i64 H.step) (.slice aa' H.agents.length ac') (.slice ea' H.entries.length ec') (.map (some B'))
  have hlook : LookG w0 0 ((((((w3.setCell ⟨w.heap.size + 1, 0, none⟩ (.int .i64 H.days)).setCell ⟨w.heap.size + 1, 1, none⟩ (.slice ra' H.rates.length rc')).setCell ⟨w.heap.size + 1, 2, none⟩ (.int .i64 H.step)).setCell ⟨w.heap.size + 1, 3, none⟩ (.slice aa' H.agents.length ac')).setCell ⟨w.heap.size + 1, 4, none⟩ (.slice ea' H.entries.length ec')).setCell ⟨w.heap.size + 1, 5, none⟩ (.map (some B'))) (houseV H ra' aa' ea' rc' ac' ec' (.map (some B'))) H :=
    ⟨_, _, _, _, _, _, _, M', rfl, g1, g2, g3, Nat.zero_le _, g5.kept (set6_heap _ _ _ _ _ _ (by omega)), g6⟩
  have HB := Lib.hid hb
  have HX := Lib.hid hx
  have HU := Lib.hid hlook
  unfold houseV at *
  clear hhw hb hx x1 x2 r0 x3 hx3 hu0 hlook g1 g2 g3 g5 g6 i0 i1 i2 i3 i4 hlk
  go_wp2
  have hb := HB.out
  have hx := HX.out
  have hu := HU.out
  generalize ((((((w3.setCell ⟨w.heap.size + 1, 0, none⟩ (.int .i64 H.days)).setCell ⟨w.heap.size + 1, 1, none⟩ (.slice ra' H.rates.length rc')).setCell ⟨w.heap.size + 1, 2, none⟩ (.int .i64 H.step)).setCell ⟨w.heap.size + 1, 3, none⟩ (.slice aa' H.agents.length ac')).setCell ⟨w.heap.size + 1, 4, none⟩ (.slice ea' H.entries.length ec')).setCell ⟨w.heap.size + 1, 5, none⟩ (.map (some B'))) = Wf at *
  have s0 := hb 0 _ rfl
  have s1 := hb 1 _ rfl
  have s2 := hb 2 _ rfl
  have s3 := hb 3 _ rfl
  have s4 := hb 4 _ rfl
  have s5 := hb 5 _ rfl
  refine bodyPost_ret (v := .tuple #[.agg #[.int .i64 H.days, .slice ra' H.rates.length rc', .int .i64 H.step, .slice aa' H.agents.length ac', .slice ea' H.entries.length ec', .map (some B')], .int .i64 0]) (by simp [results, Try.results59, go_sem, s0, s1, s2, s3, s4, s5]) rfl ?_
  refine ⟨_, rfl, ⟨⟨_, _, _, _, _, _, _, _, _, _, _, _, rfl⟩, fun _ => hu⟩, hx⟩
end Go.Proofs.Ytdadffmagfknoaa

namespace Go.Proofs.Ytdadffmagfknoaa
set_option linter.unusedSimpArgs false
set_option linter.unusedVariables false
open Go.RowKit
set_option linter.unusedVariables false
set_option maxRecDepth 100000
def wrongErr (h : House) : Int := if raErr h ≠ 0 then raErr h else if (fewTo (trueP h) (2 ^ h.entries.length)).isSome = true then 0 else 9
def wrongL (h : House) : List Nat := if raErr h ≠ 0 then [] else (fewTo (trueP h) (2 ^ h.entries.length)).getD []
theorem openR_nil (h : House) : openR h [] = raErr h := by
  unfold openR
  by_cases e : raErr h = 0
  · rw [if_neg (by simpa using e), e]; rfl
  · rw [if_pos e]
set_option maxHeartbeats 2000000 in
theorem wrong_any (hv : Value) (H : House) (w : World) (hh : HouseAt w hv H) :
    Calls Try.prog 30 #[hv] w fun e w' => ∃ v, e = .returned (.tuple #[v, .int .i64 (wrongErr H)]) ∧ IntsAt w' v (ints (wrongL H)) ∧ Ext w w' := by
  have hop := fun w' hx => openR_any hv (.slice none 0 0) H [] w w' hh hx SliceAt.nil
  rw [openR_nil] at hop
  have hfw := fun hV hv w hl => fewest_wrong hv H hV H.entries.length (by have := hV.entries; omega) w hl
  have hwe : wrongErr H = if raErr H ≠ 0 then raErr H else if (fewTo (trueP H) (2 ^ H.entries.length)).isSome = true then 0 else 9 := rfl
  have hwl : wrongL H = if raErr H ≠ 0 then [] else (fewTo (trueP H) (2 ^ H.entries.length)).getD [] := rfl
  have hvo : raErr H = 0 → ValidH H := validH_of
  generalize wrongErr H = we at *
  generalize wrongL H = wl at *
  generalize raErr H = er at *
  generalize fewTo (trueP H) (2 ^ H.entries.length) = fo at *
  have HE := Lib.hid hwe
  have HW := Lib.hid hwl
  clear hwe hwl
  have hle : H.entries.length ≤ 9223372036854775807 := by obtain ⟨_, _, _, _, _, _, _, _, _, _, _, h6⟩ := hh; exact h6.le
  obtain ⟨ra, rc, aa, ac, ea, ec, rfl, hdi, hsi, -, -, -⟩ := hh
  go_enter Try.func30, Try.ntmps30
  go_wp2_with fail
  refine (hop _ ((by first | (with_reducible exact Ext.refl _) | (with_reducible assumption) | (show Below _ _ _; go_grown; done)))).mono ?_
  rintro e w1 ⟨u, rfl, hG, hx1⟩
  have x1 : Ext w w1 := hx1.of_alloc
  have hsh := hG.1
  have HG := Lib.hid hG
  obtain ⟨d', ra', rn', rc', s', aa', an', ac', ea', en', ec', m', rfl⟩ := hsh
  have HVO := Lib.hid hvo
  clear hG hx1 hop hvo
  by_cases h0 : er = 0
  rotate_left
  · have k0 : (er != 0) = true := by simpa using h0
    have H0 := Lib.hid h0
    clear h0
    go_wp2
    go_ret2
    have e1 := HE.out
    have e2 := HW.out
    rw [if_pos H0.out] at e1 e2
    subst e1 e2
    exact ⟨_, rfl, SliceAt.nil, x1.alloc _⟩
  subst h0
  have hL := HG.out.look x1 rfl
  obtain ⟨ra2, rc2, aa2, ac2, ea2, ec2, B2, M2, e2, -, -, -, -, -⟩ := hL
  unfold houseV at e2
  simp only [Value.agg.injEq, Array.mk.injEq, List.cons.injEq, Value.int.injEq, Value.slice.injEq, Value.map.injEq, and_true, true_and] at e2
  obtain ⟨rfl, ⟨rfl, rfl, rfl⟩, rfl, ⟨rfl, rfl, rfl⟩, ⟨rfl, rfl, rfl⟩, rfl⟩ := e2
  have hL := (HG.out.look x1 rfl).ext (ext_alloc w1 (.cells #[.int .i64 H.days, .slice ra' H.rates.length rc', .int .i64 H.step, .slice aa' H.agents.length ac', .slice ea' H.entries.length ec', .map (some B2)] 85))
  have hcall := hfw (HVO.out rfl) _ _ hL
  have HC := Lib.hid hcall
  clear hfw hcall hL
  go_wp2_with fail
  refine (HC.out).mono ?_
  rintro e w2 ⟨u, f, rfl, hf, hI, hx2⟩
  have x2 := x1.trans hx2.of_alloc
  obtain ⟨ua, uc, rfl, -⟩ := hI.shape
  have HI := Lib.hid hI
  have HF := Lib.hid hf
  clear hI hf hx2 HC
  have e1 := HE.out
  have e2 := HW.out
  rw [if_neg (by simp)] at e1 e2
  rw [← HF.out] at e1
  have E2 := Lib.hid e2
  clear HE HW e2
  cases f
  · have hn : fo = none := by
      have hf := HF.out
      cases fo with
      | none => rfl
      | some x => cases hf
    simp only [Bool.false_eq_true, if_false] at e1
    subst e1
    clear HF
    go_wp2
    go_ret2
    have e2 := E2.out
    rw [hn] at e2
    subst e2
    exact ⟨_, rfl, SliceAt.nil, x2⟩
  · simp only [if_true] at e1
    subst e1
    go_wp2
    go_ret2
    exact ⟨_, rfl, by rw [E2.out]; exact HI.out, x2⟩
end Go.Proofs.Ytdadffmagfknoaa
