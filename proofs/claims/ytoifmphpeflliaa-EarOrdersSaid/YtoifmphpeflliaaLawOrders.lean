/-
  EarOrders returns true: letters told the other way round change no answer but that of Spell, and sounds numbered the other way round change no answer of Count, Alike and Odd, for any book, indices and sound string.
-/
import Derived.Test.YtoifmphpeflliaaBunZ
import Derived.Test.YtoifmphpeflliaaBunY
import Derived.Deep.CutBlock
import Derived.Deep.DeepCutAuto
import Derived.Test.YtoifmphpeflliaaBunR
import Derived.Outline
import Derived.Test.YtoifmphpeflliaaBunL
import Derived.Test.YtoifmphpeflliaaBunG
import Derived.Test.YtoifmphpeflliaaBunN
import Derived.RegionTactic
import Derived.BigRegion
import Derived.Test.YtoifmphpeflliaaBunQ
import Derived.Test.YtoifmphpeflliaaBunO
namespace Go.Proofs.Ytoifmphpeflliaa
open Go.RowKit
set_option linter.unusedVariables false

/-! ### the numbers of a letter's sounds, turned -/
def turnN (S v : Nat) : Nat → Nat
  | 0 => 0
  | n + 1 => turnN S v n + if v.testBit n then 2 ^ (S - 1 - n) else 0
theorem turn_facts : ∀ (S : Fin 5) (v : Fin 16), v.1 ≤ 2 ^ S.1 - 1 → turnN S.1 v.1 S.1 ≤ 2 ^ S.1 - 1 ∧ (∀ n : Fin 4, n.1 < S.1 → (turnN S.1 v.1 S.1).testBit (S.1 - 1 - n.1) = v.1.testBit n.1) ∧ turnN S.1 (turnN S.1 v.1 S.1) S.1 = v.1 ∧ (v.1 ≠ 0 → turnN S.1 v.1 S.1 ≠ 0) := by decide +kernel
theorem turn_le : ∀ (S : Fin 5) (v : Fin 16) (n : Fin 5), n.1 ≤ S.1 → turnN S.1 v.1 n.1 ≤ 15 := by decide +kernel
def highL (S : Int) (x : Letter) : Letter := ⟨x.c, ((turnN S.toNat x.sounds.toNat S.toNat : Nat) : Int), x.silent⟩
theorem mask_nat {S : Int} (h : 1 ≤ S ∧ S ≤ 4) : maskM S = ((2 ^ S.toNat - 1 : Nat) : Int) := by
  unfold maskM
  have : 0 < 2 ^ S.toNat := Nat.two_pow_pos _
  rw [Int.ofNat_sub this]
  simp
theorem high_fine {S : Int} (hS : 1 ≤ S ∧ S ≤ 4) {x : Letter} (h : ValidLetter S x) : ValidLetter S (highL S x) ∧ highL S (highL S x) = x ∧ ∀ n : Nat, (n : Int) < S → givesM (highL S x) (S - 1 - n) = givesM x n := by
  have h0 := h.s
  have hm := mask_le hS
  have e := mask_nat hS
  have hv : x.sounds.toNat ≤ 2 ^ S.toNat - 1 := by have := h0.2; rw [e] at this; omega
  obtain ⟨f1, f2, f3, f4⟩ := turn_facts ⟨S.toNat, by omega⟩ ⟨x.sounds.toNat, by omega⟩ hv
  simp only at f1 f2 f3 f4
  refine ⟨⟨h.c, ⟨Int.natCast_nonneg _, ?_⟩, ?_⟩, ?_, fun n hn => ?_⟩
  · show ((turnN S.toNat x.sounds.toNat S.toNat : Nat) : Int) ≤ maskM S
    rw [e]; omega
  · rcases h.g with g | g
    · left
      show ((turnN S.toNat x.sounds.toNat S.toNat : Nat) : Int) ≠ 0
      have := f4 (by omega)
      omega
    · exact .inr g
  · unfold highL
    simp only [Int.toNat_natCast, f3]
    obtain ⟨c, s, q⟩ := x
    simp only at h0 ⊢
    rw [Int.toNat_of_nonneg h0.1]
  · have := f2 ⟨n, by omega⟩ (by show n < S.toNat; omega)
    simp only at this
    unfold givesM
    rw [if_neg (by omega), if_neg (by omega)]
    have e1 : (S - 1 - (n : Int)).toNat = S.toNat - 1 - n := by omega
    rw [e1, Int.toNat_natCast, ← this]
    show (((turnN S.toNat x.sounds.toNat S.toNat : Nat) : Int).toNat).testBit _ = _
    rw [Int.toNat_natCast]
theorem cmpM_anti (x y : Int) : cmpM y x = - cmpM x y := by unfold cmpM; repeat' split <;> omega
theorem cmpL_anti : ∀ a b : List Int, cmpL b a = - cmpL a b
  | [], [] => rfl
  | [], _ :: _ => rfl
  | _ :: _, [] => rfl
  | x :: a, y :: b => by
    have h1 := cmpM_anti x y
    have h2 := cmpL_anti a b
    unfold cmpL
    by_cases e : cmpM x y = 0
    · rw [if_pos e, if_pos (by omega)]; exact h2
    · rw [if_neg e, if_neg (by omega)]; exact h1
theorem cmpSS_anti (a b : List Int) : cmpSS b a = - cmpSS a b := by
  unfold cmpSS
  by_cases e : a.length = b.length
  · rw [if_pos e, if_pos e.symm]; exact cmpL_anti a b
  · rw [if_neg e, if_neg (Ne.symm e)]; exact cmpM_anti _ _
/-! ### the books -/
theorem alpha_of {S : Int} {x y : Alphabet} (h : ValidAlphabet S x) (hn : y.name = x.name) (hl : y.letters.length = x.letters.length) (hf : ∀ l ∈ y.letters, ValidLetter S l) (hp : y.letters.Pairwise (fun a b => a.c ≠ b.c)) : ValidAlphabet S y := by
  refine ⟨by rw [hn]; exact h.n, by rw [hl]; exact h.l, fun k hk => ⟨hf _ (List.getElem_mem hk), ?_⟩⟩
  rw [List.any_eq_false]
  intro z hz
  rw [List.mem_take_iff_getElem] at hz
  obtain ⟨j, hj, rfl⟩ := hz
  have := List.pairwise_iff_getElem.1 hp j k (by omega) hk (by omega)
  simpa using this
theorem names_fresh {S : Int} {l l' : List Alphabet} (hl : l'.map (fun y => y.name.toList) = l.map (fun y => y.name.toList)) {k : Nat} (hk : k < l'.length) (hk' : k < l.length) (h : ((l.take k).any fun y => y.name.toList == (l[k]).name.toList) = false) : ((l'.take k).any fun y => y.name.toList == (l'[k]).name.toList) = false := by
  rw [any_name, List.map_take] at h ⊢
  rw [hl]
  have e3 : (l'[k]).name.toList = (l[k]).name.toList := by
    have := congrArg (fun l => l[k]?) hl
    simp only [List.getElem?_map, List.getElem?_eq_getElem hk, List.getElem?_eq_getElem hk', Option.map_some, Option.some.injEq] at this
    exact this
  rw [e3]; exact h
def backA (x : Alphabet) : Alphabet := ⟨x.name, x.letters.reverse⟩
def highA (S : Int) (x : Alphabet) : Alphabet := ⟨x.name, x.letters.map (highL S)⟩
def backB (b : Book) : Book := ⟨b.sounds, b.alphabets.map backA, b.spellings⟩
def highB (b : Book) : Book := ⟨b.sounds, b.alphabets.map (highA b.sounds), b.spellings⟩
theorem fine_of {S : Int} {x : Alphabet} (h : ValidAlphabet S x) : ∀ l ∈ x.letters, ValidLetter S l := fun l hl => by
  obtain ⟨i, hi, rfl⟩ := List.getElem_of_mem hl
  exact (h.fine i hi).1
theorem apart_rev {ls : List Letter} (h : ls.Pairwise (fun a b => a.c ≠ b.c)) : ls.reverse.Pairwise (fun a b => a.c ≠ b.c) := by
  rw [List.pairwise_reverse]
  exact h.imp fun h e => h e.symm
theorem back_two {b : Book} (hv : Valid b) : TwoB (fun x y => x = y) b (backB b) ∧ TwoB (fun x y => x = y) (backB b) b ∧ Valid (backB b) := by
  have h1 : TwoB (fun x y => x = y) b (backB b) := ⟨rfl, by simp [backB], rfl, fun a h h' => by
    simp only [backB, List.getElem_map, backA]
    have hp := apart_of (hv.al a h).1
    exact pairs_reverse hp (apart_rev hp)⟩
  refine ⟨h1, ⟨rfl, by simp [backB], rfl, fun a h h' => ?_⟩, h1.valid hv fun k hk => ?_⟩
  · simp only [backB, List.getElem_map, backA]
    have hp := apart_of (hv.al a h').1
    have := pairs_reverse (apart_rev hp) (by rw [List.reverse_reverse]; exact hp)
    rwa [List.reverse_reverse] at this
  · have hk' : k < b.alphabets.length := by simpa [backB] using hk
    have hf := hv.al k hk'
    constructor
    · simp only [backB, List.getElem_map]
      exact alpha_of hf.1 rfl (by simp [backA]) (fun l hl => fine_of hf.1 l (by simpa [backA] using hl)) (apart_rev (apart_of hf.1))
    · exact names_fresh (S := b.sounds) (by simp [backB, backA]) hk hk' hf.2
theorem high_two {b : Book} (hv : Valid b) : TwoB (fun x y => ValidLetter b.sounds x ∧ y = highL b.sounds x) b (highB b) ∧ TwoB (fun x y => ValidLetter b.sounds x ∧ y = highL b.sounds x) (highB b) b ∧ Valid (highB b) := by
  have h1 : TwoB (fun x y => ValidLetter b.sounds x ∧ y = highL b.sounds x) b (highB b) := ⟨rfl, by simp [highB], rfl, fun a h h' => by
    simp only [highB, List.getElem_map, highA]
    exact pairs_of_at (by simp) fun i hi hi' => by
      simp only [List.getElem_map]
      exact ⟨rfl, ((hv.al a h).1.fine i hi).1, trivial⟩⟩
  refine ⟨h1, ⟨rfl, by simp [highB], rfl, fun a h h' => ?_⟩, h1.valid hv fun k hk => ?_⟩
  · simp only [highB, List.getElem_map, highA]
    refine pairs_of_at (by simp) fun i hi hi' => ?_
    simp only [List.getElem_map]
    have hf := high_fine hv.s ((hv.al a h').1.fine i hi').1
    exact ⟨rfl, hf.1, hf.2.1.symm⟩
  · have hk' : k < b.alphabets.length := by simpa [highB] using hk
    have hf := hv.al k hk'
    constructor
    · simp only [highB, List.getElem_map]
      refine alpha_of hf.1 rfl (by simp [highA]) (fun l hl => ?_) ?_
      · simp only [highA, List.mem_map] at hl
        obtain ⟨x, hx, rfl⟩ := hl
        exact (high_fine hv.s (fine_of hf.1 x hx)).1
      · simp only [highA]
        rw [List.pairwise_map]
        exact apart_of hf.1
    · exact names_fresh (S := b.sounds) (by simp [highB, highA]) hk hk' hf.2
/-! ### what they can be -/
theorem back_strings {b : Book} (hv : Valid b) {i : Nat} (hi : i < b.spellings.length) (t : List Int) : t ∈ stringsOf (backB b) i ↔ t ∈ stringsOf b i := by
  obtain ⟨h1, h2, hv2⟩ := back_two hv
  constructor
  · intro ht
    have := strings_pairs h2 hv2 (fun x => x) (fun n => Iff.rfl) (fun x y hxy n hn hg => ⟨hn, hxy ▸ hg⟩) (n := i) hi ht
    simpa using this
  · intro ht
    have := strings_pairs h1 hv (fun x => x) (fun n => Iff.rfl) (fun x y hxy n hn hg => ⟨hn, hxy ▸ hg⟩) hi ht
    simpa using this
def mirM (S n : Int) : Int := if n = -1 then -1 else if n = S then S else S - 1 - n
theorem mir_mir (S n : Int) : mirM S (mirM S n) = n := by unfold mirM; repeat' split <;> omega
theorem mir_one (S n : Int) (hS : 1 ≤ S) : n = -1 ↔ mirM S n = -1 := by unfold mirM; repeat' split <;> omega
theorem mir_gives {S : Int} (hS : 1 ≤ S ∧ S ≤ 4) {x y : Letter} (h : ValidLetter S x ∧ y = highL S x) (n : Int) (hn : n ∈ soundsTo (S.toNat + 1)) (hg : givesM x n = true) : mirM S n ∈ soundsTo (S.toNat + 1) ∧ givesM y (mirM S n) = true := by
  obtain ⟨h1, rfl⟩ := h
  have hm := mem_soundsTo.1 hn
  by_cases e : n = -1
  · subst e
    have : mirM S (-1) = -1 := by simp [mirM]
    rw [this]
    exact ⟨hn, hg⟩
  · have hne : n ≠ S := by omega
    have em : mirM S n = S - 1 - n := by unfold mirM; rw [if_neg e, if_neg hne]
    rw [em]
    refine ⟨mem_soundsTo.2 (by omega), ?_⟩
    obtain ⟨k, rfl⟩ : ∃ k : Nat, n = k := ⟨n.toNat, by omega⟩
    rw [(high_fine hS h1).2.2 k (by omega)]
    exact hg
theorem high_strings {b : Book} (hv : Valid b) {i : Nat} (hi : i < b.spellings.length) (t : List Int) : (t ∈ stringsOf b i → t.map (mirM b.sounds) ∈ stringsOf (highB b) i) ∧ (t ∈ stringsOf (highB b) i → t.map (mirM b.sounds) ∈ stringsOf b i) := by
  obtain ⟨h1, h2, hv2⟩ := high_two hv
  exact ⟨fun ht => strings_pairs h1 hv (mirM b.sounds) (fun n => mir_one _ _ hv.s.1) (fun x y hxy n hn hg => mir_gives hv.s hxy n hn hg) hi ht,
    fun ht => strings_pairs h2 hv2 (mirM b.sounds) (fun n => mir_one _ _ hv.s.1) (fun x y hxy n hn hg => mir_gives hv.s hxy n hn hg) (n := i) hi ht⟩
theorem map_mir (S : Int) (t : List Int) : (t.map (mirM S)).map (mirM S) = t := by
  rw [List.map_map]
  conv => rhs; rw [← List.map_id t]
  apply List.map_congr_left
  intro x _; exact mir_mir S x
theorem high_iff {b : Book} (hv : Valid b) {i : Nat} (hi : i < b.spellings.length) (t : List Int) : t ∈ stringsOf (highB b) i ↔ t.map (mirM b.sounds) ∈ stringsOf b i := by
  refine ⟨(high_strings hv hi t).2, fun h => ?_⟩
  have := (high_strings hv hi _).1 h
  rwa [map_mir] at this
/-! ### what is the same -/
theorem high_count {b : Book} (hv : Valid b) {i : Nat} (hi : i < b.spellings.length) : (canM (highB b) [i]).length = (canM b [i]).length := by
  obtain ⟨-, -, hv2⟩ := high_two hv
  have inj : ∀ s t : List Int, s.map (mirM b.sounds) = t.map (mirM b.sounds) → s = t := fun s t h => by
    rw [← map_mir b.sounds s, h, map_mir]
  have h1 := count_le (b' := highB b) hv hi (fun t => t.map (mirM b.sounds)) (fun s _ t _ e => inj s t e) fun t ht => (high_strings hv hi t).1 ht
  have h2 := count_le (b' := b) hv2 (n := i) hi (fun t => t.map (mirM b.sounds)) (fun s _ t _ e => inj s t e) fun t ht => (high_strings hv hi t).2 ht
  omega
theorem high_all {b : Book} (hv : Valid b) {l : List Nat} (hl : ∀ n ∈ l, n < b.spellings.length) : (∃ k, All b l k) ↔ ∃ k, All (highB b) l k := by
  constructor
  · rintro ⟨k, h⟩; exact ⟨_, fun n hn => (high_strings hv (hl n hn) _).1 (h n hn)⟩
  · rintro ⟨k, h⟩; exact ⟨_, fun n hn => (high_strings hv (hl n hn) _).2 (h n hn)⟩
theorem back_all {b : Book} (hv : Valid b) {l : List Nat} (hl : ∀ n ∈ l, n < b.spellings.length) : (∃ k, All b l k) ↔ ∃ k, All (backB b) l k := by
  constructor
  · rintro ⟨k, h⟩; exact ⟨k, fun n hn => (back_strings hv (hl n hn) _).2 (h n hn)⟩
  · rintro ⟨k, h⟩; exact ⟨k, fun n hn => (back_strings hv (hl n hn) _).1 (h n hn)⟩
theorem high_odd {b : Book} (hv : Valid b) : oddL (highB b) = oddL b := odd_same hv (high_two hv).2.2 rfl fun l hl => high_all hv hl
theorem back_odd {b : Book} (hv : Valid b) : oddL (backB b) = oddL b := odd_same hv (back_two hv).2.2 rfl fun l hl => back_all hv hl
theorem high_alike {b : Book} (hv : Valid b) {i j : Nat} (hi : i < b.spellings.length) (hj : j < b.spellings.length) {p q : Int} (hp : AlikeIs b i j p) (hq : AlikeIs (highB b) i j q) : p = q := by
  have key : ∀ n, n < b.spellings.length → ∀ x, (∀ y, y ∈ stringsOf b n ↔ y = x) ↔ ∀ y, y ∈ stringsOf (highB b) n ↔ y = x.map (mirM b.sounds) := fun n hn x => by
    constructor
    · intro h y
      rw [high_iff hv hn, h]
      exact ⟨fun e => by rw [← e, map_mir], fun e => by rw [e, map_mir]⟩
    · intro h y
      have := h (y.map (mirM b.sounds))
      rw [high_iff hv hn, map_mir] at this
      rw [this]
      exact ⟨fun e => by rw [← map_mir b.sounds y, e, map_mir], fun e => by rw [e]⟩
  have h1 := hp.dom
  have g1 := hq.dom
  have e2 : p = 2 ↔ q = 2 := by
    rw [hp.never, hq.never]
    refine not_congr ⟨?_, ?_⟩
    · rintro ⟨k, a, c⟩; exact ⟨_, (high_strings hv hi _).1 a, (high_strings hv hj _).1 c⟩
    · rintro ⟨k, a, c⟩; exact ⟨_, (high_strings hv hi _).2 a, (high_strings hv hj _).2 c⟩
  have e1 : p = 1 ↔ q = 1 := by
    rw [hp.must, hq.must]
    constructor
    · rintro ⟨k, a, c⟩; exact ⟨_, (key i hi k).1 a, (key j hj k).1 c⟩
    · rintro ⟨k, a, c⟩
      exact ⟨k.map (mirM b.sounds), (key i hi _).2 (by rw [map_mir]; exact a), (key j hj _).2 (by rw [map_mir]; exact c)⟩
  omega
theorem back_reads {b : Book} (hv : Valid b) {i : Nat} (hi : i < b.spellings.length) (h : List Int) : (getT h (canM (backB b) [i])).isSome = (getT h (canM b [i])).isSome := by
  rw [Bool.eq_iff_iff, getT_keys, getT_keys, keys_one, keys_one]
  exact back_strings hv hi h
theorem back_first {b : Book} (hv : Valid b) {i : Nat} (hi : i < b.spellings.length) {k k' : List Int} {f f' : Bool} (h : FirstIs (canM b [i]) (fun _ => True) (bitsM [i]) k f) (h' : FirstIs (canM (backB b) [i]) (fun _ => True) (bitsM [i]) k' f') : k = k' ∧ f = f' := by
  have hv2 := (back_two hv).2.2
  have n1 := canM_nodup hv (l := [i]) (by simp [hi])
  have n2 := canM_nodup hv2 (l := [i]) (by simp; exact hi)
  have hl : ∀ n ∈ [i], n < b.spellings.length := by simp [hi]
  have hA : ∀ k, All b [i] k ↔ All (backB b) [i] k := fun k => by
    constructor
    · intro h n hn; exact (back_strings hv (hl n hn) _).2 (h n hn)
    · intro h n hn; exact (back_strings hv (hl n hn) _).1 (h n hn)
  cases f <;> cases f'
  · exact ⟨(first_none n1 (by simp) h).1.trans (first_none n2 (by simp) h').1.symm, rfl⟩
  · have := (first_none n1 (by simp) h).2
    exact absurd ⟨k', (hA _).2 (first_all n2 (by simp) h').1⟩ this
  · have := (first_none n2 (by simp) h').2
    exact absurd ⟨k, (hA _).1 (first_all n1 (by simp) h).1⟩ this
  · obtain ⟨a1, a2⟩ := first_all n1 (by simp) h
    obtain ⟨c1, c2⟩ := first_all n2 (by simp) h'
    refine ⟨?_, rfl⟩
    have g1 := a2 k' ((hA _).2 c1)
    have g2 := c2 k ((hA _).1 a1)
    have hz : cmpSS k k' = 0 := by
      have := cmpSS_anti k k'
      omega
    exact cmpSS_zero hz
end Go.Proofs.Ytoifmphpeflliaa

namespace Go.Proofs.Ytoifmphpeflliaa
open Go.RowKit
set_option linter.unusedVariables false

/-- a letter in a box of its own -/
structure LBox (w : World) (L : Nat) (c s : Int) (q : Bool) : Prop where
  l0 : w.cell? ⟨L, 0, none⟩ = some (.int .u8 c)
  l1 : w.cell? ⟨L, 1, none⟩ = some (.int .i64 s)
  l2 : w.cell? ⟨L, 2, none⟩ = some (.bool q)
  f1 : w.frozen? ⟨L, 1, none⟩ = false
def OrdR20 (w : World) (L : Nat) (c s : Int) (q : Bool) (wc : World) : Prop := LBox wc L c s q ∧ w.grownBy wc (some L)

theorem LBox.ext {w w' : World} {L : Nat} {c s : Int} {q : Bool} (h : LBox w L c s q) (hx : Ext w w') : LBox w' L c s q :=
  ⟨hx.cell h.l0, hx.cell h.l1, hx.cell h.l2, (hx.frozen (p := ⟨L, 1, none⟩) (cell_lt h.l1)).trans h.f1⟩
/-- the numbers 1, 2, 4, 8, in a block of their own -/
def TabV (L : Nat) (u : Value) (w : World) : Prop := ∃ B, u = .slice (some ⟨B, 0, none⟩) 4 4 ∧ B ≠ L ∧ ∀ j, j < 4 → w.cell? ⟨B, j, none⟩ = some (.int .i64 (2 ^ j))
noncomputable def TabV.B {L : Nat} {u : Value} {w : World} (h : TabV L u w) : Nat := Exists.choose h
theorem TabV.spec {L : Nat} {u : Value} {w : World} (h : TabV L u w) : u = .slice (some ⟨h.B, 0, none⟩) 4 4 ∧ h.B ≠ L ∧ ∀ j, j < 4 → w.cell? ⟨h.B, j, none⟩ = some (.int .i64 (2 ^ j)) := Exists.choose_spec h
theorem TabV.ext {L : Nat} {u : Value} {w w' : World} (h : TabV L u w) (hx : Ext w w') : TabV L u w' := by
  obtain ⟨B, e, h1, h2⟩ := h; exact ⟨B, e, h1, fun j hj => hx.cell (h2 j hj)⟩
theorem TabV.but {L : Nat} {u : Value} {w w' : World} (h : TabV L u w) (hx : Facts.App.But (some L) w w') : TabV L u w' := by
  obtain ⟨B, e, h1, h2⟩ := h; exact ⟨B, e, h1, fun j hj => World.grownBy.cell hx (h2 j hj) (by simpa using h1)⟩
def AtV (L m : Nat) (u : Value) (w : World) : Prop := ∃ B, u = .pointer (some ⟨B, m, none⟩) ∧ B ≠ L ∧ w.cell? ⟨B, m, none⟩ = some (.int .i64 (2 ^ m))
noncomputable def AtV.B {L m : Nat} {u : Value} {w : World} (h : AtV L m u w) : Nat := Exists.choose h
theorem AtV.spec {L m : Nat} {u : Value} {w : World} (h : AtV L m u w) : u = .pointer (some ⟨h.B, m, none⟩) ∧ h.B ≠ L ∧ w.cell? ⟨h.B, m, none⟩ = some (.int .i64 (2 ^ m)) := Exists.choose_spec h
theorem AtV.ext {L m : Nat} {u : Value} {w w' : World} (h : AtV L m u w) (hx : Ext w w') : AtV L m u w' := by
  obtain ⟨B, e, h1, h2⟩ := h; exact ⟨B, e, h1, hx.cell h2⟩
theorem AtV.but {L m : Nat} {u : Value} {w w' : World} (h : AtV L m u w) (hx : Facts.App.But (some L) w w') : AtV L m u w' := by
  obtain ⟨B, e, h1, h2⟩ := h; exact ⟨B, e, h1, World.grownBy.cell hx h2 (by simpa using h1)⟩
def BoxNow (L : Nat) (c s : Int) (q : Bool) (_ : Value) (w : World) : Prop := LBox w L c s q

set_option maxRecDepth 100000 in
set_option maxHeartbeats 2000000 in
theorem orders_r20 {u0 u1 u2 u4 u5 u6 u7 u8 u9 u10 u11 u12 u13 u16 u17 u18 u19 u20 u21 u22 u23 u24 u25 u26 u27 u28 u29 u30 u31 u32 u33 u34 u35 u36 u37 u38 u39 u40 u41 u42 u43 u44 u45 u46 u47 u48 u49 u50 u51 u52 u53 u54 u55 u56 u57 u58 u59 u60 u61 u62 u63 u64 u65 u66 u67 u68 u69 u70 u71 u72 u73 u74 u75 u76 u77 u78 u79 u80 u81 u82 u83 u84 u85 u86 u87 u88 u89 u90 u91 u92 u93 u94 u95 u96 u97 u98 u99 u100 u101 u102 u103 u104 u105 u106 u107 u108 u109 u110 u111 u112 u113 u114 u115 u116 u117 u118 u119 u120 u121 u122 u123 u124 u125 u126 u127 u128 u129 u130 u131 u132 u133 u134 u135 u136 u137 u138 u139 u140 u141 u142 u143 u144 u145 u146 u147 u148 u149 u150 u151 u152 u153 u154 u155 u156 u157 u158 u159 u160 u161 u162 u163 u164 u165 u166 u167 u168 u169 u170 u171 u172 u173 u174 u175 u176 u177 u178 u179 u180 u181 u182 u183 u184 u185 u186 u187 u188 u189 u190 u191 u192 u193 u194 u195 u196 u197 u198 u199 u200 u201 u202 u203 u204 u205 u206 u207 u208 u209 u210 u211 u212 u213 u214 u215 u216 u217 u218 u219 u220 u221 u222 u223 u224 u225 u226 u227 u228 u229 u230 u231 u232 u233 u234 u235 u236 u237 u238 u239 u240 u241 u242 u243 u244 u245 u246 u247 u248 u249 u250 u251 u252 u253 u254 u255 u256 u257 u258 u259 u260 u261 u262 u263 u264 u265 u266 u267 u268 u269 u270 u271 u272 : Value} {O L n m : Nat} {S c s : Int} {q : Bool} {w : World} (hO : w.cell? ⟨O, 0, none⟩ = some (.int .i64 S)) (hL : LBox w L c s q) (hS : 1 ≤ S ∧ S ≤ 4) (hm : S - 1 - n = m) (h4 : m < 4) (hs : 0 ≤ s ∧ s + 2 ^ m ≤ 100) (Q : Exit → Act → World → Prop)
    (hQ : ∀ (v90 v91 v92 v93 v94 v95 v96 v97 v98 v99 v100 v101 : Value) (wc : World), OrdR20 w L c (s + 2 ^ m) q wc → Q .normal ⟨#[u0, u1, u2, .pointer (some ⟨O, 0, none⟩), u4, u5, u6, u7, u8, u9, u10, u11, u12, u13, .pointer (some ⟨L, 0, none⟩), .int .i64 n, u16, u17, u18, u19, u20, u21, u22, u23, u24, u25, u26, u27, u28, u29, u30, u31, u32, u33, u34, u35, u36, u37, u38, u39, u40, u41, u42, u43, u44, u45, u46, u47, u48, u49, u50, u51, u52, u53, u54, u55, u56, u57, u58, u59, u60, u61, u62, u63, u64, u65, u66, u67, u68, u69, u70, u71, u72, u73, u74, u75, u76, u77, u78, u79, u80, u81, u82, u83, u84, u85, u86, u87, u88, u89, v90, v91, v92, v93, v94, v95, v96, v97, v98, v99, v100, v101, u102, u103, u104, u105, u106, u107, u108, u109, u110, u111, u112, u113, u114, u115, u116, u117, u118, u119, u120, u121, u122, u123, u124, u125, u126, u127, u128, u129, u130, u131, u132, u133, u134, u135, u136, u137, u138, u139, u140, u141, u142, u143, u144, u145, u146, u147, u148, u149, u150, u151, u152, u153, u154, u155, u156, u157, u158, u159, u160, u161, u162, u163, u164, u165, u166, u167, u168, u169, u170, u171, u172, u173, u174, u175, u176, u177, u178, u179, u180, u181, u182, u183, u184, u185, u186, u187, u188, u189, u190, u191, u192, u193, u194, u195, u196, u197, u198, u199, u200, u201, u202, u203, u204, u205, u206, u207, u208, u209, u210, u211, u212, u213, u214, u215, u216, u217, u218, u219, u220, u221, u222, u223, u224, u225, u226, u227, u228, u229, u230, u231, u232, u233, u234, u235, u236, u237, u238, u239, u240, u241, u242, u243, u244, u245, u246, u247, u248, u249, u250, u251, u252, u253, u254, u255, u256, u257, u258, u259, u260, u261, u262, u263, u264, u265, u266, u267, u268, u269, u270, u271, u272], []⟩ wc) :
    Code.wp Try.prog (regionOf Try.f6 20) Q ⟨#[u0, u1, u2, .pointer (some ⟨O, 0, none⟩), u4, u5, u6, u7, u8, u9, u10, u11, u12, u13, .pointer (some ⟨L, 0, none⟩), .int .i64 n, u16, u17, u18, u19, u20, u21, u22, u23, u24, u25, u26, u27, u28, u29, u30, u31, u32, u33, u34, u35, u36, u37, u38, u39, u40, u41, u42, u43, u44, u45, u46, u47, u48, u49, u50, u51, u52, u53, u54, u55, u56, u57, u58, u59, u60, u61, u62, u63, u64, u65, u66, u67, u68, u69, u70, u71, u72, u73, u74, u75, u76, u77, u78, u79, u80, u81, u82, u83, u84, u85, u86, u87, u88, u89, u90, u91, u92, u93, u94, u95, u96, u97, u98, u99, u100, u101, u102, u103, u104, u105, u106, u107, u108, u109, u110, u111, u112, u113, u114, u115, u116, u117, u118, u119, u120, u121, u122, u123, u124, u125, u126, u127, u128, u129, u130, u131, u132, u133, u134, u135, u136, u137, u138, u139, u140, u141, u142, u143, u144, u145, u146, u147, u148, u149, u150, u151, u152, u153, u154, u155, u156, u157, u158, u159, u160, u161, u162, u163, u164, u165, u166, u167, u168, u169, u170, u171, u172, u173, u174, u175, u176, u177, u178, u179, u180, u181, u182, u183, u184, u185, u186, u187, u188, u189, u190, u191, u192, u193, u194, u195, u196, u197, u198, u199, u200, u201, u202, u203, u204, u205, u206, u207, u208, u209, u210, u211, u212, u213, u214, u215, u216, u217, u218, u219, u220, u221, u222, u223, u224, u225, u226, u227, u228, u229, u230, u231, u232, u233, u234, u235, u236, u237, u238, u239, u240, u241, u242, u243, u244, u245, u246, u247, u248, u249, u250, u251, u252, u253, u254, u255, u256, u257, u258, u259, u260, u261, u262, u263, u264, u265, u266, u267, u268, u269, u270, u271, u272], []⟩ w := by
  conv => arg 2; whnf
  have w1 : IntKind.i64.wrap (S - 1) = S - 1 := IntWalk.i64_in _ (by omega)
  have w2 : IntKind.i64.wrap (S - 1 - n) = m := by rw [hm]; exact IntWalk.i64_in _ (by omega)
  have hp : (0 : Int) < 2 ^ m := by exact_mod_cast Nat.two_pow_pos m
  have w3 : IntKind.i64.wrap (s + 2 ^ m) = s + 2 ^ m := IntWalk.i64_in _ (by omega)
  have k4 : (m : Int) < 4 := by omega
  have HL := Lib.hid hL
  obtain ⟨l0, l1, l2, f1⟩ := hL
  have z1 : L < w.heap.size := cell_lt l1
  have HQ := Lib.hid hQ
  clear hm hS hs hQ
  apply Facts.wp_frame
  intro A hA
  have f3 : ∀ h, A.tmps[3]'h = .pointer (some ⟨O, 0, none⟩) := by rw [hA]; exact fun _ => rfl
  have f14 : ∀ h, A.tmps[14]'h = .pointer (some ⟨L, 0, none⟩) := by rw [hA]; exact fun _ => rfl
  have f15 : ∀ h, A.tmps[15]'h = .int .i64 n := by rw [hA]; exact fun _ => rfl
  have fsz : A.tmps.size = 273 := by rw [hA]; rfl
  have HA := Lib.hid hA
  clear hA
  apply Facts.Dep.wp_region (Facts.App.two_but (some L)) 12 [.val (.pointer (some ⟨L, 1, none⟩)), .val (.int .i64 s), .fact (TabV L), .val _, .val (.int .i64 S), .val (.int .i64 (S - 1)), .val _, .val (.int .i64 m), .fact (AtV L m), .val (.int .i64 (2 ^ m)), .val (.int .i64 (s + 2 ^ m)), .val (.pointer (some ⟨L, 1, none⟩)), .fact (BoxNow L c (s + 2 ^ m) q)] (by kernel_rfl) (by kernel_rfl) (.inl (by kernel_rfl)) (by kernel_rfl) ?keep ?main
  case keep => exact ⟨fun u a c hx h => h.ext hx, fun _ u a c hx h => h.but hx, fun u a c hx h => h.ext hx, fun _ u a c hx h => h.but hx, fun u a c hx h => LBox.ext h hx, fun h => absurd h (Bool.eq_false_iff.1 (by kernel_rfl)), trivial⟩
  case main =>
    iterate 2 (refine ⟨fun w1 hE hC hh => ?_, ?_⟩; focus (have hx := hE (by kernel_rfl); clear hh hE hC; have e0 := hx.cell l1; go_simp; first | exact ⟨Ext.refl _, rfl⟩ | exact Ext.refl _))
    refine ⟨fun w1 hE hC hh => ?_, ?_⟩
    · have hx := hE (by kernel_rfl)
      clear hh hE hC
      have hsz1 := hx.size
      go_simp
      exact ⟨ext_alloc _ _, w1.heap.size, rfl, by omega, fun j hj => by
        have hj4 : j = 0 ∨ j = 1 ∨ j = 2 ∨ j = 3 := by omega
        rcases hj4 with rfl | rfl | rfl | rfl <;> simp [go_sem]⟩
    intro u2
    iterate 5 (refine ⟨fun w1 hE hC hh => ?_, ?_⟩; focus (have hx := hE (by kernel_rfl); clear hh hE hC; have e0 := hx.cell hO; go_simp; first | exact ⟨Ext.refl _, rfl⟩ | exact Ext.refl _))
    refine ⟨fun w1 hE hC hh => ?_, ?_⟩
    · have h2 : TabV L u2 w1 := hh 2 _ List.mem_cons_self (by kernel_rfl)
      clear hh hE hC
      have s2 := h2.spec
      generalize h2.B = B at *
      have e2 := s2.1
      have n2 := s2.2.1
      have c2m := s2.2.2 m h4
      clear s2 h2
      subst e2
      go_simp
      exact ⟨Ext.refl _, B, rfl, n2, c2m⟩
    intro u8
    refine ⟨fun w1 hE hC hh => ?_, ?_⟩
    · have h8 : AtV L m u8 w1 := hh 8 _ List.mem_cons_self (by kernel_rfl)
      clear hh hE hC
      have s8 := h8.spec
      generalize h8.B = B at *
      have e8 := s8.1
      have c8 := s8.2.2
      clear s8 h8
      subst e8
      go_simp
      first | exact ⟨Ext.refl _, rfl⟩ | exact Ext.refl _
    iterate 2 (refine ⟨fun w1 hE hC hh => ?_, ?_⟩; focus (have hx := hE (by kernel_rfl); clear hh hE hC; skip; go_simp; first | exact ⟨Ext.refl _, rfl⟩ | exact Ext.refl _))
    refine ⟨fun w1 hE hC hh => ?_, ?_⟩
    · have hx := hE (by kernel_rfl)
      clear hh hE hC
      have b1 := HL.out.ext hx
      have e0 := b1.l0
      have e1 := b1.l1
      have e2 := b1.l2
      have e3 := b1.f1
      go_simp
      exact ⟨grown_set w1 ⟨L, 1, none⟩ _, ⟨set_other e0 (.inr (by simp)) _, set_cell e1 _, set_other e2 (.inr (by simp)) _, by simpa [go_sem] using e3⟩⟩
    intro u12 w5 hC hh
    have h12 : BoxNow L c (s + 2 ^ m) q u12 w5 := hh 12 _ List.mem_cons_self
    clear hh
    have hA := HA.out
    subst hA
    have hQ := HQ.out
    go_simp
    exact hQ _ _ _ _ _ _ _ _ _ _ _ _ _ ⟨h12, hC⟩

/-- what the innermost loop leaves -/
def OrdB4 (w : World) (L : Nat) (c s : Int) (q : Bool) (wc : World) : Prop := LBox wc L c s q ∧ w.grownBy wc (some L)
set_option maxRecDepth 100000 in
set_option maxHeartbeats 2000000 in
theorem orders_b4 {u0 u1 u2 u4 u5 u6 u7 u8 u9 u11 u12 u16 u17 u18 u19 u20 u21 u22 u23 u24 u25 u26 u27 u28 u29 u30 u31 u32 u33 u34 u35 u36 u37 u38 u39 u40 u41 u42 u43 u44 u45 u46 u47 u48 u49 u50 u51 u52 u53 u54 u55 u56 u57 u58 u59 u60 u61 u62 u63 u64 u65 u66 u67 u68 u69 u70 u71 u72 u73 u74 u75 u76 u77 u78 u79 u80 u81 u82 u83 u84 u85 u86 u87 u88 u89 u90 u91 u92 u93 u94 u95 u96 u97 u98 u99 u100 u101 u102 u103 u104 u105 u106 u107 u108 u109 u110 u111 u112 u113 u114 u115 u116 u117 u118 u119 u120 u121 u122 u123 u124 u125 u126 u127 u128 u129 u130 u131 u132 u133 u134 u135 u136 u137 u138 u139 u140 u141 u142 u143 u144 u145 u146 u147 u148 u149 u150 u151 u152 u153 u154 u155 u156 u157 u158 u159 u160 u161 u162 u163 u164 u165 u166 u167 u168 u169 u170 u171 u172 u173 u174 u175 u176 u177 u178 u179 u180 u181 u182 u183 u184 u185 u186 u187 u188 u189 u190 u191 u192 u193 u194 u195 u196 u197 u198 u199 u200 u201 u202 u203 u204 u205 u206 u207 u208 u209 u210 u211 u212 u213 u214 u215 u216 u217 u218 u219 u220 u221 u222 u223 u224 u225 u226 u227 u228 u229 u230 u231 u232 u233 u234 u235 u236 u237 u238 u239 u240 u241 u242 u243 u244 u245 u246 u247 u248 u249 u250 u251 u252 u253 u254 u255 u256 u257 u258 u259 u260 u261 u262 u263 u264 u265 u266 u267 u268 u269 u270 u271 u272 : Value} {O L k lb lo llen lc : Nat} {S : Int} {y : Letter} {w : World} (hO : w.cell? ⟨O, 0, none⟩ = some (.int .i64 S)) (hOL : O ≠ L) (hL : LBox w L y.c 0 y.silent) (hk : k < llen) (hk6 : llen ≤ 6)
    (hy : w.cell? ⟨lb, lo + k * 3 + 1, none⟩ = some (.int .i64 y.sounds)) (hlL : lb ≠ L) (hS : 1 ≤ S ∧ S ≤ 4) (hv : 0 ≤ y.sounds ∧ y.sounds ≤ 15) (Q : Exit → Act → World → Prop)
    (hQ : ∀ (v15 v77 v78 v79 v80 v81 v82 v83 v84 v85 v86 v87 v88 v89 v90 v91 v92 v93 v94 v95 v96 v97 v98 v99 v100 v101 : Value) (wc : World), OrdB4 w L y.c (turnN S.toNat y.sounds.toNat S.toNat : Nat) y.silent wc → Q .normal ⟨#[u0, u1, u2, .pointer (some ⟨O, 0, none⟩), u4, u5, u6, u7, u8, u9, .slice (some ⟨lb, lo, none⟩) llen lc, u11, u12, .int .i64 k, .pointer (some ⟨L, 0, none⟩), v15, u16, u17, u18, u19, u20, u21, u22, u23, u24, u25, u26, u27, u28, u29, u30, u31, u32, u33, u34, u35, u36, u37, u38, u39, u40, u41, u42, u43, u44, u45, u46, u47, u48, u49, u50, u51, u52, u53, u54, u55, u56, u57, u58, u59, u60, u61, u62, u63, u64, u65, u66, u67, u68, u69, u70, u71, u72, u73, u74, u75, u76, v77, v78, v79, v80, v81, v82, v83, v84, v85, v86, v87, v88, v89, v90, v91, v92, v93, v94, v95, v96, v97, v98, v99, v100, v101, u102, u103, u104, u105, u106, u107, u108, u109, u110, u111, u112, u113, u114, u115, u116, u117, u118, u119, u120, u121, u122, u123, u124, u125, u126, u127, u128, u129, u130, u131, u132, u133, u134, u135, u136, u137, u138, u139, u140, u141, u142, u143, u144, u145, u146, u147, u148, u149, u150, u151, u152, u153, u154, u155, u156, u157, u158, u159, u160, u161, u162, u163, u164, u165, u166, u167, u168, u169, u170, u171, u172, u173, u174, u175, u176, u177, u178, u179, u180, u181, u182, u183, u184, u185, u186, u187, u188, u189, u190, u191, u192, u193, u194, u195, u196, u197, u198, u199, u200, u201, u202, u203, u204, u205, u206, u207, u208, u209, u210, u211, u212, u213, u214, u215, u216, u217, u218, u219, u220, u221, u222, u223, u224, u225, u226, u227, u228, u229, u230, u231, u232, u233, u234, u235, u236, u237, u238, u239, u240, u241, u242, u243, u244, u245, u246, u247, u248, u249, u250, u251, u252, u253, u254, u255, u256, u257, u258, u259, u260, u261, u262, u263, u264, u265, u266, u267, u268, u269, u270, u271, u272], []⟩ wc) :
    Code.wp Try.prog (blockOf Try.f6 4) Q ⟨#[u0, u1, u2, .pointer (some ⟨O, 0, none⟩), u4, u5, u6, u7, u8, u9, .slice (some ⟨lb, lo, none⟩) llen lc, u11, u12, .int .i64 k, .pointer (some ⟨L, 0, none⟩), .int .i64 0, u16, u17, u18, u19, u20, u21, u22, u23, u24, u25, u26, u27, u28, u29, u30, u31, u32, u33, u34, u35, u36, u37, u38, u39, u40, u41, u42, u43, u44, u45, u46, u47, u48, u49, u50, u51, u52, u53, u54, u55, u56, u57, u58, u59, u60, u61, u62, u63, u64, u65, u66, u67, u68, u69, u70, u71, u72, u73, u74, u75, u76, u77, u78, u79, u80, u81, u82, u83, u84, u85, u86, u87, u88, u89, u90, u91, u92, u93, u94, u95, u96, u97, u98, u99, u100, u101, u102, u103, u104, u105, u106, u107, u108, u109, u110, u111, u112, u113, u114, u115, u116, u117, u118, u119, u120, u121, u122, u123, u124, u125, u126, u127, u128, u129, u130, u131, u132, u133, u134, u135, u136, u137, u138, u139, u140, u141, u142, u143, u144, u145, u146, u147, u148, u149, u150, u151, u152, u153, u154, u155, u156, u157, u158, u159, u160, u161, u162, u163, u164, u165, u166, u167, u168, u169, u170, u171, u172, u173, u174, u175, u176, u177, u178, u179, u180, u181, u182, u183, u184, u185, u186, u187, u188, u189, u190, u191, u192, u193, u194, u195, u196, u197, u198, u199, u200, u201, u202, u203, u204, u205, u206, u207, u208, u209, u210, u211, u212, u213, u214, u215, u216, u217, u218, u219, u220, u221, u222, u223, u224, u225, u226, u227, u228, u229, u230, u231, u232, u233, u234, u235, u236, u237, u238, u239, u240, u241, u242, u243, u244, u245, u246, u247, u248, u249, u250, u251, u252, u253, u254, u255, u256, u257, u258, u259, u260, u261, u262, u263, u264, u265, u266, u267, u268, u269, u270, u271, u272], []⟩ w := by
  conv => arg 2; whnf
  go_wp2_with fail
  go_loopw [15] (fun i wr => ∃ n : Nat, (n : Int) ≤ S ∧ i = .int .i64 n ∧ LBox wr L y.c (turnN S.toNat y.sounds.toNat n : Nat) y.silent ∧ w.grownBy wr (some L)) (fun i _ => S.toNat - (intOf i).toNat)
  case atStart => exact ⟨0, by omega, rfl, hL, World.grownBy.refl _ _⟩
  case round =>
    obtain ⟨n, hn, rfl, hb, hg⟩ := hrel
    have d0 := hg.cell hO (by simpa using hOL)
    have d1 := hg.cell hy (by simpa using hlL)
    have z0 := cell_lt d0
    by_cases hlt : (n : Int) < S
    · have k1 : (k : Int) < (llen : Int) := by omega
      have hle := turn_le ⟨S.toNat, by omega⟩ ⟨y.sounds.toNat, by omega⟩ ⟨n, by omega⟩ (by show n ≤ S.toNat; omega)
      simp only at hle
      have hst : turnN S.toNat y.sounds.toNat (n + 1) = turnN S.toNat y.sounds.toNat n + if y.sounds.toNat.testBit n then 2 ^ (S.toNat - 1 - n) else 0 := rfl
      have hbt := bitM_test n y.sounds hv.1
      have hbit := fun w => bit_any y.sounds n (by unfold I64; omega) (by omega) w
      rw [hbt] at hbit
      generalize turnN S.toNat y.sounds.toNat n = t at *
      have Hst := Lib.hid hst
      have Hb := Lib.hid hb
      clear hst hbt hb
      go_wp2_with fail
      refine (hbit _).mono ?_
      rintro e w4 ⟨rfl, rfl⟩
      clear hbit
      cases hbv : y.sounds.toNat.testBit n
      · have hst := Hst.out
        rw [hbv] at hst
        simp only [Bool.false_eq_true, if_false, Nat.add_zero] at hst
        have Hs2 := Lib.hid hst
        clear hst hbv
        go_wp2
        go_roundw
        case rel => exact ⟨n + 1, by omega, by go_num, by rw [Hs2.out]; exact Hb.out, hg⟩
        case measure => simp [intOf]; omega
      · have hst := Hst.out
        rw [hbv] at hst
        simp only [if_true] at hst
        have hp4 : 2 ^ (S.toNat - 1 - n) ≤ 8 := by
          have : S.toNat - 1 - n = 0 ∨ S.toNat - 1 - n = 1 ∨ S.toNat - 1 - n = 2 ∨ S.toNat - 1 - n = 3 := by omega
          rcases this with h | h | h | h <;> rw [h] <;> decide
        have Hs2 := Lib.hid hst
        clear hst hbv
        go_upto_region 20 with fail
        refine orders_r20 (m := S.toNat - 1 - n) d0 Hb.out hS (by omega) (by omega) ⟨by omega, by exact_mod_cast (by omega : t + 2 ^ (S.toNat - 1 - n) ≤ 100)⟩ _ ?_
        intro v90 v91 v92 v93 v94 v95 v96 v97 v98 v99 v100 v101 wc hcut
        obtain ⟨hb2, hg2⟩ := hcut
        have hg3 := World.grownBy.trans hg hg2
        have hb3 : LBox wc L y.c (turnN S.toNat y.sounds.toNat (n + 1) : Nat) y.silent := by
          rw [Hs2.out]
          have e : (((t + 2 ^ (S.toNat - 1 - n) : Nat)) : Int) = (t : Int) + 2 ^ (S.toNat - 1 - n) := by simp
          rw [e]; exact hb2
        clear hb2 hg2 hg
        go_wp2
        go_roundw
        case rel => exact ⟨n + 1, by omega, by go_num, hb3, hg3⟩
        case measure => simp [intOf]; omega
    · have hnS : n = S.toNat := by omega
      subst hnS
      go_wp2
      exact ⟨hb, hg⟩
end Go.Proofs.Ytoifmphpeflliaa

namespace Go.Proofs.Ytoifmphpeflliaa
open Go.RowKit
set_option linter.unusedVariables false

theorem cell_lt' {w : World} {b o : Nat} {v : Value} (h : w.cell? ⟨b, o, none⟩ = some v) : b < w.heap.size := cell_lt h
theorem rev_take (ls : List Letter) (k : Nat) (hk : k < ls.length) : ls.reverse.take (k + 1) = ls.reverse.take k ++ [ls.getD (ls.length - 1 - k) noLetter] := by
  rw [List.take_succ_eq_append_getElem (by simpa using hk), List.getElem_reverse, letD_at ls (by omega)]
theorem high_take (S : Int) (ls : List Letter) (k : Nat) (hk : k < ls.length) : (ls.take (k + 1)).map (highL S) = (ls.take k).map (highL S) ++ [highL S ls[k]] := by
  rw [List.take_succ_eq_append_getElem hk, List.map_append]; rfl
def OrdB2 (S : Int) (ls : List Letter) (R1 : World) (v u : Value) (wc : World) : Prop := wc.ownsRow R1.heap.size 40 3 v ls.length (cellsL ls.reverse) ∧ wc.ownsRow R1.heap.size 40 3 u ls.length (cellsL (ls.map (highL S))) ∧ Ext R1 wc
/-- two rows of the call's own, in two blocks -/
def Two2 (v u : Value) : Prop := v.ownBlock = none ∧ u.ownBlock = none ∨ v.ownBlock ≠ u.ownBlock
theorem Two2.kept {v u : Value} (h : Two2 v u) : u.ownBlock = none ∨ u.ownBlock ≠ v.ownBlock := by
  rcases h with ⟨-, b⟩ | h
  · exact .inl b
  · exact .inr (Ne.symm h)
theorem own_some {w : World} {base size n : Nat} {e : TypeId} {v : Value} {xs : List Value} (h : w.ownsRow base e size v n xs) (hn : 0 < n) : ∃ g, v.ownBlock = some g ∧ g < w.heap.size := by
  obtain ⟨g, cap, rfl, -, h2, -⟩ := own_shape h hn
  exact ⟨g, rfl, h2⟩

set_option maxRecDepth 100000 in
set_option maxHeartbeats 4000000 in
theorem orders_b2 {u0 u1 u2 u4 u5 u6 u7 u8 u9 u14 u15 u16 u17 u18 u19 u20 u21 u22 u23 u24 u25 u26 u27 u28 u29 u30 u31 u32 u33 u34 u35 u36 u37 u38 u39 u40 u41 u42 u43 u44 u45 u46 u47 u48 u49 u50 u51 u52 u53 u54 u55 u56 u57 u58 u59 u60 u61 u62 u63 u64 u65 u66 u67 u68 u69 u70 u71 u72 u73 u74 u75 u76 u77 u78 u79 u80 u81 u82 u83 u84 u85 u86 u87 u88 u89 u90 u91 u92 u93 u94 u95 u96 u97 u98 u99 u100 u101 u102 u103 u104 u105 u106 u107 u108 u109 u110 u111 u112 u113 u114 u115 u116 u117 u118 u119 u120 u121 u122 u123 u124 u125 u126 u127 u128 u129 u130 u131 u132 u133 u134 u135 u136 u137 u138 u139 u140 u141 u142 u143 u144 u145 u146 u147 u148 u149 u150 u151 u152 u153 u154 u155 u156 u157 u158 u159 u160 u161 u162 u163 u164 u165 u166 u167 u168 u169 u170 u171 u172 u173 u174 u175 u176 u177 u178 u179 u180 u181 u182 u183 u184 u185 u186 u187 u188 u189 u190 u191 u192 u193 u194 u195 u196 u197 u198 u199 u200 u201 u202 u203 u204 u205 u206 u207 u208 u209 u210 u211 u212 u213 u214 u215 u216 u217 u218 u219 u220 u221 u222 u223 u224 u225 u226 u227 u228 u229 u230 u231 u232 u233 u234 u235 u236 u237 u238 u239 u240 u241 u242 u243 u244 u245 u246 u247 u248 u249 u250 u251 u252 u253 u254 u255 u256 u257 u258 u259 u260 u261 u262 u263 u264 u265 u266 u267 u268 u269 u270 u271 u272 : Value} {O lb lo lc : Nat} {S : Int} {ls : List Letter} {R1 : World} (hO : R1.cell? ⟨O, 0, none⟩ = some (.int .i64 S)) (hS : 1 ≤ S ∧ S ≤ 4) (hls : LettersAt R1 (.slice (some ⟨lb, lo, none⟩) ls.length lc) ls) (h6 : 1 ≤ ls.length ∧ ls.length ≤ 6) (hf : Hid (∀ x ∈ ls, U8 x.c ∧ 0 ≤ x.sounds ∧ x.sounds ≤ 15)) (Q : Exit → Act → World → Prop)
    (hQ : ∀ (v11 v12 v13 v14 v15 v55 v56 v57 v58 v59 v60 v61 v62 v63 v64 v65 v66 v67 v68 v69 v70 v71 v72 v73 v74 v75 v76 v77 v78 v79 v80 v81 v82 v83 v84 v85 v86 v87 v88 v89 v90 v91 v92 v93 v94 v95 v96 v97 v98 v99 v100 v101 v102 v103 v104 v105 : Value) (wc : World), OrdB2 S ls R1 v11 v12 wc → Q .normal ⟨#[u0, u1, u2, .pointer (some ⟨O, 0, none⟩), u4, u5, u6, u7, u8, u9, .slice (some ⟨lb, lo, none⟩) ls.length lc, v11, v12, v13, v14, v15, u16, u17, u18, u19, u20, u21, u22, u23, u24, u25, u26, u27, u28, u29, u30, u31, u32, u33, u34, u35, u36, u37, u38, u39, u40, u41, u42, u43, u44, u45, u46, u47, u48, u49, u50, u51, u52, u53, u54, v55, v56, v57, v58, v59, v60, v61, v62, v63, v64, v65, v66, v67, v68, v69, v70, v71, v72, v73, v74, v75, v76, v77, v78, v79, v80, v81, v82, v83, v84, v85, v86, v87, v88, v89, v90, v91, v92, v93, v94, v95, v96, v97, v98, v99, v100, v101, v102, v103, v104, v105, u106, u107, u108, u109, u110, u111, u112, u113, u114, u115, u116, u117, u118, u119, u120, u121, u122, u123, u124, u125, u126, u127, u128, u129, u130, u131, u132, u133, u134, u135, u136, u137, u138, u139, u140, u141, u142, u143, u144, u145, u146, u147, u148, u149, u150, u151, u152, u153, u154, u155, u156, u157, u158, u159, u160, u161, u162, u163, u164, u165, u166, u167, u168, u169, u170, u171, u172, u173, u174, u175, u176, u177, u178, u179, u180, u181, u182, u183, u184, u185, u186, u187, u188, u189, u190, u191, u192, u193, u194, u195, u196, u197, u198, u199, u200, u201, u202, u203, u204, u205, u206, u207, u208, u209, u210, u211, u212, u213, u214, u215, u216, u217, u218, u219, u220, u221, u222, u223, u224, u225, u226, u227, u228, u229, u230, u231, u232, u233, u234, u235, u236, u237, u238, u239, u240, u241, u242, u243, u244, u245, u246, u247, u248, u249, u250, u251, u252, u253, u254, u255, u256, u257, u258, u259, u260, u261, u262, u263, u264, u265, u266, u267, u268, u269, u270, u271, u272], []⟩ wc) :
    Code.wp Try.prog (blockOf Try.f6 2) Q ⟨#[u0, u1, u2, .pointer (some ⟨O, 0, none⟩), u4, u5, u6, u7, u8, u9, .slice (some ⟨lb, lo, none⟩) ls.length lc, .slice none 0 0, .slice none 0 0, .int .i64 0, u14, u15, u16, u17, u18, u19, u20, u21, u22, u23, u24, u25, u26, u27, u28, u29, u30, u31, u32, u33, u34, u35, u36, u37, u38, u39, u40, u41, u42, u43, u44, u45, u46, u47, u48, u49, u50, u51, u52, u53, u54, u55, u56, u57, u58, u59, u60, u61, u62, u63, u64, u65, u66, u67, u68, u69, u70, u71, u72, u73, u74, u75, u76, u77, u78, u79, u80, u81, u82, u83, u84, u85, u86, u87, u88, u89, u90, u91, u92, u93, u94, u95, u96, u97, u98, u99, u100, u101, u102, u103, u104, u105, u106, u107, u108, u109, u110, u111, u112, u113, u114, u115, u116, u117, u118, u119, u120, u121, u122, u123, u124, u125, u126, u127, u128, u129, u130, u131, u132, u133, u134, u135, u136, u137, u138, u139, u140, u141, u142, u143, u144, u145, u146, u147, u148, u149, u150, u151, u152, u153, u154, u155, u156, u157, u158, u159, u160, u161, u162, u163, u164, u165, u166, u167, u168, u169, u170, u171, u172, u173, u174, u175, u176, u177, u178, u179, u180, u181, u182, u183, u184, u185, u186, u187, u188, u189, u190, u191, u192, u193, u194, u195, u196, u197, u198, u199, u200, u201, u202, u203, u204, u205, u206, u207, u208, u209, u210, u211, u212, u213, u214, u215, u216, u217, u218, u219, u220, u221, u222, u223, u224, u225, u226, u227, u228, u229, u230, u231, u232, u233, u234, u235, u236, u237, u238, u239, u240, u241, u242, u243, u244, u245, u246, u247, u248, u249, u250, u251, u252, u253, u254, u255, u256, u257, u258, u259, u260, u261, u262, u263, u264, u265, u266, u267, u268, u269, u270, u271, u272], []⟩ R1 := by
  conv => arg 2; whnf
  obtain ⟨i1, hj, hy0, hy1, hy2⟩ := info_parts infoEaLetter
  have zO := cell_lt' hO
  have hcl : ∀ i, i < ls.length → R1.cell? ⟨lb, lo + i * 3, none⟩ = some (.int .u8 (ls.getD i noLetter).c) ∧ R1.cell? ⟨lb, lo + i * 3 + 1, none⟩ = some (.int .i64 (ls.getD i noLetter).sounds) ∧ R1.cell? ⟨lb, lo + i * 3 + 2, none⟩ = some (.bool (ls.getD i noLetter).silent) := fun i hi => by
    obtain ⟨_, _, e, -, -, h⟩ := hls
    obtain ⟨b, o, e2, r0, r1, r2, -⟩ := h i hi
    have e3 := (Value.slice.inj e).1
    rw [e2] at e3
    simp only [Option.some.injEq, Addr.mk.injEq, and_true] at e3
    obtain ⟨rfl, rfl⟩ := e3
    rw [letD_at ls hi]
    exact ⟨r0, r1, r2⟩
  have zl : lb < R1.heap.size := cell_lt' (hcl 0 (by omega)).1
  have Hcl := Lib.hid hcl
  have HO := Lib.hid hO
  clear hcl hO hls
  go_wp2_with fail
  go_loopw [11, 12, 13] (fun v u i wr => ∃ k : Nat, k ≤ ls.length ∧ i = .int .i64 k ∧ wr.ownsRow R1.heap.size 40 3 v k (cellsL (ls.reverse.take k)) ∧ wr.ownsRow R1.heap.size 40 3 u k (cellsL ((ls.take k).map (highL S))) ∧ Two2 v u ∧ Ext R1 wr) (fun _ _ i _ => ls.length - (intOf i).toNat)
  case atStart => exact ⟨0, Nat.zero_le _, rfl, World.ownsRow_nil _ _ _ _, World.ownsRow_nil _ _ _ _, .inl ⟨rfl, rfl⟩, Ext.refl _⟩
  case round =>
    obtain ⟨k, hk, rfl, own1, own2, hD, hxr⟩ := hrel
    have hszr := hxr.size
    by_cases hlt : k < ls.length
    · have k1 : (k : Int) < (ls.length : Int) := by omega
      obtain ⟨j, hj'⟩ : ∃ j, j = ls.length - 1 - k := ⟨_, rfl⟩
      have hjl : j < ls.length := by omega
      have j1 : (j : Int) < (ls.length : Int) := by omega
      have ww1 : IntKind.i64.wrap ((ls.length : Int) - 1) = (ls.length : Int) - 1 := IntWalk.i64_in _ (by omega)
      have ww2 : IntKind.i64.wrap ((ls.length : Int) - 1 - k) = j := by rw [show (ls.length : Int) - 1 - k = j by omega]; exact IntWalk.i64_in _ (by omega)
      obtain ⟨p0, p1, p2⟩ := Hcl.out j hjl
      obtain ⟨q0, q1, q2⟩ := Hcl.out k hlt
      replace p0 := hxr.cell p0
      replace p1 := hxr.cell p1
      replace p2 := hxr.cell p2
      have hst1 := rev_take ls k hlt
      have hst2 := high_take S ls k hlt
      rw [← hj'] at hst1
      rw [letD_at ls hjl] at p0 p1 p2 hst1
      rw [letD_at ls hlt] at q0 q1 q2
      have hfy := hf.out ls[k] (List.getElem_mem hlt)
      have hrl : (cellsL (ls.reverse.take k)).length = k * 3 := by rw [cellsL_len, List.length_take, List.length_reverse, Nat.min_eq_left hk]
      generalize ls[j] = z at *
      generalize ls[k] = y at *
      have Hst1 := Lib.hid hst1
      have Hst2 := Lib.hid hst2
      have Own1 := Lib.hid own1
      have Own2 := Lib.hid own2
      have HD := Lib.hid hD
      have Hj' := Lib.hid hj'
      clear hst1 hst2 own1 own2 hD hrl hj'
      go_upto_region 14 with (at_builtin; go_loud (refine wpList_append_own_at _ rfl _ _ 36 rfl R1.heap.size 40 i1 (.agg #[.int .u8 0, .int .i64 0, .bool false]) 3 24 Try.underlying36 hj hy0 hy1 hy2 rfl (by decide) u11 k _ rfl (World.ownsRow.alloc Own1.out _) ⟨wr.heap.size, 0, none⟩ 1 1 [.int .u8 z.c, .int .i64 z.sounds, .bool z.silent] rfl rfl (cell_three_new _ _ _ _ _) (by simp [Value.oneCell']) (by unfold maxLen; omega) (by omega) (by simp; omega) ?_; intro v1 w2 hown1 hgrow1 hnil1 hblk1; have Hown1 := Lib.hid hown1; have Hgrow1 := Lib.hid hgrow1; have Hblk1 := Lib.hid hblk1; clear hown1 hgrow1 hnil1 hblk1))
      obtain ⟨g1, eg1, lg1⟩ := own_some Hown1.out (by omega)
      have x2 : Ext R1 w2 := Ext.grown (hxr.alloc _) Hgrow1.out fun k hk => (Own1.out.lt k hk).1
      have own2 := (World.ownsRow.alloc Own2.out (.cells #[.int .u8 z.c, .int .i64 z.sounds, .bool z.silent] 40)).kept Hgrow1.out HD.out.kept
      have hD2 : v1.ownBlock ≠ u12.ownBlock := by
        rcases Hblk1.out with e | e
        · rcases HD.out with ⟨a, -⟩ | h
          · rw [e, a] at eg1; cases eg1
          · rw [e]; exact h
        · intro e2
          rw [e] at e2
          have h7 := (Own2.out.lt _ e2.symm).2
          have h8 : (wr.alloc (.cells #[.int .u8 z.c, .int .i64 z.sounds, .bool z.silent] 40)).heap.size = wr.heap.size + 1 := by simp
          omega
      have r0 := x2.cell q0
      have r1 := x2.cell q1
      have r2 := x2.cell q2
      have HD2 := Lib.hid hD2
      have Own2b := Lib.hid own2
      have zl2 : lb < w2.heap.size := cell_lt' r0
      have zO2 : O < w2.heap.size := cell_lt' (x2.cell HO.out)
      clear p0 p1 p2 ww1 ww2 j1 own2 hD2 q0 q1 q2
      go_upto_block 4 with fail
      have xa : Ext w2 (w2.alloc (.cells #[.int .u8 y.c, .int .i64 0, .bool y.silent] 40)) := ext_alloc _ _
      refine orders_b4 (y := y) (L := w2.heap.size) (xa.cell (x2.cell HO.out)) (by omega) ⟨by simp [go_sem], by simp [go_sem], by simp [go_sem], by simp [go_sem]⟩ hlt h6.2 (xa.cell r1) (by omega) hS hfy.2 _ ?_
      intro v15 v77 v78 v79 v80 v81 v82 v83 v84 v85 v86 v87 v88 v89 v90 v91 v92 v93 v94 v95 v96 v97 v98 v99 v100 v101 wc hcut
      obtain ⟨hb, hg⟩ := hcut
      have x3 : Ext w2 wc := Ext.grown xa hg fun k hk => by cases hk; exact Nat.le_refl _
      have own1c := Ext.owns Hown1.out x3
      have own2c := Ext.owns Own2b.out x3
      have l0 := hb.l0
      have l1 := hb.l1
      have l2 := hb.l2
      have x4 := x2.trans x3
      have hsz4 := x4.size
      have hsz3 := x3.size
      have hhi : highL S y = ⟨y.c, (turnN S.toNat y.sounds.toNat S.toNat : Nat), y.silent⟩ := rfl
      generalize turnN S.toNat y.sounds.toNat S.toNat = tn at *
      have Hhi := Lib.hid hhi
      have Own1c := Lib.hid own1c
      have Own2c := Lib.hid own2c
      clear hb hg own1c own2c hhi r0 r1 r2 xa
      go_upto_region 12 with (at_builtin; go_loud (refine wpList_append_own_at _ rfl _ _ 36 rfl R1.heap.size 40 i1 (.agg #[.int .u8 0, .int .i64 0, .bool false]) 3 24 Try.underlying36 hj hy0 hy1 hy2 rfl (by decide) u12 k _ rfl (World.ownsRow.alloc Own2c.out _) ⟨wc.heap.size, 0, none⟩ 1 1 [.int .u8 y.c, .int .i64 tn, .bool y.silent] rfl rfl (cell_three_new _ _ _ _ _) (by simp [Value.oneCell']) (by unfold maxLen; omega) (by omega) (by simp; omega) ?_; intro v2 w5 hown2 hgrow2 hnil2 hblk2; have Hown2 := Lib.hid hown2; have Hgrow2 := Lib.hid hgrow2; have Hblk2 := Lib.hid hblk2; clear hown2 hgrow2 hnil2 hblk2))
      have x5 : Ext R1 w5 := Ext.grown (x4.alloc _) Hgrow2.out fun k hk => (Own2c.out.lt k hk).1
      have own1f := (World.ownsRow.alloc Own1c.out (.cells #[.int .u8 y.c, .int .i64 tn, .bool y.silent] 40)).kept Hgrow2.out (.inr HD2.out)
      have hD3 : Two2 v1 v2 := by
        right
        rcases Hblk2.out with e | e
        · rw [e]; exact HD2.out
        · rw [e, eg1]
          intro e2
          simp only [Option.some.injEq] at e2
          simp at e2
          omega
      have own1g : w5.ownsRow R1.heap.size 40 3 v1 (k + 1) (cellsL (ls.reverse.take (k + 1))) := by rw [Hst1.out, cellsL_snoc]; exact own1f
      have own2g : w5.ownsRow R1.heap.size 40 3 v2 (k + 1) (cellsL ((ls.take (k + 1)).map (highL S))) := by rw [Hst2.out, cellsL_snoc, Hhi.out]; exact Hown2.out
      clear own1f l0 l1 l2
      go_wp2
      go_roundw
      case rel => exact ⟨k + 1, by omega, by go_num, own1g, own2g, hD3, x5⟩
      case measure => simp [intOf]; omega
    · obtain rfl : k = ls.length := by omega
      rw [List.take_of_length_le (by simp)] at own1
      rw [List.take_length] at own2
      go_wp2
      exact ⟨own1, own2, hxr⟩
end Go.Proofs.Ytoifmphpeflliaa

namespace Go.Proofs.Ytoifmphpeflliaa
open Go.RowKit
set_option linter.unusedVariables false

/-- a row of alphabets in a block from base on; nil if there are none -/
def RowUp (base : Nat) (w : World) (v : Value) (es : List EntA) : Prop :=
  (es = [] ∧ v = .slice none 0 0) ∨ ∃ g cap, v = .slice (some ⟨g, 0, none⟩) es.length cap ∧ 0 < es.length ∧ base ≤ g ∧ es.length ≤ cap ∧ cap ≤ 9223372036854775807 ∧ ∀ j u, (cellsA es)[j]? = some u → w.cell? ⟨g, j, none⟩ = some u
def RowA (base : Nat) (es : List EntA) (u : Value) (w : World) : Prop := w.ownsRow base 38 2 u es.length (cellsA es)
theorem RowA.ext {base : Nat} {l : List EntA} {u : Value} {w w' : World} (h : RowA base l u w) (hx : Ext w w') : RowA base l u w' := Ext.owns h hx
theorem RowA.grew {base : Nat} {l : List EntA} {u : Value} {n0 n : Nat} {w w' : World} (h : RowA base l u w) (hn : l.length * 2 ≤ n) (hx : Facts.App.Grew n0 n w w') : RowA base l u w' := hx.owns h hn
theorem RowA.up {base : Nat} {es : List EntA} {u : Value} {w : World} (h : RowA base es u w) (hn : 0 < es.length) : RowUp base w u es := by
  obtain ⟨g, cap, rfl, h1, h2, h3, h4⟩ := own_shape h hn
  refine .inr ⟨g, cap, rfl, hn, h1, h3, h4, fun j v hv => ?_⟩
  have := h.cells (g := g) rfl j v hv
  rwa [show (⟨g, 0, none⟩ : Addr).add j = ⟨g, 0 + j, none⟩ by unfold Addr.add; split <;> simp_all, Nat.zero_add] at this
theorem RowUp.grown {base M : Nat} {w w' : World} {v : Value} {es : List EntA} (h : RowUp base w v es) (hM : M < base) (hg : w.grownBy w' (some M)) : RowUp base w' v es := by
  rcases h with h | ⟨g, cap, e, h1, h2, h3, h4, h5⟩
  · exact .inl h
  · exact .inr ⟨g, cap, e, h1, h2, h3, h4, fun j u hu => hg.cell (h5 j u hu) (by simp; omega)⟩
theorem RowUp.weaken {base b0 : Nat} {w : World} {v : Value} {es : List EntA} (h : RowUp base w v es) (hb : b0 ≤ base) : RowUp b0 w v es := by
  rcases h with h | ⟨g, cap, e, h1, h2, h3, h4, h5⟩
  · exact .inl h
  · exact .inr ⟨g, cap, e, h1, by omega, h3, h4, h5⟩
/-- a row of nothing, with no room -/
def EmptyA (base : Nat) (u : Value) (w : World) : Prop := ∃ B, u = .slice (some ⟨B, 0, none⟩) 0 0 ∧ RowA base [] u w
theorem EmptyA.ext {base : Nat} {u : Value} {w w' : World} (h : EmptyA base u w) (hx : Ext w w') : EmptyA base u w' := by
  obtain ⟨B, e, h1⟩ := h; exact ⟨B, e, h1.ext hx⟩
theorem EmptyA.grew {base : Nat} {u : Value} {n0 n : Nat} {w w' : World} (h : EmptyA base u w) (hx : Facts.App.Grew n0 n w w') : EmptyA base u w' := by
  obtain ⟨B, e, h1⟩ := h; exact ⟨B, e, h1.grew (Nat.zero_le _) hx⟩
theorem EmptyA.row {base : Nat} {u : Value} {w : World} (h : EmptyA base u w) : RowA base [] u w := by
  obtain ⟨B, e, h1⟩ := h; exact h1
theorem EmptyA.full {base : Nat} {u : Value} {w : World} (h : EmptyA base u w) (m : Nat) (hm : 0 < m) : ∀ g cap, u = .slice (some ⟨g, 0, none⟩) 0 cap → cap < 0 + m := by
  obtain ⟨B, e, -⟩ := h
  intro g cap e2
  rw [e] at e2
  have := (Value.slice.inj e2).2.2
  omega
/-- one alphabet, in a block of its own -/
def NewA (x y : Value) (u : Value) (w : World) : Prop := ∃ B, u = .slice (some ⟨B, 0, none⟩) 1 1 ∧ w.cell? ⟨B, 0, none⟩ = some x ∧ w.cell? ⟨B, 1, none⟩ = some y
noncomputable def NewA.B {x y u : Value} {w : World} (h : NewA x y u w) : Nat := Exists.choose h
theorem NewA.spec {x y u : Value} {w : World} (h : NewA x y u w) : u = .slice (some ⟨h.B, 0, none⟩) 1 1 ∧ w.cell? ⟨h.B, 0, none⟩ = some x ∧ w.cell? ⟨h.B, 1, none⟩ = some y := Exists.choose_spec h
theorem NewA.ext {x y u : Value} {w w' : World} (h : NewA x y u w) (hx : Ext w w') : NewA x y u w' := by
  obtain ⟨B, h1, h2, h3⟩ := h; exact ⟨B, h1, hx.cell h2, hx.cell h3⟩
theorem NewA.grew {x y u : Value} {n0 n : Nat} {w w' : World} (h : NewA x y u w) (hn : 1 < n) (hx : Facts.App.Grew n0 n w w') : NewA x y u w' := by
  obtain ⟨B, h1, h2, h3⟩ := h; exact ⟨B, h1, hx.cell h2 (by omega), hx.cell h3 hn⟩
theorem two_new {x y : Value} {w : World} {B : Nat} (h0 : w.cell? ⟨B, 0, none⟩ = some x) (h1 : w.cell? ⟨B, 1, none⟩ = some y) : ∀ j v, [x, y][j]? = some v → w.cell? ((⟨B, 0, none⟩ : Addr).add j) = some v := by
  intro j v hj
  match j, hj with
  | 0, hj => simp at hj; subst hj; simpa [Addr.add] using h0
  | 1, hj => simp at hj; subst hj; simpa [Addr.add] using h1
theorem no_false' {X : Bool} (h : X = false) (h2 : X = true) : False := by rw [h] at h2; cases h2

def OrdRow (base : Nat) (w : World) (M : Nat) (es : List EntA) (wc : World) : Prop := ∃ v', wc.cell? ⟨M, 1, none⟩ = some v' ∧ RowUp base wc v' es ∧ w.grownBy wc (some M) ∧ wc.frozen? ⟨M, 1, none⟩ = false ∧ ∀ o v, o ≠ 1 → w.cell? ⟨M, o, none⟩ = some v → wc.cell? ⟨M, o, none⟩ = some v

set_option maxRecDepth 100000 in
set_option maxHeartbeats 4000000 in
theorem orders_r22_0 {u0 u1 u2 u4 u5 u6 u8 u10 u12 u13 u14 u15 u16 u17 u18 u19 u20 u21 u22 u23 u24 u25 u26 u27 u28 u29 u30 u31 u32 u33 u34 u35 u36 u37 u38 u39 u40 u41 u42 u43 u44 u45 u46 u47 u48 u49 u50 u51 u52 u53 u54 u55 u56 u57 u58 u59 u60 u61 u62 u63 u64 u65 u66 u67 u68 u69 u70 u71 u72 u73 u74 u75 u76 u77 u78 u79 u80 u81 u82 u83 u84 u85 u86 u87 u88 u89 u90 u91 u92 u93 u94 u95 u96 u97 u98 u99 u100 u101 u102 u103 u104 u105 u106 u107 u108 u109 u110 u111 u112 u113 u114 u115 u116 u117 u118 u119 u120 u121 u122 u123 u124 u125 u126 u127 u128 u129 u130 u131 u132 u133 u134 u135 u136 u137 u138 u139 u140 u141 u142 u143 u144 u145 u146 u147 u148 u149 u150 u151 u152 u153 u154 u155 u156 u157 u158 u159 u160 u161 u162 u163 u164 u165 u166 u167 u168 u169 u170 u171 u172 u173 u174 u175 u176 u177 u178 u179 u180 u181 u182 u183 u184 u185 u186 u187 u188 u189 u190 u191 u192 u193 u194 u195 u196 u197 u198 u199 u200 u201 u202 u203 u204 u205 u206 u207 u208 u209 u210 u211 u212 u213 u214 u215 u216 u217 u218 u219 u220 u221 u222 u223 u224 u225 u226 u227 u228 u229 u230 u231 u232 u233 u234 u235 u236 u237 u238 u239 u240 u241 u242 u243 u244 u245 u246 u247 u248 u249 u250 u251 u252 u253 u254 u255 u256 u257 u258 u259 u260 u261 u262 u263 u264 u265 u266 u267 u268 u269 u270 u271 u272 : Value} {O M ab ao n bc i : Nat} {w : World} {nm : ByteArray} {la : Option Addr} {ll lc : Nat} (hO : w.cell? ⟨O, 1, none⟩ = some (.slice (some ⟨ab, ao, none⟩) n bc)) (hi : i < n) (hn : n ≤ 3) (hnm : w.cell? ⟨ab, ao + i * 2, none⟩ = some (.string nm))
    (hM : w.cell? ⟨M, 1, none⟩ = some (.slice none 0 0)) (hMf : w.frozen? ⟨M, 1, none⟩ = false) {base : Nat} (hb : base ≤ w.heap.size) (Q : Exit → Act → World → Prop)
    (hQ : ∀ (v106 v107 v108 v109 v110 v111 v112 v113 v114 v115 v116 v117 v118 v119 v120 : Value) (wc : World), OrdRow base w M [(nm, .slice la ll lc)] wc → Q .normal ⟨#[u0, u1, u2, .pointer (some ⟨O, 0, none⟩), u4, u5, u6, .pointer (some ⟨M, 0, none⟩), u8, .int .i64 i, u10, .slice la ll lc, u12, u13, u14, u15, u16, u17, u18, u19, u20, u21, u22, u23, u24, u25, u26, u27, u28, u29, u30, u31, u32, u33, u34, u35, u36, u37, u38, u39, u40, u41, u42, u43, u44, u45, u46, u47, u48, u49, u50, u51, u52, u53, u54, u55, u56, u57, u58, u59, u60, u61, u62, u63, u64, u65, u66, u67, u68, u69, u70, u71, u72, u73, u74, u75, u76, u77, u78, u79, u80, u81, u82, u83, u84, u85, u86, u87, u88, u89, u90, u91, u92, u93, u94, u95, u96, u97, u98, u99, u100, u101, u102, u103, u104, u105, v106, v107, v108, v109, v110, v111, v112, v113, v114, v115, v116, v117, v118, v119, v120, u121, u122, u123, u124, u125, u126, u127, u128, u129, u130, u131, u132, u133, u134, u135, u136, u137, u138, u139, u140, u141, u142, u143, u144, u145, u146, u147, u148, u149, u150, u151, u152, u153, u154, u155, u156, u157, u158, u159, u160, u161, u162, u163, u164, u165, u166, u167, u168, u169, u170, u171, u172, u173, u174, u175, u176, u177, u178, u179, u180, u181, u182, u183, u184, u185, u186, u187, u188, u189, u190, u191, u192, u193, u194, u195, u196, u197, u198, u199, u200, u201, u202, u203, u204, u205, u206, u207, u208, u209, u210, u211, u212, u213, u214, u215, u216, u217, u218, u219, u220, u221, u222, u223, u224, u225, u226, u227, u228, u229, u230, u231, u232, u233, u234, u235, u236, u237, u238, u239, u240, u241, u242, u243, u244, u245, u246, u247, u248, u249, u250, u251, u252, u253, u254, u255, u256, u257, u258, u259, u260, u261, u262, u263, u264, u265, u266, u267, u268, u269, u270, u271, u272], []⟩ wc) :
    Code.wp Try.prog (regionOf Try.f6 22) Q ⟨#[u0, u1, u2, .pointer (some ⟨O, 0, none⟩), u4, u5, u6, .pointer (some ⟨M, 0, none⟩), u8, .int .i64 i, u10, .slice la ll lc, u12, u13, u14, u15, u16, u17, u18, u19, u20, u21, u22, u23, u24, u25, u26, u27, u28, u29, u30, u31, u32, u33, u34, u35, u36, u37, u38, u39, u40, u41, u42, u43, u44, u45, u46, u47, u48, u49, u50, u51, u52, u53, u54, u55, u56, u57, u58, u59, u60, u61, u62, u63, u64, u65, u66, u67, u68, u69, u70, u71, u72, u73, u74, u75, u76, u77, u78, u79, u80, u81, u82, u83, u84, u85, u86, u87, u88, u89, u90, u91, u92, u93, u94, u95, u96, u97, u98, u99, u100, u101, u102, u103, u104, u105, u106, u107, u108, u109, u110, u111, u112, u113, u114, u115, u116, u117, u118, u119, u120, u121, u122, u123, u124, u125, u126, u127, u128, u129, u130, u131, u132, u133, u134, u135, u136, u137, u138, u139, u140, u141, u142, u143, u144, u145, u146, u147, u148, u149, u150, u151, u152, u153, u154, u155, u156, u157, u158, u159, u160, u161, u162, u163, u164, u165, u166, u167, u168, u169, u170, u171, u172, u173, u174, u175, u176, u177, u178, u179, u180, u181, u182, u183, u184, u185, u186, u187, u188, u189, u190, u191, u192, u193, u194, u195, u196, u197, u198, u199, u200, u201, u202, u203, u204, u205, u206, u207, u208, u209, u210, u211, u212, u213, u214, u215, u216, u217, u218, u219, u220, u221, u222, u223, u224, u225, u226, u227, u228, u229, u230, u231, u232, u233, u234, u235, u236, u237, u238, u239, u240, u241, u242, u243, u244, u245, u246, u247, u248, u249, u250, u251, u252, u253, u254, u255, u256, u257, u258, u259, u260, u261, u262, u263, u264, u265, u266, u267, u268, u269, u270, u271, u272], []⟩ w := by
  conv => arg 2; whnf
  obtain ⟨i0, hi0, hz0, hz1, hz2⟩ := info_parts infoAlphabet
  have k1 : (i : Int) < (n : Int) := by omega
  have HQ := Lib.hid hQ
  clear hQ
  apply Facts.wp_frame
  intro A hA
  have f3 : ∀ h, A.tmps[3]'h = .pointer (some ⟨O, 0, none⟩) := by rw [hA]; exact fun _ => rfl
  have f7 : ∀ h, A.tmps[7]'h = .pointer (some ⟨M, 0, none⟩) := by rw [hA]; exact fun _ => rfl
  have f9 : ∀ h, A.tmps[9]'h = .int .i64 i := by rw [hA]; exact fun _ => rfl
  have f11 : ∀ h, A.tmps[11]'h = .slice la ll lc := by rw [hA]; exact fun _ => rfl
  have fsz : A.tmps.size = 273 := by rw [hA]; rfl
  have HA := Lib.hid hA
  clear hA
  apply Facts.Peel.wp_regionL (⟨fun _ _ h => h, fun _ _ _ h k => h.trans k, fun _ _ _ h k => h.trans k, Ext.refl, fun a => ext_drew a⟩ : Facts.Piv.Two Ext Ext) 15 13 [.fact (EmptyA w.heap.size), .val _, .val _, .fact (EmptyA w.heap.size), .val _, .val _, .val _, .val _, .val _, .val (.string nm), .val _, .val _, .fact (NewA (.string nm) (.slice la ll lc)), .fact (RowA w.heap.size [(nm, .slice la ll lc)]), .val (.pointer (some ⟨M, 1, none⟩))] (by kernel_rfl) (by kernel_rfl) (by kernel_rfl) (by kernel_rfl) (by kernel_rfl) (by kernel_rfl) ?keep ?main
  case keep => exact ⟨fun u a c hx h => h.ext hx, fun _ _ u a c hx h => h.ext hx, fun u a c hx h => h.ext hx, fun _ _ u a c hx h => h.ext hx, fun u a c hx h => h.ext hx, fun _ _ u a c hx h => h.ext hx, fun u a c hx h => h.ext hx, fun _ _ u a c hx h => h.ext hx, trivial⟩
  case main =>
    simp only [List.take_succ_cons, List.take_zero, List.getD_cons_succ, List.getD_cons_zero]
    refine ⟨fun w1 hx hh => ?_, ?_⟩
    · clear hh
      have hsz1 := hx.size
      go_simp
      exact ⟨ext_alloc _ _, w1.heap.size, rfl, World.ownsRow_made w1 #[] 0 hsz1 (by unfold maxLen; omega) rfl⟩
    intro x0
    iterate 2 (refine ⟨fun w1 hC hh => ?_, ?_⟩; focus (have hx := hC; clear hh hC; have e0 := hx.cell hM; go_simp; first | exact ⟨Ext.refl _, rfl⟩ | exact Ext.refl _))
    refine ⟨fun w1 hx hh => ?_, ?_⟩
    · have h0 : EmptyA w.heap.size x0 w1 := hh 0 _ List.mem_cons_self (by kernel_rfl)
      clear hh
      refine Facts.App.stepG_append_none rfl (.tmp 106) (.tmp 108) 22 rfl w.heap.size 38 i0 2 Try.underlying22 hi0 x0 0 [] (by go_simp) h0.row (by go_simp) ?_
      exact ⟨Ext.refl _, h0⟩
    intro x3
    iterate 8 (refine ⟨fun w1 hC hh => ?_, ?_⟩; focus (have hx := hC; clear hh hC; have e0 := hx.cell hO; have e1 := hx.cell hnm; go_simp; first | exact ⟨Ext.refl _, rfl⟩ | exact Ext.refl _))
    refine ⟨fun w1 hx hh => ?_, ?_⟩
    · clear hh
      have hsz1 := hx.size
      go_simp
      exact ⟨ext_alloc _ _, w1.heap.size, rfl, by simp [go_sem], by simp [go_sem]⟩
    intro x12
    refine ⟨fun w1 hx hh => ?_, ?_⟩
    · have h3 : EmptyA w.heap.size x3 w1 := hh 3 _ (List.mem_cons_of_mem _ List.mem_cons_self) (by kernel_rfl)
      have h12 : NewA (.string nm) (.slice la ll lc) x12 w1 := hh 12 _ List.mem_cons_self (by kernel_rfl)
      clear hh
      have s12 := h12.spec
      generalize h12.B = B at *
      have e12 := s12.1
      have c0 := s12.2.1
      have c1 := s12.2.2
      clear s12 h12
      subst e12
      have hsz1 := hx.size
      refine Facts.App.stepG_append_grew rfl (.tmp 109) (.tmp 118) 22 rfl w.heap.size 38 i0 (.agg #[.string ByteArray.empty, .slice none 0 0]) 2 40 Try.underlying22 hi0 hz0 hz1 hz2 rfl (by decide) x3 0 [] (by go_simp) h3.row ⟨B, 0, none⟩ 1 1 [.string nm, .slice la ll lc] (by go_simp) rfl (two_new c0 c1) (by simp [Value.oneCell']) (by unfold maxLen; omega) (by omega) (by omega) ?_
      intro v' w' ho hg hx2
      exact ⟨hx2 (h3.full 1 (by omega)), ho⟩
    intro x13
    iterate 1 (refine ⟨fun w1 hC hh => ?_, ?_⟩; focus (have hx := hC; clear hh hC; skip; go_simp; first | exact ⟨Ext.refl _, rfl⟩ | exact Ext.refl _))
    intro w5 hx5 hh
    have h13 : RowA w.heap.size [(nm, .slice la ll lc)] x13 w5 := hh 13 _ List.mem_cons_self
    clear hh
    obtain ⟨g, cap, rfl, b1, b2, b3, b4⟩ := own_shape h13 (by simp)
    have m1 := hx5.cell hM
    have mf := (hx5.frozen (p := ⟨M, 1, none⟩) (cell_lt hM)).trans hMf
    have mlt : M < w.heap.size := cell_lt hM
    have H13 := Lib.hid h13
    clear h13
    refine ⟨rfl, ?_⟩
    have hA := HA.out
    subst hA
    have hQ := HQ.out
    go_simp
    exact hQ _ _ _ _ _ _ _ _ _ _ _ _ _ _ _ _ ⟨_, set_cell m1 _, ((H13.out.up (by simp)).grown mlt (grown_set w5 ⟨M, 1, none⟩ _)).weaken hb, World.grownBy.trans (Facts.App.But.of_ext hx5) (grown_set w5 ⟨M, 1, none⟩ _), by simpa [go_sem] using mf, fun o v ho hv => set_other (hx5.cell hv) (.inr (Ne.symm ho)) _⟩
set_option maxRecDepth 100000 in
set_option maxHeartbeats 4000000 in
theorem orders_r22_1 {u0 u1 u2 u4 u5 u6 u8 u10 u12 u13 u14 u15 u16 u17 u18 u19 u20 u21 u22 u23 u24 u25 u26 u27 u28 u29 u30 u31 u32 u33 u34 u35 u36 u37 u38 u39 u40 u41 u42 u43 u44 u45 u46 u47 u48 u49 u50 u51 u52 u53 u54 u55 u56 u57 u58 u59 u60 u61 u62 u63 u64 u65 u66 u67 u68 u69 u70 u71 u72 u73 u74 u75 u76 u77 u78 u79 u80 u81 u82 u83 u84 u85 u86 u87 u88 u89 u90 u91 u92 u93 u94 u95 u96 u97 u98 u99 u100 u101 u102 u103 u104 u105 u106 u107 u108 u109 u110 u111 u112 u113 u114 u115 u116 u117 u118 u119 u120 u121 u122 u123 u124 u125 u126 u127 u128 u129 u130 u131 u132 u133 u134 u135 u136 u137 u138 u139 u140 u141 u142 u143 u144 u145 u146 u147 u148 u149 u150 u151 u152 u153 u154 u155 u156 u157 u158 u159 u160 u161 u162 u163 u164 u165 u166 u167 u168 u169 u170 u171 u172 u173 u174 u175 u176 u177 u178 u179 u180 u181 u182 u183 u184 u185 u186 u187 u188 u189 u190 u191 u192 u193 u194 u195 u196 u197 u198 u199 u200 u201 u202 u203 u204 u205 u206 u207 u208 u209 u210 u211 u212 u213 u214 u215 u216 u217 u218 u219 u220 u221 u222 u223 u224 u225 u226 u227 u228 u229 u230 u231 u232 u233 u234 u235 u236 u237 u238 u239 u240 u241 u242 u243 u244 u245 u246 u247 u248 u249 u250 u251 u252 u253 u254 u255 u256 u257 u258 u259 u260 u261 u262 u263 u264 u265 u266 u267 u268 u269 u270 u271 u272 : Value} {O M ab ao n bc i : Nat} {w : World} {nm : ByteArray} {la : Option Addr} {ll lc : Nat} (hO : w.cell? ⟨O, 1, none⟩ = some (.slice (some ⟨ab, ao, none⟩) n bc)) (hi : i < n) (hn : n ≤ 3) (hnm : w.cell? ⟨ab, ao + i * 2, none⟩ = some (.string nm))
    {g0 c0' : Nat} {es : List EntA} (hes0 : 0 < es.length) (hes3 : es.length ≤ 3) (hesc : Hid (∀ j u, (cellsA es)[j]? = some u → w.cell? ⟨g0, j, none⟩ = some u)) (heso : Hid (∀ u ∈ cellsA es, u.oneCell' = true)) (hM : w.cell? ⟨M, 1, none⟩ = some (.slice (some ⟨g0, 0, none⟩) es.length c0')) (hMf : w.frozen? ⟨M, 1, none⟩ = false) {base : Nat} (hb : base ≤ w.heap.size) (Q : Exit → Act → World → Prop)
    (hQ : ∀ (v106 v107 v108 v109 v110 v111 v112 v113 v114 v115 v116 v117 v118 v119 v120 : Value) (wc : World), OrdRow base w M (es ++ [(nm, .slice la ll lc)]) wc → Q .normal ⟨#[u0, u1, u2, .pointer (some ⟨O, 0, none⟩), u4, u5, u6, .pointer (some ⟨M, 0, none⟩), u8, .int .i64 i, u10, .slice la ll lc, u12, u13, u14, u15, u16, u17, u18, u19, u20, u21, u22, u23, u24, u25, u26, u27, u28, u29, u30, u31, u32, u33, u34, u35, u36, u37, u38, u39, u40, u41, u42, u43, u44, u45, u46, u47, u48, u49, u50, u51, u52, u53, u54, u55, u56, u57, u58, u59, u60, u61, u62, u63, u64, u65, u66, u67, u68, u69, u70, u71, u72, u73, u74, u75, u76, u77, u78, u79, u80, u81, u82, u83, u84, u85, u86, u87, u88, u89, u90, u91, u92, u93, u94, u95, u96, u97, u98, u99, u100, u101, u102, u103, u104, u105, v106, v107, v108, v109, v110, v111, v112, v113, v114, v115, v116, v117, v118, v119, v120, u121, u122, u123, u124, u125, u126, u127, u128, u129, u130, u131, u132, u133, u134, u135, u136, u137, u138, u139, u140, u141, u142, u143, u144, u145, u146, u147, u148, u149, u150, u151, u152, u153, u154, u155, u156, u157, u158, u159, u160, u161, u162, u163, u164, u165, u166, u167, u168, u169, u170, u171, u172, u173, u174, u175, u176, u177, u178, u179, u180, u181, u182, u183, u184, u185, u186, u187, u188, u189, u190, u191, u192, u193, u194, u195, u196, u197, u198, u199, u200, u201, u202, u203, u204, u205, u206, u207, u208, u209, u210, u211, u212, u213, u214, u215, u216, u217, u218, u219, u220, u221, u222, u223, u224, u225, u226, u227, u228, u229, u230, u231, u232, u233, u234, u235, u236, u237, u238, u239, u240, u241, u242, u243, u244, u245, u246, u247, u248, u249, u250, u251, u252, u253, u254, u255, u256, u257, u258, u259, u260, u261, u262, u263, u264, u265, u266, u267, u268, u269, u270, u271, u272], []⟩ wc) :
    Code.wp Try.prog (regionOf Try.f6 22) Q ⟨#[u0, u1, u2, .pointer (some ⟨O, 0, none⟩), u4, u5, u6, .pointer (some ⟨M, 0, none⟩), u8, .int .i64 i, u10, .slice la ll lc, u12, u13, u14, u15, u16, u17, u18, u19, u20, u21, u22, u23, u24, u25, u26, u27, u28, u29, u30, u31, u32, u33, u34, u35, u36, u37, u38, u39, u40, u41, u42, u43, u44, u45, u46, u47, u48, u49, u50, u51, u52, u53, u54, u55, u56, u57, u58, u59, u60, u61, u62, u63, u64, u65, u66, u67, u68, u69, u70, u71, u72, u73, u74, u75, u76, u77, u78, u79, u80, u81, u82, u83, u84, u85, u86, u87, u88, u89, u90, u91, u92, u93, u94, u95, u96, u97, u98, u99, u100, u101, u102, u103, u104, u105, u106, u107, u108, u109, u110, u111, u112, u113, u114, u115, u116, u117, u118, u119, u120, u121, u122, u123, u124, u125, u126, u127, u128, u129, u130, u131, u132, u133, u134, u135, u136, u137, u138, u139, u140, u141, u142, u143, u144, u145, u146, u147, u148, u149, u150, u151, u152, u153, u154, u155, u156, u157, u158, u159, u160, u161, u162, u163, u164, u165, u166, u167, u168, u169, u170, u171, u172, u173, u174, u175, u176, u177, u178, u179, u180, u181, u182, u183, u184, u185, u186, u187, u188, u189, u190, u191, u192, u193, u194, u195, u196, u197, u198, u199, u200, u201, u202, u203, u204, u205, u206, u207, u208, u209, u210, u211, u212, u213, u214, u215, u216, u217, u218, u219, u220, u221, u222, u223, u224, u225, u226, u227, u228, u229, u230, u231, u232, u233, u234, u235, u236, u237, u238, u239, u240, u241, u242, u243, u244, u245, u246, u247, u248, u249, u250, u251, u252, u253, u254, u255, u256, u257, u258, u259, u260, u261, u262, u263, u264, u265, u266, u267, u268, u269, u270, u271, u272], []⟩ w := by
  conv => arg 2; whnf
  obtain ⟨i0, hi0, hz0, hz1, hz2⟩ := info_parts infoAlphabet
  have k1 : (i : Int) < (n : Int) := by omega
  have HQ := Lib.hid hQ
  clear hQ
  apply Facts.wp_frame
  intro A hA
  have f3 : ∀ h, A.tmps[3]'h = .pointer (some ⟨O, 0, none⟩) := by rw [hA]; exact fun _ => rfl
  have f7 : ∀ h, A.tmps[7]'h = .pointer (some ⟨M, 0, none⟩) := by rw [hA]; exact fun _ => rfl
  have f9 : ∀ h, A.tmps[9]'h = .int .i64 i := by rw [hA]; exact fun _ => rfl
  have f11 : ∀ h, A.tmps[11]'h = .slice la ll lc := by rw [hA]; exact fun _ => rfl
  have fsz : A.tmps.size = 273 := by rw [hA]; rfl
  have HA := Lib.hid hA
  clear hA
  apply Facts.Peel.wp_regionL (Facts.App.two_grew w.heap.size (es.length * 2)) 15 13 [.fact (EmptyA w.heap.size), .val _, .val _, .fact (RowA w.heap.size es), .val _, .val _, .val _, .val _, .val _, .val (.string nm), .val _, .val _, .fact (NewA (.string nm) (.slice la ll lc)), .fact (RowA w.heap.size (es ++ [(nm, .slice la ll lc)])), .val (.pointer (some ⟨M, 1, none⟩))] (by kernel_rfl) (by kernel_rfl) (by kernel_rfl) (by kernel_rfl) (by kernel_rfl) (by kernel_rfl) ?keep ?main
  case keep => exact ⟨fun u a c hx h => h.ext hx, fun _ _ u a c hx h => h.grew hx, fun u a c hx h => h.ext hx, fun _ _ u a c hx h => h.grew (Nat.le_refl _) hx, fun u a c hx h => h.ext hx, fun _ _ u a c hx h => h.grew (by omega) hx, fun u a c hx h => h.ext hx, fun h => absurd rfl h, trivial⟩
  case main =>
    simp only [List.take_succ_cons, List.take_zero, List.getD_cons_succ, List.getD_cons_zero]
    refine ⟨fun w1 hC hh => ?_, ?_⟩
    · have hx := hC.below rfl (Ext.refl _)
      clear hh hC
      have hsz1 := hx.size
      go_simp
      exact ⟨ext_alloc _ _, w1.heap.size, rfl, World.ownsRow_made w1 #[] 0 hsz1 (by unfold maxLen; omega) rfl⟩
    intro x0
    iterate 2 (refine ⟨fun w1 hC hh => ?_, ?_⟩; focus (have hx := hC.below rfl (Ext.refl _); clear hh hC; have e0 := hx.cell hM; go_simp; first | exact ⟨Ext.refl _, rfl⟩ | exact Ext.refl _))
    refine ⟨fun w1 hC hh => ?_, ?_⟩
    · have h0 : EmptyA w.heap.size x0 w1 := hh 0 _ List.mem_cons_self (by kernel_rfl)
      have hx := hC.below rfl (Ext.refl _)
      clear hh hC
      have hsz1 := hx.size
      have hel := cellsA_len es
      refine Facts.App.stepG_append_grew rfl (.tmp 106) (.tmp 108) 22 rfl w.heap.size 38 i0 (.agg #[.string ByteArray.empty, .slice none 0 0]) 2 40 Try.underlying22 hi0 hz0 hz1 hz2 rfl (by decide) x0 0 [] (by go_simp) h0.row ⟨g0, 0, none⟩ es.length c0' (cellsA es) (by go_simp) hel (fun j u hu => by
        rw [show (⟨g0, 0, none⟩ : Addr).add j = ⟨g0, 0 + j, none⟩ by unfold Addr.add; split <;> simp_all, Nat.zero_add]
        exact hx.cell (hesc.out j u hu)) heso.out (by unfold maxLen; omega) (by omega) (by omega) ?_
      intro v' w' ho hg hx2
      exact ⟨hx2 (h0.full _ hes0), by rw [Nat.zero_add, List.nil_append] at ho; exact ho⟩
    intro x3
    iterate 8 (refine ⟨fun w1 hC hh => ?_, ?_⟩; focus (have hx := hC.below rfl (Ext.refl _); clear hh hC; have e0 := hx.cell hO; have e1 := hx.cell hnm; go_simp; first | exact ⟨Ext.refl _, rfl⟩ | exact Ext.refl _))
    refine ⟨fun w1 hC hh => ?_, ?_⟩
    · clear hh hC
      go_simp
      exact ⟨ext_alloc _ _, w1.heap.size, rfl, by simp [go_sem], by simp [go_sem]⟩
    intro x12
    refine ⟨fun w1 hC hh => ?_, ?_⟩
    · have h3 : RowA w.heap.size es x3 w1 := hh 3 _ (List.mem_cons_of_mem _ List.mem_cons_self) (by kernel_rfl)
      have h12 : NewA (.string nm) (.slice la ll lc) x12 w1 := hh 12 _ List.mem_cons_self (by kernel_rfl)
      have hx := hC.below rfl (Ext.refl _)
      clear hh hC
      have s12 := h12.spec
      generalize h12.B = B at *
      have e12 := s12.1
      have c0 := s12.2.1
      have c1 := s12.2.2
      clear s12 h12
      subst e12
      have hsz1 := hx.size
      refine Facts.App.stepG_append_grew rfl (.tmp 109) (.tmp 118) 22 rfl w.heap.size 38 i0 (.agg #[.string ByteArray.empty, .slice none 0 0]) 2 40 Try.underlying22 hi0 hz0 hz1 hz2 rfl (by decide) x3 es.length (cellsA es) (by go_simp) h3 ⟨B, 0, none⟩ 1 1 [.string nm, .slice la ll lc] (by go_simp) rfl (two_new c0 c1) (by simp [Value.oneCell']) (by unfold maxLen; omega) (by omega) (by omega) ?_
      intro v' w' ho hg hx2
      exact ⟨hg, by unfold RowA; rw [List.length_append, cellsA_snoc]; exact ho⟩
    intro x13
    iterate 1 (refine ⟨fun w1 hC hh => ?_, ?_⟩; focus (have hx := hC.below rfl (Ext.refl _); clear hh hC; skip; go_simp; first | exact ⟨Ext.refl _, rfl⟩ | exact Ext.refl _))
    intro w5 hC hh
    have h13 : RowA w.heap.size (es ++ [(nm, .slice la ll lc)]) x13 w5 := hh 13 _ List.mem_cons_self
    have hx5 := hC.below rfl (Ext.refl _)
    clear hh hC
    obtain ⟨g, cap, rfl, b1, b2, b3, b4⟩ := own_shape h13 (by simp)
    have m1 := hx5.cell hM
    have mf := (hx5.frozen (p := ⟨M, 1, none⟩) (cell_lt hM)).trans hMf
    have mlt : M < w.heap.size := cell_lt hM
    have H13 := Lib.hid h13
    clear h13
    refine ⟨rfl, ?_⟩
    have hA := HA.out
    subst hA
    have hQ := HQ.out
    have hl2 : 0 < (es ++ [(nm, Value.slice la ll lc)]).length := by simp
    have Hl2 := Lib.hid hl2
    clear hl2
    generalize (es ++ [(nm, Value.slice la ll lc)]) = es2 at *
    go_simp
    exact hQ _ _ _ _ _ _ _ _ _ _ _ _ _ _ _ _ ⟨_, set_cell m1 _, ((H13.out.up Hl2.out).grown mlt (grown_set w5 ⟨M, 1, none⟩ _)).weaken hb, World.grownBy.trans (Facts.App.But.of_ext hx5) (grown_set w5 ⟨M, 1, none⟩ _), by simpa [go_sem] using mf, fun o v ho hv => set_other (hx5.cell hv) (.inr (Ne.symm ho)) _⟩

set_option maxRecDepth 100000 in
set_option maxHeartbeats 4000000 in
theorem orders_r23_0 {u0 u1 u2 u4 u5 u6 u7 u10 u11 u13 u14 u15 u16 u17 u18 u19 u20 u21 u22 u23 u24 u25 u26 u27 u28 u29 u30 u31 u32 u33 u34 u35 u36 u37 u38 u39 u40 u41 u42 u43 u44 u45 u46 u47 u48 u49 u50 u51 u52 u53 u54 u55 u56 u57 u58 u59 u60 u61 u62 u63 u64 u65 u66 u67 u68 u69 u70 u71 u72 u73 u74 u75 u76 u77 u78 u79 u80 u81 u82 u83 u84 u85 u86 u87 u88 u89 u90 u91 u92 u93 u94 u95 u96 u97 u98 u99 u100 u101 u102 u103 u104 u105 u106 u107 u108 u109 u110 u111 u112 u113 u114 u115 u116 u117 u118 u119 u120 u121 u122 u123 u124 u125 u126 u127 u128 u129 u130 u131 u132 u133 u134 u135 u136 u137 u138 u139 u140 u141 u142 u143 u144 u145 u146 u147 u148 u149 u150 u151 u152 u153 u154 u155 u156 u157 u158 u159 u160 u161 u162 u163 u164 u165 u166 u167 u168 u169 u170 u171 u172 u173 u174 u175 u176 u177 u178 u179 u180 u181 u182 u183 u184 u185 u186 u187 u188 u189 u190 u191 u192 u193 u194 u195 u196 u197 u198 u199 u200 u201 u202 u203 u204 u205 u206 u207 u208 u209 u210 u211 u212 u213 u214 u215 u216 u217 u218 u219 u220 u221 u222 u223 u224 u225 u226 u227 u228 u229 u230 u231 u232 u233 u234 u235 u236 u237 u238 u239 u240 u241 u242 u243 u244 u245 u246 u247 u248 u249 u250 u251 u252 u253 u254 u255 u256 u257 u258 u259 u260 u261 u262 u263 u264 u265 u266 u267 u268 u269 u270 u271 u272 : Value} {O M ab ao n bc i : Nat} {w : World} {nm : ByteArray} {la : Option Addr} {ll lc : Nat} (hO : w.cell? ⟨O, 1, none⟩ = some (.slice (some ⟨ab, ao, none⟩) n bc)) (hi : i < n) (hn : n ≤ 3) (hnm : w.cell? ⟨ab, ao + i * 2, none⟩ = some (.string nm))
    (hM : w.cell? ⟨M, 1, none⟩ = some (.slice none 0 0)) (hMf : w.frozen? ⟨M, 1, none⟩ = false) {base : Nat} (hb : base ≤ w.heap.size) (Q : Exit → Act → World → Prop)
    (hQ : ∀ (v121 v122 v123 v124 v125 v126 v127 v128 v129 v130 v131 v132 v133 v134 v135 : Value) (wc : World), OrdRow base w M [(nm, .slice la ll lc)] wc → Q .normal ⟨#[u0, u1, u2, .pointer (some ⟨O, 0, none⟩), u4, u5, u6, u7, .pointer (some ⟨M, 0, none⟩), .int .i64 i, u10, u11, .slice la ll lc, u13, u14, u15, u16, u17, u18, u19, u20, u21, u22, u23, u24, u25, u26, u27, u28, u29, u30, u31, u32, u33, u34, u35, u36, u37, u38, u39, u40, u41, u42, u43, u44, u45, u46, u47, u48, u49, u50, u51, u52, u53, u54, u55, u56, u57, u58, u59, u60, u61, u62, u63, u64, u65, u66, u67, u68, u69, u70, u71, u72, u73, u74, u75, u76, u77, u78, u79, u80, u81, u82, u83, u84, u85, u86, u87, u88, u89, u90, u91, u92, u93, u94, u95, u96, u97, u98, u99, u100, u101, u102, u103, u104, u105, u106, u107, u108, u109, u110, u111, u112, u113, u114, u115, u116, u117, u118, u119, u120, v121, v122, v123, v124, v125, v126, v127, v128, v129, v130, v131, v132, v133, v134, v135, u136, u137, u138, u139, u140, u141, u142, u143, u144, u145, u146, u147, u148, u149, u150, u151, u152, u153, u154, u155, u156, u157, u158, u159, u160, u161, u162, u163, u164, u165, u166, u167, u168, u169, u170, u171, u172, u173, u174, u175, u176, u177, u178, u179, u180, u181, u182, u183, u184, u185, u186, u187, u188, u189, u190, u191, u192, u193, u194, u195, u196, u197, u198, u199, u200, u201, u202, u203, u204, u205, u206, u207, u208, u209, u210, u211, u212, u213, u214, u215, u216, u217, u218, u219, u220, u221, u222, u223, u224, u225, u226, u227, u228, u229, u230, u231, u232, u233, u234, u235, u236, u237, u238, u239, u240, u241, u242, u243, u244, u245, u246, u247, u248, u249, u250, u251, u252, u253, u254, u255, u256, u257, u258, u259, u260, u261, u262, u263, u264, u265, u266, u267, u268, u269, u270, u271, u272], []⟩ wc) :
    Code.wp Try.prog (regionOf Try.f6 23) Q ⟨#[u0, u1, u2, .pointer (some ⟨O, 0, none⟩), u4, u5, u6, u7, .pointer (some ⟨M, 0, none⟩), .int .i64 i, u10, u11, .slice la ll lc, u13, u14, u15, u16, u17, u18, u19, u20, u21, u22, u23, u24, u25, u26, u27, u28, u29, u30, u31, u32, u33, u34, u35, u36, u37, u38, u39, u40, u41, u42, u43, u44, u45, u46, u47, u48, u49, u50, u51, u52, u53, u54, u55, u56, u57, u58, u59, u60, u61, u62, u63, u64, u65, u66, u67, u68, u69, u70, u71, u72, u73, u74, u75, u76, u77, u78, u79, u80, u81, u82, u83, u84, u85, u86, u87, u88, u89, u90, u91, u92, u93, u94, u95, u96, u97, u98, u99, u100, u101, u102, u103, u104, u105, u106, u107, u108, u109, u110, u111, u112, u113, u114, u115, u116, u117, u118, u119, u120, u121, u122, u123, u124, u125, u126, u127, u128, u129, u130, u131, u132, u133, u134, u135, u136, u137, u138, u139, u140, u141, u142, u143, u144, u145, u146, u147, u148, u149, u150, u151, u152, u153, u154, u155, u156, u157, u158, u159, u160, u161, u162, u163, u164, u165, u166, u167, u168, u169, u170, u171, u172, u173, u174, u175, u176, u177, u178, u179, u180, u181, u182, u183, u184, u185, u186, u187, u188, u189, u190, u191, u192, u193, u194, u195, u196, u197, u198, u199, u200, u201, u202, u203, u204, u205, u206, u207, u208, u209, u210, u211, u212, u213, u214, u215, u216, u217, u218, u219, u220, u221, u222, u223, u224, u225, u226, u227, u228, u229, u230, u231, u232, u233, u234, u235, u236, u237, u238, u239, u240, u241, u242, u243, u244, u245, u246, u247, u248, u249, u250, u251, u252, u253, u254, u255, u256, u257, u258, u259, u260, u261, u262, u263, u264, u265, u266, u267, u268, u269, u270, u271, u272], []⟩ w := by
  conv => arg 2; whnf
  obtain ⟨i0, hi0, hz0, hz1, hz2⟩ := info_parts infoAlphabet
  have k1 : (i : Int) < (n : Int) := by omega
  have HQ := Lib.hid hQ
  clear hQ
  apply Facts.wp_frame
  intro A hA
  have f3 : ∀ h, A.tmps[3]'h = .pointer (some ⟨O, 0, none⟩) := by rw [hA]; exact fun _ => rfl
  have f8 : ∀ h, A.tmps[8]'h = .pointer (some ⟨M, 0, none⟩) := by rw [hA]; exact fun _ => rfl
  have f9 : ∀ h, A.tmps[9]'h = .int .i64 i := by rw [hA]; exact fun _ => rfl
  have f12 : ∀ h, A.tmps[12]'h = .slice la ll lc := by rw [hA]; exact fun _ => rfl
  have fsz : A.tmps.size = 273 := by rw [hA]; rfl
  have HA := Lib.hid hA
  clear hA
  apply Facts.Peel.wp_regionL (⟨fun _ _ h => h, fun _ _ _ h k => h.trans k, fun _ _ _ h k => h.trans k, Ext.refl, fun a => ext_drew a⟩ : Facts.Piv.Two Ext Ext) 15 13 [.fact (EmptyA w.heap.size), .val _, .val _, .fact (EmptyA w.heap.size), .val _, .val _, .val _, .val _, .val _, .val (.string nm), .val _, .val _, .fact (NewA (.string nm) (.slice la ll lc)), .fact (RowA w.heap.size [(nm, .slice la ll lc)]), .val (.pointer (some ⟨M, 1, none⟩))] (by kernel_rfl) (by kernel_rfl) (by kernel_rfl) (by kernel_rfl) (by kernel_rfl) (by kernel_rfl) ?keep ?main
  case keep => exact ⟨fun u a c hx h => h.ext hx, fun _ _ u a c hx h => h.ext hx, fun u a c hx h => h.ext hx, fun _ _ u a c hx h => h.ext hx, fun u a c hx h => h.ext hx, fun _ _ u a c hx h => h.ext hx, fun u a c hx h => h.ext hx, fun _ _ u a c hx h => h.ext hx, trivial⟩
  case main =>
    simp only [List.take_succ_cons, List.take_zero, List.getD_cons_succ, List.getD_cons_zero]
    refine ⟨fun w1 hx hh => ?_, ?_⟩
    · clear hh
      have hsz1 := hx.size
      go_simp
      exact ⟨ext_alloc _ _, w1.heap.size, rfl, World.ownsRow_made w1 #[] 0 hsz1 (by unfold maxLen; omega) rfl⟩
    intro x0
    iterate 2 (refine ⟨fun w1 hC hh => ?_, ?_⟩; focus (have hx := hC; clear hh hC; have e0 := hx.cell hM; go_simp; first | exact ⟨Ext.refl _, rfl⟩ | exact Ext.refl _))
    refine ⟨fun w1 hx hh => ?_, ?_⟩
    · have h0 : EmptyA w.heap.size x0 w1 := hh 0 _ List.mem_cons_self (by kernel_rfl)
      clear hh
      refine Facts.App.stepG_append_none rfl (.tmp 121) (.tmp 123) 22 rfl w.heap.size 38 i0 2 Try.underlying22 hi0 x0 0 [] (by go_simp) h0.row (by go_simp) ?_
      exact ⟨Ext.refl _, h0⟩
    intro x3
    iterate 8 (refine ⟨fun w1 hC hh => ?_, ?_⟩; focus (have hx := hC; clear hh hC; have e0 := hx.cell hO; have e1 := hx.cell hnm; go_simp; first | exact ⟨Ext.refl _, rfl⟩ | exact Ext.refl _))
    refine ⟨fun w1 hx hh => ?_, ?_⟩
    · clear hh
      have hsz1 := hx.size
      go_simp
      exact ⟨ext_alloc _ _, w1.heap.size, rfl, by simp [go_sem], by simp [go_sem]⟩
    intro x12
    refine ⟨fun w1 hx hh => ?_, ?_⟩
    · have h3 : EmptyA w.heap.size x3 w1 := hh 3 _ (List.mem_cons_of_mem _ List.mem_cons_self) (by kernel_rfl)
      have h12 : NewA (.string nm) (.slice la ll lc) x12 w1 := hh 12 _ List.mem_cons_self (by kernel_rfl)
      clear hh
      have s12 := h12.spec
      generalize h12.B = B at *
      have e12 := s12.1
      have c0 := s12.2.1
      have c1 := s12.2.2
      clear s12 h12
      subst e12
      have hsz1 := hx.size
      refine Facts.App.stepG_append_grew rfl (.tmp 124) (.tmp 133) 22 rfl w.heap.size 38 i0 (.agg #[.string ByteArray.empty, .slice none 0 0]) 2 40 Try.underlying22 hi0 hz0 hz1 hz2 rfl (by decide) x3 0 [] (by go_simp) h3.row ⟨B, 0, none⟩ 1 1 [.string nm, .slice la ll lc] (by go_simp) rfl (two_new c0 c1) (by simp [Value.oneCell']) (by unfold maxLen; omega) (by omega) (by omega) ?_
      intro v' w' ho hg hx2
      exact ⟨hx2 (h3.full 1 (by omega)), ho⟩
    intro x13
    iterate 1 (refine ⟨fun w1 hC hh => ?_, ?_⟩; focus (have hx := hC; clear hh hC; skip; go_simp; first | exact ⟨Ext.refl _, rfl⟩ | exact Ext.refl _))
    intro w5 hx5 hh
    have h13 : RowA w.heap.size [(nm, .slice la ll lc)] x13 w5 := hh 13 _ List.mem_cons_self
    clear hh
    obtain ⟨g, cap, rfl, b1, b2, b3, b4⟩ := own_shape h13 (by simp)
    have m1 := hx5.cell hM
    have mf := (hx5.frozen (p := ⟨M, 1, none⟩) (cell_lt hM)).trans hMf
    have mlt : M < w.heap.size := cell_lt hM
    have H13 := Lib.hid h13
    clear h13
    refine ⟨rfl, ?_⟩
    have hA := HA.out
    subst hA
    have hQ := HQ.out
    go_simp
    exact hQ _ _ _ _ _ _ _ _ _ _ _ _ _ _ _ _ ⟨_, set_cell m1 _, ((H13.out.up (by simp)).grown mlt (grown_set w5 ⟨M, 1, none⟩ _)).weaken hb, World.grownBy.trans (Facts.App.But.of_ext hx5) (grown_set w5 ⟨M, 1, none⟩ _), by simpa [go_sem] using mf, fun o v ho hv => set_other (hx5.cell hv) (.inr (Ne.symm ho)) _⟩
set_option maxRecDepth 100000 in
set_option maxHeartbeats 4000000 in
theorem orders_r23_1 {u0 u1 u2 u4 u5 u6 u7 u10 u11 u13 u14 u15 u16 u17 u18 u19 u20 u21 u22 u23 u24 u25 u26 u27 u28 u29 u30 u31 u32 u33 u34 u35 u36 u37 u38 u39 u40 u41 u42 u43 u44 u45 u46 u47 u48 u49 u50 u51 u52 u53 u54 u55 u56 u57 u58 u59 u60 u61 u62 u63 u64 u65 u66 u67 u68 u69 u70 u71 u72 u73 u74 u75 u76 u77 u78 u79 u80 u81 u82 u83 u84 u85 u86 u87 u88 u89 u90 u91 u92 u93 u94 u95 u96 u97 u98 u99 u100 u101 u102 u103 u104 u105 u106 u107 u108 u109 u110 u111 u112 u113 u114 u115 u116 u117 u118 u119 u120 u121 u122 u123 u124 u125 u126 u127 u128 u129 u130 u131 u132 u133 u134 u135 u136 u137 u138 u139 u140 u141 u142 u143 u144 u145 u146 u147 u148 u149 u150 u151 u152 u153 u154 u155 u156 u157 u158 u159 u160 u161 u162 u163 u164 u165 u166 u167 u168 u169 u170 u171 u172 u173 u174 u175 u176 u177 u178 u179 u180 u181 u182 u183 u184 u185 u186 u187 u188 u189 u190 u191 u192 u193 u194 u195 u196 u197 u198 u199 u200 u201 u202 u203 u204 u205 u206 u207 u208 u209 u210 u211 u212 u213 u214 u215 u216 u217 u218 u219 u220 u221 u222 u223 u224 u225 u226 u227 u228 u229 u230 u231 u232 u233 u234 u235 u236 u237 u238 u239 u240 u241 u242 u243 u244 u245 u246 u247 u248 u249 u250 u251 u252 u253 u254 u255 u256 u257 u258 u259 u260 u261 u262 u263 u264 u265 u266 u267 u268 u269 u270 u271 u272 : Value} {O M ab ao n bc i : Nat} {w : World} {nm : ByteArray} {la : Option Addr} {ll lc : Nat} (hO : w.cell? ⟨O, 1, none⟩ = some (.slice (some ⟨ab, ao, none⟩) n bc)) (hi : i < n) (hn : n ≤ 3) (hnm : w.cell? ⟨ab, ao + i * 2, none⟩ = some (.string nm))
    {g0 c0' : Nat} {es : List EntA} (hes0 : 0 < es.length) (hes3 : es.length ≤ 3) (hesc : Hid (∀ j u, (cellsA es)[j]? = some u → w.cell? ⟨g0, j, none⟩ = some u)) (heso : Hid (∀ u ∈ cellsA es, u.oneCell' = true)) (hM : w.cell? ⟨M, 1, none⟩ = some (.slice (some ⟨g0, 0, none⟩) es.length c0')) (hMf : w.frozen? ⟨M, 1, none⟩ = false) {base : Nat} (hb : base ≤ w.heap.size) (Q : Exit → Act → World → Prop)
    (hQ : ∀ (v121 v122 v123 v124 v125 v126 v127 v128 v129 v130 v131 v132 v133 v134 v135 : Value) (wc : World), OrdRow base w M (es ++ [(nm, .slice la ll lc)]) wc → Q .normal ⟨#[u0, u1, u2, .pointer (some ⟨O, 0, none⟩), u4, u5, u6, u7, .pointer (some ⟨M, 0, none⟩), .int .i64 i, u10, u11, .slice la ll lc, u13, u14, u15, u16, u17, u18, u19, u20, u21, u22, u23, u24, u25, u26, u27, u28, u29, u30, u31, u32, u33, u34, u35, u36, u37, u38, u39, u40, u41, u42, u43, u44, u45, u46, u47, u48, u49, u50, u51, u52, u53, u54, u55, u56, u57, u58, u59, u60, u61, u62, u63, u64, u65, u66, u67, u68, u69, u70, u71, u72, u73, u74, u75, u76, u77, u78, u79, u80, u81, u82, u83, u84, u85, u86, u87, u88, u89, u90, u91, u92, u93, u94, u95, u96, u97, u98, u99, u100, u101, u102, u103, u104, u105, u106, u107, u108, u109, u110, u111, u112, u113, u114, u115, u116, u117, u118, u119, u120, v121, v122, v123, v124, v125, v126, v127, v128, v129, v130, v131, v132, v133, v134, v135, u136, u137, u138, u139, u140, u141, u142, u143, u144, u145, u146, u147, u148, u149, u150, u151, u152, u153, u154, u155, u156, u157, u158, u159, u160, u161, u162, u163, u164, u165, u166, u167, u168, u169, u170, u171, u172, u173, u174, u175, u176, u177, u178, u179, u180, u181, u182, u183, u184, u185, u186, u187, u188, u189, u190, u191, u192, u193, u194, u195, u196, u197, u198, u199, u200, u201, u202, u203, u204, u205, u206, u207, u208, u209, u210, u211, u212, u213, u214, u215, u216, u217, u218, u219, u220, u221, u222, u223, u224, u225, u226, u227, u228, u229, u230, u231, u232, u233, u234, u235, u236, u237, u238, u239, u240, u241, u242, u243, u244, u245, u246, u247, u248, u249, u250, u251, u252, u253, u254, u255, u256, u257, u258, u259, u260, u261, u262, u263, u264, u265, u266, u267, u268, u269, u270, u271, u272], []⟩ wc) :
    Code.wp Try.prog (regionOf Try.f6 23) Q ⟨#[u0, u1, u2, .pointer (some ⟨O, 0, none⟩), u4, u5, u6, u7, .pointer (some ⟨M, 0, none⟩), .int .i64 i, u10, u11, .slice la ll lc, u13, u14, u15, u16, u17, u18, u19, u20, u21, u22, u23, u24, u25, u26, u27, u28, u29, u30, u31, u32, u33, u34, u35, u36, u37, u38, u39, u40, u41, u42, u43, u44, u45, u46, u47, u48, u49, u50, u51, u52, u53, u54, u55, u56, u57, u58, u59, u60, u61, u62, u63, u64, u65, u66, u67, u68, u69, u70, u71, u72, u73, u74, u75, u76, u77, u78, u79, u80, u81, u82, u83, u84, u85, u86, u87, u88, u89, u90, u91, u92, u93, u94, u95, u96, u97, u98, u99, u100, u101, u102, u103, u104, u105, u106, u107, u108, u109, u110, u111, u112, u113, u114, u115, u116, u117, u118, u119, u120, u121, u122, u123, u124, u125, u126, u127, u128, u129, u130, u131, u132, u133, u134, u135, u136, u137, u138, u139, u140, u141, u142, u143, u144, u145, u146, u147, u148, u149, u150, u151, u152, u153, u154, u155, u156, u157, u158, u159, u160, u161, u162, u163, u164, u165, u166, u167, u168, u169, u170, u171, u172, u173, u174, u175, u176, u177, u178, u179, u180, u181, u182, u183, u184, u185, u186, u187, u188, u189, u190, u191, u192, u193, u194, u195, u196, u197, u198, u199, u200, u201, u202, u203, u204, u205, u206, u207, u208, u209, u210, u211, u212, u213, u214, u215, u216, u217, u218, u219, u220, u221, u222, u223, u224, u225, u226, u227, u228, u229, u230, u231, u232, u233, u234, u235, u236, u237, u238, u239, u240, u241, u242, u243, u244, u245, u246, u247, u248, u249, u250, u251, u252, u253, u254, u255, u256, u257, u258, u259, u260, u261, u262, u263, u264, u265, u266, u267, u268, u269, u270, u271, u272], []⟩ w := by
  conv => arg 2; whnf
  obtain ⟨i0, hi0, hz0, hz1, hz2⟩ := info_parts infoAlphabet
  have k1 : (i : Int) < (n : Int) := by omega
  have HQ := Lib.hid hQ
  clear hQ
  apply Facts.wp_frame
  intro A hA
  have f3 : ∀ h, A.tmps[3]'h = .pointer (some ⟨O, 0, none⟩) := by rw [hA]; exact fun _ => rfl
  have f8 : ∀ h, A.tmps[8]'h = .pointer (some ⟨M, 0, none⟩) := by rw [hA]; exact fun _ => rfl
  have f9 : ∀ h, A.tmps[9]'h = .int .i64 i := by rw [hA]; exact fun _ => rfl
  have f12 : ∀ h, A.tmps[12]'h = .slice la ll lc := by rw [hA]; exact fun _ => rfl
  have fsz : A.tmps.size = 273 := by rw [hA]; rfl
  have HA := Lib.hid hA
  clear hA
  apply Facts.Peel.wp_regionL (Facts.App.two_grew w.heap.size (es.length * 2)) 15 13 [.fact (EmptyA w.heap.size), .val _, .val _, .fact (RowA w.heap.size es), .val _, .val _, .val _, .val _, .val _, .val (.string nm), .val _, .val _, .fact (NewA (.string nm) (.slice la ll lc)), .fact (RowA w.heap.size (es ++ [(nm, .slice la ll lc)])), .val (.pointer (some ⟨M, 1, none⟩))] (by kernel_rfl) (by kernel_rfl) (by kernel_rfl) (by kernel_rfl) (by kernel_rfl) (by kernel_rfl) ?keep ?main
  case keep => exact ⟨fun u a c hx h => h.ext hx, fun _ _ u a c hx h => h.grew hx, fun u a c hx h => h.ext hx, fun _ _ u a c hx h => h.grew (Nat.le_refl _) hx, fun u a c hx h => h.ext hx, fun _ _ u a c hx h => h.grew (by omega) hx, fun u a c hx h => h.ext hx, fun h => absurd rfl h, trivial⟩
  case main =>
    simp only [List.take_succ_cons, List.take_zero, List.getD_cons_succ, List.getD_cons_zero]
    refine ⟨fun w1 hC hh => ?_, ?_⟩
    · have hx := hC.below rfl (Ext.refl _)
      clear hh hC
      have hsz1 := hx.size
      go_simp
      exact ⟨ext_alloc _ _, w1.heap.size, rfl, World.ownsRow_made w1 #[] 0 hsz1 (by unfold maxLen; omega) rfl⟩
    intro x0
    iterate 2 (refine ⟨fun w1 hC hh => ?_, ?_⟩; focus (have hx := hC.below rfl (Ext.refl _); clear hh hC; have e0 := hx.cell hM; go_simp; first | exact ⟨Ext.refl _, rfl⟩ | exact Ext.refl _))
    refine ⟨fun w1 hC hh => ?_, ?_⟩
    · have h0 : EmptyA w.heap.size x0 w1 := hh 0 _ List.mem_cons_self (by kernel_rfl)
      have hx := hC.below rfl (Ext.refl _)
      clear hh hC
      have hsz1 := hx.size
      have hel := cellsA_len es
      refine Facts.App.stepG_append_grew rfl (.tmp 121) (.tmp 123) 22 rfl w.heap.size 38 i0 (.agg #[.string ByteArray.empty, .slice none 0 0]) 2 40 Try.underlying22 hi0 hz0 hz1 hz2 rfl (by decide) x0 0 [] (by go_simp) h0.row ⟨g0, 0, none⟩ es.length c0' (cellsA es) (by go_simp) hel (fun j u hu => by
        rw [show (⟨g0, 0, none⟩ : Addr).add j = ⟨g0, 0 + j, none⟩ by unfold Addr.add; split <;> simp_all, Nat.zero_add]
        exact hx.cell (hesc.out j u hu)) heso.out (by unfold maxLen; omega) (by omega) (by omega) ?_
      intro v' w' ho hg hx2
      exact ⟨hx2 (h0.full _ hes0), by rw [Nat.zero_add, List.nil_append] at ho; exact ho⟩
    intro x3
    iterate 8 (refine ⟨fun w1 hC hh => ?_, ?_⟩; focus (have hx := hC.below rfl (Ext.refl _); clear hh hC; have e0 := hx.cell hO; have e1 := hx.cell hnm; go_simp; first | exact ⟨Ext.refl _, rfl⟩ | exact Ext.refl _))
    refine ⟨fun w1 hC hh => ?_, ?_⟩
    · clear hh hC
      go_simp
      exact ⟨ext_alloc _ _, w1.heap.size, rfl, by simp [go_sem], by simp [go_sem]⟩
    intro x12
    refine ⟨fun w1 hC hh => ?_, ?_⟩
    · have h3 : RowA w.heap.size es x3 w1 := hh 3 _ (List.mem_cons_of_mem _ List.mem_cons_self) (by kernel_rfl)
      have h12 : NewA (.string nm) (.slice la ll lc) x12 w1 := hh 12 _ List.mem_cons_self (by kernel_rfl)
      have hx := hC.below rfl (Ext.refl _)
      clear hh hC
      have s12 := h12.spec
      generalize h12.B = B at *
      have e12 := s12.1
      have c0 := s12.2.1
      have c1 := s12.2.2
      clear s12 h12
      subst e12
      have hsz1 := hx.size
      refine Facts.App.stepG_append_grew rfl (.tmp 124) (.tmp 133) 22 rfl w.heap.size 38 i0 (.agg #[.string ByteArray.empty, .slice none 0 0]) 2 40 Try.underlying22 hi0 hz0 hz1 hz2 rfl (by decide) x3 es.length (cellsA es) (by go_simp) h3 ⟨B, 0, none⟩ 1 1 [.string nm, .slice la ll lc] (by go_simp) rfl (two_new c0 c1) (by simp [Value.oneCell']) (by unfold maxLen; omega) (by omega) (by omega) ?_
      intro v' w' ho hg hx2
      exact ⟨hg, by unfold RowA; rw [List.length_append, cellsA_snoc]; exact ho⟩
    intro x13
    iterate 1 (refine ⟨fun w1 hC hh => ?_, ?_⟩; focus (have hx := hC.below rfl (Ext.refl _); clear hh hC; skip; go_simp; first | exact ⟨Ext.refl _, rfl⟩ | exact Ext.refl _))
    intro w5 hC hh
    have h13 : RowA w.heap.size (es ++ [(nm, .slice la ll lc)]) x13 w5 := hh 13 _ List.mem_cons_self
    have hx5 := hC.below rfl (Ext.refl _)
    clear hh hC
    obtain ⟨g, cap, rfl, b1, b2, b3, b4⟩ := own_shape h13 (by simp)
    have m1 := hx5.cell hM
    have mf := (hx5.frozen (p := ⟨M, 1, none⟩) (cell_lt hM)).trans hMf
    have mlt : M < w.heap.size := cell_lt hM
    have H13 := Lib.hid h13
    clear h13
    refine ⟨rfl, ?_⟩
    have hA := HA.out
    subst hA
    have hQ := HQ.out
    have hl2 : 0 < (es ++ [(nm, Value.slice la ll lc)]).length := by simp
    have Hl2 := Lib.hid hl2
    clear hl2
    generalize (es ++ [(nm, Value.slice la ll lc)]) = es2 at *
    go_simp
    exact hQ _ _ _ _ _ _ _ _ _ _ _ _ _ _ _ _ ⟨_, set_cell m1 _, ((H13.out.up Hl2.out).grown mlt (grown_set w5 ⟨M, 1, none⟩ _)).weaken hb, World.grownBy.trans (Facts.App.But.of_ext hx5) (grown_set w5 ⟨M, 1, none⟩ _), by simpa [go_sem] using mf, fun o v ho hv => set_other (hx5.cell hv) (.inr (Ne.symm ho)) _⟩
end Go.Proofs.Ytoifmphpeflliaa

namespace Go.Proofs.Ytoifmphpeflliaa
open Go.RowKit
set_option linter.unusedVariables false

theorem frozen_grown {w w' : World} {row : Option Nat} (hg : w.grownBy w' row) {p : Addr} (hlt : p.block < w.heap.size) (hne : some p.block ≠ row) : w'.frozen? p = w.frozen? p := by
  unfold World.frozen?
  rw [hg.block p.block hlt (fun e => hne (by rw [e]))]
/-- what lies in blocks from base on is as it was -/
def Keep (base : Nat) (w w' : World) : Prop := ∀ b o v, base ≤ b → w.cell? ⟨b, o, none⟩ = some v → w'.cell? ⟨b, o, none⟩ = some v
theorem Keep.of_ext {base : Nat} {w w' : World} (h : Ext w w') : Keep base w w' := fun _ _ _ _ hc => h.cell hc
theorem Keep.of_grown {base M : Nat} {w w' : World} (hM : M < base) (h : w.grownBy w' (some M)) : Keep base w w' := fun b o v hb hc => h.cell hc (by simp; omega)
theorem Keep.trans {base : Nat} {a b c : World} (h : Keep base a b) (k : Keep base b c) : Keep base a c := fun _ _ _ hb hc => k _ _ _ hb (h _ _ _ hb hc)
/-- letters in a block from base on -/
def LetUp (base : Nat) (w : World) (v : Value) (l : List Letter) : Prop := ∃ g cap, v = .slice (some ⟨g, 0, none⟩) l.length cap ∧ base ≤ g ∧ l.length ≤ cap ∧ cap ≤ 9223372036854775807 ∧ (∀ j u, (cellsL l)[j]? = some u → w.cell? ⟨g, j, none⟩ = some u) ∧ ∀ x ∈ l, U8 x.c ∧ I64 x.sounds
theorem LetUp.keep {base : Nat} {w w' : World} {v : Value} {l : List Letter} (h : LetUp base w v l) (hk : Keep base w w') : LetUp base w' v l := by
  obtain ⟨g, cap, e, h1, h2, h3, h4, h5⟩ := h
  exact ⟨g, cap, e, h1, h2, h3, fun j u hu => hk _ _ _ h1 (h4 j u hu), h5⟩
theorem LetUp.at_ {base : Nat} {w : World} {v : Value} {l : List Letter} (h : LetUp base w v l) : LettersAt w v l := by
  obtain ⟨g, cap, rfl, h1, h2, h3, h4, h5⟩ := h
  refine ⟨_, _, rfl, h2, h3, fun i hi => ⟨g, 0, rfl, ?_⟩⟩
  obtain ⟨c0, c1, c2⟩ := cellsL_get l i hi
  rw [Nat.zero_add]
  exact ⟨h4 _ _ c0, h4 _ _ c1, h4 _ _ c2, h5 _ (List.getElem_mem hi)⟩
theorem LetUp.of_own {base b0 : Nat} {w : World} {v : Value} {l : List Letter} (h : w.ownsRow b0 40 3 v l.length (cellsL l)) (hb : base ≤ b0) (hn : 0 < l.length) (hf : ∀ x ∈ l, U8 x.c ∧ I64 x.sounds) : LetUp base w v l := by
  obtain ⟨g, cap, rfl, h1, h2, h3, h4⟩ := own_shape h hn
  refine ⟨g, cap, rfl, by omega, h3, h4, fun j u hu => ?_, hf⟩
  have := h.cells (g := g) rfl j u hu
  rwa [show (⟨g, 0, none⟩ : Addr).add j = ⟨g, 0 + j, none⟩ by unfold Addr.add; split <;> simp_all, Nat.zero_add] at this
/-- what a row of alphabets holds, all of it in blocks from base on -/
def EntsUp (base : Nat) (w : World) (es : List EntA) (l : List Alphabet) : Prop := es.length = l.length ∧ ∀ i (h : i < l.length) (h' : i < es.length), es[i].1 = l[i].name ∧ l[i].name.size ≤ 9223372036854775807 ∧ LetUp base w es[i].2 l[i].letters
theorem EntsUp.keep {base : Nat} {w w' : World} {es : List EntA} {l : List Alphabet} (h : EntsUp base w es l) (hk : Keep base w w') : EntsUp base w' es l :=
  ⟨h.1, fun i h1 h2 => by obtain ⟨a, b, c⟩ := h.2 i h1 h2; exact ⟨a, b, c.keep hk⟩⟩
theorem EntsUp.snoc {base : Nat} {w : World} {es : List EntA} {l : List Alphabet} (h : EntsUp base w es l) {x : Alphabet} {v : Value} (hn : x.name.size ≤ 9223372036854775807) (hl : LetUp base w v x.letters) : EntsUp base w (es ++ [(x.name, v)]) (l ++ [x]) := by
  refine ⟨by simp [h.1], fun i h1 h2 => ?_⟩
  have hle := h.1
  by_cases e : i < l.length
  · rw [List.getElem_append_left (by omega), List.getElem_append_left e]
    exact h.2 i e (by omega)
  · have ei : i = l.length := by simp at h1; omega
    subst ei
    have e1 : (es ++ [(x.name, v)])[l.length] = (x.name, v) := by rw [List.getElem_append_right (by omega)]; simp [hle]
    have e2 : (l ++ [x])[l.length] = x := by rw [List.getElem_append_right (by omega)]; simp
    simp only [e1, e2]
    exact ⟨trivial, hn, hl⟩
theorem EntsUp.one {base : Nat} {w : World} {es : List EntA} {l : List Alphabet} (h : EntsUp base w es l) : ∀ u ∈ cellsA es, u.oneCell' = true := fun u hu => by
  unfold cellsA at hu
  rw [List.mem_flatMap] at hu
  obtain ⟨x, hx, hu⟩ := hu
  obtain ⟨i, hi, rfl⟩ := List.getElem_of_mem hx
  obtain ⟨-, -, g, cap, e3, -⟩ := h.2 i (by rw [← h.1]; exact hi) hi
  simp only [List.mem_cons, List.not_mem_nil, or_false] at hu
  rcases hu with rfl | rfl
  · rfl
  · rw [e3]; rfl
theorem alphabets_up {base : Nat} {w : World} {v : Value} {es : List EntA} {l : List Alphabet} (h : RowUp base w v es) (hE : EntsUp base w es l) : AlphabetsAt w v l := by
  have hl := hE.1
  rcases h with ⟨rfl, rfl⟩ | ⟨g, cap, rfl, h1, h2, h3, h4, h5⟩
  · have : l = [] := List.eq_nil_of_length_eq_zero (by rw [← hl]; rfl)
    subst this; exact SliceAt.nil
  · rw [hl]
    refine ⟨_, _, rfl, by omega, h4, fun i hi => ⟨g, 0, rfl, ?_⟩⟩
    obtain ⟨a, b, c⟩ := hE.2 i hi (by omega)
    obtain ⟨c0, c1⟩ := cellsA_get es i (by omega)
    have r0 := h5 _ _ c0
    rw [a] at r0
    rw [Nat.zero_add]
    exact ⟨r0, b, _, h5 _ _ c1, c.at_⟩
/-- a book that is being made -/
structure HalfAt (S : Int) (spv : Value) (M base : Nat) (w : World) (l : List Alphabet) : Prop where
  c0 : w.cell? ⟨M, 0, none⟩ = some (.int .i64 S)
  c1 : ∃ v es, w.cell? ⟨M, 1, none⟩ = some v ∧ RowUp base w v es ∧ EntsUp base w es l
  c2 : w.cell? ⟨M, 2, none⟩ = some spv
  f1 : w.frozen? ⟨M, 1, none⟩ = false
theorem RowUp.keep {base : Nat} {w w' : World} {v : Value} {es : List EntA} (h : RowUp base w v es) (hk : Keep base w w') : RowUp base w' v es := by
  rcases h with h | ⟨g, cap, e, h1, h2, h3, h4, h5⟩
  · exact .inl h
  · exact .inr ⟨g, cap, e, h1, h2, h3, h4, fun j u hu => hk _ _ _ h2 (h5 j u hu)⟩
theorem HalfAt.ext {S : Int} {spv : Value} {M base : Nat} {w w' : World} {l : List Alphabet} (h : HalfAt S spv M base w l) (hx : Ext w w') : HalfAt S spv M base w' l := by
  obtain ⟨v, es, h1, h2, h3⟩ := h.c1
  exact ⟨hx.cell h.c0, ⟨v, es, hx.cell h1, h2.keep (Keep.of_ext hx), h3.keep (Keep.of_ext hx)⟩, hx.cell h.c2, (hx.frozen (p := ⟨M, 1, none⟩) (cell_lt h1)).trans h.f1⟩
/-- another book's row has been changed -/
theorem HalfAt.other {S : Int} {spv : Value} {M M' base : Nat} {w w' : World} {l : List Alphabet} (h : HalfAt S spv M base w l) (hne : M ≠ M') (hb : M' < base) (hg : w.grownBy w' (some M')) : HalfAt S spv M base w' l := by
  obtain ⟨v, es, h1, h2, h3⟩ := h.c1
  have hn : some M ≠ some M' := by simpa using hne
  exact ⟨hg.cell h.c0 hn, ⟨v, es, hg.cell h1 hn, h2.keep (Keep.of_grown hb hg), h3.keep (Keep.of_grown hb hg)⟩, hg.cell h.c2 hn, (frozen_grown hg (p := ⟨M, 1, none⟩) (cell_lt h1) hn).trans h.f1⟩
def OrdB0 (b : Book) (spv : Value) (M1 M2 base : Nat) (V : World) (wc : World) : Prop := HalfAt b.sounds spv M1 base wc (b.alphabets.map backA) ∧ HalfAt b.sounds spv M2 base wc (b.alphabets.map (highA b.sounds)) ∧ Ext V wc
theorem map_take {α β : Type} (f : α → β) (l : List α) (k : Nat) (h : k < l.length) : (l.take (k + 1)).map f = (l.take k).map f ++ [f l[k]] := by
  rw [List.take_succ_eq_append_getElem h, List.map_append]; rfl
/-- what one more alphabet makes of the book -/
theorem HalfAt.more {S : Int} {spv : Value} {M base : Nat} {w w' : World} {l : List Alphabet} (h : HalfAt S spv M base w l) (hb : M < base) {es : List EntA} (hE : EntsUp base w es l) {x : Alphabet} {v : Value} (hn : x.name.size ≤ 9223372036854775807) (hl : LetUp base w v x.letters) (hr : OrdRow base w M (es ++ [(x.name, v)]) w') : HalfAt S spv M base w' (l ++ [x]) := by
  obtain ⟨v', h1, h2, hg, hf, ho⟩ := hr
  have hk : Keep base w w' := Keep.of_grown hb hg
  exact ⟨ho 0 _ (by simp) h.c0, ⟨v', _, h1, h2, (hE.snoc hn hl).keep hk⟩, ho 2 _ (by simp) h.c2, hf⟩

set_option maxRecDepth 100000 in
set_option maxHeartbeats 1000000 in
theorem orders_r22 {u0 u1 u2 u4 u5 u6 u8 u10 u12 u13 u14 u15 u16 u17 u18 u19 u20 u21 u22 u23 u24 u25 u26 u27 u28 u29 u30 u31 u32 u33 u34 u35 u36 u37 u38 u39 u40 u41 u42 u43 u44 u45 u46 u47 u48 u49 u50 u51 u52 u53 u54 u55 u56 u57 u58 u59 u60 u61 u62 u63 u64 u65 u66 u67 u68 u69 u70 u71 u72 u73 u74 u75 u76 u77 u78 u79 u80 u81 u82 u83 u84 u85 u86 u87 u88 u89 u90 u91 u92 u93 u94 u95 u96 u97 u98 u99 u100 u101 u102 u103 u104 u105 u106 u107 u108 u109 u110 u111 u112 u113 u114 u115 u116 u117 u118 u119 u120 u121 u122 u123 u124 u125 u126 u127 u128 u129 u130 u131 u132 u133 u134 u135 u136 u137 u138 u139 u140 u141 u142 u143 u144 u145 u146 u147 u148 u149 u150 u151 u152 u153 u154 u155 u156 u157 u158 u159 u160 u161 u162 u163 u164 u165 u166 u167 u168 u169 u170 u171 u172 u173 u174 u175 u176 u177 u178 u179 u180 u181 u182 u183 u184 u185 u186 u187 u188 u189 u190 u191 u192 u193 u194 u195 u196 u197 u198 u199 u200 u201 u202 u203 u204 u205 u206 u207 u208 u209 u210 u211 u212 u213 u214 u215 u216 u217 u218 u219 u220 u221 u222 u223 u224 u225 u226 u227 u228 u229 u230 u231 u232 u233 u234 u235 u236 u237 u238 u239 u240 u241 u242 u243 u244 u245 u246 u247 u248 u249 u250 u251 u252 u253 u254 u255 u256 u257 u258 u259 u260 u261 u262 u263 u264 u265 u266 u267 u268 u269 u270 u271 u272 : Value} {O M ab ao n bc i base : Nat} {w : World} {S : Int} {spv v : Value} {l : List Alphabet} {x : Alphabet} (hO : w.cell? ⟨O, 1, none⟩ = some (.slice (some ⟨ab, ao, none⟩) n bc)) (hi : i < n) (hn : n ≤ 3) (hnm : w.cell? ⟨ab, ao + i * 2, none⟩ = some (.string x.name)) (hns : x.name.size ≤ 9223372036854775807)
    (h : HalfAt S spv M base w l) (hl3 : l.length ≤ 3) (hb : base ≤ w.heap.size) (hMb : M < base) (hl : LetUp base w v x.letters) (Q : Exit → Act → World → Prop)
    (hQ : ∀ (v106 v107 v108 v109 v110 v111 v112 v113 v114 v115 v116 v117 v118 v119 v120 : Value) (wc : World), HalfAt S spv M base wc (l ++ [x]) ∧ w.grownBy wc (some M) → Q .normal ⟨#[u0, u1, u2, .pointer (some ⟨O, 0, none⟩), u4, u5, u6, .pointer (some ⟨M, 0, none⟩), u8, .int .i64 i, u10, v, u12, u13, u14, u15, u16, u17, u18, u19, u20, u21, u22, u23, u24, u25, u26, u27, u28, u29, u30, u31, u32, u33, u34, u35, u36, u37, u38, u39, u40, u41, u42, u43, u44, u45, u46, u47, u48, u49, u50, u51, u52, u53, u54, u55, u56, u57, u58, u59, u60, u61, u62, u63, u64, u65, u66, u67, u68, u69, u70, u71, u72, u73, u74, u75, u76, u77, u78, u79, u80, u81, u82, u83, u84, u85, u86, u87, u88, u89, u90, u91, u92, u93, u94, u95, u96, u97, u98, u99, u100, u101, u102, u103, u104, u105, v106, v107, v108, v109, v110, v111, v112, v113, v114, v115, v116, v117, v118, v119, v120, u121, u122, u123, u124, u125, u126, u127, u128, u129, u130, u131, u132, u133, u134, u135, u136, u137, u138, u139, u140, u141, u142, u143, u144, u145, u146, u147, u148, u149, u150, u151, u152, u153, u154, u155, u156, u157, u158, u159, u160, u161, u162, u163, u164, u165, u166, u167, u168, u169, u170, u171, u172, u173, u174, u175, u176, u177, u178, u179, u180, u181, u182, u183, u184, u185, u186, u187, u188, u189, u190, u191, u192, u193, u194, u195, u196, u197, u198, u199, u200, u201, u202, u203, u204, u205, u206, u207, u208, u209, u210, u211, u212, u213, u214, u215, u216, u217, u218, u219, u220, u221, u222, u223, u224, u225, u226, u227, u228, u229, u230, u231, u232, u233, u234, u235, u236, u237, u238, u239, u240, u241, u242, u243, u244, u245, u246, u247, u248, u249, u250, u251, u252, u253, u254, u255, u256, u257, u258, u259, u260, u261, u262, u263, u264, u265, u266, u267, u268, u269, u270, u271, u272], []⟩ wc) :
    Code.wp Try.prog (regionOf Try.f6 22) Q ⟨#[u0, u1, u2, .pointer (some ⟨O, 0, none⟩), u4, u5, u6, .pointer (some ⟨M, 0, none⟩), u8, .int .i64 i, u10, v, u12, u13, u14, u15, u16, u17, u18, u19, u20, u21, u22, u23, u24, u25, u26, u27, u28, u29, u30, u31, u32, u33, u34, u35, u36, u37, u38, u39, u40, u41, u42, u43, u44, u45, u46, u47, u48, u49, u50, u51, u52, u53, u54, u55, u56, u57, u58, u59, u60, u61, u62, u63, u64, u65, u66, u67, u68, u69, u70, u71, u72, u73, u74, u75, u76, u77, u78, u79, u80, u81, u82, u83, u84, u85, u86, u87, u88, u89, u90, u91, u92, u93, u94, u95, u96, u97, u98, u99, u100, u101, u102, u103, u104, u105, u106, u107, u108, u109, u110, u111, u112, u113, u114, u115, u116, u117, u118, u119, u120, u121, u122, u123, u124, u125, u126, u127, u128, u129, u130, u131, u132, u133, u134, u135, u136, u137, u138, u139, u140, u141, u142, u143, u144, u145, u146, u147, u148, u149, u150, u151, u152, u153, u154, u155, u156, u157, u158, u159, u160, u161, u162, u163, u164, u165, u166, u167, u168, u169, u170, u171, u172, u173, u174, u175, u176, u177, u178, u179, u180, u181, u182, u183, u184, u185, u186, u187, u188, u189, u190, u191, u192, u193, u194, u195, u196, u197, u198, u199, u200, u201, u202, u203, u204, u205, u206, u207, u208, u209, u210, u211, u212, u213, u214, u215, u216, u217, u218, u219, u220, u221, u222, u223, u224, u225, u226, u227, u228, u229, u230, u231, u232, u233, u234, u235, u236, u237, u238, u239, u240, u241, u242, u243, u244, u245, u246, u247, u248, u249, u250, u251, u252, u253, u254, u255, u256, u257, u258, u259, u260, u261, u262, u263, u264, u265, u266, u267, u268, u269, u270, u271, u272], []⟩ w := by
  obtain ⟨v', es, a1, r1, e1⟩ := h.c1
  have hl' := hl
  obtain ⟨g, cap, rfl, -⟩ := hl'
  rcases r1 with ⟨rfl, rfl⟩ | ⟨g0, c0', rfl, p1, p2, p3, p4, p5⟩
  · exact orders_r22_0 hO hi hn hnm a1 h.f1 hb Q fun v106 v107 v108 v109 v110 v111 v112 v113 v114 v115 v116 v117 v118 v119 v120 wc hr => hQ v106 v107 v108 v109 v110 v111 v112 v113 v114 v115 v116 v117 v118 v119 v120 wc ⟨h.more hMb e1 hns hl hr, (by obtain ⟨_, _, _, hg, _⟩ := hr; exact hg)⟩
  · exact orders_r22_1 hO hi hn hnm p1 (by rw [e1.1]; exact hl3) (Lib.hid p5) (Lib.hid e1.one) a1 h.f1 hb Q fun v106 v107 v108 v109 v110 v111 v112 v113 v114 v115 v116 v117 v118 v119 v120 wc hr => hQ v106 v107 v108 v109 v110 v111 v112 v113 v114 v115 v116 v117 v118 v119 v120 wc ⟨h.more hMb e1 hns hl hr, (by obtain ⟨_, _, _, hg, _⟩ := hr; exact hg)⟩

set_option maxRecDepth 100000 in
set_option maxHeartbeats 1000000 in
theorem orders_r23 {u0 u1 u2 u4 u5 u6 u7 u10 u11 u13 u14 u15 u16 u17 u18 u19 u20 u21 u22 u23 u24 u25 u26 u27 u28 u29 u30 u31 u32 u33 u34 u35 u36 u37 u38 u39 u40 u41 u42 u43 u44 u45 u46 u47 u48 u49 u50 u51 u52 u53 u54 u55 u56 u57 u58 u59 u60 u61 u62 u63 u64 u65 u66 u67 u68 u69 u70 u71 u72 u73 u74 u75 u76 u77 u78 u79 u80 u81 u82 u83 u84 u85 u86 u87 u88 u89 u90 u91 u92 u93 u94 u95 u96 u97 u98 u99 u100 u101 u102 u103 u104 u105 u106 u107 u108 u109 u110 u111 u112 u113 u114 u115 u116 u117 u118 u119 u120 u121 u122 u123 u124 u125 u126 u127 u128 u129 u130 u131 u132 u133 u134 u135 u136 u137 u138 u139 u140 u141 u142 u143 u144 u145 u146 u147 u148 u149 u150 u151 u152 u153 u154 u155 u156 u157 u158 u159 u160 u161 u162 u163 u164 u165 u166 u167 u168 u169 u170 u171 u172 u173 u174 u175 u176 u177 u178 u179 u180 u181 u182 u183 u184 u185 u186 u187 u188 u189 u190 u191 u192 u193 u194 u195 u196 u197 u198 u199 u200 u201 u202 u203 u204 u205 u206 u207 u208 u209 u210 u211 u212 u213 u214 u215 u216 u217 u218 u219 u220 u221 u222 u223 u224 u225 u226 u227 u228 u229 u230 u231 u232 u233 u234 u235 u236 u237 u238 u239 u240 u241 u242 u243 u244 u245 u246 u247 u248 u249 u250 u251 u252 u253 u254 u255 u256 u257 u258 u259 u260 u261 u262 u263 u264 u265 u266 u267 u268 u269 u270 u271 u272 : Value} {O M ab ao n bc i base : Nat} {w : World} {S : Int} {spv v : Value} {l : List Alphabet} {x : Alphabet} (hO : w.cell? ⟨O, 1, none⟩ = some (.slice (some ⟨ab, ao, none⟩) n bc)) (hi : i < n) (hn : n ≤ 3) (hnm : w.cell? ⟨ab, ao + i * 2, none⟩ = some (.string x.name)) (hns : x.name.size ≤ 9223372036854775807)
    (h : HalfAt S spv M base w l) (hl3 : l.length ≤ 3) (hb : base ≤ w.heap.size) (hMb : M < base) (hl : LetUp base w v x.letters) (Q : Exit → Act → World → Prop)
    (hQ : ∀ (v121 v122 v123 v124 v125 v126 v127 v128 v129 v130 v131 v132 v133 v134 v135 : Value) (wc : World), HalfAt S spv M base wc (l ++ [x]) ∧ w.grownBy wc (some M) → Q .normal ⟨#[u0, u1, u2, .pointer (some ⟨O, 0, none⟩), u4, u5, u6, u7, .pointer (some ⟨M, 0, none⟩), .int .i64 i, u10, u11, v, u13, u14, u15, u16, u17, u18, u19, u20, u21, u22, u23, u24, u25, u26, u27, u28, u29, u30, u31, u32, u33, u34, u35, u36, u37, u38, u39, u40, u41, u42, u43, u44, u45, u46, u47, u48, u49, u50, u51, u52, u53, u54, u55, u56, u57, u58, u59, u60, u61, u62, u63, u64, u65, u66, u67, u68, u69, u70, u71, u72, u73, u74, u75, u76, u77, u78, u79, u80, u81, u82, u83, u84, u85, u86, u87, u88, u89, u90, u91, u92, u93, u94, u95, u96, u97, u98, u99, u100, u101, u102, u103, u104, u105, u106, u107, u108, u109, u110, u111, u112, u113, u114, u115, u116, u117, u118, u119, u120, v121, v122, v123, v124, v125, v126, v127, v128, v129, v130, v131, v132, v133, v134, v135, u136, u137, u138, u139, u140, u141, u142, u143, u144, u145, u146, u147, u148, u149, u150, u151, u152, u153, u154, u155, u156, u157, u158, u159, u160, u161, u162, u163, u164, u165, u166, u167, u168, u169, u170, u171, u172, u173, u174, u175, u176, u177, u178, u179, u180, u181, u182, u183, u184, u185, u186, u187, u188, u189, u190, u191, u192, u193, u194, u195, u196, u197, u198, u199, u200, u201, u202, u203, u204, u205, u206, u207, u208, u209, u210, u211, u212, u213, u214, u215, u216, u217, u218, u219, u220, u221, u222, u223, u224, u225, u226, u227, u228, u229, u230, u231, u232, u233, u234, u235, u236, u237, u238, u239, u240, u241, u242, u243, u244, u245, u246, u247, u248, u249, u250, u251, u252, u253, u254, u255, u256, u257, u258, u259, u260, u261, u262, u263, u264, u265, u266, u267, u268, u269, u270, u271, u272], []⟩ wc) :
    Code.wp Try.prog (regionOf Try.f6 23) Q ⟨#[u0, u1, u2, .pointer (some ⟨O, 0, none⟩), u4, u5, u6, u7, .pointer (some ⟨M, 0, none⟩), .int .i64 i, u10, u11, v, u13, u14, u15, u16, u17, u18, u19, u20, u21, u22, u23, u24, u25, u26, u27, u28, u29, u30, u31, u32, u33, u34, u35, u36, u37, u38, u39, u40, u41, u42, u43, u44, u45, u46, u47, u48, u49, u50, u51, u52, u53, u54, u55, u56, u57, u58, u59, u60, u61, u62, u63, u64, u65, u66, u67, u68, u69, u70, u71, u72, u73, u74, u75, u76, u77, u78, u79, u80, u81, u82, u83, u84, u85, u86, u87, u88, u89, u90, u91, u92, u93, u94, u95, u96, u97, u98, u99, u100, u101, u102, u103, u104, u105, u106, u107, u108, u109, u110, u111, u112, u113, u114, u115, u116, u117, u118, u119, u120, u121, u122, u123, u124, u125, u126, u127, u128, u129, u130, u131, u132, u133, u134, u135, u136, u137, u138, u139, u140, u141, u142, u143, u144, u145, u146, u147, u148, u149, u150, u151, u152, u153, u154, u155, u156, u157, u158, u159, u160, u161, u162, u163, u164, u165, u166, u167, u168, u169, u170, u171, u172, u173, u174, u175, u176, u177, u178, u179, u180, u181, u182, u183, u184, u185, u186, u187, u188, u189, u190, u191, u192, u193, u194, u195, u196, u197, u198, u199, u200, u201, u202, u203, u204, u205, u206, u207, u208, u209, u210, u211, u212, u213, u214, u215, u216, u217, u218, u219, u220, u221, u222, u223, u224, u225, u226, u227, u228, u229, u230, u231, u232, u233, u234, u235, u236, u237, u238, u239, u240, u241, u242, u243, u244, u245, u246, u247, u248, u249, u250, u251, u252, u253, u254, u255, u256, u257, u258, u259, u260, u261, u262, u263, u264, u265, u266, u267, u268, u269, u270, u271, u272], []⟩ w := by
  obtain ⟨v', es, a1, r1, e1⟩ := h.c1
  have hl' := hl
  obtain ⟨g, cap, rfl, -⟩ := hl'
  rcases r1 with ⟨rfl, rfl⟩ | ⟨g0, c0', rfl, p1, p2, p3, p4, p5⟩
  · exact orders_r23_0 hO hi hn hnm a1 h.f1 hb Q fun v121 v122 v123 v124 v125 v126 v127 v128 v129 v130 v131 v132 v133 v134 v135 wc hr => hQ v121 v122 v123 v124 v125 v126 v127 v128 v129 v130 v131 v132 v133 v134 v135 wc ⟨h.more hMb e1 hns hl hr, (by obtain ⟨_, _, _, hg, _⟩ := hr; exact hg)⟩
  · exact orders_r23_1 hO hi hn hnm p1 (by rw [e1.1]; exact hl3) (Lib.hid p5) (Lib.hid e1.one) a1 h.f1 hb Q fun v121 v122 v123 v124 v125 v126 v127 v128 v129 v130 v131 v132 v133 v134 v135 wc hr => hQ v121 v122 v123 v124 v125 v126 v127 v128 v129 v130 v131 v132 v133 v134 v135 wc ⟨h.more hMb e1 hns hl hr, (by obtain ⟨_, _, _, hg, _⟩ := hr; exact hg)⟩

set_option maxRecDepth 100000 in
set_option maxHeartbeats 4000000 in
theorem orders_b0 {u0 u1 u2 u4 u5 u6 u10 u11 u12 u13 u14 u15 u16 u17 u18 u19 u20 u21 u22 u23 u24 u25 u26 u27 u28 u29 u30 u31 u32 u33 u34 u35 u36 u37 u38 u39 u40 u41 u42 u43 u44 u45 u46 u47 u48 u49 u50 u51 u52 u53 u54 u55 u56 u57 u58 u59 u60 u61 u62 u63 u64 u65 u66 u67 u68 u69 u70 u71 u72 u73 u74 u75 u76 u77 u78 u79 u80 u81 u82 u83 u84 u85 u86 u87 u88 u89 u90 u91 u92 u93 u94 u95 u96 u97 u98 u99 u100 u101 u102 u103 u104 u105 u106 u107 u108 u109 u110 u111 u112 u113 u114 u115 u116 u117 u118 u119 u120 u121 u122 u123 u124 u125 u126 u127 u128 u129 u130 u131 u132 u133 u134 u135 u136 u137 u138 u139 u140 u141 u142 u143 u144 u145 u146 u147 u148 u149 u150 u151 u152 u153 u154 u155 u156 u157 u158 u159 u160 u161 u162 u163 u164 u165 u166 u167 u168 u169 u170 u171 u172 u173 u174 u175 u176 u177 u178 u179 u180 u181 u182 u183 u184 u185 u186 u187 u188 u189 u190 u191 u192 u193 u194 u195 u196 u197 u198 u199 u200 u201 u202 u203 u204 u205 u206 u207 u208 u209 u210 u211 u212 u213 u214 u215 u216 u217 u218 u219 u220 u221 u222 u223 u224 u225 u226 u227 u228 u229 u230 u231 u232 u233 u234 u235 u236 u237 u238 u239 u240 u241 u242 u243 u244 u245 u246 u247 u248 u249 u250 u251 u252 u253 u254 u255 u256 u257 u258 u259 u260 u261 u262 u263 u264 u265 u266 u267 u268 u269 u270 u271 u272 : Value} {O M1 M2 ab ao bc : Nat} {b : Book} {V R0 : World} {spv : Value} (hV : Ext V R0) (hO0 : V.cell? ⟨O, 0, none⟩ = some (.int .i64 b.sounds)) (hO1 : V.cell? ⟨O, 1, none⟩ = some (.slice (some ⟨ab, ao, none⟩) b.alphabets.length bc)) (hal : AlphabetsAt V (.slice (some ⟨ab, ao, none⟩) b.alphabets.length bc) b.alphabets) (hv : Valid b)
    (h1 : V.heap.size ≤ M1) (h2 : V.heap.size ≤ M2) (h12 : M1 ≠ M2) (l1 : M1 < R0.heap.size) (l2 : M2 < R0.heap.size) (half1 : HalfAt b.sounds spv M1 R0.heap.size R0 []) (half2 : HalfAt b.sounds spv M2 R0.heap.size R0 []) (Q : Exit → Act → World → Prop)
    (hQ : ∀ (v9 v10 v11 v12 v13 v14 v15 v42 v43 v44 v45 v46 v47 v48 v49 v50 v51 v52 v53 v54 v55 v56 v57 v58 v59 v60 v61 v62 v63 v64 v65 v66 v67 v68 v69 v70 v71 v72 v73 v74 v75 v76 v77 v78 v79 v80 v81 v82 v83 v84 v85 v86 v87 v88 v89 v90 v91 v92 v93 v94 v95 v96 v97 v98 v99 v100 v101 v102 v103 v104 v105 v106 v107 v108 v109 v110 v111 v112 v113 v114 v115 v116 v117 v118 v119 v120 v121 v122 v123 v124 v125 v126 v127 v128 v129 v130 v131 v132 v133 v134 v135 : Value) (wc : World), OrdB0 b spv M1 M2 R0.heap.size V wc → Q .normal ⟨#[u0, u1, u2, .pointer (some ⟨O, 0, none⟩), u4, u5, u6, .pointer (some ⟨M1, 0, none⟩), .pointer (some ⟨M2, 0, none⟩), v9, v10, v11, v12, v13, v14, v15, u16, u17, u18, u19, u20, u21, u22, u23, u24, u25, u26, u27, u28, u29, u30, u31, u32, u33, u34, u35, u36, u37, u38, u39, u40, u41, v42, v43, v44, v45, v46, v47, v48, v49, v50, v51, v52, v53, v54, v55, v56, v57, v58, v59, v60, v61, v62, v63, v64, v65, v66, v67, v68, v69, v70, v71, v72, v73, v74, v75, v76, v77, v78, v79, v80, v81, v82, v83, v84, v85, v86, v87, v88, v89, v90, v91, v92, v93, v94, v95, v96, v97, v98, v99, v100, v101, v102, v103, v104, v105, v106, v107, v108, v109, v110, v111, v112, v113, v114, v115, v116, v117, v118, v119, v120, v121, v122, v123, v124, v125, v126, v127, v128, v129, v130, v131, v132, v133, v134, v135, u136, u137, u138, u139, u140, u141, u142, u143, u144, u145, u146, u147, u148, u149, u150, u151, u152, u153, u154, u155, u156, u157, u158, u159, u160, u161, u162, u163, u164, u165, u166, u167, u168, u169, u170, u171, u172, u173, u174, u175, u176, u177, u178, u179, u180, u181, u182, u183, u184, u185, u186, u187, u188, u189, u190, u191, u192, u193, u194, u195, u196, u197, u198, u199, u200, u201, u202, u203, u204, u205, u206, u207, u208, u209, u210, u211, u212, u213, u214, u215, u216, u217, u218, u219, u220, u221, u222, u223, u224, u225, u226, u227, u228, u229, u230, u231, u232, u233, u234, u235, u236, u237, u238, u239, u240, u241, u242, u243, u244, u245, u246, u247, u248, u249, u250, u251, u252, u253, u254, u255, u256, u257, u258, u259, u260, u261, u262, u263, u264, u265, u266, u267, u268, u269, u270, u271, u272], []⟩ wc) :
    Code.wp Try.prog (blockOf Try.f6 0) Q ⟨#[u0, u1, u2, .pointer (some ⟨O, 0, none⟩), u4, u5, u6, .pointer (some ⟨M1, 0, none⟩), .pointer (some ⟨M2, 0, none⟩), .int .i64 0, u10, u11, u12, u13, u14, u15, u16, u17, u18, u19, u20, u21, u22, u23, u24, u25, u26, u27, u28, u29, u30, u31, u32, u33, u34, u35, u36, u37, u38, u39, u40, u41, u42, u43, u44, u45, u46, u47, u48, u49, u50, u51, u52, u53, u54, u55, u56, u57, u58, u59, u60, u61, u62, u63, u64, u65, u66, u67, u68, u69, u70, u71, u72, u73, u74, u75, u76, u77, u78, u79, u80, u81, u82, u83, u84, u85, u86, u87, u88, u89, u90, u91, u92, u93, u94, u95, u96, u97, u98, u99, u100, u101, u102, u103, u104, u105, u106, u107, u108, u109, u110, u111, u112, u113, u114, u115, u116, u117, u118, u119, u120, u121, u122, u123, u124, u125, u126, u127, u128, u129, u130, u131, u132, u133, u134, u135, u136, u137, u138, u139, u140, u141, u142, u143, u144, u145, u146, u147, u148, u149, u150, u151, u152, u153, u154, u155, u156, u157, u158, u159, u160, u161, u162, u163, u164, u165, u166, u167, u168, u169, u170, u171, u172, u173, u174, u175, u176, u177, u178, u179, u180, u181, u182, u183, u184, u185, u186, u187, u188, u189, u190, u191, u192, u193, u194, u195, u196, u197, u198, u199, u200, u201, u202, u203, u204, u205, u206, u207, u208, u209, u210, u211, u212, u213, u214, u215, u216, u217, u218, u219, u220, u221, u222, u223, u224, u225, u226, u227, u228, u229, u230, u231, u232, u233, u234, u235, u236, u237, u238, u239, u240, u241, u242, u243, u244, u245, u246, u247, u248, u249, u250, u251, u252, u253, u254, u255, u256, u257, u258, u259, u260, u261, u262, u263, u264, u265, u266, u267, u268, u269, u270, u271, u272], []⟩ R0 := by
  conv => arg 2; whnf
  have hS := hv.s
  have ha3 := hv.a
  have Half1 := Lib.hid half1
  have Half2 := Lib.hid half2
  have Hal := Lib.hid hal
  have Hv := Lib.hid hv
  have zO : O < V.heap.size := cell_lt' hO0
  clear half1 half2 hal hv
  go_wp2_with fail
  go_loopw [9] (fun i wr => ∃ k : Nat, k ≤ b.alphabets.length ∧ i = .int .i64 k ∧ Ext V wr ∧ R0.heap.size ≤ wr.heap.size ∧ HalfAt b.sounds spv M1 R0.heap.size wr ((b.alphabets.take k).map backA) ∧ HalfAt b.sounds spv M2 R0.heap.size wr ((b.alphabets.take k).map (highA b.sounds))) (fun i _ => b.alphabets.length - (intOf i).toNat)
  case atStart => exact ⟨0, Nat.zero_le _, rfl, hV, Nat.le_refl _, Half1.out, Half2.out⟩
  case round =>
    obtain ⟨k, hk, rfl, hxr, hsz, g1, g2⟩ := hrel
    have d0 := hxr.cell hO0
    have d1 := hxr.cell hO1
    by_cases hlt : k < b.alphabets.length
    · have k1 : (k : Int) < (b.alphabets.length : Int) := by omega
      have hxz := hxr.size
      obtain ⟨_, _, hea, -, -, hq⟩ := Hal.out.ext hxr
      obtain ⟨ab', ao', e2, n0, nsz, lv, n1, hlv⟩ := hq k hlt
      have hea1 := (Value.slice.inj hea).1
      rw [e2] at hea1
      simp only [Option.some.injEq, Addr.mk.injEq, and_true] at hea1
      obtain ⟨rfl, rfl⟩ := hea1
      clear e2 hea hq
      have hva := (Hv.out.al k hlt).1
      have m1 := map_take backA b.alphabets k hlt
      have m2 := map_take (highA b.sounds) b.alphabets k hlt
      have hE1 := g1.c1
      have hE2 := g2.c1
      generalize b.alphabets[k] = al at *
      have hl6 := hva.l
      have hfin := fine_of hva
      obtain ⟨la, lc, rfl, -⟩ := hlv.shape
      obtain ⟨lb, lo, rfl⟩ : ∃ lb lo, la = some ⟨lb, lo, none⟩ := by
        obtain ⟨_, _, e, -, -, h⟩ := hlv
        obtain ⟨lb, lo, rfl, -⟩ := h 0 (by omega)
        exact ⟨lb, lo, (Value.slice.inj e).1⟩
      have hmk := mask_le hS
      have hf : Hid (∀ x ∈ al.letters, U8 x.c ∧ 0 ≤ x.sounds ∧ x.sounds ≤ 15) := Lib.hid fun x hx => by
        have h := hfin x hx
        have h1 := h.c
        have h2 := h.s
        unfold U8; omega
      have M1' := Lib.hid m1
      have M2' := Lib.hid m2
      have Hlv := Lib.hid hlv
      have G1 := Lib.hid g1
      have G2 := Lib.hid g2
      have Hfin := Lib.hid hfin
      clear m1 m2 hlv g1 g2 hfin hE1 hE2
      go_upto_block 2 with fail
      refine orders_b2 d0 hS Hlv.out hl6 hf _ ?_
      intro v11 v12 v13 v14 v15 v55 v56 v57 v58 v59 v60 v61 v62 v63 v64 v65 v66 v67 v68 v69 v70 v71 v72 v73 v74 v75 v76 v77 v78 v79 v80 v81 v82 v83 v84 v85 v86 v87 v88 v89 v90 v91 v92 v93 v94 v95 v96 v97 v98 v99 v100 v101 v102 v103 v104 v105 wc hcut
      obtain ⟨o1, o2, xc⟩ := hcut
      have hL1 : LetUp R0.heap.size wc v11 (backA al).letters := by
        refine LetUp.of_own (b0 := wr.heap.size) ?_ hsz (by simp [backA]; omega) fun x hx => ?_
        · show wc.ownsRow wr.heap.size 40 3 v11 al.letters.reverse.length (cellsL al.letters.reverse)
          rw [List.length_reverse]; exact o1
        · have := hf.out x (by simpa [backA] using hx)
          exact ⟨this.1, by unfold I64; omega⟩
      have hL2 : LetUp R0.heap.size wc v12 (highA b.sounds al).letters := by
        refine LetUp.of_own (b0 := wr.heap.size) ?_ hsz (by simp [highA]; omega) fun x hx => ?_
        · show wc.ownsRow wr.heap.size 40 3 v12 (al.letters.map (highL b.sounds)).length (cellsL (al.letters.map (highL b.sounds)))
          rw [List.length_map]; exact o2
        · have hx2 : x ∈ al.letters.map (highL b.sounds) := hx
          rw [List.mem_map] at hx2
          obtain ⟨y, hy, rfl⟩ := hx2
          have h := (high_fine hS (Hfin.out y hy)).1
          have h1 := h.c
          have h2 := h.s
          unfold U8 I64; omega
      clear o1 o2
      have hxc := xc.size
      have g1c := G1.out.ext xc
      have g2c := G2.out.ext xc
      have c1 := xc.cell d1
      have cn := xc.cell n0
      have hlt1 : ((b.alphabets.take k).map backA).length ≤ 3 := by rw [List.length_map, List.length_take]; omega
      have hlt2 : ((b.alphabets.take k).map (highA b.sounds)).length ≤ 3 := by rw [List.length_map, List.length_take]; omega
      have zab : ab < V.heap.size := by
        have h7 := Hal.out
        obtain ⟨_, _, e, -, -, h⟩ := h7
        obtain ⟨b', o', e2, r0, -⟩ := h k hlt
        have e3 := (Value.slice.inj e).1
        rw [e2] at e3
        simp only [Option.some.injEq, Addr.mk.injEq, and_true] at e3
        obtain ⟨rfl, rfl⟩ := e3
        exact cell_lt' r0
      clear d0 d1 n0 n1
      go_upto_region 22 with fail
      refine orders_r22 (x := backA al) c1 hlt ha3.2 cn nsz g1c hlt1 (by omega) l1 hL1 _ ?_
      intro v106 v107 v108 v109 v110 v111 v112 v113 v114 v115 v116 v117 v118 v119 v120 w2 hcut
      obtain ⟨q1, q2⟩ := hcut
      have kp1 : Keep R0.heap.size wc w2 := Keep.of_grown l1 q2
      have g2d := g2c.other (Ne.symm h12) l1 q2
      have c1d := q2.cell c1 (by simp; omega)
      have cnd := q2.cell cn (by simp; omega)
      have hL2d := hL2.keep kp1
      have hq2s := q2.size
      clear g1c g2c c1 cn hL1 hL2
      go_upto_region 23 with fail
      refine orders_r23 (x := highA b.sounds al) c1d hlt ha3.2 cnd nsz g2d hlt2 (by omega) l2 hL2d _ ?_
      intro v121 v122 v123 v124 v125 v126 v127 v128 v129 v130 v131 v132 v133 v134 v135 w3 hcut
      obtain ⟨q3, q4⟩ := hcut
      have g1e := q1.other h12 l2 q4
      have x3 : Ext V w3 := Ext.grown (Ext.grown (hxr.trans xc) q2 fun k hk => by cases hk; exact h1) q4 fun k hk => by cases hk; exact h2
      have hq4s := q4.size
      rw [← M1'.out] at g1e
      rw [← M2'.out] at q3
      clear g2d c1d cnd hL2d kp1 q1 q2 q4
      go_wp2
      go_roundw
      case rel => exact ⟨k + 1, by omega, by go_num, x3, by omega, g1e, q3⟩
      case measure => simp [intOf]; omega
    · obtain rfl : k = b.alphabets.length := by omega
      rw [List.take_length] at g1 g2
      go_wp2
      exact ⟨g1, g2, hxr⟩
end Go.Proofs.Ytoifmphpeflliaa

namespace Go.Proofs.Ytoifmphpeflliaa
open Go.RowKit
set_option linter.unusedVariables false

theorem ret_nil {w : World} : IntsAt w (.slice none 0 0) [] := SliceAt.nil
theorem open_one {b : Book} {n : Int} (h : openM b [n] = 0) : ∃ k : Nat, n = k ∧ k < b.spellings.length := by
  obtain ⟨-, h2⟩ := openM_zero h
  have := h2 n (by simp)
  exact ⟨n.toNat, by omega, by omega⟩
theorem open_two {b : Book} {m n : Int} (h : openM b [m, n] = 0) : ∃ i j : Nat, m = i ∧ n = j ∧ i < b.spellings.length ∧ j < b.spellings.length := by
  obtain ⟨-, h2⟩ := openM_zero h
  have h3 := h2 m (by simp)
  have h4 := h2 n (by simp)
  exact ⟨m.toNat, n.toNat, by omega, by omega, by omega, by omega⟩
theorem open_same {b b' : Book} (he : errM b = 0) (he' : errM b' = 0) (hs : b'.spellings = b.spellings) (l : List Int) : openM b' l = openM b l := by
  unfold openM
  rw [he, he', hs]
/-- what First returns -/
def FirstA (b : Book) (n : Int) (k : List Int) (er : Int) : Prop := (openM b [n] ≠ 0 → k = [] ∧ er = openM b [n]) ∧ ∀ i : Nat, n = i → i < b.spellings.length → ∃ f, FirstIs (canM b [i]) (fun _ => True) (bitsM [i]) k f ∧ er = if f then 0 else 9
theorem first_any (bv : Value) (b : Book) (he : errM b = 0) (n : Int) (hn : I64 n) (w : World) (hb : BookAt w bv b) :
    Calls Try.prog 21 #[bv, .int .i64 n] w fun e w' => ∃ u k er, e = .returned (.tuple #[u, .int .i64 er]) ∧ IntsAt w' u k ∧ Ext w w' ∧ FirstA b n k er := by
  by_cases ho : openM b [n] = 0
  · obtain ⟨i, rfl, hi⟩ := open_one ho
    refine (first_ok bv b he i hi w hb).mono ?_
    rintro e w' ⟨k, f, u, hF, rfl, hu, hx⟩
    refine ⟨u, k, _, rfl, hu, hx, fun h => absurd ho h, fun j hj _ => ?_⟩
    obtain rfl : i = j := by omega
    exact ⟨f, hF, rfl⟩
  · refine (first_err bv b n hn ho w hb).mono ?_
    rintro e w' ⟨rfl, hx⟩
    refine ⟨_, [], _, rfl, ret_nil, hx, fun _ => ⟨rfl, rfl⟩, fun i hi hl => ?_⟩
    subst hi
    exact absurd (openM_ok he (l := [(i : Int)]) (by simp; omega)) ho
theorem firstA_back {b : Book} (hv : Valid b) (he : errM b = 0) (he' : errM (backB b) = 0) {n : Int} {k k' : List Int} {er er' : Int} (h : FirstA b n k er) (h' : FirstA (backB b) n k' er') : k = k' ∧ er = er' := by
  have hs := open_same he he' (show (backB b).spellings = b.spellings from rfl) [n]
  by_cases ho : openM b [n] = 0
  · obtain ⟨i, rfl, hi⟩ := open_one ho
    obtain ⟨f, h1, rfl⟩ := h.2 i rfl hi
    obtain ⟨f', h2, rfl⟩ := h'.2 i rfl hi
    obtain ⟨rfl, rfl⟩ := back_first hv hi h1 h2
    exact ⟨rfl, rfl⟩
  · obtain ⟨rfl, rfl⟩ := h.1 ho
    obtain ⟨rfl, rfl⟩ := h'.1 (by rw [hs]; exact ho)
    exact ⟨rfl, hs.symm⟩
/-- what Reads returns -/
def readsV (b : Book) (n : Int) (l : List Int) : Bool × Int := if openM b [n] ≠ 0 then (false, openM b [n]) else if heardErrM b.sounds l ≠ 0 then (false, heardErrM b.sounds l) else ((getT l (canM b [n.toNat])).isSome, 0)
theorem reads_any (bv hv : Value) (b : Book) (he : errM b = 0) (n : Int) (hn : I64 n) (l : List Int) (w : World) (hb : BookAt w bv b) (hl : IntsAt w hv l) :
    Calls Try.prog 15 #[bv, .int .i64 n, hv] w fun e w' => e = .returned (.tuple #[.bool (readsV b n l).1, .int .i64 (readsV b n l).2]) ∧ Ext w w' := by
  unfold readsV
  by_cases ho : openM b [n] = 0
  · rw [if_neg (by simpa using ho)]
    obtain ⟨i, rfl, hi⟩ := open_one ho
    by_cases hh : heardErrM b.sounds l = 0
    · rw [if_neg (by simpa using hh)]
      simpa using reads_ok bv hv b he i hi l hh w hb hl
    · rw [if_pos hh]
      exact reads_bad bv hv b he i hi l hh w hb hl
  · rw [if_pos ho]
    exact reads_err bv hv b n hn l ho w hb hl
theorem reads_back {b : Book} (hv : Valid b) (he : errM b = 0) (he' : errM (backB b) = 0) (n : Int) (l : List Int) : readsV (backB b) n l = readsV b n l := by
  have hs := open_same he he' (show (backB b).spellings = b.spellings from rfl) [n]
  unfold readsV
  rw [hs]
  by_cases ho : openM b [n] = 0
  · obtain ⟨i, rfl, hi⟩ := open_one ho
    have : (getT l (canM (backB b) [((i : Nat) : Int).toNat])).isSome = (getT l (canM b [((i : Nat) : Int).toNat])).isSome := by
      rw [Int.toNat_natCast]; exact back_reads hv hi l
    rw [this]; rfl
  · rw [if_pos ho, if_pos ho]
/-- what Count returns -/
def countV (b : Book) (n : Int) : Int × Int := if openM b [n] ≠ 0 then (0, openM b [n]) else (((canM b [n.toNat]).length : Nat), 0)
theorem count_any (bv : Value) (b : Book) (he : errM b = 0) (n : Int) (hn : I64 n) (w : World) (hb : BookAt w bv b) :
    Calls Try.prog 19 #[bv, .int .i64 n] w fun e w' => e = .returned (.tuple #[.int .i64 (countV b n).1, .int .i64 (countV b n).2]) ∧ Ext w w' := by
  unfold countV
  by_cases ho : openM b [n] = 0
  · rw [if_neg (by simpa using ho)]
    obtain ⟨i, rfl, hi⟩ := open_one ho
    simpa using count_ok bv b he i hi w hb
  · rw [if_pos ho]
    exact count_err bv b n hn ho w hb
theorem count_high {b : Book} (hv : Valid b) (he : errM b = 0) (he' : errM (highB b) = 0) (n : Int) : countV (highB b) n = countV b n := by
  have hs := open_same he he' (show (highB b).spellings = b.spellings from rfl) [n]
  unfold countV
  rw [hs]
  by_cases ho : openM b [n] = 0
  · obtain ⟨i, rfl, hi⟩ := open_one ho
    rw [Int.toNat_natCast, high_count hv hi]
  · rw [if_pos ho, if_pos ho]
/-- what Alike returns -/
def AlikeA (b : Book) (m n : Int) (p er : Int) : Prop := (openM b [m, n] ≠ 0 → p = 0 ∧ er = openM b [m, n]) ∧ ∀ i j : Nat, m = i → n = j → i < b.spellings.length → j < b.spellings.length → (i = j → p = 0 ∧ er = 2) ∧ (i ≠ j → er = 0 ∧ AlikeIs b i j p)
theorem alike_any (bv : Value) (b : Book) (he : errM b = 0) (m n : Int) (hm : I64 m) (hn : I64 n) (w : World) (hb : BookAt w bv b) :
    Calls Try.prog 20 #[bv, .int .i64 m, .int .i64 n] w fun e w' => ∃ p er, e = .returned (.tuple #[.int .i64 p, .int .i64 er]) ∧ Ext w w' ∧ AlikeA b m n p er := by
  by_cases ho : openM b [m, n] = 0
  · obtain ⟨i, j, rfl, rfl, hi, hj⟩ := open_two ho
    refine (alike_two bv b he i j hi hj w hb).mono ?_
    rintro e w' ⟨p, er, rfl, h1, h2, hx⟩
    refine ⟨p, er, rfl, hx, fun h => absurd ho h, fun i' j' e1 e2 _ _ => ?_⟩
    obtain rfl : i = i' := by omega
    obtain rfl : j = j' := by omega
    exact ⟨h1, h2⟩
  · refine (alike_err bv b m n hm hn ho w hb).mono ?_
    rintro e w' ⟨rfl, hx⟩
    refine ⟨_, _, rfl, hx, fun _ => ⟨rfl, rfl⟩, fun i j e1 e2 hi hj => ?_⟩
    subst e1 e2
    exact absurd (openM_ok he (l := [(i : Int), (j : Int)]) (by simp; omega)) ho
theorem alikeA_high {b : Book} (hv : Valid b) (he : errM b = 0) (he' : errM (highB b) = 0) {m n p q er er' : Int} (h : AlikeA b m n p er) (h' : AlikeA (highB b) m n q er') : p = q ∧ er = er' := by
  have hs := open_same he he' (show (highB b).spellings = b.spellings from rfl) [m, n]
  by_cases ho : openM b [m, n] = 0
  · obtain ⟨i, j, rfl, rfl, hi, hj⟩ := open_two ho
    obtain ⟨a1, a2⟩ := h.2 i j rfl rfl hi hj
    obtain ⟨c1, c2⟩ := h'.2 i j rfl rfl hi hj
    by_cases e : i = j
    · obtain ⟨rfl, rfl⟩ := a1 e
      obtain ⟨rfl, rfl⟩ := c1 e
      exact ⟨rfl, rfl⟩
    · obtain ⟨rfl, d1⟩ := a2 e
      obtain ⟨rfl, d2⟩ := c2 e
      exact ⟨high_alike hv hi hj d1 d2, rfl⟩
  · obtain ⟨rfl, rfl⟩ := h.1 ho
    obtain ⟨rfl, rfl⟩ := h'.1 (by rw [hs]; exact ho)
    exact ⟨rfl, hs.symm⟩
end Go.Proofs.Ytoifmphpeflliaa

namespace Go.Proofs.Ytoifmphpeflliaa
open Go.RowKit
set_option linter.unusedVariables false

structure OrdSt (w W : World) (b : Book) (ba : Option Addr) (bc : Nat) (bs : Option Addr) (bd : Nat) (x0 x1 : Int) (hv : Value) (l : List Int) : Prop where
  hB : Boxed W w.heap.size b ba bc bs bd
  X0 : W.cell? ⟨w.heap.size + 1, 0, none⟩ = some (.int .i64 x0)
  X1 : W.cell? ⟨w.heap.size + 1, 1, none⟩ = some (.int .i64 x1)
  hl : IntsAt W hv l
  hx : Ext w W
theorem OrdSt.ext {w W W' : World} {b : Book} {ba : Option Addr} {bc : Nat} {bs : Option Addr} {bd : Nat} {x0 x1 : Int} {hv : Value} {l : List Int} (h : OrdSt w W b ba bc bs bd x0 x1 hv l) (hx : Ext W W') : OrdSt w W' b ba bc bs bd x0 x1 hv l :=
  ⟨h.hB.ext hx, hx.cell h.X0, hx.cell h.X1, h.hl.ext hx, h.hx.trans hx⟩

set_option maxRecDepth 100000 in
set_option maxHeartbeats 4000000 in
theorem orders_law (ba bs : Option Addr) (bc bd : Nat) (b : Book) (x0 x1 : Int) (h0 : I64 x0) (h1 : I64 x1) (la : Option Addr) (lc : Nat) (l : List Int) (w : World) (hb : BookAt w (.agg #[.int .i64 b.sounds, .slice ba b.alphabets.length bc, .slice bs b.spellings.length bd]) b) (hl : IntsAt w (.slice la l.length lc) l) :
    Calls Try.prog 6 #[(.agg #[.int .i64 b.sounds, .slice ba b.alphabets.length bc, .slice bs b.spellings.length bd]), .agg #[.int .i64 x0, .int .i64 x1], .slice la l.length lc] w fun e w' => e = .returned (.bool true) ∧ Ext w w' := by
  have aw := fun w => awake_any w
  go_enter Try.func6, Try.ntmps6
  go_wp2_with fail
  have st : OrdSt w ((w.alloc (.cells #[.int .i64 b.sounds, .slice ba b.alphabets.length bc, .slice bs b.spellings.length bd] 25)).alloc (.cells #[.int .i64 x0, .int .i64 x1] 56)) b ba bc bs bd x0 x1 (.slice la l.length lc) l := ⟨⟨by simp [go_sem], by simp [go_sem], by simp [go_sem], hb.ext (by first | (with_reducible exact Ext.refl _) | (with_reducible assumption) | (show Below _ _ _; go_grown; done))⟩, by simp [go_sem], by simp [go_sem], hl.ext (by first | (with_reducible exact Ext.refl _) | (with_reducible assumption) | (show Below _ _ _; go_grown; done)), (by first | (with_reducible exact Ext.refl _) | (with_reducible assumption) | (show Below _ _ _; go_grown; done))⟩
  generalize ((w.alloc (.cells #[.int .i64 b.sounds, .slice ba b.alphabets.length bc, .slice bs b.spellings.length bd] 25)).alloc (.cells #[.int .i64 x0, .int .i64 x1] 56)) = W at *
  refine (valid_any _ b _ st.hB.at_).mono ?_
  rintro e w1 ⟨rfl, hx1⟩
  replace st := st.ext hx1
  clear hx1 hb hl
  by_cases he : errM b = 0
  rotate_left
  · have hev : (errM b == 0) = false := by simpa using he
    rw [hev]
    have x1 := st.hx
    clear he hev st
    go_wp2_with fail
    refine (aw _).mono ?_
    rintro e w8 ⟨rfl, h8⟩
    have x8 := x1.trans h8
    go_wp2
    go_ret
    exact ⟨rfl, x8⟩
  have hv := valid_of he
  have hev : (errM b == 0) = true := by simpa using he
  rw [hev]
  have ha3 := hv.a
  have halp : AlphabetsAt w1 (.slice ba b.alphabets.length bc) b.alphabets := by
    obtain ⟨_, _, e, -, h, -⟩ := st.hB.at_
    simp only [Value.agg.injEq, Array.mk.injEq, List.cons.injEq, and_true, true_and] at e
    rw [e.1]; exact h
  obtain ⟨ab, ao, rfl⟩ : ∃ ab ao, ba = some ⟨ab, ao, none⟩ := by
    obtain ⟨_, _, e, -, -, h⟩ := halp
    obtain ⟨ab, ao, rfl, -⟩ := h 0 (by omega)
    exact ⟨ab, ao, (Value.slice.inj e).1⟩
  have c0 := st.hB.c0
  have c1 := st.hB.c1
  have c2 := st.hB.c2
  have z1 := st.hB.lt
  have St := Lib.hid st
  have Hal := Lib.hid halp
  have He := Lib.hid he
  have Hv := Lib.hid hv
  clear st halp he hv hev
  go_wp2_with fail
  go_region
  all_goals
    go_upto_block 0 with fail
    refine orders_b0 (b := b) (V := w1) (spv := .slice bs b.spellings.length bd) (((ext_alloc _ _).alloc _).drew) c0 c1 Hal.out Hv.out (by omega) (by omega) (by omega) (by first | (simp; done) | (simp; omega)) (by first | (simp; done) | (simp; omega)) ⟨by simp [go_sem], ⟨_, [], by simp [go_sem], .inl ⟨rfl, rfl⟩, ⟨rfl, fun i h => by simp at h⟩⟩, by simp [go_sem], by simp [go_sem]⟩ ⟨by simp [go_sem], ⟨_, [], by simp [go_sem], .inl ⟨rfl, rfl⟩, ⟨rfl, fun i h => by simp at h⟩⟩, by simp [go_sem], by simp [go_sem]⟩ _ ?_
    intro v9 v10 v11 v12 v13 v14 v15 v42 v43 v44 v45 v46 v47 v48 v49 v50 v51 v52 v53 v54 v55 v56 v57 v58 v59 v60 v61 v62 v63 v64 v65 v66 v67 v68 v69 v70 v71 v72 v73 v74 v75 v76 v77 v78 v79 v80 v81 v82 v83 v84 v85 v86 v87 v88 v89 v90 v91 v92 v93 v94 v95 v96 v97 v98 v99 v100 v101 v102 v103 v104 v105 v106 v107 v108 v109 v110 v111 v112 v113 v114 v115 v116 v117 v118 v119 v120 v121 v122 v123 v124 v125 v126 v127 v128 v129 v130 v131 v132 v133 v134 v135 wc hcut
    obtain ⟨g1, g2, xc⟩ := hcut
    have st := St.out.ext xc
    obtain ⟨u1, e1, m1, r1, en1⟩ := g1.c1
    obtain ⟨u2, e2, m2, r2, en2⟩ := g2.c1
    have A1 : AlphabetsAt wc u1 (backB b).alphabets := alphabets_up r1 en1
    have A2 : AlphabetsAt wc u2 (highB b).alphabets := alphabets_up r2 en2
    have hb1 : BookAt wc (.agg #[.int .i64 b.sounds, u1, .slice bs b.spellings.length bd]) (backB b) := book_own (b' := backB b) st.hB.at_ (Ext.refl _) rfl rfl A1
    have hb2 : BookAt wc (.agg #[.int .i64 b.sounds, u2, .slice bs b.spellings.length bd]) (highB b) := book_own (b' := highB b) st.hB.at_ (Ext.refl _) rfl rfl A2
    obtain ⟨a1, k1, rfl, -⟩ := A1.shape
    obtain ⟨a2, k2, rfl, -⟩ := A2.shape
    have p0 := g1.c0
    have p2 := g1.c2
    have q0 := g2.c0
    have q2 := g2.c2
    have hv := Hv.out
    have he := He.out
    have he1 := err_valid (back_two hv).2.2
    have he2 := err_valid (high_two hv).2.2
    have c0 := st.hB.c0
    have c1 := st.hB.c1
    have c2 := st.hB.c2
    have z1 := st.hB.lt
    have X0 := st.X0
    have X1 := st.X1
    have hF1 := fun bv w hb => first_any bv b he x0 h0 w hb
    have hF2 := fun bv w hb => first_any bv (backB b) he1 x0 h0 w hb
    have hFF := fun k k' er er' => firstA_back (n := x0) (k := k) (k' := k') (er := er) (er' := er') hv he he1
    have hR1 := fun bv hv w hb hl => reads_any bv hv b he x1 h1 l w hb hl
    have hR2 := fun bv hv w hb hl => reads_any bv hv (backB b) he1 x1 h1 l w hb hl
    rw [reads_back hv he he1] at hR2
    have hC1 := fun bv w hb => count_any bv b he x0 h0 w hb
    have hC2 := fun bv w hb => count_any bv (highB b) he2 x0 h0 w hb
    rw [count_high hv he he2] at hC2
    have hA1 := fun bv w hb => alike_any bv b he x0 x1 h0 h1 w hb
    have hA2 := fun bv w hb => alike_any bv (highB b) he2 x0 x1 h0 h1 w hb
    have hAA := fun p q er er' => alikeA_high (m := x0) (n := x1) (p := p) (q := q) (er := er) (er' := er') hv he he2
    have hO1 := fun bv w hb => odd_ok bv b he w hb
    have hO2 := fun bv w hb => odd_ok bv (highB b) he2 w hb
    have hO3 := fun bv w hb => odd_ok bv (backB b) he1 w hb
    rw [high_odd hv] at hO2
    rw [back_odd hv] at hO3
    have HFF := Lib.hid hFF
    have HAA := Lib.hid hAA
    generalize hbk : backB b = bk at *
    generalize hhg : highB b = hg at *
    generalize readsV b x1 l = rv at *
    generalize countV b x0 = cv at *
    generalize ints (oddL b) = od at *
    generalize (bk.alphabets.length) = nk at *
    generalize (hg.alphabets.length) = nh at *
    clear hbk hhg hFF hAA he he1 he2 hv A1 A2 r1 en1 r2 en2 g1 g2 xc St Hal He Hv
    go_wp2_with fail
    refine (hF1 _ _ st.hB.at_).mono ?_
    rintro e w3 ⟨uF, kF, erF, rfl, hF, x3, fa⟩
    (replace st := OrdSt.ext st x3; replace p0 := Ext.cell x3 p0; replace m1 := Ext.cell x3 m1; replace p2 := Ext.cell x3 p2; replace q0 := Ext.cell x3 q0; replace m2 := Ext.cell x3 m2; replace q2 := Ext.cell x3 q2; replace hb1 := BookAt.ext hb1 x3; replace hb2 := BookAt.ext hb2 x3; replace c0 := st.hB.c0; replace c1 := st.hB.c1; replace c2 := st.hB.c2; replace z1 := st.hB.lt; replace X0 := st.X0; replace X1 := st.X1)
    obtain ⟨fa1, fc1, rfl, -⟩ := hF.shape
    have Fa := Lib.hid fa
    clear x3 hF1 fa
    go_wp2_with fail
    refine (hF2 _ _ hb1).mono ?_
    rintro e w4 ⟨uG, kG, erG, rfl, hG, x4, ga⟩
    obtain ⟨rfl, rfl⟩ := HFF.out _ _ _ _ Fa.out ga
    (replace st := OrdSt.ext st x4; replace p0 := Ext.cell x4 p0; replace m1 := Ext.cell x4 m1; replace p2 := Ext.cell x4 p2; replace q0 := Ext.cell x4 q0; replace m2 := Ext.cell x4 m2; replace q2 := Ext.cell x4 q2; replace hb1 := BookAt.ext hb1 x4; replace hb2 := BookAt.ext hb2 x4; replace c0 := st.hB.c0; replace c1 := st.hB.c1; replace c2 := st.hB.c2; replace z1 := st.hB.lt; replace X0 := st.X0; replace X1 := st.X1)
    replace hF := hF.ext x4
    obtain ⟨ga1, gc1, rfl, -⟩ := hG.shape
    clear x4 hF2 ga Fa HFF
    go_wp2_with fail
    refine (hR1 _ _ _ st.hB.at_ st.hl).mono ?_
    rintro e w5 ⟨rfl, x5⟩
    (replace st := OrdSt.ext st x5; replace p0 := Ext.cell x5 p0; replace m1 := Ext.cell x5 m1; replace p2 := Ext.cell x5 p2; replace q0 := Ext.cell x5 q0; replace m2 := Ext.cell x5 m2; replace q2 := Ext.cell x5 q2; replace hb1 := BookAt.ext hb1 x5; replace hb2 := BookAt.ext hb2 x5; replace c0 := st.hB.c0; replace c1 := st.hB.c1; replace c2 := st.hB.c2; replace z1 := st.hB.lt; replace X0 := st.X0; replace X1 := st.X1)
    replace hF := hF.ext x5
    replace hG := hG.ext x5
    clear x5 hR1
    go_wp2_with fail
    refine (hR2 _ _ _ hb1 st.hl).mono ?_
    rintro e w6 ⟨rfl, x6⟩
    (replace st := OrdSt.ext st x6; replace p0 := Ext.cell x6 p0; replace m1 := Ext.cell x6 m1; replace p2 := Ext.cell x6 p2; replace q0 := Ext.cell x6 q0; replace m2 := Ext.cell x6 m2; replace q2 := Ext.cell x6 q2; replace hb1 := BookAt.ext hb1 x6; replace hb2 := BookAt.ext hb2 x6; replace c0 := st.hB.c0; replace c1 := st.hB.c1; replace c2 := st.hB.c2; replace z1 := st.hB.lt; replace X0 := st.X0; replace X1 := st.X1)
    replace hF := hF.ext x6
    replace hG := hG.ext x6
    clear x6 hR2
    go_wp2_with fail
    refine (ints_any _ _ kF kF _ hF hG).mono ?_
    rintro e w7 ⟨rfl, x7⟩
    rw [decide_eq_true rfl]
    (replace st := OrdSt.ext st x7; replace p0 := Ext.cell x7 p0; replace m1 := Ext.cell x7 m1; replace p2 := Ext.cell x7 p2; replace q0 := Ext.cell x7 q0; replace m2 := Ext.cell x7 m2; replace q2 := Ext.cell x7 q2; replace hb1 := BookAt.ext hb1 x7; replace hb2 := BookAt.ext hb2 x7; replace c0 := st.hB.c0; replace c1 := st.hB.c1; replace c2 := st.hB.c2; replace z1 := st.hB.lt; replace X0 := st.X0; replace X1 := st.X1)
    clear x7 hF hG
    go_wp2_with fail
    refine (hC1 _ _ st.hB.at_).mono ?_
    rintro e w8 ⟨rfl, x8⟩
    (replace st := OrdSt.ext st x8; replace p0 := Ext.cell x8 p0; replace m1 := Ext.cell x8 m1; replace p2 := Ext.cell x8 p2; replace q0 := Ext.cell x8 q0; replace m2 := Ext.cell x8 m2; replace q2 := Ext.cell x8 q2; replace hb1 := BookAt.ext hb1 x8; replace hb2 := BookAt.ext hb2 x8; replace c0 := st.hB.c0; replace c1 := st.hB.c1; replace c2 := st.hB.c2; replace z1 := st.hB.lt; replace X0 := st.X0; replace X1 := st.X1)
    clear x8 hC1
    go_wp2_with fail
    refine (hC2 _ _ hb2).mono ?_
    rintro e w9 ⟨rfl, x9⟩
    (replace st := OrdSt.ext st x9; replace p0 := Ext.cell x9 p0; replace m1 := Ext.cell x9 m1; replace p2 := Ext.cell x9 p2; replace q0 := Ext.cell x9 q0; replace m2 := Ext.cell x9 m2; replace q2 := Ext.cell x9 q2; replace hb1 := BookAt.ext hb1 x9; replace hb2 := BookAt.ext hb2 x9; replace c0 := st.hB.c0; replace c1 := st.hB.c1; replace c2 := st.hB.c2; replace z1 := st.hB.lt; replace X0 := st.X0; replace X1 := st.X1)
    clear x9 hC2
    go_wp2_with fail
    refine (hA1 _ _ st.hB.at_).mono ?_
    rintro e w10 ⟨pA, erA, rfl, x10, aa⟩
    (replace st := OrdSt.ext st x10; replace p0 := Ext.cell x10 p0; replace m1 := Ext.cell x10 m1; replace p2 := Ext.cell x10 p2; replace q0 := Ext.cell x10 q0; replace m2 := Ext.cell x10 m2; replace q2 := Ext.cell x10 q2; replace hb1 := BookAt.ext hb1 x10; replace hb2 := BookAt.ext hb2 x10; replace c0 := st.hB.c0; replace c1 := st.hB.c1; replace c2 := st.hB.c2; replace z1 := st.hB.lt; replace X0 := st.X0; replace X1 := st.X1)
    have Aa := Lib.hid aa
    clear x10 hA1 aa
    go_wp2_with fail
    refine (hA2 _ _ hb2).mono ?_
    rintro e w11 ⟨pB, erB, rfl, x11, ab2⟩
    obtain ⟨rfl, rfl⟩ := HAA.out _ _ _ _ Aa.out ab2
    (replace st := OrdSt.ext st x11; replace p0 := Ext.cell x11 p0; replace m1 := Ext.cell x11 m1; replace p2 := Ext.cell x11 p2; replace q0 := Ext.cell x11 q0; replace m2 := Ext.cell x11 m2; replace q2 := Ext.cell x11 q2; replace hb1 := BookAt.ext hb1 x11; replace hb2 := BookAt.ext hb2 x11; replace c0 := st.hB.c0; replace c1 := st.hB.c1; replace c2 := st.hB.c2; replace z1 := st.hB.lt; replace X0 := st.X0; replace X1 := st.X1)
    clear x11 hA2 ab2 Aa HAA
    go_wp2_with fail
    refine (hO1 _ _ st.hB.at_).mono ?_
    rintro e w12 ⟨o1, rfl, d1, x12⟩
    (replace st := OrdSt.ext st x12; replace p0 := Ext.cell x12 p0; replace m1 := Ext.cell x12 m1; replace p2 := Ext.cell x12 p2; replace q0 := Ext.cell x12 q0; replace m2 := Ext.cell x12 m2; replace q2 := Ext.cell x12 q2; replace hb1 := BookAt.ext hb1 x12; replace hb2 := BookAt.ext hb2 x12; replace c0 := st.hB.c0; replace c1 := st.hB.c1; replace c2 := st.hB.c2; replace z1 := st.hB.lt; replace X0 := st.X0; replace X1 := st.X1)
    obtain ⟨oa1, oc1, rfl, -⟩ := d1.shape
    clear x12 hO1
    go_wp2_with fail
    refine (hO2 _ _ hb2).mono ?_
    rintro e w13 ⟨o2, rfl, d2, x13⟩
    (replace st := OrdSt.ext st x13; replace p0 := Ext.cell x13 p0; replace m1 := Ext.cell x13 m1; replace p2 := Ext.cell x13 p2; replace q0 := Ext.cell x13 q0; replace m2 := Ext.cell x13 m2; replace q2 := Ext.cell x13 q2; replace hb1 := BookAt.ext hb1 x13; replace hb2 := BookAt.ext hb2 x13; replace c0 := st.hB.c0; replace c1 := st.hB.c1; replace c2 := st.hB.c2; replace z1 := st.hB.lt; replace X0 := st.X0; replace X1 := st.X1)
    replace d1 := d1.ext x13
    obtain ⟨oa2, oc2, rfl, -⟩ := d2.shape
    clear x13 hO2
    go_wp2_with fail
    refine (hO3 _ _ hb1).mono ?_
    rintro e w14 ⟨o3, rfl, d3, x14⟩
    have x15 := st.hx.trans x14
    replace d1 := d1.ext x14
    replace d2 := d2.ext x14
    obtain ⟨oa3, oc3, rfl, -⟩ := d3.shape
    clear x14 hO3 st p0 m1 p2 q0 m2 q2 hb1 hb2 c0 c1 c2 z1 X0 X1
    go_wp2_with fail
    refine (ints_any _ _ od od _ d1 d2).mono ?_
    rintro e w16 ⟨rfl, x16⟩
    rw [decide_eq_true rfl]
    replace x15 := x15.trans x16
    replace d1 := d1.ext x16
    replace d3 := d3.ext x16
    clear x16 d2
    go_wp2_with fail
    refine (ints_any _ _ od od _ d1 d3).mono ?_
    rintro e w17 ⟨rfl, x17⟩
    rw [decide_eq_true rfl]
    replace x15 := x15.trans x17
    clear x17 d1 d3
    go_wp2_with fail
    refine (aw _).mono ?_
    rintro e w18 ⟨rfl, x18⟩
    have x19 := x15.trans x18
    clear x18 x15
    go_wp2
    go_ret
    exact ⟨rfl, x19⟩
theorem orders_any (bv : Value) (b : Book) (x0 x1 : Int) (h0 : I64 x0) (h1 : I64 x1) (hv : Value) (l : List Int) (w : World) (hb : BookAt w bv b) (hl : IntsAt w hv l) :
    Calls Try.prog 6 #[bv, .agg #[.int .i64 x0, .int .i64 x1], hv] w fun e w' => e = .returned (.bool true) ∧ Ext w w' := by
  obtain ⟨ba, bc, bs, bd, rfl, -⟩ := hb.open
  obtain ⟨la, lc, rfl, -⟩ := hl.shape
  exact orders_law ba bs bc bd b x0 x1 h0 h1 la lc l w hb hl
end Go.Proofs.Ytoifmphpeflliaa

namespace Go.Proofs.Ytoifmphpeflliaa.earOrders
open Go.ChangeShapes Go.WideShapes Go.ChangeAt Go.RowKit
set_option linter.unusedVariables false

theorem own : ownKnob Try.prog.godebug = none := by kernel_rfl
theorem laid : laidOutB Try.prog = true := by kernel_rfl
theorem read0 : Try.prog.readableRec 25 = true := by kernel_rfl
theorem row0 : 25 < Try.prog.types.size := of_decide_eq_true (by kernel_rfl)
theorem read1 : Try.prog.readableRec 56 = true := by kernel_rfl
theorem row1 : 56 < Try.prog.types.size := of_decide_eq_true (by kernel_rfl)
theorem read2 : Try.prog.readableRec 26 = true := by kernel_rfl
theorem row2 : 26 < Try.prog.types.size := of_decide_eq_true (by kernel_rfl)

set_option maxRecDepth 100000 in
theorem lifted (os : Os) (started : os.Started) (H : Type) (enc : TypeId × Value → H) :
    ReturnsInHanded {} Try.checked os 6 .any (Rows.earOrdersSpec.pre6 enc Try.prog Try.f6 Rows.earOrdersRow.domain false) (Rows.earOrdersSpec.post enc Try.prog Try.f6 false true false false) := by
  refine returnsInHanded_of_change (C := Try.checked) own started (by kernel_rfl) Try.func6
    (ChangeSpec.witness6 (enc := enc) (C := Try.checked) false ⟨#[], #[.agg #[.int .i64 0, .slice none 0 0, .slice none 0 0], .agg #[.int .i64 0, .int .i64 0], .slice none 0 0], []⟩ 8 (by kernel_rfl) (by kernel_rfl) (by kernel_rfl) (by kernel_rfl)) ?_
  intro W base args ds gs before hval0 hW hcnd _
  have hval : ∀ (j : Nat) t v, Try.f6.params[j]? = some t → args[j]? = some v → Value.okWide Try.prog W .any base t v := hval0
  have hW' := hW
  obtain ⟨p, q, hA0, hV, rfl, hfz, hnd⟩ := hW
  have hA : DataW.TrodAll enc Try.prog W 0 (fun _ => true) true Try.f6.params.toList args.toList ds p := hA0
  rw [Try.params6] at hA hval
  obtain ⟨v0, vs0, d0, ds0, p0, q0, hargs0, rfl, rfl, h0, r0⟩ := trodAll_cons hA
  obtain ⟨v1, vs1, d1, ds1, p1, q1, hargs1, rfl, rfl, h1, r1⟩ := trodAll_cons r0
  obtain ⟨v2, vs2, d2, ds2, p2, q2, hargs2, rfl, rfl, h2, r2⟩ := trodAll_cons r1
  obtain ⟨rfl, rfl, rfl⟩ := trodAll_nil r2
  subst hargs2
  subst hargs1
  obtain rfl : args = #[v0, v1, v2] := by cases args; simp_all
  obtain ⟨rfl, rfl⟩ := trodVars_none hV
  obtain ⟨b, hb⟩ := book_of (hval 0 25 v0 rfl rfl) h0
  obtain ⟨x0, x1, rfl, g0, g1⟩ := ints2_of (hval 1 56 v1 rfl rfl) h1
  obtain ⟨l, hl⟩ := intsArg_of (hval 2 26 v2 rfl rfl) h2
  clear hA0 hval0
  simp only [List.append_nil] at hW'
  refine (orders_any v0 b x0 x1 g0 g1 v2 l W hb hl).mono fun e W' ⟨he, hg⟩ => ?_
  subst he
  have hlt := hW'.lt
  exact ⟨_, rfl, post_ext (pa := p0 ++ (p1 ++ p2)) (pv := []) hW' (fun _ _ _ => (trodAll_cons_mk (shut_bool Try.underlying4 _) trodAll_mk0))
    (fun sp hsp => by
      have g0 := Go.WideElems.Trod_stays (sp' := sp) laid read0 row0 h0 (W' := W') (fun p hp => same_of_ext hg (hlt p (List.mem_append_left _ hp))) (fun p hp => hsp p (List.mem_append_left _ hp))
      have g1 := Go.WideElems.Trod_stays (sp' := sp) laid read1 row1 h1 (W' := W') (fun p hp => same_of_ext hg (hlt p (List.mem_append_right _ (List.mem_append_left _ hp)))) (fun p hp => hsp p (List.mem_append_right _ (List.mem_append_left _ hp)))
      have g2 := Go.WideElems.Trod_stays (sp' := sp) laid read2 row2 h2 (W' := W') (fun p hp => same_of_ext hg (hlt p (List.mem_append_right _ (List.mem_append_right _ hp)))) (fun p hp => hsp p (List.mem_append_right _ (List.mem_append_right _ hp)))
      have := trodAll_cons_mk g0 (trodAll_cons_mk g1 (trodAll_cons_mk g2 (trodAll_mk0 (enc := enc) (P := Try.prog) (w := W') (base := 0) (spare := sp) (held := true))))
      rw [List.append_nil] at this
      exact this) (fun _ _ => rfl) (by simp)
    hg (ok_one (by kernel_rfl) rfl (okWide_bool_mk Try.underlying4 _))⟩

theorem over : Rows.earOrdersRow.holds Try.pinned (OpenSpec.ofChange Rows.earOrdersSpec) :=
  OpenClaim.holds_of_wide 6 Try.f6 rfl rfl rfl rfl rfl rfl rfl ⟨rfl, rfl, rfl, rfl, rfl⟩ rfl rfl rfl rfl rfl (by kernel_rfl) Try.func6 (by kernel_rfl)
    (of_decide_eq_true (by kernel_rfl)) (by unfold Func.isWrapper; first | (rw [if_pos (by decide +kernel)]; kernel_rfl) | (rw [if_neg (by decide +kernel)]; exact ⟨rfl, rfl⟩))
    (fun os started H enc _ => lifted os started H enc)

/-- ████ THE STATEMENT ████ -/
theorem earOrders_said : Rows.EarOrdersSaid :=
  over
end Go.Proofs.Ytoifmphpeflliaa.earOrders
