/-
  WHAT IS COMMON TO SPELLINGS, said of sets of strings: plain facts.
  WHAT A SPELLING WITHOUT AN ERROR CAN BE: at least one string; no more strings than ways. Plain facts.
  WHAT THE WALKS OF THE LAWS HAVE IN COMMON: a book in a box of its own; what Alike returns of indices of a book without an error.
  WHAT EarCommon RETURNS: true.
-/
import Derived.Test.YtoifmphpeflliaaBunG
import Derived.Test.YtoifmphpeflliaaBunT
import Derived.Test.YtoifmphpeflliaaBunK
namespace Go.Proofs.Ytoifmphpeflliaa
set_option linter.unusedVariables false

theorem canM_keys {b : Book} {l : List Nat} {k : List Int} : k ∈ (canM b l).map (·.1) ↔ ∃ n ∈ l, k ∈ stringsOf b n := by
  rw [← getT_keys, canM, get_canFrom]
  by_cases h : ∃ n ∈ l, k ∈ stringsOf b n
  · rw [if_pos h]; exact ⟨fun _ => h, fun _ => rfl⟩
  · rw [if_neg h]; exact ⟨fun e => by simp [getT] at e, fun e => absurd e h⟩
theorem canM_bit {b : Book} {l : List Nat} {k : List Int} {v : Nat} (hn : ((canM b l).map (·.1)).Nodup) (h : (k, v) ∈ canM b l) (i : Nat) : v.testBit i = true ↔ i ∈ l ∧ k ∈ stringsOf b i := by
  have hg := mem_getT hn h
  have hk : ∃ n ∈ l, k ∈ stringsOf b n := canM_keys.1 (List.mem_map.2 ⟨_, h, rfl⟩)
  rw [canM, get_canFrom, if_pos hk] at hg
  have e : (l.foldl (fun s n => if k ∈ stringsOf b n then s ||| 2 ^ n else s) 0) = l.foldl (fun s n => if (fun n => decide (k ∈ stringsOf b n)) n = true then s ||| 2 ^ n else s) 0 := by simp
  simp only [getT, Option.getD_none, Option.some.injEq] at hg
  rw [← hg, e, testBit_marks]
  simp
  exact ⟨fun ⟨x, h1, h2, h3⟩ => by subst h2; exact ⟨h1, h3⟩, fun ⟨h1, h2⟩ => ⟨i, h1, rfl, h2⟩⟩
theorem bitsM_bit (l : List Nat) (i : Nat) : (bitsM l).testBit i = true ↔ i ∈ l := by
  have e : bitsM l = l.foldl (fun s n => if (fun _ => true) n = true then s ||| 2 ^ n else s) 0 := by simp [bitsM]
  rw [e, testBit_marks]; simp
theorem and_eq_iff (v n : Nat) : v &&& n = n ↔ ∀ i, n.testBit i = true → v.testBit i = true := by
  constructor
  · intro h i hi
    have := congrArg (fun x => x.testBit i) h
    simp only [Nat.testBit_and, hi, Bool.and_true] at this; exact this
  · intro h
    apply Nat.eq_of_testBit_eq
    intro i
    rw [Nat.testBit_and]
    cases hi : n.testBit i
    · simp
    · simp [h i hi]

/-- a string that each of some spellings can be -/
def All (b : Book) (l : List Nat) (k : List Int) : Prop := ∀ n ∈ l, k ∈ stringsOf b n
/-- an entry has all bits of a number whose bits are of spellings that were asked -/
theorem entry_sub {b : Book} {l : List Nat} {k : List Int} {v n : Nat} (hn : ((canM b l).map (·.1)).Nodup) (h : (k, v) ∈ canM b l) (hs : ∀ i, n.testBit i = true → i ∈ l) : v &&& n = n ↔ ∀ i, n.testBit i = true → k ∈ stringsOf b i := by
  rw [and_eq_iff]
  exact ⟨fun hh i hi => ((canM_bit hn h i).1 (hh i hi)).2, fun hh i hi => (canM_bit hn h i).2 ⟨hs i hi, hh i hi⟩⟩
theorem entry_all {b : Book} {l : List Nat} {k : List Int} {v : Nat} (hn : ((canM b l).map (·.1)).Nodup) (h : (k, v) ∈ canM b l) : v &&& bitsM l = bitsM l ↔ All b l k := by
  rw [entry_sub hn h fun i hi => (bitsM_bit l i).1 hi]
  exact ⟨fun hh i hi => hh i ((bitsM_bit l i).2 hi), fun hh i hi => hh i ((bitsM_bit l i).1 hi)⟩
theorem first_all {b : Book} {l : List Nat} {k : List Int} (hn : ((canM b l).map (·.1)).Nodup) (hne : l ≠ []) (h : FirstIs (canM b l) (fun _ => True) (bitsM l) k true) : All b l k ∧ ∀ k', All b l k' → ¬ cmpSS k' k < 0 := by
  obtain ⟨⟨i, hi, rfl, hb⟩, hmin⟩ := h.yes rfl
  refine ⟨(entry_all hn (List.getElem_mem hi)).1 hb, fun k' hk' => ?_⟩
  obtain ⟨m, hm⟩ := List.exists_mem_of_ne_nil l hne
  obtain ⟨p, hp, rfl⟩ := List.mem_map.1 (canM_keys.2 ⟨m, hm, hk' m hm⟩)
  obtain ⟨j, hj, rfl⟩ := List.getElem_of_mem hp
  exact hmin j hj trivial ((entry_all hn (List.getElem_mem hj)).2 hk')
theorem first_none {b : Book} {l : List Nat} {k : List Int} (hn : ((canM b l).map (·.1)).Nodup) (hne : l ≠ []) (h : FirstIs (canM b l) (fun _ => True) (bitsM l) k false) : k = [] ∧ ¬ ∃ k, All b l k := by
  obtain ⟨hk, hno⟩ := h.no rfl
  refine ⟨hk, fun ⟨k', hk'⟩ => ?_⟩
  obtain ⟨m, hm⟩ := List.exists_mem_of_ne_nil l hne
  obtain ⟨p, hp, rfl⟩ := List.mem_map.1 (canM_keys.2 ⟨m, hm, hk' m hm⟩)
  obtain ⟨j, hj, rfl⟩ := List.getElem_of_mem hp
  exact hno j hj trivial ((entry_all hn (List.getElem_mem hj)).2 hk')
theorem canM_nodup {b : Book} (hv : Valid b) {l : List Nat} (hl : ∀ n ∈ l, n < b.spellings.length) : ((canM b l).map (·.1)).Nodup := (canM_fine hv l [] hl (FineT.nil _)).nodup

/-- what is told of two spellings -/
structure AlikeIs (b : Book) (i j : Nat) (m : Int) : Prop where
  dom : m = 0 ∨ m = 1 ∨ m = 2
  never : m = 2 ↔ ¬ ∃ k, k ∈ stringsOf b i ∧ k ∈ stringsOf b j
  must : m = 1 ↔ ∃ k, (∀ x, x ∈ stringsOf b i ↔ x = k) ∧ ∀ x, x ∈ stringsOf b j ↔ x = k
theorem one_key {M : Tally} (h : M.length = 1) : ∃ k, ∀ x, x ∈ M.map (·.1) ↔ x = k := by
  match M, h with
  | [p], _ => exact ⟨p.1, fun x => by simp⟩
theorem len_one {M : Tally} (hn : (M.map (·.1)).Nodup) {k : List Int} (h : ∀ x, x ∈ M.map (·.1) ↔ x = k) : M.length = 1 := by
  match M, hn, h with
  | [], _, h => have := (h k).2 rfl; simp at this
  | [p], _, _ => rfl
  | p :: q :: M, hn, h =>
    have e1 := (h p.1).1 (by simp)
    have e2 := (h q.1).1 (by simp)
    simp only [List.map_cons, List.nodup_cons, List.mem_cons, not_or] at hn
    exact absurd (e1.trans e2.symm) hn.1.1
theorem alike_is {b : Book} (hv : Valid b) {i j : Nat} (hi : i < b.spellings.length) (hj : j < b.spellings.length) {k : List Int} {f : Bool} (h : FirstIs (canM b [i, j]) (fun _ => True) (bitsM [i, j]) k f) : AlikeIs b i j (alikeV (canM b [i, j]) f) := by
  have hn := canM_nodup hv (l := [i, j]) (by simp [hi, hj])
  have hall : ∀ x, All b [i, j] x ↔ x ∈ stringsOf b i ∧ x ∈ stringsOf b j := fun x => by simp [All]
  cases f with
  | false =>
    have h2 : alikeV (canM b [i, j]) false = 2 := rfl
    obtain ⟨-, hno⟩ := first_none hn (by simp) h
    simp only [hall] at hno
    rw [h2]
    refine ⟨.inr (.inr rfl), ⟨fun _ => hno, fun _ => rfl⟩, ⟨fun e => by omega, fun ⟨k, e1, e2⟩ => absurd ⟨k, (e1 k).2 rfl, (e2 k).2 rfl⟩ hno⟩⟩
  | true =>
    obtain ⟨hk, -⟩ := first_all hn (by simp) h
    rw [hall] at hk
    have hkey : ∀ x, x ∈ (canM b [i, j]).map (·.1) ↔ x ∈ stringsOf b i ∨ x ∈ stringsOf b j := fun x => by rw [canM_keys]; simp
    by_cases h1 : (canM b [i, j]).length = 1
    · have h2 : alikeV (canM b [i, j]) true = 1 := by rw [alikeV, if_neg (by decide), if_pos h1]
      rw [h2]
      refine ⟨.inr (.inl rfl), ⟨fun e => by omega, fun e => absurd ⟨k, hk⟩ e⟩, ⟨fun _ => ?_, fun _ => rfl⟩⟩
      obtain ⟨c, hc⟩ := one_key h1
      have ek : k = c := (hc k).1 ((hkey k).2 (.inl hk.1))
      subst ek
      exact ⟨k, fun x => ⟨fun hx => (hc x).1 ((hkey x).2 (.inl hx)), fun e => by rw [e]; exact hk.1⟩, fun x => ⟨fun hx => (hc x).1 ((hkey x).2 (.inr hx)), fun e => by rw [e]; exact hk.2⟩⟩
    · have h2 : alikeV (canM b [i, j]) true = 0 := by rw [alikeV, if_neg (by decide), if_neg h1]
      rw [h2]
      refine ⟨.inl rfl, ⟨fun e => by omega, fun e => absurd ⟨k, hk⟩ e⟩, ⟨fun e => by omega, fun ⟨c, e1, e2⟩ => absurd (len_one hn (k := c) fun x => by rw [hkey, e1, e2]; simp) h1⟩⟩
theorem AlikeIs.unique {b : Book} {i j i' j' : Nat} {m n : Int} (h : AlikeIs b i j m) (h' : AlikeIs b i' j' n)
    (hn : (∃ k, k ∈ stringsOf b i ∧ k ∈ stringsOf b j) ↔ ∃ k, k ∈ stringsOf b i' ∧ k ∈ stringsOf b j')
    (hm : (∃ k, (∀ x, x ∈ stringsOf b i ↔ x = k) ∧ ∀ x, x ∈ stringsOf b j ↔ x = k) ↔ ∃ k, (∀ x, x ∈ stringsOf b i' ↔ x = k) ∧ ∀ x, x ∈ stringsOf b j' ↔ x = k) : m = n := by
  have a1 : m = 2 ↔ n = 2 := by rw [h.never, h'.never, hn]
  have a2 : m = 1 ↔ n = 1 := by rw [h.must, h'.must, hm]
  rcases h.dom with rfl | rfl | rfl <;> rcases h'.dom with rfl | rfl | rfl <;> simp at a1 a2 <;> rfl
theorem AlikeIs.comm {b : Book} {i j : Nat} {m n : Int} (h : AlikeIs b i j m) (h' : AlikeIs b j i n) : m = n :=
  h.unique h' ⟨fun ⟨k, a, c⟩ => ⟨k, c, a⟩, fun ⟨k, a, c⟩ => ⟨k, c, a⟩⟩ ⟨fun ⟨k, a, c⟩ => ⟨k, c, a⟩, fun ⟨k, a, c⟩ => ⟨k, c, a⟩⟩
/-- two that surely are alike are alike to each third one -/
theorem AlikeIs.join {b : Book} {i j k : Nat} {o p : Int} (h : AlikeIs b i j 1) (h1 : AlikeIs b j k o) (h2 : AlikeIs b i k p) : o = p := by
  obtain ⟨c, e1, e2⟩ := h.must.1 rfl
  have e : ∀ x, x ∈ stringsOf b j ↔ x ∈ stringsOf b i := fun x => by rw [e1, e2]
  exact h1.unique h2 (by simp only [e]) (by simp only [e])
/-- a list comes before another one just if it has fewer numbers than the other, or as many and comes before -/
theorem lessM_cmp : ∀ (l m : List Int), l.length = m.length → (lessM l m = true ↔ cmpL l m < 0)
  | [], [], _ => by simp [lessM, cmpL]
  | x :: l, y :: m, h => by
    have ih := lessM_cmp l m (by simpa using h)
    unfold lessM cmpL
    by_cases e : x = y
    · subst e; rw [if_pos rfl, if_pos (cmpM_self x)]; exact ih
    · have e2 : ¬ cmpM x y = 0 := fun h0 => e (cmpM_zero.1 h0)
      rw [if_neg e, if_neg e2, cmpM_neg]; simp
theorem fewerM_cmp (l m : List Int) : fewerM l m = true ↔ cmpSS l m < 0 := by
  unfold fewerM cmpSS
  by_cases h : l.length = m.length
  · rw [if_pos h, if_pos h]; exact lessM_cmp l m h
  · rw [if_neg h, if_neg h, cmpM_neg]; simp
end Go.Proofs.Ytoifmphpeflliaa

namespace Go.Proofs.Ytoifmphpeflliaa
set_option linter.unusedVariables false

theorem can_some {K : Nat} : ∀ (ls : List Letter) (s : List Int), (∀ y ∈ ls, ∃ n ∈ soundsTo K, givesM y n = true) → ∃ t, Can K ls s t
  | [], s, _ => ⟨s, .nil s⟩
  | y :: ys, s, h => by
    obtain ⟨n, hn, hg⟩ := h y (by simp)
    obtain ⟨t, ht⟩ := can_some ys (withS s n) fun z hz => h z (by simp [hz])
    exact ⟨t, .cons y ys s t n hn hg ht⟩
theorem valid_gives {S : Int} (hS : 1 ≤ S ∧ S ≤ 4) {x : Letter} (h : ValidLetter S x) : ∃ n ∈ soundsTo (S.toNat + 1), givesM x n = true := by
  rcases h.g with hg | hg
  · have h0 : x.sounds.toNat ≠ 0 := by have := h.s; omega
    obtain ⟨i, hi⟩ := Nat.exists_testBit_of_ne_zero h0
    have hlt : i < S.toNat := by
      rcases Nat.lt_or_ge i S.toNat with h1 | h1
      · exact h1
      · exfalso
        have hs := h.s
        unfold maskM at hs
        have h2 : x.sounds.toNat < 2 ^ S.toNat := by
          have h3 : ((2 ^ S.toNat : Nat) : Int) = (2 : Int) ^ S.toNat := by simp
          omega
        have h4 : x.sounds.toNat < 2 ^ i := Nat.lt_of_lt_of_le h2 (Nat.pow_le_pow_right (by decide) h1)
        rw [Nat.testBit_lt_two_pow h4] at hi; cases hi
    refine ⟨(i : Int), mem_soundsTo.2 ⟨by omega, by omega⟩, ?_⟩
    rw [givesM, if_neg (by omega)]
    simpa using hi
  · exact ⟨-1, mem_soundsTo.2 ⟨by omega, by omega⟩, by rw [givesM, if_pos rfl]; exact hg⟩
theorem lettersAt_gives {b : Book} (hv : Valid b) (n : Nat) (hn : n < b.spellings.length) : ∀ y ∈ lettersAt b n, ∃ m ∈ soundsTo (b.sounds.toNat + 1), givesM y m = true := by
  rw [lettersAt_eq b n hn]
  have ha := (hv.sp n hn).a
  have hl : lettersOf b.alphabets (b.spellings[n]).alphabet = (b.alphabets[(b.spellings[n]).alphabet.toNat]'(by omega)).letters := by
    unfold lettersOf; rw [List.getElem?_eq_getElem (by omega)]
  rw [hl]
  refine lettersTo_all _ _ _ _ (fun x hx => ?_) ⟨-1, mem_soundsTo.2 ⟨by omega, by have := hv.s; omega⟩, rfl⟩
  obtain ⟨j, hj, rfl⟩ := List.getElem_of_mem hx
  exact valid_gives hv.s ((hv.al _ (by omega)).1.fine j hj).1
theorem stringsOf_some {b : Book} (hv : Valid b) (n : Nat) (hn : n < b.spellings.length) : ∃ t, t ∈ stringsOf b n := by
  obtain ⟨t, ht⟩ := can_some (K := b.sounds.toNat + 1) (lettersAt b n) [] (lettersAt_gives hv n hn)
  exact ⟨t, mem_yields.2 ht⟩
theorem canM_pos {b : Book} (hv : Valid b) (n : Nat) (hn : n < b.spellings.length) : 1 ≤ (canM b [n]).length := by
  obtain ⟨t, ht⟩ := stringsOf_some hv n hn
  have := (canM_keys (b := b) (l := [n]) (k := t)).2 ⟨n, by simp, ht⟩
  have h2 := List.length_pos_of_mem this
  rw [List.length_map] at h2; exact h2
theorem foldl_mark_len (bit : Nat) : ∀ (l : List (List Int)) (M : Tally), (l.foldl (markT bit) M).length ≤ M.length + l.length
  | [], M => by simp
  | k :: l, M => by
    have h1 := foldl_mark_len bit l (markT bit M k)
    have h2 : (markT bit M k).length ≤ M.length + 1 := putT_len k ((getT k M).getD 0 ||| bit) M
    rw [List.foldl_cons, List.length_cons]
    omega
theorem canM_one (b : Book) (n : Nat) : canM b [n] = (stringsOf b n).foldl (markT (2 ^ n)) [] := by simp [canM, canFrom]
theorem canM_le (b : Book) (n : Nat) : (canM b [n]).length ≤ (stringsOf b n).length := by
  rw [canM_one]
  have := foldl_mark_len (2 ^ n) (stringsOf b n) []
  simpa using this
/-- how many things a letter can give -/
def waysM (K : Nat) (y : Letter) : Nat := ((soundsTo K).filter fun n => givesM y n).length
theorem flatMap_len {α β : Type} (f : α → List β) (p : α → Bool) (c : Nat) : ∀ l : List α, (∀ x ∈ l, (f x).length = if p x then c else 0) → (l.flatMap f).length = (l.filter p).length * c
  | [], _ => by simp
  | x :: l, h => by
    have ih := flatMap_len f p c l fun y hy => h y (by simp [hy])
    have hx := h x (by simp)
    rw [List.flatMap_cons, List.length_append, ih, hx]
    cases hp : p x
    · simp [hp]
    · simp [hp, Nat.succ_mul, Nat.add_comm]
theorem yields_len (K : Nat) : ∀ (ls : List Letter) (s : List Int), (yields K ls s).length = (ls.map (waysM K)).foldr (· * ·) 1
  | [], s => by simp [yields]
  | y :: ys, s => by
    have e : (yields K (y :: ys) s).length = waysM K y * (ys.map (waysM K)).foldr (· * ·) 1 := by
      rw [yields]
      refine flatMap_len _ (fun n => givesM y n) _ _ fun n _ => ?_
      by_cases h : givesM y n = true
      · rw [if_pos h, if_pos h, yields_len K ys]
      · rw [if_neg h, if_neg h]; rfl
    rw [e]; rfl
theorem putT_new (k : List Int) (v : Nat) : ∀ M : Tally, k ∉ M.map (·.1) → (putT k v M).length = M.length + 1
  | [], _ => rfl
  | p :: M, h => by
    simp only [List.map_cons, List.mem_cons, not_or] at h
    simp only [putT]
    rw [if_neg (fun e => h.1 e.symm)]
    simp [putT_new k v M h.2]
theorem foldl_mark_new (bit : Nat) : ∀ (l : List (List Int)) (M : Tally), l.Nodup → (∀ k ∈ l, k ∉ M.map (·.1)) → (l.foldl (markT bit) M).length = M.length + l.length
  | [], M, _, _ => by simp
  | k :: l, M, hn, h => by
    simp only [List.nodup_cons] at hn
    have h1 : (markT bit M k).length = M.length + 1 := putT_new k ((getT k M).getD 0 ||| bit) M (h k (by simp))
    have h2 := foldl_mark_new bit l (markT bit M k) hn.2 fun x hx hm => by
      rcases (keys_putT _ _ _ _).1 hm with e | e
      · subst e; exact hn.1 hx
      · exact h x (by simp [hx]) e
    rw [List.foldl_cons, List.length_cons]
    omega
theorem withS_inj {a c : Int} (h : withS [] a = withS [] c) : a = c := by
  unfold withS at h
  split at h <;> split at h <;> simp_all
theorem yields_one_nodup (K : Nat) (y : Letter) : (yields K [y] []).Nodup := by
  have e : yields K [y] [] = ((soundsTo K).filter fun n => givesM y n).map (withS []) := by
    rw [yields]
    induction soundsTo K with
    | nil => rfl
    | cons n l ih =>
      rw [List.flatMap_cons, ih]
      by_cases h : givesM y n = true
      · simp [h, yields]
      · simp [h]
  rw [e]
  have hn : (soundsTo K).Nodup := by
    unfold soundsTo
    rw [List.nodup_iff_pairwise_ne, List.pairwise_map]
    exact (List.nodup_iff_pairwise_ne.1 List.nodup_range).imp fun h1 h2 => h1 (by omega)
  have hf := hn.filter (fun n => givesM y n)
  rw [List.nodup_iff_pairwise_ne, List.pairwise_map]
  exact (List.nodup_iff_pairwise_ne.1 hf).imp fun h1 h2 => h1 (withS_inj h2)
theorem yields_one_len (K : Nat) (y : Letter) : (yields K [y] []).length = waysM K y := by rw [yields_len]; simp
theorem waysM_le (K : Nat) (y : Letter) : waysM K y ≤ K := by
  have := List.length_filter_le (fun n => givesM y n) (soundsTo K)
  simpa [waysM, soundsTo] using this
end Go.Proofs.Ytoifmphpeflliaa

namespace Go.Proofs.Ytoifmphpeflliaa
open Go.RowKit
set_option linter.unusedVariables false

theorem mod_small (x n : Nat) : Int.tmod (x : Int) (n : Int) = ((x % n : Nat) : Int) := by
  rw [Int.tmod_eq_emod_of_nonneg (by omega)]; simp
/-- what Alike returns of indices of a book without an error -/
theorem alike_two (bv : Value) (b : Book) (he : errM b = 0) (i j : Nat) (hi : i < b.spellings.length) (hj : j < b.spellings.length) (w : World) (hb : BookAt w bv b) :
    Calls Try.prog 20 #[bv, .int .i64 i, .int .i64 j] w fun e w' => ∃ m er : Int, e = .returned (.tuple #[.int .i64 m, .int .i64 er]) ∧ (i = j → m = 0 ∧ er = 2) ∧ (i ≠ j → er = 0 ∧ AlikeIs b i j m) ∧ Ext w w' := by
  by_cases h : i = j
  · subst h
    refine (alike_same bv b he i hi w hb).mono ?_
    rintro e w' ⟨rfl, hx⟩
    exact ⟨0, 2, rfl, fun _ => ⟨rfl, rfl⟩, fun h => absurd rfl h, hx⟩
  · refine (alike_ok bv b he i j hi hj h w hb).mono ?_
    rintro e w' ⟨k, f, hF, rfl, hx⟩
    exact ⟨_, 0, rfl, fun e => absurd e h, fun _ => ⟨rfl, alike_is (valid_of he) hi hj hF⟩, hx⟩

/-- a book in a box of its own -/
structure Boxed (w : World) (B : Nat) (b : Book) (ba : Option Addr) (bc : Nat) (bs : Option Addr) (bd : Nat) : Prop where
  c0 : w.cell? ⟨B, 0, none⟩ = some (.int .i64 b.sounds)
  c1 : w.cell? ⟨B, 1, none⟩ = some (.slice ba b.alphabets.length bc)
  c2 : w.cell? ⟨B, 2, none⟩ = some (.slice bs b.spellings.length bd)
  at_ : BookAt w (.agg #[.int .i64 b.sounds, .slice ba b.alphabets.length bc, .slice bs b.spellings.length bd]) b
theorem Boxed.ext {w w' : World} {B : Nat} {b : Book} {ba bs : Option Addr} {bc bd : Nat} (h : Boxed w B b ba bc bs bd) (hx : Ext w w') : Boxed w' B b ba bc bs bd :=
  ⟨hx.cell h.c0, hx.cell h.c1, hx.cell h.c2, h.at_.ext hx⟩
theorem Boxed.lt {w : World} {B : Nat} {b : Book} {ba bs : Option Addr} {bc bd : Nat} (h : Boxed w B b ba bc bs bd) : B < w.heap.size := cell_lt h.c0
end Go.Proofs.Ytoifmphpeflliaa

namespace Go.Proofs.Ytoifmphpeflliaa
open Go.RowKit
set_option linter.unusedVariables false

/-- the indices of bits, of those below a number -/
def pickTo (bits : Int) (k : Nat) : List Nat := (List.range k).filter fun i => bitM i bits
theorem pickTo_yes (bits : Int) (k : Nat) (h : bitM k bits = true) : pickTo bits (k + 1) = pickTo bits k ++ [k] := by
  unfold pickTo; rw [List.range_succ, List.filter_append]; simp [h]
theorem pickTo_no (bits : Int) (k : Nat) (h : bitM k bits = false) : pickTo bits (k + 1) = pickTo bits k := by
  unfold pickTo; rw [List.range_succ, List.filter_append]; simp [h]
theorem pickTo_len (bits : Int) (k : Nat) : (pickTo bits k).length ≤ k := by
  have := List.length_filter_le (fun i => bitM i bits) (List.range k)
  simpa [pickTo] using this
theorem pickTo_lt {bits : Int} {k n : Nat} (h : n ∈ pickTo bits k) : n < k := by
  simp only [pickTo, List.mem_filter, List.mem_range] at h; exact h.1
theorem pickTo_sorted (bits : Int) (k : Nat) : (pickTo bits k).Pairwise (· < ·) := List.Pairwise.filter _ (List.pairwise_lt_range)
theorem ints_I64 {l : List Nat} (h : ∀ x ∈ l, x ≤ 9223372036854775807) : ∀ x ∈ ints l, I64 x := by
  intro x hx
  simp only [ints, List.mem_map] at hx
  obtain ⟨y, hy, rfl⟩ := hx
  have := h y hy
  unfold I64; omega
theorem asc_of_sorted {l : List Nat} (h : l.Pairwise (· < ·)) : ascM (ints l) = true := by
  refine ascM_yes _ fun k h0 hk => ?_
  have hl : (ints l).length = l.length := by simp [ints]
  have := List.pairwise_iff_getElem.1 h (k - 1) k (by omega) (by omega) (by omega)
  simp only [ints, List.getElem_map]
  omega
/-- all but the one at a place -/
def dropTo (l : List Nat) (q k : Nat) : List Nat := ((List.range k).filter fun i => i != q).map fun i => l.getD i 0
theorem getD_at (l : List Nat) (k : Nat) (hk : k < l.length) : l.getD k 0 = l[k] := by rw [List.getD_eq_getElem?_getD, List.getElem?_eq_getElem hk]; rfl
theorem dropTo_yes (l : List Nat) (q k : Nat) (hk : k < l.length) (h : k ≠ q) : dropTo l q (k + 1) = dropTo l q k ++ [l[k]] := by
  unfold dropTo
  have h' : (k != q) = true := by simpa using h
  rw [List.range_succ, List.filter_append, List.map_append, ← getD_at l k hk]
  simp [h']
theorem dropTo_no (l : List Nat) (q : Nat) : dropTo l q (q + 1) = dropTo l q q := by
  unfold dropTo
  rw [List.range_succ, List.filter_append]; simp
theorem dropTo_len (l : List Nat) (q k : Nat) : (dropTo l q k).length ≤ k := by
  have := List.length_filter_le (fun i => i != q) (List.range k)
  simpa [dropTo] using this
theorem dropTo_sub {l : List Nat} {q k n : Nat} (hk : k ≤ l.length) (h : n ∈ dropTo l q k) : n ∈ l := by
  simp only [dropTo, List.mem_map, List.mem_filter, List.mem_range] at h
  obtain ⟨i, ⟨hi, -⟩, rfl⟩ := h
  rw [getD_at l i (by omega)]; exact List.getElem_mem _
theorem dropTo_sorted {l : List Nat} (h : l.Pairwise (· < ·)) (q k : Nat) (hk : k ≤ l.length) : (dropTo l q k).Pairwise (· < ·) := by
  unfold dropTo
  rw [List.pairwise_map]
  refine List.Pairwise.imp_of_mem (R := (· < ·)) (fun {x y} hx hy hxy => ?_) (List.Pairwise.filter _ List.pairwise_lt_range)
  simp only [List.mem_filter, List.mem_range] at hx hy
  rw [getD_at l x (by omega), getD_at l y (by omega)]
  exact List.pairwise_iff_getElem.1 h x y (by omega) (by omega) hxy

/-- what Common returns of ascending indices of a book without an error -/
theorem common_all (v : Value) (b : Book) (bv : Value) (he : errM b = 0) (l : List Nat) (hl : ∀ n ∈ l, n < b.spellings.length) (hs : l.Pairwise (· < ·)) (w : World) (hb : BookAt w bv b) (hlv : IntsAt w v (ints l)) :
    Calls Try.prog 48 #[bv, v] w fun e w' => ∃ (u : Value) (er : Int) (k : List Int), e = .returned (.tuple #[u, .int .i64 er]) ∧ IntsAt w' u k ∧ Ext w w' ∧
      (l = [] ∧ er = 2 ∧ k = [] ∨ l ≠ [] ∧ er = 9 ∧ k = [] ∧ (¬ ∃ k, All b l k) ∨ l ≠ [] ∧ er = 0 ∧ All b l k ∧ ∀ k', All b l k' → ¬ cmpSS k' k < 0) := by
  by_cases h0 : l = []
  · subst h0
    refine (common_none bv v b he w hb hlv).mono ?_
    rintro e w' ⟨rfl, hx⟩
    exact ⟨_, 2, [], rfl, SliceAt.nil, hx, .inl ⟨rfl, rfl, rfl⟩⟩
  · refine (common_ok bv v b he l hl h0 (asc_of_sorted hs) w hb hlv).mono ?_
    rintro e w' ⟨k, f, u, hF, rfl, hu, hx⟩
    have hn := canM_nodup (valid_of he) hl
    cases f
    · obtain ⟨rfl, hno⟩ := first_none hn h0 hF
      exact ⟨u, _, [], rfl, hu, hx, .inr (.inl ⟨h0, rfl, rfl, hno⟩)⟩
    · obtain ⟨h1, h2⟩ := first_all hn h0 hF
      exact ⟨u, _, k, rfl, hu, hx, .inr (.inr ⟨h0, rfl, h1, h2⟩)⟩
end Go.Proofs.Ytoifmphpeflliaa
