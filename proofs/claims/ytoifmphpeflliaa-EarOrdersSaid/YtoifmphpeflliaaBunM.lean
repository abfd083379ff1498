/-
  WHICH SPELLINGS ARE ODD: of all sets without which the others have a string in common, the first one of the fewest. Plain facts.
  A BOOK WITH ONE SPELLING OF ONE LETTER: it has no error, and its spelling can be as many strings as the letter can give things. Plain facts.
  WHAT Said OF THE STATEMENTS RETURNS: one of the strings that a spelling can be. The plain facts, and the walk.
  THE TEXTS OF Spell OF THE REFERENCE, letter by letter, and that the first of them that can be heard so is what the program's Spell finds: plain facts.
  LISTS OF TEXTS WITH NUMBERS, as Spell of the reference makes them: how they lie in memory, and one more at the end.
  AN append AT THE END OF A REGION THAT DRAWS ITS ORDER, onto a row of the call's own: the step, and the two relations. Over any program.
-/
import Derived.Test.YtoifmphpeflliaaBunL
import Derived.Test.YtoifmphpeflliaaBunD
import Derived.Test.YtoifmphpeflliaaBunT
import Derived.Maps.AppendAt
import Derived.Laws.AppendOwnNone
import Derived.Test.YtoifmphpeflliaaBunP
namespace Go.Proofs.Ytoifmphpeflliaa
set_option linter.unusedVariables false

theorem mem_members {s i : Nat} : i ∈ membersM s ↔ s.testBit i = true ∧ i < 5 := by
  simp only [membersM, membersTo, List.mem_filter, List.mem_range]
  exact And.comm
theorem members_sorted (s : Nat) : (membersM s).Pairwise (· < ·) := List.Pairwise.filter _ List.pairwise_lt_range
theorem allOf_bit (b : Book) (i : Nat) : (allOf b).testBit i = decide (i < b.spellings.length) := by
  unfold allOf; rw [Nat.testBit_two_pow_sub_one]
theorem mem_all {b : Book} (h5 : b.spellings.length ≤ 5) {i : Nat} : i ∈ membersM (allOf b) ↔ i < b.spellings.length := by
  rw [mem_members, allOf_bit]; simp; omega
theorem sub_bit (b : Book) (s i : Nat) : (allOf b ^^^ (allOf b &&& s)).testBit i = (decide (i < b.spellings.length) && !s.testBit i) := by
  rw [Nat.testBit_xor, Nat.testBit_and, allOf_bit]
  cases decide (i < b.spellings.length) <;> cases s.testBit i <;> rfl
theorem bit_lt {s n i : Nat} (hs : s < 2 ^ n) (h : s.testBit i = true) : i < n := by
  rcases Nat.lt_or_ge i n with h1 | h1
  · exact h1
  · rw [Nat.testBit_lt_two_pow (Nat.lt_of_lt_of_le hs (Nat.pow_le_pow_right (by decide) h1))] at h; cases h
theorem not_all {b : Book} {s : Nat} (hs : s < 2 ^ b.spellings.length) (h : s ≠ allOf b) : ∃ i, i < b.spellings.length ∧ s.testBit i = false := by
  refine Classical.byContradiction fun hn => h ?_
  apply Nat.eq_of_testBit_eq
  intro i
  rw [allOf_bit]
  cases hi : s.testBit i
  · symm; rw [decide_eq_false_iff_not]
    intro h1
    exact hn ⟨i, h1, hi⟩
  · symm; rw [decide_eq_true_iff]; exact bit_lt hs hi
/-- without a set all others have a string in common, or there are no others -/
theorem oddP_iff {b : Book} (hv : Valid b) {s : Nat} (hs : s < 2 ^ b.spellings.length) : oddP (canM b (membersM (allOf b))) (allOf b) s = true ↔ s = allOf b ∨ ∃ k, ∀ i, i < b.spellings.length → s.testBit i = false → k ∈ stringsOf b i := by
  have hn5 := hv.n
  have hnd := canM_nodup hv (l := membersM (allOf b)) fun n h => (mem_all hn5).1 h
  have hsub : ∀ i, (allOf b ^^^ (allOf b &&& s)).testBit i = true ↔ i < b.spellings.length ∧ s.testBit i = false := fun i => by rw [sub_bit]; simp
  unfold oddP
  rw [Bool.or_eq_true, beq_iff_eq, or_comm]
  by_cases ha : s = allOf b
  · simp [ha]
  · refine or_congr Iff.rfl ?_
    unfold sharedB
    rw [List.any_eq_true]
    constructor
    · rintro ⟨⟨k, v⟩, hm, hb⟩
      refine ⟨k, fun i hi hbit => ?_⟩
      have := (entry_sub hnd hm fun j hj => (mem_all hn5).2 ((hsub j).1 hj).1).1 (by simpa using hb)
      exact this i ((hsub i).2 ⟨hi, hbit⟩)
    · rintro ⟨k, hk⟩
      obtain ⟨i, hi, hbit⟩ := not_all hs ha
      obtain ⟨p, hp, rfl⟩ := List.mem_map.1 ((canM_keys (b := b) (l := membersM (allOf b))).2 ⟨i, (mem_all hn5).2 hi, hk i hi hbit⟩)
      refine ⟨p, hp, ?_⟩
      rw [beq_iff_eq]
      exact (entry_sub (k := p.1) (v := p.2) hnd hp fun j hj => (mem_all hn5).2 ((hsub j).1 hj).1).2 fun j hj => hk j ((hsub j).1 hj).1 ((hsub j).1 hj).2
theorem oddP_all (M : Tally) (a : Nat) : oddP M a a = true := by unfold oddP; simp
theorem allOf_lt_pow (b : Book) : allOf b < 2 ^ b.spellings.length := by
  unfold allOf
  have := Nat.two_pow_pos b.spellings.length
  omega
/-- what Odd names: a set that will do, and none before it will -/
theorem oddL_spec (b : Book) : (∃ s, s < 2 ^ b.spellings.length ∧ oddP (canM b (membersM (allOf b))) (allOf b) s = true ∧ membersM s = oddL b) ∧
    ∀ s, s < 2 ^ b.spellings.length → oddP (canM b (membersM (allOf b))) (allOf b) s = true → ¬ cmpFew (membersM s) (oddL b) < 0 := by
  have h := fewTo_is (oddP (canM b (membersM (allOf b))) (allOf b)) (2 ^ b.spellings.length)
  unfold oddL
  cases hr : fewTo (oddP (canM b (membersM (allOf b))) (allOf b)) (2 ^ b.spellings.length) with
  | none =>
    rw [hr] at h
    have := h (allOf b) (allOf_lt_pow b)
    rw [oddP_all] at this; cases this
  | some f =>
    rw [hr] at h
    exact h
theorem len_le_of_not {l m : List Nat} (h : ¬ cmpFew l m < 0) : m.length ≤ l.length := by
  rcases Nat.lt_or_ge l.length m.length with h1 | h1
  · exfalso; apply h
    have e1 : (ints l).length = l.length := by simp [ints]
    have e2 : (ints m).length = m.length := by simp [ints]
    unfold cmpFew cmpSS
    rw [e1, e2, if_neg (by omega), cmpM_neg]; omega
  · exact h1
theorem all_but : ∀ n : Fin 6, 0 < n.1 → (membersM (2 ^ n.1 - 2)).length + 1 = n.1 ∧ 2 ^ n.1 - 2 < 2 ^ n.1 ∧ ∀ i : Fin 6, i.1 < n.1 → (2 ^ n.1 - 2).testBit i.1 = false → i.1 = 0 := by decide +kernel
theorem oddL_len {b : Book} (hv : Valid b) (h0 : 0 < b.spellings.length) : (oddL b).length < b.spellings.length := by
  have hn5 := hv.n
  obtain ⟨h1, h2, h3⟩ := all_but ⟨b.spellings.length, by omega⟩ h0
  simp only at h1 h2 h3
  obtain ⟨t, ht⟩ := stringsOf_some hv 0 h0
  have hp := (oddP_iff hv h2).2 (.inr ⟨t, fun i hi hb => by
    have := h3 ⟨i, by omega⟩ hi hb
    simp only at this
    rw [this]; exact ht⟩)
  have := len_le_of_not ((oddL_spec b).2 _ h2 hp)
  omega
theorem oddL_fine (b : Book) : (oddL b).Pairwise (· < ·) ∧ ∀ i ∈ oddL b, i < b.spellings.length := by
  obtain ⟨⟨s, hs, -, e⟩, -⟩ := oddL_spec b
  rw [← e]
  exact ⟨members_sorted s, fun i hi => bit_lt hs (mem_members.1 hi).1⟩
theorem rising_of {n : Nat} : ∀ (l : List Nat) (last : Int), (∀ i ∈ l, i < n) → l.Pairwise (· < ·) → (∀ i ∈ l, last < (i : Int)) → risingM n last (ints l) = true
  | [], _, _, _, _ => rfl
  | x :: l, last, h1, h2, h3 => by
    have e : ints (x :: l) = (x : Int) :: ints l := rfl
    rw [e, risingM]
    have hx := h1 x (by simp)
    have hl := h3 x (by simp)
    rw [List.pairwise_cons] at h2
    rw [rising_of l x (fun i hi => h1 i (by simp [hi])) h2.2 fun i hi => by have := h2.1 i hi; omega]
    simp; omega
theorem sorted_ext : ∀ {l m : List Nat}, l.Pairwise (· < ·) → m.Pairwise (· < ·) → (∀ x, x ∈ l ↔ x ∈ m) → l = m
  | [], [], _, _, _ => rfl
  | [], y :: m, _, _, h => by have := (h y).2 (by simp); simp at this
  | x :: l, [], _, _, h => by have := (h x).1 (by simp); simp at this
  | x :: l, y :: m, hl, hm, h => by
    rw [List.pairwise_cons] at hl hm
    have hxy : x = y := by
      have h1 := (h x).1 (by simp)
      have h2 := (h y).2 (by simp)
      rcases List.mem_cons.1 h1 with e | h1
      · exact e
      · rcases List.mem_cons.1 h2 with e | h2
        · exact e.symm
        · have := hm.1 x h1; have := hl.1 y h2; omega
    subst hxy
    congr 1
    refine sorted_ext hl.2 hm.2 fun z => ?_
    constructor
    · intro hz
      have h1 := (h z).1 (by simp [hz])
      rcases List.mem_cons.1 h1 with e | h1
      · subst e; have := hl.1 z hz; omega
      · exact h1
    · intro hz
      have h1 := (h z).2 (by simp [hz])
      rcases List.mem_cons.1 h1 with e | h1
      · subst e; have := hm.1 z hz; omega
      · exact h1
theorem members_bits {l : List Nat} {n : Nat} (hn : n ≤ 5) (hl : ∀ i ∈ l, i < n) (hs : l.Pairwise (· < ·)) : membersM (bitsM l) = l ∧ bitsM l < 2 ^ n := by
  constructor
  · refine sorted_ext (members_sorted _) hs fun i => ?_
    rw [mem_members, bitsM_bit]
    exact ⟨fun h => h.1, fun h => ⟨h, by have := hl i h; omega⟩⟩
  · refine Nat.lt_pow_two_of_testBit _ fun i hi => ?_
    cases h : (bitsM l).testBit i
    · rfl
    · have := hl i ((bitsM_bit l i).1 h); omega
/-- the spellings that are none of some -/
def othersN (l : List Nat) (n : Nat) : List Nat := (List.range n).filter fun i => !decide (i ∈ l)
theorem othersTo_ints (l : List Nat) (n : Nat) : othersTo (ints l) n = ints (othersN l n) := by
  unfold othersTo othersN
  congr 1
  apply List.filter_congr
  intro i _
  congr 1
  rw [decide_eq_decide]
  simp only [ints, List.mem_map]
  exact ⟨fun ⟨a, h1, h2⟩ => by
    have e : a = i := by omega
    rw [← e]; exact h1, fun h => ⟨i, h, rfl⟩⟩
theorem mem_others {l : List Nat} {n i : Nat} : i ∈ othersN l n ↔ i < n ∧ i ∉ l := by simp [othersN]
theorem others_sorted (l : List Nat) (n : Nat) : (othersN l n).Pairwise (· < ·) := List.Pairwise.filter _ List.pairwise_lt_range
theorem all_others {b : Book} {l : List Nat} {k : List Int} : All b (othersN l b.spellings.length) k ↔ ∀ i, i < b.spellings.length → i ∉ l → k ∈ stringsOf b i := by
  unfold All
  simp only [mem_others]
  exact ⟨fun h i h1 h2 => h i ⟨h1, h2⟩, fun h i ⟨h1, h2⟩ => h i h1 h2⟩
/-- without the spellings of Odd all others have a string in common -/
theorem odd_common {b : Book} (hv : Valid b) (h0 : 0 < b.spellings.length) : othersN (oddL b) b.spellings.length ≠ [] ∧ ∃ k, All b (othersN (oddL b) b.spellings.length) k := by
  have hn5 := hv.n
  have hlen := oddL_len hv h0
  obtain ⟨⟨s, hs, hp, e⟩, -⟩ := oddL_spec b
  have hne : s ≠ allOf b := by
    rintro rfl
    have : (membersM (allOf b)).length = b.spellings.length := by
      have e1 : membersM (allOf b) = List.range b.spellings.length := sorted_ext (members_sorted _) List.pairwise_lt_range fun i => by rw [mem_all hn5]; simp
      rw [e1]; simp
    rw [e] at this; omega
  have hb : ∀ i, i < b.spellings.length → (i ∉ oddL b ↔ s.testBit i = false) := fun i hi => by
    rw [← e, mem_members]
    have : i < 5 := by omega
    simp [this]
  rcases (oddP_iff hv hs).1 hp with h | ⟨k, hk⟩
  · exact absurd h hne
  · obtain ⟨i, hi, hbit⟩ := not_all hs hne
    refine ⟨fun h => ?_, k, all_others.2 fun j hj hn => hk j hj ((hb j hj).1 hn)⟩
    have : i ∈ othersN (oddL b) b.spellings.length := mem_others.2 ⟨hi, (hb i hi).2 hbit⟩
    rw [h] at this; simp at this
/-- without any that come before they have not -/
theorem odd_least {b : Book} (hv : Valid b) {l : List Nat} (hl : ∀ i ∈ l, i < b.spellings.length) (hs : l.Pairwise (· < ·)) (h : ∃ k, All b (othersN l b.spellings.length) k) : fewerM (ints l) (ints (oddL b)) = false := by
  obtain ⟨e, hlt⟩ := members_bits hv.n hl hs
  obtain ⟨k, hk⟩ := h
  have hp := (oddP_iff hv hlt).2 (.inr ⟨k, fun i hi hbit => all_others.1 hk i hi fun hm => by
    rw [(bitsM_bit l i).2 hm] at hbit; cases hbit⟩)
  have := (oddL_spec b).2 _ hlt hp
  rw [e] at this
  cases hf : fewerM (ints l) (ints (oddL b))
  · rfl
  · exact absurd ((fewerM_cmp _ _).1 hf) this
end Go.Proofs.Ytoifmphpeflliaa

namespace Go.Proofs.Ytoifmphpeflliaa
set_option linter.unusedVariables false

/-- the byte at a place, as a text -/
def oneText (s : ByteArray) (k : Nat) : ByteArray := ⟨#[s.data.toList.getD k 0]⟩
def oneBook (b : Book) (a : Int) (t : ByteArray) : Book := ⟨b.sounds, b.alphabets, [⟨a, t⟩]⟩
theorem errM_parts {b : Book} (h : errM b = 0) : inM b.sounds 1 4 = true ∧ inM b.alphabets.length 1 3 = true ∧ (alphErr b).2 = 0 := by
  unfold errM checkM at h
  split at h
  · cases h
  rename_i h1
  split at h
  · cases h
  rename_i h2
  split at h
  · rename_i h3; exact absurd h h3
  rename_i h3
  exact ⟨by simpa using h1, by simpa using h2, by simpa using h3⟩
theorem errM_make {b : Book} {al : List Alphabet} {sp : List Spelling} (h1 : inM b.sounds 1 4 = true) (h2 : inM b.alphabets.length 1 3 = true) (h3 : (alphErr b).2 = 0) (h4 : b.spellings.length ≤ 5) (h5 : (spelErr b).2 = 0) : errM b = 0 := by
  unfold errM checkM
  rw [if_neg (by rw [h1]; decide), if_neg (by rw [h2]; decide), if_neg (by rw [h3]; decide), if_neg (by omega), if_neg (by rw [h5]; decide)]
theorem byteAt_one (s : ByteArray) (k : Nat) : byteAt (oneText s k) 0 = byteAt s k := rfl
theorem one_err {b : Book} (h : errM b = 0) {n : Nat} (hn : n < b.spellings.length) {k : Nat} (hk : k < (b.spellings[n]).text.size) : errM (oneBook b (b.spellings[n]).alphabet (oneText (b.spellings[n]).text k)) = 0 := by
  obtain ⟨h1, h2, h3⟩ := errM_parts h
  have hv := valid_of h
  have hs := hv.sp n hn
  refine errM_make (al := []) (sp := []) h1 h2 h3 (by show 1 ≤ 5; omega) ?_
  have e : spellingErrM b.alphabets ⟨(b.spellings[n]).alphabet, oneText (b.spellings[n]).text k⟩ = 0 := by
    unfold spellingErrM
    rw [if_neg, if_neg, if_neg]
    · rw [Bool.not_eq_false]
      show textOk (lettersOf b.alphabets (b.spellings[n]).alphabet) (oneText (b.spellings[n]).text k) = true
      unfold textOk
      rw [List.all_eq_true]
      intro j hj
      have hj0 : j = 0 := by have := List.mem_range.1 hj; have e1 : (oneText (b.spellings[n]).text k).size = 1 := rfl; omega
      subst hj0
      have := hs.k k hk
      unfold knownB at this ⊢
      rw [byteAt_one]; exact this
    · rw [Bool.not_eq_false]; rfl
    · rw [Bool.not_eq_false]
      have := hs.a
      simp [inM]; omega
  show (firstErr _ [_]).2 = 0
  unfold firstErr firstErrFrom
  rw [if_pos (by exact e)]; rfl
theorem one_letters {b : Book} {a : Int} {s : ByteArray} {k : Nat} : lettersAt (oneBook b a (oneText s k)) 0 = [letterOf (lettersOf b.alphabets a) s k] := rfl
theorem one_count {b : Book} {a : Int} {s : ByteArray} {k : Nat} : (canM (oneBook b a (oneText s k)) [0]).length = waysM (b.sounds.toNat + 1) (letterOf (lettersOf b.alphabets a) s k) := by
  rw [canM_one]
  have e : stringsOf (oneBook b a (oneText s k)) 0 = yields (b.sounds.toNat + 1) [letterOf (lettersOf b.alphabets a) s k] [] := rfl
  rw [e, foldl_mark_new _ _ _ (yields_one_nodup _ _) (by simp), yields_one_len]
  simp
/-- in how many ways the first letters can give things -/
def prodTo (K : Nat) (ls : List Letter) (k : Nat) : Nat := ((ls.take k).map (waysM K)).foldr (· * ·) 1
theorem foldr_mul_snoc (l : List Nat) (x : Nat) : (l ++ [x]).foldr (· * ·) 1 = l.foldr (· * ·) 1 * x := by
  induction l with
  | nil => simp
  | cons y l ih => rw [List.cons_append, List.foldr_cons, List.foldr_cons, ih, Nat.mul_assoc]
theorem prodTo_succ (K : Nat) (ls : List Letter) (k : Nat) (hk : k < ls.length) : prodTo K ls (k + 1) = prodTo K ls k * waysM K ls[k] := by
  unfold prodTo
  rw [List.take_succ_eq_append_getElem hk, List.map_append, List.map_cons, List.map_nil, foldr_mul_snoc]
theorem prodTo_le (K : Nat) (ls : List Letter) : ∀ k, prodTo K ls k ≤ K ^ k ∨ ls.length < k
  | 0 => .inl (by simp [prodTo])
  | k + 1 => by
    by_cases hk : k < ls.length
    · left
      rw [prodTo_succ K ls k hk, Nat.pow_succ]
      rcases prodTo_le K ls k with h | h
      · exact Nat.mul_le_mul h (waysM_le K _)
      · omega
    · right; omega
theorem canM_prod (b : Book) (n : Nat) : (canM b [n]).length ≤ prodTo (b.sounds.toNat + 1) (lettersAt b n) (lettersAt b n).length := by
  have h := canM_le b n
  unfold stringsOf at h
  rw [yields_len] at h
  unfold prodTo
  rw [List.take_length]; exact h
end Go.Proofs.Ytoifmphpeflliaa

namespace Go.Proofs.Ytoifmphpeflliaa
open Go.RowKit
set_option linter.unusedVariables false

theorem bitM_test : ∀ (n : Nat) (c : Int), 0 ≤ c → bitM n c = c.toNat.testBit n
  | 0, c, h => by
    rw [bitM, Int.tmod_eq_emod_of_nonneg h, Nat.testBit_zero]
    have e : (c % 2 == 1) = decide (c.toNat % 2 = 1) := by
      rw [Bool.eq_iff_iff]; simp; omega
    rw [e]
  | n + 1, c, h => by
    rw [bitM, Int.tdiv_eq_ediv_of_nonneg h, bitM_test n (c / 2) (by omega), Nat.testBit_succ]
    congr 1
    omega
/-- what a letter can give: its sounds, then silence -/
def canY (S : Nat) (y : Letter) : List Int := ints (pickTo y.sounds S) ++ if y.silent = true then [-1] else []
/-- what the letters with a byte can give -/
def canTo (S : Nat) (ls : List Letter) (c : Int) (k : Nat) : List Int := (ls.take k).flatMap fun y => if (y.c == c) = true then canY S y else []
theorem canTo_no (S : Nat) (ls : List Letter) (c : Int) (k : Nat) (hk : k < ls.length) (h : (ls[k].c == c) = false) : canTo S ls c (k + 1) = canTo S ls c k := by
  unfold canTo; rw [List.take_succ_eq_append_getElem hk, List.flatMap_append, List.flatMap_cons, List.flatMap_nil, if_neg (by rw [h]; decide)]; simp
theorem canTo_yes (S : Nat) (ls : List Letter) (c : Int) (k : Nat) (hk : k < ls.length) (h : (ls[k].c == c) = true) : canTo S ls c (k + 1) = canTo S ls c k ++ canY S ls[k] := by
  unfold canTo; rw [List.take_succ_eq_append_getElem hk, List.flatMap_append, List.flatMap_cons, List.flatMap_nil, if_pos h]; simp
theorem canY_len (S : Nat) (y : Letter) : (canY S y).length ≤ S + 1 := by
  unfold canY
  have := pickTo_len y.sounds S
  rw [List.length_append]
  have e : (ints (pickTo y.sounds S)).length = (pickTo y.sounds S).length := by simp [ints]
  split <;> simp [e] <;> omega
theorem canTo_len (S : Nat) (ls : List Letter) (c : Int) : ∀ k, (canTo S ls c k).length ≤ k * (S + 1)
  | 0 => by simp [canTo]
  | k + 1 => by
    have ih := canTo_len S ls c k
    by_cases hk : k < ls.length
    · cases h : ls[k].c == c
      · rw [canTo_no S ls c k hk h, Nat.succ_mul]; omega
      · rw [canTo_yes S ls c k hk h, List.length_append, Nat.succ_mul]
        have := canY_len S ls[k]; omega
    · have e : canTo S ls c (k + 1) = canTo S ls c k := by unfold canTo; rw [List.take_of_length_le (by omega), List.take_of_length_le (by omega)]
      rw [e, Nat.succ_mul]; omega
theorem mem_canY {S : Nat} {y : Letter} (hy : 0 ≤ y.sounds) {n : Int} : n ∈ canY S y → n ∈ soundsTo (S + 1) ∧ givesM y n = true := by
  unfold canY
  intro h
  rcases List.mem_append.1 h with h | h
  · simp only [ints, List.mem_map] at h
    obtain ⟨m, hm, rfl⟩ := h
    have hlt := pickTo_lt hm
    simp only [pickTo, List.mem_filter, List.mem_range] at hm
    refine ⟨mem_soundsTo.2 (by omega), ?_⟩
    rw [givesM, if_neg (by omega)]
    have := hm.2
    rw [bitM_test _ _ hy] at this
    simpa using this
  · split at h
    · rename_i hs
      obtain rfl : n = -1 := by simpa using h
      exact ⟨mem_soundsTo.2 (by omega), by rw [givesM, if_pos rfl]; exact hs⟩
    · simp at h
theorem canY_some {S : Nat} {y : Letter} (hy : 0 ≤ y.sounds) (h : ∃ n ∈ soundsTo (S + 1), givesM y n = true) : canY S y ≠ [] := by
  obtain ⟨n, hn, hg⟩ := h
  have hn := mem_soundsTo.1 hn
  unfold canY
  by_cases h1 : n = -1
  · subst h1
    rw [givesM, if_pos rfl] at hg
    simp [hg]
  · rw [givesM, if_neg h1] at hg
    have hm : n.toNat ∈ pickTo y.sounds S := by
      simp only [pickTo, List.mem_filter, List.mem_range]
      exact ⟨by omega, by rw [bitM_test _ _ hy]; exact hg⟩
    intro e
    have h2 := (List.append_eq_nil_iff.1 e).1
    simp only [ints, List.map_eq_nil_iff] at h2
    rw [h2] at hm; simp at hm
/-- what is said at a place, by turns -/
def pickM (S : Nat) (ls : List Letter) (s : ByteArray) (x : List Int) (j : Nat) : Int :=
  (canTo S ls (byteAt s j) ls.length).getD ((turnM x j).toNat % (canTo S ls (byteAt s j) ls.length).length) 0
def saidTo (S : Nat) (ls : List Letter) (s : ByteArray) (x : List Int) : Nat → List Int
  | 0 => []
  | j + 1 => withS (saidTo S ls s x j) (pickM S ls s x j)
theorem saidTo_len (S : Nat) (ls : List Letter) (s : ByteArray) (x : List Int) : ∀ j, (saidTo S ls s x j).length ≤ j
  | 0 => Nat.le_refl _
  | j + 1 => by
    have ih := saidTo_len S ls s x j
    rw [saidTo]; unfold withS; split
    · omega
    · rw [List.length_append]; simp; omega
/-- of letters that are told apart by their bytes, what those with a byte can give is what the first one can -/
theorem canTo_letter (S : Nat) (c : Int) : ∀ (ls : List Letter), ls.Pairwise (fun a b => a.c ≠ b.c) → (∃ y ∈ ls, y.c = c) → canTo S ls c ls.length = canY S ((ls.find? fun y => y.c == c).getD ⟨0, 0, true⟩)
  | [], _, h => by obtain ⟨y, hy, -⟩ := h; simp at hy
  | y :: ls, hp, h => by
    rw [List.pairwise_cons] at hp
    unfold canTo
    rw [List.take_length, List.flatMap_cons]
    by_cases hc : y.c = c
    · have hb : (y.c == c) = true := by simpa using hc
      rw [if_pos hb]
      have e : (ls.flatMap fun y => if (y.c == c) = true then canY S y else []) = [] := by
        rw [List.flatMap_eq_nil_iff]
        intro z hz
        rw [if_neg]
        have := hp.1 z hz
        simp only [beq_iff_eq]
        intro e; exact this (by rw [e, hc])
      rw [e, List.append_nil, List.find?_cons]; simp only [hb]; rfl
    · have hb : ¬ ((y.c == c) = true) := by simpa using hc
      have hb' : (y.c == c) = false := by simpa using hc
      rw [if_neg hb, List.nil_append, List.find?_cons]
      simp only [hb']
      have ih := canTo_letter S c ls hp.2 (by
        obtain ⟨z, hz, e⟩ := h
        rcases List.mem_cons.1 hz with rfl | hz
        · exact absurd e hc
        · exact ⟨z, hz, e⟩)
      unfold canTo at ih
      rw [List.take_length] at ih
      exact ih
/-- WHAT IS SAID CAN BE READ -/
theorem said_can {S : Nat} {ls : List Letter} {s : ByteArray} {x : List Int} (hp : ls.Pairwise (fun a b => a.c ≠ b.c)) (hk : ∀ j, j < s.size → knownB ls s j = true) (hf : ∀ y ∈ ls, 0 ≤ y.sounds) (hg : ∀ y ∈ ls, ∃ n ∈ soundsTo (S + 1), givesM y n = true) :
    Can (S + 1) (lettersM ls s) [] (saidTo S ls s x s.size) := by
  have hone : ∀ j, j < s.size → pickM S ls s x j ∈ soundsTo (S + 1) ∧ givesM (letterOf ls s j) (pickM S ls s x j) = true := by
    intro j hj
    have hkj := hk j hj
    unfold knownB at hkj
    rw [List.any_eq_true] at hkj
    obtain ⟨y, hy, hyc⟩ := hkj
    have e := canTo_letter S (byteAt s j) ls hp ⟨y, hy, by simpa using hyc⟩
    have hin : letterOf ls s j ∈ ls := by
      unfold letterOf
      cases hfd : ls.find? fun y => y.c == byteAt s j with
      | none => rw [List.find?_eq_none] at hfd; exact absurd hyc (by simpa using hfd y hy)
      | some z => exact List.mem_of_find?_eq_some hfd
    have e' : canTo S ls (byteAt s j) ls.length = canY S (letterOf ls s j) := e
    have hne := canY_some (hf _ hin) (hg _ hin)
    unfold pickM
    rw [e']
    have hpos : 0 < (canY S (letterOf ls s j)).length := List.length_pos_iff.2 hne
    have hlt := Nat.mod_lt (turnM x j).toNat hpos
    rw [List.getD_eq_getElem?_getD, List.getElem?_eq_getElem hlt]
    exact mem_canY (hf _ hin) (List.getElem_mem hlt)
  have key : ∀ d j, j + d = s.size → Can (S + 1) ((lettersM ls s).drop j) (saidTo S ls s x j) (saidTo S ls s x s.size) := by
    intro d
    induction d with
    | zero =>
      intro j hj
      obtain rfl : j = s.size := by omega
      rw [List.drop_eq_nil_of_le (by rw [lettersM, lettersTo_len]; omega)]
      exact .nil _
    | succ d ih =>
      intro j hj
      have hjl : j < (lettersM ls s).length := by rw [lettersM, lettersTo_len]; omega
      rw [List.drop_eq_getElem_cons hjl]
      have e : (lettersM ls s)[j] = letterOf ls s j := by simp [lettersM, lettersTo]
      rw [e]
      obtain ⟨h1, h2⟩ := hone j (by omega)
      exact .cons _ _ _ _ _ h1 h2 (ih (j + 1) (by omega))
  have := key s.size 0 (by omega)
  simpa [saidTo] using this
end Go.Proofs.Ytoifmphpeflliaa

namespace Go.Proofs.Ytoifmphpeflliaa
open Go.RowKit
set_option linter.unusedVariables false

theorem mem_furA (x : Letter) (out : List Int) (n j : Int) : j ∈ furA x out n ↔ j ∈ out ∨ (x.silent = true ∧ j = n) := by
  unfold furA
  split
  · rename_i h; simp [h.1]
  · rename_i h
    constructor
    · exact .inl
    · rintro (h1 | ⟨h1, rfl⟩)
      · exact h1
      · by_cases h2 : j ∈ out
        · exact h2
        · exact absurd ⟨h1, decide_eq_false h2⟩ h
theorem mem_furB (x : Letter) (heard out : List Int) (n j : Int) : j ∈ furB x heard out n ↔ j ∈ out ∨ ((n < heard.length ∧ bitM (heard.getD n.toNat 0).toNat x.sounds = true) ∧ j = n + 1) := by
  unfold furB
  split
  · rename_i h; simp only [h.1, h.2.1, List.mem_append, List.mem_singleton, true_and]
  · rename_i h
    constructor
    · exact .inl
    · rintro (h1 | ⟨⟨h1, h2⟩, rfl⟩)
      · exact h1
      · by_cases h3 : n + 1 ∈ out
        · exact h3
        · exact absurd ⟨h1, h2, decide_eq_false h3⟩ h
theorem mem_fold (x : Letter) (heard : List Int) (j : Int) : ∀ (D o : List Int), j ∈ D.foldl (fun o n => furB x heard (furA x o n) n) o ↔
    j ∈ o ∨ ∃ n ∈ D, (x.silent = true ∧ j = n) ∨ ((n < heard.length ∧ bitM (heard.getD n.toNat 0).toNat x.sounds = true) ∧ j = n + 1)
  | [], o => by simp
  | n :: D, o => by
    rw [List.foldl_cons, mem_fold x heard j D, mem_furB, mem_furA]
    simp only [List.mem_cons, exists_eq_or_imp, or_assoc]
/-- what is done behind one more letter -/
def furs (x : Letter) (done heard : List Int) : List Int := furTo x done heard done.length
theorem mem_fur (x : Letter) (done heard : List Int) (j : Int) : j ∈ furs x done heard ↔ ∃ n ∈ done, (x.silent = true ∧ j = n) ∨ ((n < heard.length ∧ bitM (heard.getD n.toNat 0).toNat x.sounds = true) ∧ j = n + 1) := by
  rw [furs, furTo, List.take_length, mem_fold]
  simp only [List.not_mem_nil, false_or]
theorem fold_len (x : Letter) (heard : List Int) : ∀ (D o : List Int), (D.foldl (fun o n => furB x heard (furA x o n) n) o).length ≤ o.length + 2 * D.length
  | [], o => by simp
  | n :: D, o => by
    rw [List.foldl_cons]
    have h1 := fold_len x heard D (furB x heard (furA x o n) n)
    have h2 : (furA x o n).length ≤ o.length + 1 := by unfold furA; split <;> simp
    have h3 : (furB x heard (furA x o n) n).length ≤ (furA x o n).length + 1 := by unfold furB; split <;> simp
    rw [List.length_cons]
    omega
theorem furs_len (x : Letter) (done heard : List Int) : (furs x done heard).length ≤ 2 * done.length := by
  have := fold_len x heard (done.take done.length) []
  rw [furs, furTo]
  rw [List.take_length] at this ⊢
  simpa using this

abbrev Spl := List Int × List Int
def splOne (heard : List Int) (r : Spl) (x : Letter) : Option Spl := if furs x r.2 heard = [] then none else some (r.1 ++ [x.c], furs x r.2 heard)
def splStep (ls : List Letter) (heard : List Int) (r : Spl) : List Spl := ls.filterMap (splOne heard r)
def splTo (ls : List Letter) (heard : List Int) : Nat → List Spl
  | 0 => [([], [0])]
  | m + 1 => (splTo ls heard m).flatMap (splStep ls heard)
theorem mem_step {ls : List Letter} {heard : List Int} {q r : Spl} (h : r ∈ splStep ls heard q) : ∃ x ∈ ls, furs x q.2 heard ≠ [] ∧ r = (q.1 ++ [x.c], furs x q.2 heard) := by
  rw [splStep, List.mem_filterMap] at h
  obtain ⟨x, hx, h⟩ := h
  unfold splOne at h
  split at h
  · cases h
  · rename_i hne
    exact ⟨x, hx, hne, (Option.some.inj h).symm⟩
structure SplFine (ls : List Letter) (heard : List Int) (m : Nat) (r : Spl) : Prop where
  len : r.1.length = m
  few : r.2.length ≤ 2 ^ m
  low : ∀ j ∈ r.2, 0 ≤ j ∧ j ≤ heard.length ∧ j ≤ m
  by_ : ∀ j ∈ r.2, ∀ i : Nat, (i : Int) < j → ∃ x ∈ ls, bitM (heard.getD i 0).toNat x.sounds = true
  own : ∀ c ∈ r.1, ∃ x ∈ ls, x.c = c
theorem spl_fine (ls : List Letter) (heard : List Int) : ∀ (m : Nat) (r : Spl), r ∈ splTo ls heard m → SplFine ls heard m r
  | 0, r, h => by
    rw [splTo, List.mem_singleton] at h
    subst h
    exact ⟨rfl, Nat.le_refl _, fun j hj => by rw [List.mem_singleton] at hj; omega, fun j hj i hi => by rw [List.mem_singleton] at hj; omega, fun c hc => by cases hc⟩
  | m + 1, r, h => by
    rw [splTo, List.mem_flatMap] at h
    obtain ⟨q, hq, h⟩ := h
    obtain ⟨x, hx, -, rfl⟩ := mem_step h
    have f := spl_fine ls heard m q hq
    have hl := furs_len x q.2 heard
    refine ⟨by simp [f.len], ?_, fun j hj => ?_, fun j hj i hi => ?_, fun c hc => ?_⟩
    · have := f.few
      show (furs x q.2 heard).length ≤ 2 ^ (m + 1)
      rw [Nat.pow_succ]; omega
    · obtain ⟨n, hn, h1⟩ := (mem_fur x q.2 heard j).1 hj
      have h2 := f.low n hn
      rcases h1 with ⟨-, rfl⟩ | ⟨⟨h1, -⟩, rfl⟩ <;> omega
    · obtain ⟨n, hn, h1⟩ := (mem_fur x q.2 heard j).1 hj
      have h2 := f.low n hn
      rcases h1 with ⟨-, rfl⟩ | ⟨⟨h1, h3⟩, rfl⟩
      · exact f.by_ _ hn i hi
      · rcases (show (i : Int) < n ∨ n ≤ (i : Int) from by omega) with h4 | h4
        · exact f.by_ _ hn i h4
        · have e : n.toNat = i := by omega
          rw [e] at h3
          exact ⟨x, hx, h3⟩
    · rcases List.mem_append.1 hc with hc | hc
      · exact f.own c hc
      · rw [List.mem_singleton] at hc
        exact ⟨x, hx, hc.symm⟩
theorem spl_few (ls : List Letter) (heard : List Int) : ∀ m, (splTo ls heard m).length ≤ ls.length ^ m
  | 0 => by simp [splTo]
  | m + 1 => by
    have h1 := spl_few ls heard m
    have h2 : ∀ L : List Spl, (L.flatMap (splStep ls heard)).length ≤ L.length * ls.length := fun L => by
      induction L with
      | nil => simp
      | cons r L ih =>
        rw [List.flatMap_cons, List.length_append, List.length_cons, Nat.succ_mul]
        have : (splStep ls heard r).length ≤ ls.length := List.length_filterMap_le _ _
        omega
    rw [splTo, Nat.pow_succ]
    exact Nat.le_trans (h2 _) (Nat.mul_le_mul_right _ h1)
def hitP (n : Nat) (r : Spl) : Bool := decide ((n : Int) ∈ r.2)
/-- what has m sounds done behind m letters -/
theorem one_hit {ls : List Letter} {heard : List Int} {m : Nat} {r : Spl} (f : SplFine ls heard m r) (hm : m < heard.length) (x : Letter) : ((m + 1 : Nat) : Int) ∈ furs x r.2 heard ↔ (m : Int) ∈ r.2 ∧ bitM (heard.getD m 0).toNat x.sounds = true := by
  rw [mem_fur]
  constructor
  · rintro ⟨n, hn, h1⟩
    have h2 := f.low n hn
    rcases h1 with ⟨-, h3⟩ | ⟨⟨h3, h4⟩, h5⟩
    · omega
    · have e : n = (m : Int) := by omega
      subst e
      rw [Int.toNat_natCast] at h4
      exact ⟨hn, h4⟩
  · rintro ⟨h1, h2⟩
    exact ⟨m, h1, .inr ⟨⟨by omega, by rw [Int.toNat_natCast]; exact h2⟩, by omega⟩⟩
theorem bit_gives {x : Letter} {heard : List Int} {m : Nat} (hm : m < heard.length) (h0 : 0 ≤ heard[m]) (hx : 0 ≤ x.sounds) : bitM (heard.getD m 0).toNat x.sounds = givesM x heard[m] := by
  have e : heard.getD m 0 = heard[m] := by rw [List.getD_eq_getElem?_getD, List.getElem?_eq_getElem hm]; rfl
  rw [e, bitM_test _ _ hx, givesM, if_neg (by omega)]
/-- the first of the texts that are done with as many sounds as they have letters -/
theorem spl_hit {ls : List Letter} {heard : List Int} (hx : ∀ x ∈ ls, 0 ≤ x.sounds) (hd : ∀ s ∈ heard, 0 ≤ s) (hall : ∀ j (hj : j < heard.length), (giver ls heard[j]).isSome = true) :
    ∀ m, m ≤ heard.length → ∃ d, (splTo ls heard m).find? (hitP m) = some (textTo ls heard m, d)
  | 0, _ => ⟨[0], by simp [splTo, hitP, textTo]⟩
  | m + 1, hm => by
    obtain ⟨d, h⟩ := spl_hit hx hd hall m (by omega)
    rw [List.find?_eq_some_iff_append] at h
    obtain ⟨hp, fr, bs, hsp, hno⟩ := h
    have hf := spl_fine ls heard m
    obtain ⟨x, hgx⟩ := Option.isSome_iff_exists.1 (hall m (by omega))
    have hxm := List.mem_of_find?_eq_some hgx
    have hg2 := hgx
    rw [giver, List.find?_eq_some_iff_append] at hg2
    obtain ⟨hgv, la, lb, hls, hgn⟩ := hg2
    have h0 := hd _ (List.getElem_mem (show m < heard.length by omega))
    have hbit := fun y (hy : y ∈ ls) => bit_gives (x := y) (show m < heard.length by omega) h0 (hx y hy)
    have hpm : (m : Int) ∈ d := by simpa [hitP] using hp
    have hfb := hf (textTo ls heard m, d) (by rw [hsp]; simp)
    refine ⟨furs x d heard, ?_⟩
    rw [splTo, hsp, List.flatMap_append, List.flatMap_cons, List.find?_append]
    have e1 : (fr.flatMap (splStep ls heard)).find? (hitP (m + 1)) = none := by
      rw [List.find?_eq_none]
      intro r hr
      rw [List.mem_flatMap] at hr
      obtain ⟨q, hq, hr⟩ := hr
      obtain ⟨y, hy, -, rfl⟩ := mem_step hr
      have hfq := hf q (by rw [hsp]; simp [hq])
      have := hno q hq
      simp only [hitP, decide_eq_true_eq]
      intro h
      have h := ((one_hit hfq (by omega) y).1 h).1
      simp [hitP, h] at this
    rw [e1, Option.none_or, List.find?_append]
    have e2 : (splStep ls heard (textTo ls heard m, d)).find? (hitP (m + 1)) = some (textTo ls heard (m + 1), furs x d heard) := by
      rw [textTo_succ ls heard m (by omega) x hgx]
      have hin : ((m + 1 : Nat) : Int) ∈ furs x d heard := (one_hit hfb (by omega) x).2 ⟨hpm, by rw [hbit x hxm]; exact hgv⟩
      rw [splStep]
      rw [hls, List.filterMap_append, List.filterMap_cons, List.find?_append]
      have e3 : (la.filterMap (splOne heard (textTo ls heard m, d))).find? (hitP (m + 1)) = none := by
        rw [List.find?_eq_none]
        intro r hr
        rw [List.mem_filterMap] at hr
        obtain ⟨y, hy, hr⟩ := hr
        unfold splOne at hr
        split at hr
        · cases hr
        · obtain rfl := Option.some.inj hr
          simp only [hitP, decide_eq_true_eq]
          intro h
          have hyl : y ∈ ls := by rw [hls]; simp [hy]
          have h := ((one_hit hfb (by omega) y).1 h).2
          rw [hbit y hyl] at h
          have := hgn y hy
          simp [h] at this
      have e4 : splOne heard (textTo ls heard m, d) x = some (textTo ls heard m ++ [x.c], furs x d heard) := by
        unfold splOne
        rw [if_neg]
        intro e
        change furs x d heard = [] at e
        rw [e] at hin
        cases hin
      rw [← hls, e3, Option.none_or, e4]
      simp only
      rw [List.find?_cons]
      have e5 : hitP (m + 1) (textTo ls heard m ++ [x.c], furs x d heard) = true := decide_eq_true hin
      rw [e5]
    rw [e2, Option.some_or]
/-- nothing heard: the letters that can be silent -/
theorem spl_silent (ls : List Letter) : (splTo ls [] 1).find? (hitP 0) = (giver ls (-1)).map (fun x => ([x.c], furs x [0] [])) ∧ (giver ls (-1) = none → ∀ m, splTo ls [] (m + 1) = []) := by
  have hs : ∀ x : Letter, (0 : Int) ∈ furs x [0] [] ↔ x.silent = true := fun x => by rw [mem_fur]; simp
  have hn : ∀ x : Letter, x.silent = false → furs x [0] [] = [] := fun x hx => by
    rw [List.eq_nil_iff_forall_not_mem]
    intro j hj
    rw [mem_fur] at hj
    simp [hx] at hj
  have h1 : splTo ls [] 1 = ls.filterMap (splOne [] ([], [0])) := by simp [splTo, splStep]
  have hone : ∀ x : Letter, splOne [] ([], [0]) x = if x.silent = true then some ([x.c], furs x [0] []) else none := fun x => by
    unfold splOne
    cases hx : x.silent
    · simp [hn x hx]
    · have := (hs x).2 hx
      rw [if_neg (fun e => by change furs x [0] [] = [] at e; rw [e] at this; cases this)]
      simp
  constructor
  · rw [h1, giver]
    induction ls with
    | nil => rfl
    | cons x l ih =>
      rw [List.filterMap_cons, hone, List.find?_cons]
      cases hx : x.silent
      · simp only [Bool.false_eq_true, if_false, givesM, if_true, hx]
        refine Eq.trans (ih ?_) rfl
        simp [splTo, splStep]
      · simp only [if_true, givesM, hx]
        rw [List.find?_cons]
        have : hitP 0 ([x.c], furs x [0] []) = true := decide_eq_true ((hs x).2 hx)
        rw [this]; rfl
  · intro hg
    have h0 : splTo ls [] 1 = [] := by
      rw [h1, List.filterMap_eq_nil_iff]
      intro x hx
      rw [giver, List.find?_eq_none] at hg
      have := hg x hx
      rw [hone, if_neg]
      simpa [givesM] using this
    intro m
    induction m with
    | zero => exact h0
    | succ m ih => rw [splTo, ih]; rfl

theorem giver_wanted {ls : List Letter} {l : List Int} (h : (l.all fun s => (giver ls s).isSome) = false) : ∃ j, ∃ hj : j < l.length, giver ls l[j] = none := by
  rw [List.all_eq_false] at h
  obtain ⟨s, hs, hn⟩ := h
  obtain ⟨j, hj, rfl⟩ := List.getElem_of_mem hs
  exact ⟨j, hj, by simpa using hn⟩
/-- there is a first text, or none -/
theorem spl_all {ls : List Letter} {heard : List Int} (hx : ∀ x ∈ ls, 0 ≤ x.sounds) (hd : ∀ s ∈ heard, 0 ≤ s) (h5 : heard.length ≤ 5) :
    (∃ n r, 1 ≤ n ∧ n ≤ 5 ∧ (splTo ls heard n).find? (hitP heard.length) = some r ∧ (∀ m, 1 ≤ m → m < n → (splTo ls heard m).find? (hitP heard.length) = none) ∧ shortS ls (wantedM heard) = r.1 ∧ shortE ls (wantedM heard) = 0) ∨
    ((∀ m, 1 ≤ m → (splTo ls heard m).find? (hitP heard.length) = none) ∧ shortS ls (wantedM heard) = [] ∧ shortE ls (wantedM heard) = 9) := by
  by_cases h0 : heard = []
  · subst h0
    have hw : wantedM [] = [-1] := rfl
    rw [hw]
    obtain ⟨h1, h2⟩ := spl_silent ls
    cases hg : giver ls (-1) with
    | none =>
      obtain ⟨e1, e2⟩ := shortE_no ls [-1] 0 (by simp) hg
      refine .inr ⟨fun m hm => ?_, e2, e1⟩
      obtain ⟨k, rfl⟩ : ∃ k, m = k + 1 := ⟨m - 1, by omega⟩
      rw [h2 hg k]; rfl
    | some x =>
      rw [hg] at h1
      have hall : ∀ j (hj : j < [(-1 : Int)].length), (giver ls [(-1 : Int)][j]).isSome = true := fun j hj => by
        have hj' : j < 1 := hj
        obtain rfl : j = 0 := by omega
        show (giver ls (-1)).isSome = true
        rw [hg]; rfl
      obtain ⟨e1, e2⟩ := shortE_yes ls [-1] hall
      refine .inl ⟨1, _, Nat.le_refl _, by omega, h1, fun m h3 h4 => by omega, ?_, e1⟩
      rw [e2]
      have := textTo_succ ls [-1] 0 (by simp) x hg
      show textTo ls [-1] (0 + 1) = _
      rw [this]; rfl
  · have hw : wantedM heard = heard := by rw [wantedM, if_neg h0]
    rw [hw]
    have hpos : 0 < heard.length := List.length_pos_iff.2 h0
    cases hall : heard.all fun s => (giver ls s).isSome
    · obtain ⟨j, hj, hg⟩ := giver_wanted hall
      obtain ⟨e1, e2⟩ := shortE_no ls heard j hj hg
      refine .inr ⟨fun m hm => ?_, e2, e1⟩
      rw [List.find?_eq_none]
      intro r hr h
      have hr' : (heard.length : Int) ∈ r.2 := by simpa [hitP] using h
      obtain ⟨x, hxl, hb⟩ := (spl_fine ls heard m r hr).by_ _ hr' j (by omega)
      rw [bit_gives hj (hd _ (List.getElem_mem hj)) (hx x hxl)] at hb
      rw [giver, List.find?_eq_none] at hg
      exact hg x hxl hb
    · have hall' : ∀ j (hj : j < heard.length), (giver ls heard[j]).isSome = true := fun j hj => List.all_eq_true.1 hall _ (List.getElem_mem hj)
      obtain ⟨e1, e2⟩ := shortE_yes ls heard hall'
      obtain ⟨d, h⟩ := spl_hit hx hd hall' heard.length (Nat.le_refl _)
      refine .inl ⟨heard.length, _, by omega, h5, h, fun m h1 h2 => ?_, e2, e1⟩
      rw [List.find?_eq_none]
      intro r hr h
      have hr' : (heard.length : Int) ∈ r.2 := by simpa [hitP] using h
      have := (spl_fine ls heard m r hr).low _ hr'
      omega
end Go.Proofs.Ytoifmphpeflliaa

namespace Go.Proofs.Ytoifmphpeflliaa
open Go.RowKit
set_option linter.unusedVariables false

theorem ints_grown {w w' : World} {row : Option Nat} {sa : Option Addr} {n sc : Nat} {l : List Int} (h : IntsAt w (.slice sa n sc) l) (hg : w.grownBy w' row) (hne : ∀ ad, sa = some ad → some ad.block ≠ row) : IntsAt w' (.slice sa n sc) l := by
  obtain ⟨a, cap, e, h2, h3, h4⟩ := h
  obtain ⟨rfl, rfl, rfl⟩ := Value.slice.inj e
  refine ⟨_, _, rfl, h2, h3, fun i hi => ?_⟩
  obtain ⟨b, o, rfl, r⟩ := h4 i hi
  exact ⟨b, o, rfl, hg.cell r.1 (show some b ≠ row from hne ⟨b, o, none⟩ rfl), r.2⟩
def splR (w : World) (b o : Nat) (r : Spl) : Prop := w.cell? ⟨b, o, none⟩ = some (.string (strOf r.1)) ∧ ∃ s, w.cell? ⟨b, o + 1, none⟩ = some s ∧ IntsAt w s r.2
theorem splR.keeps : Keeps splR := fun _ _ _ _ _ hx ⟨h1, s, h2, h3⟩ => ⟨hx.cell h1, s, hx.cell h2, h3.ext hx⟩
abbrev SplsAt : World → Value → List Spl → Prop := SliceAt 2 splR
theorem SplsAt.ext {w w' : World} {v : Value} {l : List Spl} (h : SplsAt w v l) (hx : Ext w w') : SplsAt w' v l := SliceAt.ext splR.keeps h hx

abbrev Ent := ByteArray × Value
def cellsE (es : List Ent) : List Value := es.flatMap fun e => [.string e.1, e.2]
theorem cellsE_get (l : List Ent) (i : Nat) (h : i < l.length) : (cellsE l)[i * 2]? = some (.string l[i].1) ∧ (cellsE l)[i * 2 + 1]? = some l[i].2 := by
  induction l generalizing i with
  | nil => simp at h
  | cons x l ih =>
    cases i with
    | zero => simp [cellsE]
    | succ i =>
      have := ih i (by simpa using h)
      have e : (i + 1) * 2 = i * 2 + 2 := by omega
      rw [e]
      simpa [cellsE] using this
theorem cellsE_snoc (l : List Ent) (s : ByteArray) (v : Value) : cellsE (l ++ [(s, v)]) = cellsE l ++ [.string s, v] := by simp [cellsE]
/-- a slice with these numbers, not in the row's own block -/
def ElemI (w : World) (own : Option Nat) (x : Value) (l : List Int) : Prop := ∃ sa sc, x = .slice sa l.length sc ∧ IntsAt w x l ∧ ∀ ad, sa = some ad → ad.block < w.heap.size ∧ some ad.block ≠ own
def SplsOwn (w : World) (base : Nat) (v : Value) (LL : List Spl) : Prop :=
  ∃ es : List Ent, es.length = LL.length ∧ w.ownsRow base 95 2 v LL.length (cellsE es) ∧ ∀ (i : Nat) (e : Ent) (r : Spl), es[i]? = some e → LL[i]? = some r → e.1 = strOf r.1 ∧ ElemI w v.ownBlock e.2 r.2
theorem SplsOwn.nil (w : World) (base : Nat) : SplsOwn w base (.slice none 0 0) [] := ⟨[], rfl, World.ownsRow_nil _ _ _ _, fun i x L h => by simp at h⟩
theorem SplsOwn.ext {w w' : World} {base : Nat} {v : Value} {LL : List Spl} (h : SplsOwn w base v LL) (hx : Ext w w') : SplsOwn w' base v LL := by
  obtain ⟨es, h0, h1, h2⟩ := h
  refine ⟨es, h0, Ext.owns h1 hx, fun i e r hi hL => ?_⟩
  obtain ⟨ht, sa, sc, he, h3, h4⟩ := h2 i e r hi hL
  exact ⟨ht, sa, sc, he, h3.ext hx, fun ad e => ⟨Nat.lt_of_lt_of_le (h4 ad e).1 hx.size, (h4 ad e).2⟩⟩
theorem SplsOwn.at_ {w : World} {base : Nat} {v : Value} {LL : List Spl} (h : SplsOwn w base v LL) : SplsAt w v LL := by
  obtain ⟨es, h0, h1, h2⟩ := h
  have hcells := fun g hg => h1.cells (g := g) hg
  rcases h1.2 with ⟨rfl, hn⟩ | ⟨g, cap, cur, rfl, hb, hg, hnc, hcm, hcs, htake⟩
  · have : LL = [] := List.eq_nil_of_length_eq_zero hn
    subst this; exact SliceAt.nil
  · refine ⟨_, _, rfl, hnc, by simpa [maxLen] using hcm, fun i hi => ⟨g, 0, rfl, ?_⟩⟩
    have hi2 : i < es.length := by omega
    have hv : es[i]? = some es[i] := List.getElem?_eq_getElem hi2
    obtain ⟨ht, sa, sc, e, h3, -⟩ := h2 i es[i] LL[i] hv (List.getElem?_eq_getElem hi)
    obtain ⟨c0, c1⟩ := cellsE_get es i hi2
    have r0 := hcells g rfl _ _ c0
    have r1 := hcells g rfl _ _ c1
    have ea : ∀ j, (⟨g, 0, none⟩ : Addr).add j = ⟨g, 0 + j, none⟩ := fun j => by unfold Addr.add; split <;> simp_all
    rw [ea] at r0 r1
    rw [ht] at r0
    exact ⟨r0, _, r1, h3⟩
/-- one more at the end -/
theorem SplsOwn.push {w wA w' : World} {base : Nat} {v v' x : Value} {s : ByteArray} {LL : List Spl} {r : Spl} {es : List Ent} (h0 : es.length = LL.length) (h1 : w.ownsRow base 95 2 v LL.length (cellsE es))
    (h2 : ∀ (i : Nat) (e : Ent) (r : Spl), es[i]? = some e → LL[i]? = some r → e.1 = strOf r.1 ∧ ElemI w v.ownBlock e.2 r.2) (hx : Ext w wA) (hs : s = strOf r.1)
    (hv : ∃ sa sc, x = .slice sa r.2.length sc ∧ IntsAt wA x r.2 ∧ ∀ ad, sa = some ad → w.heap.size ≤ ad.block ∧ ad.block < wA.heap.size)
    (hown : w'.ownsRow base 95 2 v' (LL.length + 1) (cellsE es ++ [.string s, x])) (hg : wA.grownBy w' v.ownBlock) (hb : v'.ownBlock = v.ownBlock ∨ ∃ k, v'.ownBlock = some k ∧ wA.heap.size ≤ k) :
    SplsOwn w' base v' (LL ++ [r]) := by
  have hlt := fun k hk => h1.lt k hk
  have h2A : ∀ (i : Nat) (e : Ent) (r : Spl), es[i]? = some e → LL[i]? = some r → e.1 = strOf r.1 ∧ ElemI wA v.ownBlock e.2 r.2 := fun i e r hi hL => by
    obtain ⟨ht, sa, sc, he, h3, h4⟩ := h2 i e r hi hL
    exact ⟨ht, sa, sc, he, h3.ext hx, fun ad e => ⟨Nat.lt_of_lt_of_le (h4 ad e).1 hx.size, (h4 ad e).2⟩⟩
  have hsz2 := hg.size
  have keep : ∀ (sa : Option Addr) (n sc : Nat) (l : List Int), IntsAt wA (.slice sa n sc) l → (∀ ad, sa = some ad → ad.block < wA.heap.size ∧ some ad.block ≠ v.ownBlock) → IntsAt w' (.slice sa n sc) l ∧ ∀ ad, sa = some ad → ad.block < w'.heap.size ∧ some ad.block ≠ v'.ownBlock := fun sa n sc l hi hne => by
    refine ⟨ints_grown hi hg fun ad e => (hne ad e).2, fun ad e => ⟨by have := (hne ad e).1; omega, ?_⟩⟩
    rcases hb with hb | ⟨k, hb, hk⟩
    · rw [hb]; exact (hne ad e).2
    · rw [hb]; intro e2; have := (hne ad e).1; have := Option.some.inj e2; omega
  refine ⟨es ++ [(s, x)], by simp [h0], by rw [List.length_append, cellsE_snoc]; exact hown, fun i y M hi hM => ?_⟩
  rcases Nat.lt_or_ge i es.length with h3 | h3
  · rw [List.getElem?_append_left h3] at hi
    rw [List.getElem?_append_left (by omega)] at hM
    obtain ⟨ht, sa, sc, he, h4, h5⟩ := h2A i y M hi hM
    rw [he] at h4 ⊢
    obtain ⟨k1, k2⟩ := keep sa _ sc _ h4 h5
    exact ⟨ht, sa, sc, rfl, k1, k2⟩
  · rw [List.getElem?_append_right h3] at hi
    rw [List.getElem?_append_right (by omega)] at hM
    have hi0 : i - es.length = 0 := by
      rcases Nat.eq_zero_or_pos (i - es.length) with h6 | h6
      · exact h6
      · rw [List.getElem?_eq_none (by simp; omega)] at hi; cases hi
    rw [hi0] at hi
    rw [show i - LL.length = 0 from by omega] at hM
    obtain rfl : (s, x) = y := by simpa using hi
    obtain rfl : r = M := by simpa using hM
    obtain ⟨sa, sc, he, h4, h5⟩ := hv
    subst he
    obtain ⟨k1, k2⟩ := keep sa _ sc _ h4 fun ad e => ⟨(h5 ad e).2, fun e2 => by have := (hlt ad.block e2.symm).2; have := (h5 ad e).1; omega⟩
    exact ⟨hs, sa, sc, rfl, k1, k2⟩
theorem infoReach : (Try.prog.info? 95).map (fun i => (i.zero, i.size, i.bytes)) = some (some (.agg #[.string ByteArray.empty, .slice none 0 0]), 2, 40) := by kernel_rfl
theorem cell_two_new (w : World) (a b : Value) (t : TypeId) : ∀ j u, [a, b][j]? = some u → (w.alloc (.cells #[a, b] t)).cell? ((⟨w.heap.size, 0, none⟩ : Addr).add j) = some u := by
  intro j u hj
  match j, hj with
  | 0, hj => simp at hj; subst hj; simp [go_sem, Addr.add]
  | 1, hj => simp at hj; subst hj; simp [go_sem, Addr.add]
/-- the letter of a byte below 128, as a text -/
theorem strOf_len (l : List Int) : (strOf l).size = l.length := by
  show (strOf l).data.size = _
  simp [strOf]
theorem encode_ascii (n : Int) (h0 : 0 ≤ n) (h1 : n < 128) : Utf8.encode n = strOf [n] := by
  have hv : Utf8.valid n = true := by
    rw [validRune_eq, validRune, decide_eq_true_iff]
    omega
  unfold Utf8.encode
  simp only [hv, if_true]
  rw [if_pos (by omega)]
  rfl
theorem strOf_append (a b : List Int) : strOf a ++ strOf b = strOf (a ++ b) := by
  apply ByteArray.ext
  rw [ByteArray.data_append]
  simp [strOf]
end Go.Proofs.Ytoifmphpeflliaa

namespace Go.Proofs.Ytoifmphpeflliaa
open Go.RowKit
set_option linter.unusedVariables false
namespace Facts.App
variable {P : Program} {ops : Array Oper}

theorem stepG_append {o : Oper} {a : Act} {w : World} {S : Value → World → Prop} (hgd : o.guard = none) (s x : Operand) (t : TypeId)
    (ho : o.op = .call { callee := .builtin .append, args := #[s, x], argTypes := #[t, t] })
    (base : Nat) (e : TypeId) (i : TypeInfo) (z : Value) (size bytes : Nat) (ht : P.underlying t = some (.slice e)) (hi : P.info? e = some i) (hz : i.zero = some z)
    (hsize : i.size = size) (hby : i.bytes = bytes) (hzs : z.cells.size = size) (hsz : 0 < size)
    (v : Value) (n : Nat) (xs : List Value) (hs : a.eval s = v) (hown : w.ownsRow base e size v n xs)
    (ad : Addr) (m c : Nat) (news : List Value) (hx : a.eval x = .slice (some ad) m c) (hl : news.length = m * size) (hnews : ∀ j u, news[j]? = some u → w.cell? (ad.add j) = some u) (h1 : ∀ u ∈ news, u.oneCell' = true)
    (h63 : n + m ≤ maxLen) (hbytes : (n + m) * bytes ≤ 140737488355328) (hbase : base ≤ w.heap.size)
    (h : ∀ v' w', w'.ownsRow base e size v' (n + m) (xs ++ news) → w.grownBy w' v.ownBlock → (v'.ownBlock = v.ownBlock ∨ v'.ownBlock = some w.heap.size) → S v' w') : stepG P ops o a w S := by
  obtain ⟨v', w', hr, h2, h3, h4, h5⟩ := run_append_own_at (P := P) w base t o.type e i z size bytes ht hi hz hsize hby hzs hsz v n xs hown ad m c news hl hnews h1 h63 hbytes hbase
  unfold stepG
  have hw : Region.wanted o (yielded ops a.tmps) = true := by unfold Region.wanted; rw [hgd]
  rw [if_pos hw]
  unfold execOp
  simp only [ho, resolve, invoke, builtin, Sem.run_bind, Sem.run_pure, Result.andThen_ok, List.map_toArray, List.map_cons, List.map_nil, hs, hx, hr]
  exact h v' w' h2 h3 h5
/-- a later world in which one row may have been written -/
def But (own : Option Nat) (w w' : World) : Prop := w.grownBy w' own
theorem But.of_ext {own : Option Nat} {w w' : World} (h : Ext w w') : But own w w' := ⟨Below.os h, Below.tape h, Below.output h, Below.size h, fun k hk _ => Below.block h k hk⟩
theorem two_but (own : Option Nat) : Piv.Two Ext (But own) :=
  ⟨fun _ _ h => But.of_ext h, fun _ _ _ h k => h.trans k, fun _ _ _ h k => World.grownBy.trans h k, fun _ => Ext.refl _, fun w => ext_drew w⟩
end Facts.App
end Go.Proofs.Ytoifmphpeflliaa
