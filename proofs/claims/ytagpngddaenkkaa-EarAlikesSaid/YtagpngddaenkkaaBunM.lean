/-
  WHICH SPELLINGS ARE ODD: of all sets without which the others have a string in common, the first one of the fewest. Plain facts.
  A BOOK WITH ONE SPELLING OF ONE LETTER: it has no error, and its spelling can be as many strings as the letter can give things. Plain facts.
  WHAT Said OF THE STATEMENTS RETURNS: one of the strings that a spelling can be. The plain facts, and the walk.
  WHAT Said OF THE STATEMENTS RETURNS.
  WHAT EarTrue RETURNS: true. The plain facts.
-/
import Derived.Test.YtagpngddaenkkaaBunL
namespace Go.Proofs.Ytagpngddaenkkaa
set_option linter.unusedVariables false

theorem mem_members {s i : Nat} : i ∈ membersM s ↔ s.testBit i = true ∧ i < 5 := by
  simp only [membersM, membersTo, List.mem_filter, List.mem_range]
  exact And.comm
theorem members_sorted (s : Nat) : (membersM s).Pairwise (· < ·) := List.Pairwise.filter _ List.pairwise_lt_range
theorem allOf_bit (b : Book) (i : Nat) : (allOf b).testBit i = decide (i < b.spellings.length) := by
  unfold allOf; rw [Nat.testBit_two_pow_sub_one]
theorem mem_all {b : Book} (h5 : b.spellings.length ≤ 5) {i : Nat} : i ∈ membersM (allOf b) ↔ i < b.spellings.length := by
  rw [mem_members, allOf_bit]; simp; omega
theorem sub_bit (b : Book) (s i : Nat) : (allOf b ^^^ (allOf b &&& s)).testBit i = (decide (i < b.spellings.length) && !s.testBit i) := by
  rw [Nat.testBit_xor, Nat.testBit_and, allOf_bit]
  cases decide (i < b.spellings.length) <;> cases s.testBit i <;> rfl
theorem bit_lt {s n i : Nat} (hs : s < 2 ^ n) (h : s.testBit i = true) : i < n := by
  rcases Nat.lt_or_ge i n with h1 | h1
  · exact h1
  · rw [Nat.testBit_lt_two_pow (Nat.lt_of_lt_of_le hs (Nat.pow_le_pow_right (by decide) h1))] at h; cases h
theorem not_all {b : Book} {s : Nat} (hs : s < 2 ^ b.spellings.length) (h : s ≠ allOf b) : ∃ i, i < b.spellings.length ∧ s.testBit i = false := by
  refine Classical.byContradiction fun hn => h ?_
  apply Nat.eq_of_testBit_eq
  intro i
  rw [allOf_bit]
  cases hi : s.testBit i
  · symm; rw [decide_eq_false_iff_not]
    intro h1
    exact hn ⟨i, h1, hi⟩
  · symm; rw [decide_eq_true_iff]; exact bit_lt hs hi
/-- without a set all others have a string in common, or there are no others -/
theorem oddP_iff {b : Book} (hv : Valid b) {s : Nat} (hs : s < 2 ^ b.spellings.length) : oddP (canM b (membersM (allOf b))) (allOf b) s = true ↔ s = allOf b ∨ ∃ k, ∀ i, i < b.spellings.length → s.testBit i = false → k ∈ stringsOf b i := by
  have hn5 := hv.n
  have hnd := canM_nodup hv (l := membersM (allOf b)) fun n h => (mem_all hn5).1 h
  have hsub : ∀ i, (allOf b ^^^ (allOf b &&& s)).testBit i = true ↔ i < b.spellings.length ∧ s.testBit i = false := fun i => by rw [sub_bit]; simp
  unfold oddP
  rw [Bool.or_eq_true, beq_iff_eq, or_comm]
  by_cases ha : s = allOf b
  · simp [ha]
  · refine or_congr Iff.rfl ?_
    unfold sharedB
    rw [List.any_eq_true]
    constructor
    · rintro ⟨⟨k, v⟩, hm, hb⟩
      refine ⟨k, fun i hi hbit => ?_⟩
      have := (entry_sub hnd hm fun j hj => (mem_all hn5).2 ((hsub j).1 hj).1).1 (by simpa using hb)
      exact this i ((hsub i).2 ⟨hi, hbit⟩)
    · rintro ⟨k, hk⟩
      obtain ⟨i, hi, hbit⟩ := not_all hs ha
      obtain ⟨p, hp, rfl⟩ := List.mem_map.1 ((canM_keys (b := b) (l := membersM (allOf b))).2 ⟨i, (mem_all hn5).2 hi, hk i hi hbit⟩)
      refine ⟨p, hp, ?_⟩
      rw [beq_iff_eq]
      exact (entry_sub (k := p.1) (v := p.2) hnd hp fun j hj => (mem_all hn5).2 ((hsub j).1 hj).1).2 fun j hj => hk j ((hsub j).1 hj).1 ((hsub j).1 hj).2
theorem oddP_all (M : Tally) (a : Nat) : oddP M a a = true := by unfold oddP; simp
theorem allOf_lt_pow (b : Book) : allOf b < 2 ^ b.spellings.length := by
  unfold allOf
  have := Nat.two_pow_pos b.spellings.length
  omega
/-- what Odd names: a set that will do, and none before it will -/
theorem oddL_spec (b : Book) : (∃ s, s < 2 ^ b.spellings.length ∧ oddP (canM b (membersM (allOf b))) (allOf b) s = true ∧ membersM s = oddL b) ∧
    ∀ s, s < 2 ^ b.spellings.length → oddP (canM b (membersM (allOf b))) (allOf b) s = true → ¬ cmpFew (membersM s) (oddL b) < 0 := by
  have h := fewTo_is (oddP (canM b (membersM (allOf b))) (allOf b)) (2 ^ b.spellings.length)
  unfold oddL
  cases hr : fewTo (oddP (canM b (membersM (allOf b))) (allOf b)) (2 ^ b.spellings.length) with
  | none =>
    rw [hr] at h
    have := h (allOf b) (allOf_lt_pow b)
    rw [oddP_all] at this; cases this
  | some f =>
    rw [hr] at h
    exact h
theorem len_le_of_not {l m : List Nat} (h : ¬ cmpFew l m < 0) : m.length ≤ l.length := by
  rcases Nat.lt_or_ge l.length m.length with h1 | h1
  · exfalso; apply h
    have e1 : (ints l).length = l.length := by simp [ints]
    have e2 : (ints m).length = m.length := by simp [ints]
    unfold cmpFew cmpSS
    rw [e1, e2, if_neg (by omega), cmpM_neg]; omega
  · exact h1
theorem all_but : ∀ n : Fin 6, 0 < n.1 → (membersM (2 ^ n.1 - 2)).length + 1 = n.1 ∧ 2 ^ n.1 - 2 < 2 ^ n.1 ∧ ∀ i : Fin 6, i.1 < n.1 → (2 ^ n.1 - 2).testBit i.1 = false → i.1 = 0 := by decide +kernel
theorem oddL_len {b : Book} (hv : Valid b) (h0 : 0 < b.spellings.length) : (oddL b).length < b.spellings.length := by
  have hn5 := hv.n
  obtain ⟨h1, h2, h3⟩ := all_but ⟨b.spellings.length, by omega⟩ h0
  simp only at h1 h2 h3
  obtain ⟨t, ht⟩ := stringsOf_some hv 0 h0
  have hp := (oddP_iff hv h2).2 (.inr ⟨t, fun i hi hb => by
    have := h3 ⟨i, by omega⟩ hi hb
    simp only at this
    rw [this]; exact ht⟩)
  have := len_le_of_not ((oddL_spec b).2 _ h2 hp)
  omega
theorem oddL_fine (b : Book) : (oddL b).Pairwise (· < ·) ∧ ∀ i ∈ oddL b, i < b.spellings.length := by
  obtain ⟨⟨s, hs, -, e⟩, -⟩ := oddL_spec b
  rw [← e]
  exact ⟨members_sorted s, fun i hi => bit_lt hs (mem_members.1 hi).1⟩
theorem rising_of {n : Nat} : ∀ (l : List Nat) (last : Int), (∀ i ∈ l, i < n) → l.Pairwise (· < ·) → (∀ i ∈ l, last < (i : Int)) → risingM n last (ints l) = true
  | [], _, _, _, _ => rfl
  | x :: l, last, h1, h2, h3 => by
    have e : ints (x :: l) = (x : Int) :: ints l := rfl
    rw [e, risingM]
    have hx := h1 x (by simp)
    have hl := h3 x (by simp)
    rw [List.pairwise_cons] at h2
    rw [rising_of l x (fun i hi => h1 i (by simp [hi])) h2.2 fun i hi => by have := h2.1 i hi; omega]
    simp; omega
theorem sorted_ext : ∀ {l m : List Nat}, l.Pairwise (· < ·) → m.Pairwise (· < ·) → (∀ x, x ∈ l ↔ x ∈ m) → l = m
  | [], [], _, _, _ => rfl
  | [], y :: m, _, _, h => by have := (h y).2 (by simp); simp at this
  | x :: l, [], _, _, h => by have := (h x).1 (by simp); simp at this
  | x :: l, y :: m, hl, hm, h => by
    rw [List.pairwise_cons] at hl hm
    have hxy : x = y := by
      have h1 := (h x).1 (by simp)
      have h2 := (h y).2 (by simp)
      rcases List.mem_cons.1 h1 with e | h1
      · exact e
      · rcases List.mem_cons.1 h2 with e | h2
        · exact e.symm
        · have := hm.1 x h1; have := hl.1 y h2; omega
    subst hxy
    congr 1
    refine sorted_ext hl.2 hm.2 fun z => ?_
    constructor
    · intro hz
      have h1 := (h z).1 (by simp [hz])
      rcases List.mem_cons.1 h1 with e | h1
      · subst e; have := hl.1 z hz; omega
      · exact h1
    · intro hz
      have h1 := (h z).2 (by simp [hz])
      rcases List.mem_cons.1 h1 with e | h1
      · subst e; have := hm.1 z hz; omega
      · exact h1
theorem members_bits {l : List Nat} {n : Nat} (hn : n ≤ 5) (hl : ∀ i ∈ l, i < n) (hs : l.Pairwise (· < ·)) : membersM (bitsM l) = l ∧ bitsM l < 2 ^ n := by
  constructor
  · refine sorted_ext (members_sorted _) hs fun i => ?_
    rw [mem_members, bitsM_bit]
    exact ⟨fun h => h.1, fun h => ⟨h, by have := hl i h; omega⟩⟩
  · refine Nat.lt_pow_two_of_testBit _ fun i hi => ?_
    cases h : (bitsM l).testBit i
    · rfl
    · have := hl i ((bitsM_bit l i).1 h); omega
/-- the spellings that are none of some -/
def othersN (l : List Nat) (n : Nat) : List Nat := (List.range n).filter fun i => !decide (i ∈ l)
theorem othersTo_ints (l : List Nat) (n : Nat) : othersTo (ints l) n = ints (othersN l n) := by
  unfold othersTo othersN
  congr 1
  apply List.filter_congr
  intro i _
  congr 1
  rw [decide_eq_decide]
  simp only [ints, List.mem_map]
  exact ⟨fun ⟨a, h1, h2⟩ => by
    have e : a = i := by omega
    rw [← e]; exact h1, fun h => ⟨i, h, rfl⟩⟩
theorem mem_others {l : List Nat} {n i : Nat} : i ∈ othersN l n ↔ i < n ∧ i ∉ l := by simp [othersN]
theorem others_sorted (l : List Nat) (n : Nat) : (othersN l n).Pairwise (· < ·) := List.Pairwise.filter _ List.pairwise_lt_range
theorem all_others {b : Book} {l : List Nat} {k : List Int} : All b (othersN l b.spellings.length) k ↔ ∀ i, i < b.spellings.length → i ∉ l → k ∈ stringsOf b i := by
  unfold All
  simp only [mem_others]
  exact ⟨fun h i h1 h2 => h i ⟨h1, h2⟩, fun h i ⟨h1, h2⟩ => h i h1 h2⟩
/-- without the spellings of Odd all others have a string in common -/
theorem odd_common {b : Book} (hv : Valid b) (h0 : 0 < b.spellings.length) : othersN (oddL b) b.spellings.length ≠ [] ∧ ∃ k, All b (othersN (oddL b) b.spellings.length) k := by
  have hn5 := hv.n
  have hlen := oddL_len hv h0
  obtain ⟨⟨s, hs, hp, e⟩, -⟩ := oddL_spec b
  have hne : s ≠ allOf b := by
    rintro rfl
    have : (membersM (allOf b)).length = b.spellings.length := by
      have e1 : membersM (allOf b) = List.range b.spellings.length := sorted_ext (members_sorted _) List.pairwise_lt_range fun i => by rw [mem_all hn5]; simp
      rw [e1]; simp
    rw [e] at this; omega
  have hb : ∀ i, i < b.spellings.length → (i ∉ oddL b ↔ s.testBit i = false) := fun i hi => by
    rw [← e, mem_members]
    have : i < 5 := by omega
    simp [this]
  rcases (oddP_iff hv hs).1 hp with h | ⟨k, hk⟩
  · exact absurd h hne
  · obtain ⟨i, hi, hbit⟩ := not_all hs hne
    refine ⟨fun h => ?_, k, all_others.2 fun j hj hn => hk j hj ((hb j hj).1 hn)⟩
    have : i ∈ othersN (oddL b) b.spellings.length := mem_others.2 ⟨hi, (hb i hi).2 hbit⟩
    rw [h] at this; simp at this
/-- without any that come before they have not -/
theorem odd_least {b : Book} (hv : Valid b) {l : List Nat} (hl : ∀ i ∈ l, i < b.spellings.length) (hs : l.Pairwise (· < ·)) (h : ∃ k, All b (othersN l b.spellings.length) k) : fewerM (ints l) (ints (oddL b)) = false := by
  obtain ⟨e, hlt⟩ := members_bits hv.n hl hs
  obtain ⟨k, hk⟩ := h
  have hp := (oddP_iff hv hlt).2 (.inr ⟨k, fun i hi hbit => all_others.1 hk i hi fun hm => by
    rw [(bitsM_bit l i).2 hm] at hbit; cases hbit⟩)
  have := (oddL_spec b).2 _ hlt hp
  rw [e] at this
  cases hf : fewerM (ints l) (ints (oddL b))
  · rfl
  · exact absurd ((fewerM_cmp _ _).1 hf) this
end Go.Proofs.Ytagpngddaenkkaa

namespace Go.Proofs.Ytagpngddaenkkaa
set_option linter.unusedVariables false

/-- the byte at a place, as a text -/
def oneText (s : ByteArray) (k : Nat) : ByteArray := ⟨#[s.data.toList.getD k 0]⟩
def oneBook (b : Book) (a : Int) (t : ByteArray) : Book := ⟨b.sounds, b.alphabets, [⟨a, t⟩]⟩
theorem errM_parts {b : Book} (h : errM b = 0) : inM b.sounds 1 4 = true ∧ inM b.alphabets.length 1 3 = true ∧ (alphErr b).2 = 0 := by
  unfold errM checkM at h
  split at h
  · cases h
  rename_i h1
  split at h
  · cases h
  rename_i h2
  split at h
  · rename_i h3; exact absurd h h3
  rename_i h3
  exact ⟨by simpa using h1, by simpa using h2, by simpa using h3⟩
theorem errM_make {b : Book} {al : List Alphabet} {sp : List Spelling} (h1 : inM b.sounds 1 4 = true) (h2 : inM b.alphabets.length 1 3 = true) (h3 : (alphErr b).2 = 0) (h4 : b.spellings.length ≤ 5) (h5 : (spelErr b).2 = 0) : errM b = 0 := by
  unfold errM checkM
  rw [if_neg (by rw [h1]; decide), if_neg (by rw [h2]; decide), if_neg (by rw [h3]; decide), if_neg (by omega), if_neg (by rw [h5]; decide)]
theorem byteAt_one (s : ByteArray) (k : Nat) : byteAt (oneText s k) 0 = byteAt s k := rfl
theorem one_err {b : Book} (h : errM b = 0) {n : Nat} (hn : n < b.spellings.length) {k : Nat} (hk : k < (b.spellings[n]).text.size) : errM (oneBook b (b.spellings[n]).alphabet (oneText (b.spellings[n]).text k)) = 0 := by
  obtain ⟨h1, h2, h3⟩ := errM_parts h
  have hv := valid_of h
  have hs := hv.sp n hn
  refine errM_make (al := []) (sp := []) h1 h2 h3 (by show 1 ≤ 5; omega) ?_
  have e : spellingErrM b.alphabets ⟨(b.spellings[n]).alphabet, oneText (b.spellings[n]).text k⟩ = 0 := by
    unfold spellingErrM
    rw [if_neg, if_neg, if_neg]
    · rw [Bool.not_eq_false]
      show textOk (lettersOf b.alphabets (b.spellings[n]).alphabet) (oneText (b.spellings[n]).text k) = true
      unfold textOk
      rw [List.all_eq_true]
      intro j hj
      have hj0 : j = 0 := by have := List.mem_range.1 hj; have e1 : (oneText (b.spellings[n]).text k).size = 1 := rfl; omega
      subst hj0
      have := hs.k k hk
      unfold knownB at this ⊢
      rw [byteAt_one]; exact this
    · rw [Bool.not_eq_false]; rfl
    · rw [Bool.not_eq_false]
      have := hs.a
      simp [inM]; omega
  show (firstErr _ [_]).2 = 0
  unfold firstErr firstErrFrom
  rw [if_pos (by exact e)]; rfl
theorem one_letters {b : Book} {a : Int} {s : ByteArray} {k : Nat} : lettersAt (oneBook b a (oneText s k)) 0 = [letterOf (lettersOf b.alphabets a) s k] := rfl
theorem one_count {b : Book} {a : Int} {s : ByteArray} {k : Nat} : (canM (oneBook b a (oneText s k)) [0]).length = waysM (b.sounds.toNat + 1) (letterOf (lettersOf b.alphabets a) s k) := by
  rw [canM_one]
  have e : stringsOf (oneBook b a (oneText s k)) 0 = yields (b.sounds.toNat + 1) [letterOf (lettersOf b.alphabets a) s k] [] := rfl
  rw [e, foldl_mark_new _ _ _ (yields_one_nodup _ _) (by simp), yields_one_len]
  simp
/-- in how many ways the first letters can give things -/
def prodTo (K : Nat) (ls : List Letter) (k : Nat) : Nat := ((ls.take k).map (waysM K)).foldr (· * ·) 1
theorem foldr_mul_snoc (l : List Nat) (x : Nat) : (l ++ [x]).foldr (· * ·) 1 = l.foldr (· * ·) 1 * x := by
  induction l with
  | nil => simp
  | cons y l ih => rw [List.cons_append, List.foldr_cons, List.foldr_cons, ih, Nat.mul_assoc]
theorem prodTo_succ (K : Nat) (ls : List Letter) (k : Nat) (hk : k < ls.length) : prodTo K ls (k + 1) = prodTo K ls k * waysM K ls[k] := by
  unfold prodTo
  rw [List.take_succ_eq_append_getElem hk, List.map_append, List.map_cons, List.map_nil, foldr_mul_snoc]
theorem prodTo_le (K : Nat) (ls : List Letter) : ∀ k, prodTo K ls k ≤ K ^ k ∨ ls.length < k
  | 0 => .inl (by simp [prodTo])
  | k + 1 => by
    by_cases hk : k < ls.length
    · left
      rw [prodTo_succ K ls k hk, Nat.pow_succ]
      rcases prodTo_le K ls k with h | h
      · exact Nat.mul_le_mul h (waysM_le K _)
      · omega
    · right; omega
theorem canM_prod (b : Book) (n : Nat) : (canM b [n]).length ≤ prodTo (b.sounds.toNat + 1) (lettersAt b n) (lettersAt b n).length := by
  have h := canM_le b n
  unfold stringsOf at h
  rw [yields_len] at h
  unfold prodTo
  rw [List.take_length]; exact h
end Go.Proofs.Ytagpngddaenkkaa

namespace Go.Proofs.Ytagpngddaenkkaa
open Go.RowKit
set_option linter.unusedVariables false

theorem bitM_test : ∀ (n : Nat) (c : Int), 0 ≤ c → bitM n c = c.toNat.testBit n
  | 0, c, h => by
    rw [bitM, Int.tmod_eq_emod_of_nonneg h, Nat.testBit_zero]
    have e : (c % 2 == 1) = decide (c.toNat % 2 = 1) := by
      rw [Bool.eq_iff_iff]; simp; omega
    rw [e]
  | n + 1, c, h => by
    rw [bitM, Int.tdiv_eq_ediv_of_nonneg h, bitM_test n (c / 2) (by omega), Nat.testBit_succ]
    congr 1
    omega
/-- what a letter can give: its sounds, then silence -/
def canY (S : Nat) (y : Letter) : List Int := ints (pickTo y.sounds S) ++ if y.silent = true then [-1] else []
/-- what the letters with a byte can give -/
def canTo (S : Nat) (ls : List Letter) (c : Int) (k : Nat) : List Int := (ls.take k).flatMap fun y => if (y.c == c) = true then canY S y else []
theorem canTo_no (S : Nat) (ls : List Letter) (c : Int) (k : Nat) (hk : k < ls.length) (h : (ls[k].c == c) = false) : canTo S ls c (k + 1) = canTo S ls c k := by
  unfold canTo; rw [List.take_succ_eq_append_getElem hk, List.flatMap_append, List.flatMap_cons, List.flatMap_nil, if_neg (by rw [h]; decide)]; simp
theorem canTo_yes (S : Nat) (ls : List Letter) (c : Int) (k : Nat) (hk : k < ls.length) (h : (ls[k].c == c) = true) : canTo S ls c (k + 1) = canTo S ls c k ++ canY S ls[k] := by
  unfold canTo; rw [List.take_succ_eq_append_getElem hk, List.flatMap_append, List.flatMap_cons, List.flatMap_nil, if_pos h]; simp
theorem canY_len (S : Nat) (y : Letter) : (canY S y).length ≤ S + 1 := by
  unfold canY
  have := pickTo_len y.sounds S
  rw [List.length_append]
  have e : (ints (pickTo y.sounds S)).length = (pickTo y.sounds S).length := by simp [ints]
  split <;> simp [e] <;> omega
theorem canTo_len (S : Nat) (ls : List Letter) (c : Int) : ∀ k, (canTo S ls c k).length ≤ k * (S + 1)
  | 0 => by simp [canTo]
  | k + 1 => by
    have ih := canTo_len S ls c k
    by_cases hk : k < ls.length
    · cases h : ls[k].c == c
      · rw [canTo_no S ls c k hk h, Nat.succ_mul]; omega
      · rw [canTo_yes S ls c k hk h, List.length_append, Nat.succ_mul]
        have := canY_len S ls[k]; omega
    · have e : canTo S ls c (k + 1) = canTo S ls c k := by unfold canTo; rw [List.take_of_length_le (by omega), List.take_of_length_le (by omega)]
      rw [e, Nat.succ_mul]; omega
theorem mem_canY {S : Nat} {y : Letter} (hy : 0 ≤ y.sounds) {n : Int} : n ∈ canY S y → n ∈ soundsTo (S + 1) ∧ givesM y n = true := by
  unfold canY
  intro h
  rcases List.mem_append.1 h with h | h
  · simp only [ints, List.mem_map] at h
    obtain ⟨m, hm, rfl⟩ := h
    have hlt := pickTo_lt hm
    simp only [pickTo, List.mem_filter, List.mem_range] at hm
    refine ⟨mem_soundsTo.2 (by omega), ?_⟩
    rw [givesM, if_neg (by omega)]
    have := hm.2
    rw [bitM_test _ _ hy] at this
    simpa using this
  · split at h
    · rename_i hs
      obtain rfl : n = -1 := by simpa using h
      exact ⟨mem_soundsTo.2 (by omega), by rw [givesM, if_pos rfl]; exact hs⟩
    · simp at h
theorem canY_some {S : Nat} {y : Letter} (hy : 0 ≤ y.sounds) (h : ∃ n ∈ soundsTo (S + 1), givesM y n = true) : canY S y ≠ [] := by
  obtain ⟨n, hn, hg⟩ := h
  have hn := mem_soundsTo.1 hn
  unfold canY
  by_cases h1 : n = -1
  · subst h1
    rw [givesM, if_pos rfl] at hg
    simp [hg]
  · rw [givesM, if_neg h1] at hg
    have hm : n.toNat ∈ pickTo y.sounds S := by
      simp only [pickTo, List.mem_filter, List.mem_range]
      exact ⟨by omega, by rw [bitM_test _ _ hy]; exact hg⟩
    intro e
    have h2 := (List.append_eq_nil_iff.1 e).1
    simp only [ints, List.map_eq_nil_iff] at h2
    rw [h2] at hm; simp at hm
/-- what is said at a place, by turns -/
def pickM (S : Nat) (ls : List Letter) (s : ByteArray) (x : List Int) (j : Nat) : Int :=
  (canTo S ls (byteAt s j) ls.length).getD ((turnM x j).toNat % (canTo S ls (byteAt s j) ls.length).length) 0
def saidTo (S : Nat) (ls : List Letter) (s : ByteArray) (x : List Int) : Nat → List Int
  | 0 => []
  | j + 1 => withS (saidTo S ls s x j) (pickM S ls s x j)
theorem saidTo_len (S : Nat) (ls : List Letter) (s : ByteArray) (x : List Int) : ∀ j, (saidTo S ls s x j).length ≤ j
  | 0 => Nat.le_refl _
  | j + 1 => by
    have ih := saidTo_len S ls s x j
    rw [saidTo]; unfold withS; split
    · omega
    · rw [List.length_append]; simp; omega
/-- of letters that are told apart by their bytes, what those with a byte can give is what the first one can -/
theorem canTo_letter (S : Nat) (c : Int) : ∀ (ls : List Letter), ls.Pairwise (fun a b => a.c ≠ b.c) → (∃ y ∈ ls, y.c = c) → canTo S ls c ls.length = canY S ((ls.find? fun y => y.c == c).getD ⟨0, 0, true⟩)
  | [], _, h => by obtain ⟨y, hy, -⟩ := h; simp at hy
  | y :: ls, hp, h => by
    rw [List.pairwise_cons] at hp
    unfold canTo
    rw [List.take_length, List.flatMap_cons]
    by_cases hc : y.c = c
    · have hb : (y.c == c) = true := by simpa using hc
      rw [if_pos hb]
      have e : (ls.flatMap fun y => if (y.c == c) = true then canY S y else []) = [] := by
        rw [List.flatMap_eq_nil_iff]
        intro z hz
        rw [if_neg]
        have := hp.1 z hz
        simp only [beq_iff_eq]
        intro e; exact this (by rw [e, hc])
      rw [e, List.append_nil, List.find?_cons]; simp only [hb]; rfl
    · have hb : ¬ ((y.c == c) = true) := by simpa using hc
      have hb' : (y.c == c) = false := by simpa using hc
      rw [if_neg hb, List.nil_append, List.find?_cons]
      simp only [hb']
      have ih := canTo_letter S c ls hp.2 (by
        obtain ⟨z, hz, e⟩ := h
        rcases List.mem_cons.1 hz with rfl | hz
        · exact absurd e hc
        · exact ⟨z, hz, e⟩)
      unfold canTo at ih
      rw [List.take_length] at ih
      exact ih
/-- WHAT IS SAID CAN BE READ -/
theorem said_can {S : Nat} {ls : List Letter} {s : ByteArray} {x : List Int} (hp : ls.Pairwise (fun a b => a.c ≠ b.c)) (hk : ∀ j, j < s.size → knownB ls s j = true) (hf : ∀ y ∈ ls, 0 ≤ y.sounds) (hg : ∀ y ∈ ls, ∃ n ∈ soundsTo (S + 1), givesM y n = true) :
    Can (S + 1) (lettersM ls s) [] (saidTo S ls s x s.size) := by
  have hone : ∀ j, j < s.size → pickM S ls s x j ∈ soundsTo (S + 1) ∧ givesM (letterOf ls s j) (pickM S ls s x j) = true := by
    intro j hj
    have hkj := hk j hj
    unfold knownB at hkj
    rw [List.any_eq_true] at hkj
    obtain ⟨y, hy, hyc⟩ := hkj
    have e := canTo_letter S (byteAt s j) ls hp ⟨y, hy, by simpa using hyc⟩
    have hin : letterOf ls s j ∈ ls := by
      unfold letterOf
      cases hfd : ls.find? fun y => y.c == byteAt s j with
      | none => rw [List.find?_eq_none] at hfd; exact absurd hyc (by simpa using hfd y hy)
      | some z => exact List.mem_of_find?_eq_some hfd
    have e' : canTo S ls (byteAt s j) ls.length = canY S (letterOf ls s j) := e
    have hne := canY_some (hf _ hin) (hg _ hin)
    unfold pickM
    rw [e']
    have hpos : 0 < (canY S (letterOf ls s j)).length := List.length_pos_iff.2 hne
    have hlt := Nat.mod_lt (turnM x j).toNat hpos
    rw [List.getD_eq_getElem?_getD, List.getElem?_eq_getElem hlt]
    exact mem_canY (hf _ hin) (List.getElem_mem hlt)
  have key : ∀ d j, j + d = s.size → Can (S + 1) ((lettersM ls s).drop j) (saidTo S ls s x j) (saidTo S ls s x s.size) := by
    intro d
    induction d with
    | zero =>
      intro j hj
      obtain rfl : j = s.size := by omega
      rw [List.drop_eq_nil_of_le (by rw [lettersM, lettersTo_len]; omega)]
      exact .nil _
    | succ d ih =>
      intro j hj
      have hjl : j < (lettersM ls s).length := by rw [lettersM, lettersTo_len]; omega
      rw [List.drop_eq_getElem_cons hjl]
      have e : (lettersM ls s)[j] = letterOf ls s j := by simp [lettersM, lettersTo]
      rw [e]
      obtain ⟨h1, h2⟩ := hone j (by omega)
      exact .cons _ _ _ _ _ h1 h2 (ih (j + 1) (by omega))
  have := key s.size 0 (by omega)
  simpa [saidTo] using this
end Go.Proofs.Ytagpngddaenkkaa

namespace Go.Proofs.Ytagpngddaenkkaa
open Go.RowKit
set_option linter.unusedVariables false

theorem row_ints {w : World} {B : Nat} {v : Value} {l : List Int} {m : Nat} (h : w.ownsRow B 3 1 v m (l.map (Value.int .i64))) (hm : m = l.length) : w.ownsRow B 3 1 v l.length (l.map (Value.int .i64)) := by subst hm; exact h
theorem canY_step {S k : Nat} {y : Letter} : ints (pickTo y.sounds k) ++ [(k : Int)] = ints (pickTo y.sounds k ++ [k]) := by simp [ints]
theorem saidTo_I64 {S : Nat} {ls : List Letter} {s : ByteArray} {x : List Int} (hf : ∀ y ∈ ls, 0 ≤ y.sounds ∧ y.sounds ≤ 15) (hS : S ≤ 4) : ∀ j, ∀ n ∈ saidTo S ls s x j, I64 n
  | 0, n, hn => by simp [saidTo] at hn
  | j + 1, n, hn => by
    have ih := saidTo_I64 (s := s) (x := x) hf hS j
    rw [saidTo, withS] at hn
    split at hn
    · exact ih n hn
    · rcases List.mem_append.1 hn with hn | hn
      · exact ih n hn
      · obtain rfl : n = pickM S ls s x j := by simpa using hn
        unfold pickM
        rw [List.getD_eq_getElem?_getD]
        cases hg : (canTo S ls (byteAt s j) ls.length)[(turnM x j).toNat % (canTo S ls (byteAt s j) ls.length).length]? with
        | none => unfold I64; simp
        | some z =>
          have hz := List.mem_of_getElem? hg
          simp only [canTo, List.mem_flatMap] at hz
          obtain ⟨y, hy, hz⟩ := hz
          split at hz
          · have := (mem_canY (hf y (List.mem_of_mem_take hy)).1 hz).1
            have := mem_soundsTo.1 this
            unfold I64; simp; omega
          · simp at hz
set_option maxRecDepth 100000 in
set_option maxHeartbeats 4000000 in
theorem said_any (bv xv : Value) (b : Book) (sp : Spelling) (x : List Int) (ls : List Letter) (hS : 1 ≤ b.sounds ∧ b.sounds ≤ 4) (ha : 0 ≤ sp.alphabet ∧ sp.alphabet < b.alphabets.length) (hls : ls = lettersOf b.alphabets sp.alphabet) (hl6 : ls.length ≤ 6) (hts : sp.text.size ≤ 5)
    (hne : ∀ j, j < sp.text.size → canTo b.sounds.toNat ls (byteAt sp.text j) ls.length ≠ []) (hfs : ∀ y ∈ ls, 0 ≤ y.sounds ∧ y.sounds ≤ 15) (w : World) (hb : BookAt w bv b) (hx : BytesAt w xv x) :
    Calls Try.prog 39 #[bv, .agg #[.int .i64 sp.alphabet, .string sp.text], xv] w fun e w' => ∃ u, e = .returned u ∧ IntsAt w' u (saidTo b.sounds.toNat ls sp.text x sp.text.size) ∧ Ext w w' := by
  have hb0 := hb
  obtain ⟨ba, bc, bs, bd, rfl, -, -, -, hsl, hsc, -, hal, -⟩ := hb.open
  obtain ⟨i0, hi, hz0, hz1, hz2⟩ := info_parts infoInt
  obtain ⟨xa, xc, rfl, -⟩ := hx.shape
  obtain ⟨_, _, hea, -, -, hh⟩ := hal
  obtain ⟨al, alo, rfl, ac0, -, lv, ac1, hlv⟩ := hh sp.alphabet.toNat (by omega)
  have hea1 := (Value.slice.inj hea).1
  subst hea1
  have hle : (b.alphabets[sp.alphabet.toNat]'(by omega)).letters = ls := by rw [hls]; unfold lettersOf; rw [List.getElem?_eq_getElem (by omega)]
  rw [hle] at hlv
  clear hea hh hle hls ac0
  obtain ⟨S, hSS⟩ : ∃ S : Nat, S = b.sounds.toNat := ⟨_, rfl⟩
  have hS1 : b.sounds ≤ (S : Int) := by omega
  have hS2 : (S : Int) ≤ b.sounds := by omega
  rw [← hSS] at hne ⊢
  clear hSS
  have ha1 : 0 ≤ sp.alphabet := ha.1
  have ha2 : sp.alphabet < (b.alphabets.length : Int) := ha.2
  obtain ⟨la, lc, rfl, hlc1, hlc2⟩ := hlv.shape
  have Hne := Lib.hid hne
  have Hfs := Lib.hid hfs
  clear hne hfs ha
  go_enter Try.func39, Try.ntmps39
  go_wp2
  obtain ⟨W, hW⟩ : ∃ W, W = (((w).alloc (.cells #[.int .i64 b.sounds, .slice (some ⟨al, alo, none⟩) b.alphabets.length bc, .slice bs b.spellings.length bd] 25)).alloc (.cells #[.int .i64 sp.alphabet, .string sp.text] 55)) := ⟨_, rfl⟩
  have b0 : W.cell? ⟨w.heap.size, 0, none⟩ = some (.int .i64 b.sounds) := by rw [hW]; simp [go_sem]
  have b1 : W.cell? ⟨w.heap.size, 1, none⟩ = some (.slice (some ⟨al, alo, none⟩) b.alphabets.length bc) := by rw [hW]; simp [go_sem]
  have s0 : W.cell? ⟨w.heap.size + 1, 0, none⟩ = some (.int .i64 sp.alphabet) := by rw [hW]; simp [go_sem]
  have s1 : W.cell? ⟨w.heap.size + 1, 1, none⟩ = some (.string sp.text) := by rw [hW]; simp [go_sem]
  have hszW : W.heap.size = w.heap.size + 2 := by rw [hW]; simp
  have xW : Ext w W := by rw [hW]; exact (ext_alloc _ _).alloc _
  rw [← hW]
  clear hW
  replace ac1 := xW.cell ac1
  replace hlv := hlv.ext xW
  replace hx := hx.ext xW
  have HszW := Lib.hid hszW
  have hszW1 : w.heap.size + 2 ≤ W.heap.size := by omega
  clear hszW
  go_loopw [7, 8] (fun v i wr => ∃ j : Nat, j ≤ sp.text.size ∧ i = .int .i64 j ∧ wr.ownsRow W.heap.size 3 1 v (saidTo S ls sp.text x j).length ((saidTo S ls sp.text x j).map (Value.int .i64)) ∧ Ext W wr) (fun _ i _ => sp.text.size - (intOf i).toNat)
  case atStart => exact ⟨0, Nat.zero_le _, rfl, World.ownsRow_nil _ _ _ _, Ext.refl _⟩
  case round =>
    obtain ⟨j, hj, rfl, hown, hxr⟩ := hrel
    obtain ⟨R, hR⟩ : ∃ R : World, R = wr := ⟨_, rfl⟩
    subst hR
    have hszr := hxr.size
    have hb0r := hxr.cell b0
    have hb1r := hxr.cell b1
    have hs0r := hxr.cell s0
    have hs1r := hxr.cell s1
    have hacr := hxr.cell ac1
    have z1 := cell_lt hb0r
    have z2 := cell_lt hs0r
    have z3 := cell_lt hacr
    by_cases hlt : j < sp.text.size
    · have k1 : (j : Int) < (sp.text.size : Int) := by omega
      have hbe := byteAt_eq sp.text j hlt
      have hnej := Hne.out j hlt
      have hsl := saidTo_len S ls sp.text x j
      have hst : saidTo S ls sp.text x (j + 1) = withS (saidTo S ls sp.text x j) (pickM S ls sp.text x j) := rfl
      have hpm : pickM S ls sp.text x j = (canTo S ls (byteAt sp.text j) ls.length).getD ((turnM x j).toNat % (canTo S ls (byteAt sp.text j) ls.length).length) 0 := rfl
      have Hst := Lib.hid hst
      have Hpm := Lib.hid hpm
      have Hnej := Lib.hid hnej
      have Hbe := Lib.hid hbe
      clear hst hpm hnej hbe
      generalize byteAt sp.text j = c at *
      generalize saidTo S ls sp.text x j = out at *
      go_wp2
      go_loopw [9, 11] (fun v i w2 => ∃ k : Nat, k ≤ ls.length ∧ i = .int .i64 k ∧ w2.ownsRow R.heap.size 3 1 v (canTo S ls c k).length ((canTo S ls c k).map (Value.int .i64)) ∧ Ext R w2) (fun _ i _ => ls.length - (intOf i).toNat)
      case atStart => exact ⟨0, Nat.zero_le _, rfl, World.ownsRow_nil _ _ _ _, Ext.refl _⟩
      case round =>
        obtain ⟨k, hk, rfl, hown2, hx2⟩ := hrel
        have hsz2 := hx2.size
        replace hb0r := hx2.cell hb0r
        replace hb1r := hx2.cell hb1r
        replace hs0r := hx2.cell hs0r
        replace hs1r := hx2.cell hs1r
        replace z1 := cell_lt hb0r
        replace z2 := cell_lt hs0r
        by_cases hkl : k < ls.length
        · have k2 : (k : Int) < (ls.length : Int) := by omega
          obtain ⟨_, _, hea, -, -, hh⟩ := (hlv.ext hxr).ext hx2
          obtain ⟨lb, lo, rfl, q0, q1, q2, hu8, hi64⟩ := hh k hkl
          have hqb : lb < R.heap.size := by
            obtain ⟨_, _, hea', -, -, hh'⟩ := hlv.ext hxr
            obtain ⟨lb', lo', e', p0, -⟩ := hh' k hkl
            have h1 := (Value.slice.inj hea').1
            have h2 := (Value.slice.inj hea).1
            rw [h2, e'] at h1
            simp only [Option.some.injEq, Addr.mk.injEq] at h1
            have h4 : lb' < R.heap.size := cell_lt p0
            have h3 := h1.1
            omega
          have hea1 := (Value.slice.inj hea).1
          subst hea1
          have hy := Hfs.out _ (List.getElem_mem hkl)
          have hno := canTo_no S ls c k hkl
          have hyes := canTo_yes S ls c k hkl
          have hcl := canTo_len S ls c k
          have hks : k * (S + 1) ≤ 6 * 5 := Nat.mul_le_mul (by omega) (by omega)
          generalize ls[k] = y at *
          have Hno := Lib.hid hno
          have Hyes := Lib.hid hyes
          clear hea hh hno hyes
          generalize canTo S ls c k = can at *
          have hbr := Hbe.out.symm
          go_wp2_with fail
          apply Facts.wp_region [.val _, .val _, .val _, .val _, .val _, .val _, .val _, .val _, .val _, .val _] (by kernel_rfl) (by kernel_rfl) trivial ?main
          case main =>
            iterate 10 (refine ⟨fun w1 hx hh => ?_, ?_⟩; focus (clear hh; have e0 := hx.cell q0; have e1 := hx.cell hs1r; go_simp; first | exact ⟨Ext.refl _, rfl⟩ | exact Ext.refl _))
            intro w3 hx3 hh
            clear hh
            have hx4 := hx2.trans hx3
            replace hown2 := Ext.owns hown2 hx3
            replace hb0r := hx3.cell hb0r
            replace hb1r := hx3.cell hb1r
            replace hs0r := hx3.cell hs0r
            replace hs1r := hx3.cell hs1r
            replace q0 := hx3.cell q0
            replace q1 := hx3.cell q1
            replace q2 := hx3.cell q2
            replace z1 := cell_lt hb0r
            replace z2 := cell_lt hs0r
            have hsz4 := hx4.size
            clear hx3 hsz2 hx2
            cases hyc : (y.c == c)
            · have hne1 : (y.c != c) = true := by simpa using hyc
              have Hst2 := Lib.hid (Hno.out hyc)
              clear hyc
              go_simp
              go_wp2
              go_roundw
              case rel => exact ⟨k + 1, by omega, by go_num, by rw [Hst2.out]; exact hown2, hx4⟩
              case measure => simp [intOf]; omega
            · have hne1 : (y.c != c) = false := by simpa using hyc
              have Hst2 := Lib.hid (Hyes.out hyc)
              clear hyc Hno Hyes
              go_simp
              go_wp2
              go_loopw [9, 12] (fun v i w5 => ∃ n : Nat, n ≤ S ∧ i = .int .i64 n ∧ w5.ownsRow R.heap.size 3 1 v (can ++ ints (pickTo y.sounds n)).length ((can ++ ints (pickTo y.sounds n)).map (Value.int .i64)) ∧ Ext R w5 ∧ w5.cell? ⟨w.heap.size, 0, none⟩ = some (.int .i64 b.sounds) ∧ w5.cell? ⟨lb, lo + k * 3 + 1, none⟩ = some (.int .i64 y.sounds) ∧ w5.cell? ⟨lb, lo + k * 3 + 2, none⟩ = some (.bool y.silent)) (fun _ i _ => S - (intOf i).toNat)
              case atStart => exact ⟨0, Nat.zero_le _, rfl, by simpa [pickTo, ints] using hown2, hx4, hb0r, q1, q2⟩
              case round =>
                obtain ⟨n, hn, rfl, hown5, hx5, r0, r1, r2⟩ := hrel
                have hsz5 := hx5.size
                have y1 := cell_lt r0
                have y2 := cell_lt r1
                have hpl := pickTo_len y.sounds n
                have hcn : (can ++ ints (pickTo y.sounds n)).length ≤ 100 := by
                  rw [List.length_append]
                  have e : (ints (pickTo y.sounds n)).length = (pickTo y.sounds n).length := by simp [ints]
                  omega
                by_cases hnS : n < S
                · have k3 : (n : Int) < b.sounds := by omega
                  go_wp2_with fail
                  refine (bit_any y.sounds n (by unfold I64; omega) (by omega) _).mono ?_
                  rintro e w6 ⟨rfl, rfl⟩
                  cases hm : bitM n y.sounds
                  · have Hst3 := Lib.hid (pickTo_no y.sounds n hm)
                    clear hm
                    go_wp2
                    go_roundw
                    case rel => exact ⟨n + 1, by omega, by go_num, by rw [Hst3.out]; exact hown5, hx5, r0, r1, r2⟩
                    case measure => simp [intOf]; omega
                  · have Hst3 := Lib.hid (pickTo_yes y.sounds n hm)
                    clear hm
                    generalize hcl2 : can ++ ints (pickTo y.sounds n) = cl at *
                    have Hcl2 := Lib.hid hcl2
                    clear hcl2
                    go_wp2_with ((at_builtin; refine wpList_append_own _ rfl _ _ 32 rfl (R.heap.size) 3 i0 (.int .i64 0) 1 8 Try.underlying32 hi hz0 hz1 hz2 rfl (by decide) _ _ _ rfl (hown5.alloc _) ⟨wr.heap.size, 0, none⟩ 1 1 [.int .i64 n] rfl rfl (cell_one_new _ _ _) (by simp [Value.oneCell']) (by unfold maxLen; omega) (by omega) (by simp; omega) ?_; intro v' w2' hown' hgrow _))
                    have hx6 : Ext R w2' := Ext.grown (hx5.alloc _) hgrow fun k hk => (hown5.lt k hk).1
                    have hgc : ∀ (p : Addr) (v : Value), wr.cell? p = some v → p.block < R.heap.size → w2'.cell? p = some v := fun p v hp hb => by
                      obtain ⟨pb, po, ps⟩ := p
                      have hps := World.cell?_spot hp
                      simp only at hps hb
                      subst hps
                      refine hgrow.cell (by rw [Ext.cell (ext_alloc wr (.cells #[.int .i64 n] 3)) hp]) (fun e => ?_)
                      have := (hown5.lt pb e.symm).1
                      omega
                    go_roundw
                    case rel => exact ⟨n + 1, by omega, by go_num, by
                      have e : can ++ ints (pickTo y.sounds (n + 1)) = cl ++ [(n : Int)] := by rw [Hst3.out, ← Hcl2.out]; simp [ints]
                      rw [e]; simpa using hown', hx6, hgc _ _ r0 (by show w.heap.size < R.heap.size; omega), hgc _ _ r1 hqb, hgc _ _ r2 hqb⟩
                    case measure => simp [intOf]; omega
                · obtain rfl : n = S := by omega
                  have k3 : ¬ (n : Int) < b.sounds := by omega
                  have hfin : Hid (canTo n ls c (k + 1) = can ++ canY n y) := Hst2
                  cases hsil : y.silent
                  · rw [hsil] at r2
                    have Hfin2 : Hid (canTo n ls c (k + 1) = can ++ ints (pickTo y.sounds n)) := Lib.hid (by rw [Hst2.out]; unfold canY; rw [hsil]; simp)
                    clear hsil
                    go_wp2
                    go_roundw
                    case rel => exact ⟨k + 1, by omega, by go_num, by rw [Hfin2.out]; exact hown5, hx5⟩
                    case measure => simp [intOf]; omega
                  · rw [hsil] at r2
                    have Hfin2 : Hid (canTo n ls c (k + 1) = (can ++ ints (pickTo y.sounds n)) ++ [-1]) := Lib.hid (by rw [Hst2.out]; unfold canY; rw [hsil]; simp)
                    clear hsil
                    generalize can ++ ints (pickTo y.sounds n) = cl at *
                    go_wp2_with ((at_builtin; refine wpList_append_own _ rfl _ _ 32 rfl (R.heap.size) 3 i0 (.int .i64 0) 1 8 Try.underlying32 hi hz0 hz1 hz2 rfl (by decide) _ _ _ rfl (hown5.alloc _) ⟨wr.heap.size, 0, none⟩ 1 1 [.int .i64 (-1)] rfl rfl (cell_one_new _ _ _) (by simp [Value.oneCell']) (by unfold maxLen; omega) (by omega) (by simp; omega) ?_; intro v' w2' hown' hgrow _))
                    have hx6 : Ext R w2' := Ext.grown (hx5.alloc _) hgrow fun k hk => (hown5.lt k hk).1
                    go_roundw
                    case rel => exact ⟨k + 1, by omega, by go_num, by rw [Hfin2.out]; simpa using hown', hx6⟩
                    case measure => simp [intOf]; omega
        · obtain rfl : k = ls.length := by omega
          have hnl := Hnej.out
          have hcI : ∀ n ∈ canTo S ls c ls.length, I64 n := by
            intro n hn
            simp only [canTo, List.mem_flatMap] at hn
            obtain ⟨y, hy, hn⟩ := hn
            split at hn
            · have := (mem_canY (Hfs.out y (List.mem_of_mem_take hy)).1 hn).1
              have := mem_soundsTo.1 this
              unfold I64; omega
            · simp at hn
          have hpr : ∀ n ∈ canTo S ls c ls.length, -1 ≤ n ∧ n < (S : Int) := by
            intro n hn
            simp only [canTo, List.mem_flatMap] at hn
            obtain ⟨y, hy, hn⟩ := hn
            split at hn
            · have := (mem_canY (Hfs.out y (List.mem_of_mem_take hy)).1 hn).1
              have := mem_soundsTo.1 this
              omega
            · simp at hn
          have hcl := canTo_len S ls c ls.length
          have hks : ls.length * (S + 1) ≤ 6 * 5 := Nat.mul_le_mul (by omega) (by omega)
          have hcv := IntsAt.of_own hown2 hcI
          have hpm := Hpm.out
          generalize canTo S ls c ls.length = can at *
          have hpos : 0 < can.length := List.length_pos_iff.2 hnl
          obtain ⟨ca, cc, rfl, -⟩ := hcv.shape
          have hx3 := hx.ext (hxr.trans hx2)
          have hxR := hx.ext hxr
          have ht0 : 0 ≤ turnM x j ∧ turnM x j ≤ 255 := by
            unfold turnM
            rw [List.getD_eq_getElem?_getD]
            cases hg : x[j % x.length]? with
            | none => simp
            | some z =>
              obtain ⟨_, _, _, _, _, hh⟩ := hx
              have hlt := (List.getElem?_eq_some_iff.1 hg).1
              obtain ⟨_, _, _, _, hu⟩ := hh _ hlt
              have : x[j % x.length] = z := (List.getElem?_eq_some_iff.1 hg).2
              rw [this] at hu
              exact hu
          have hturn := fun w h => turn_any (.slice xa x.length xc) x j w (by omega) h
          obtain ⟨t, htt⟩ : ∃ t : Nat, turnM x j = t := ⟨(turnM x j).toNat, by omega⟩
          have hmod := mod_small t can.length
          have hq : t % can.length < can.length := Nat.mod_lt _ hpos
          have htn : (turnM x j).toNat = t := by omega
          rw [htn] at hpm
          rw [htt] at hturn
          rw [List.getD_eq_getElem?_getD, List.getElem?_eq_getElem hq] at hpm
          simp only [Option.getD_some] at hpm
          obtain ⟨_, _, hea, -, -, hh⟩ := hcv
          obtain ⟨bb, off, rfl, cq, -⟩ := hh _ hq
          have hea1 := (Value.slice.inj hea).1
          subst hea1
          have hpk := hpr _ (List.getElem_mem hq)
          simp only [Nat.mul_one] at cq
          generalize hqq : t % can.length = q at *
          have hgq : can[q] = pickM S ls sp.text x j := by
            rw [hpm]
          rw [hgq] at cq hpk
          generalize pickM S ls sp.text x j = pk at *
          have wq : IntKind.i64.wrap (q : Int) = q := IntWalk.i64_in _ (by omega)
          have q1 : (q : Int) < (can.length : Int) := by omega
          have nzc : ¬ can = [] := hnl
          clear hea hh hpr hcI hcl hks hpm htn htt hqq hgq hnl ht0 Hnej Hpm
          have Hnz := Lib.hid hpos
          go_wp2_with fail
          refine (hturn _ hx3).mono ?_
          rintro e w6 ⟨rfl, rfl⟩
          have hown3 := Ext.owns hown hx2
          have xw := hxr.trans hx2
          by_cases hneg : pk = -1
          · subst hneg
            have Hst2 : Hid (saidTo S ls sp.text x (j + 1) = out) := Lib.hid (by rw [Hst.out, withS, if_pos rfl])
            go_wp2
            go_roundw
            case rel => exact ⟨j + 1, by omega, by go_num, by rw [Hst2.out]; exact hown3, xw⟩
            case measure => simp [intOf]; omega
          · have hge : (0 : Int) ≤ pk := by omega
            have Hst2 : Hid (saidTo S ls sp.text x (j + 1) = out ++ [pk]) := Lib.hid (by rw [Hst.out, withS, if_neg hneg])
            clear hneg
            go_wp2_with ((at_builtin; refine wpList_append_own _ rfl _ _ 32 rfl (W.heap.size) 3 i0 (.int .i64 0) 1 8 Try.underlying32 hi hz0 hz1 hz2 rfl (by decide) _ _ _ rfl (hown3.alloc _) ⟨wr.heap.size, 0, none⟩ 1 1 [.int .i64 pk] rfl rfl (cell_one_new _ _ _) (by simp [Value.oneCell']) (by unfold maxLen; omega) (by omega) (by simp; omega) ?_; intro v' w2' hown' hgrow _))
            have hx6 : Ext W w2' := Ext.grown (xw.alloc _) hgrow fun k hk => (hown3.lt k hk).1
            go_roundw
            case rel => exact ⟨j + 1, by omega, by go_num, by rw [Hst2.out]; simpa using hown', hx6⟩
            case measure => simp [intOf]; omega
    · obtain rfl : j = sp.text.size := by omega
      go_wp2
      go_ret
      exact ⟨_, rfl, IntsAt.of_own hown (saidTo_I64 Hfs.out (by omega) _), xW.trans hxr⟩
end Go.Proofs.Ytagpngddaenkkaa

namespace Go.Proofs.Ytagpngddaenkkaa
set_option linter.unusedVariables false

theorem valid_letters {b : Book} (hv : Valid b) {n : Nat} (hn : n < b.spellings.length) : ∃ A : Nat, ∃ hA : A < b.alphabets.length, lettersOf b.alphabets (b.spellings[n]).alphabet = (b.alphabets[A]).letters := by
  have ha := (hv.sp n hn).a
  exact ⟨(b.spellings[n]).alphabet.toNat, by omega, by unfold lettersOf; rw [List.getElem?_eq_getElem (by omega)]⟩
theorem letters_apart {S : Int} {x : Alphabet} (h : ValidAlphabet S x) : x.letters.Pairwise (fun a b => a.c ≠ b.c) := by
  rw [List.pairwise_iff_getElem]
  intro i j hi hj hij e
  have := (h.fine j hj).2
  rw [List.any_eq_false] at this
  exact this x.letters[i] (by
    rw [List.mem_take_iff_getElem]
    exact ⟨i, by omega, rfl⟩) (by simpa using e)
/-- what is said of a spelling without an error can be read, and has no error -/
theorem said_reads {b : Book} (hv : Valid b) {n : Nat} (hn : n < b.spellings.length) (x : List Int) :
    saidTo b.sounds.toNat (lettersOf b.alphabets (b.spellings[n]).alphabet) (b.spellings[n]).text x (b.spellings[n]).text.size ∈ stringsOf b n := by
  have hs := hv.sp n hn
  obtain ⟨A, hA, e⟩ := valid_letters hv hn
  unfold stringsOf
  rw [lettersAt_eq b n hn]
  refine mem_yields.2 (said_can ?_ hs.k ?_ ?_)
  · rw [e]; exact letters_apart (hv.al A hA).1
  · rw [e]; exact fun y hy => (hv.fine A hA y hy).1
  · rw [e]
    intro y hy
    obtain ⟨j, hj, rfl⟩ := List.getElem_of_mem hy
    exact valid_gives hv.s ((hv.al A hA).1.fine j hj).1
theorem said_args {b : Book} (hv : Valid b) {n : Nat} (hn : n < b.spellings.length) :
    (lettersOf b.alphabets (b.spellings[n]).alphabet).length ≤ 6 ∧ (∀ j, j < (b.spellings[n]).text.size → canTo b.sounds.toNat (lettersOf b.alphabets (b.spellings[n]).alphabet) (byteAt (b.spellings[n]).text j) (lettersOf b.alphabets (b.spellings[n]).alphabet).length ≠ []) ∧
    ∀ y ∈ lettersOf b.alphabets (b.spellings[n]).alphabet, 0 ≤ y.sounds ∧ y.sounds ≤ 15 := by
  have hs := hv.sp n hn
  obtain ⟨A, hA, e⟩ := valid_letters hv hn
  have hk := hs.k
  rw [e] at hk ⊢
  refine ⟨(hv.al A hA).1.l.2, fun j hj => ?_, fun y hy => hv.fine A hA y hy⟩
  have hkj := hk j hj
  unfold knownB at hkj
  rw [List.any_eq_true] at hkj
  obtain ⟨y, hy, hyc⟩ := hkj
  have e2 := canTo_letter b.sounds.toNat (byteAt (b.spellings[n]).text j) (b.alphabets[A]).letters (letters_apart (hv.al A hA).1) ⟨y, hy, by simpa using hyc⟩
  rw [e2]
  have hin : (((b.alphabets[A]).letters.find? fun y => y.c == byteAt (b.spellings[n]).text j).getD ⟨0, 0, true⟩) ∈ (b.alphabets[A]).letters := by
    cases hfd : (b.alphabets[A]).letters.find? fun y => y.c == byteAt (b.spellings[n]).text j with
    | none => rw [List.find?_eq_none] at hfd; exact absurd hyc (by simpa using hfd y hy)
    | some z => exact List.mem_of_find?_eq_some hfd
  refine canY_some (hv.fine A hA _ hin).1 ?_
  obtain ⟨j, hj, ej⟩ := List.getElem_of_mem hin
  rw [← ej]
  exact valid_gives hv.s ((hv.al A hA).1.fine j hj).1
theorem heard_ok {b : Book} (hv : Valid b) {n : Nat} (hn : n < b.spellings.length) {k : List Int} (h : k ∈ stringsOf b n) : heardErrM b.sounds k = 0 ∧ k.length ≤ 5 := by
  have h1 := stringsOf_fine hv n hn k h
  have hs := hv.s
  refine ⟨?_, h1.1⟩
  unfold heardErrM
  rw [if_neg (by omega), if_neg]
  rw [Bool.not_eq_false, withinM, List.all_eq_true]
  intro x hx
  have := h1.2 x hx
  simp [inM]; omega
/-- a book with two of the spellings -/
def twoBook (b : Book) (x y : Spelling) : Book := ⟨b.sounds, b.alphabets, [x, y]⟩
theorem two_err {b : Book} (h : errM b = 0) {i k : Nat} (hi : i < b.spellings.length) (hk : k < b.spellings.length) : errM (twoBook b b.spellings[i] b.spellings[k]) = 0 := by
  obtain ⟨h1, h2, h3⟩ := errM_parts h
  refine errM_make (al := []) (sp := []) h1 h2 h3 (by show 2 ≤ 5; omega) ?_
  have hsp : ∀ n (hn : n < b.spellings.length), spellingErrM b.alphabets b.spellings[n] = 0 := by
    intro n hn
    have hs := (valid_of h).sp n hn
    unfold spellingErrM
    rw [if_neg, if_neg, if_neg]
    · rw [Bool.not_eq_false]
      unfold textOk
      rw [List.all_eq_true]
      intro j hj
      exact hs.k j (List.mem_range.1 hj)
    · rw [Bool.not_eq_false]; have := hs.t; simp [inM]; omega
    · rw [Bool.not_eq_false]; have := hs.a; simp [inM]; omega
  show (firstErr _ [_, _]).2 = 0
  unfold firstErr firstErrFrom
  rw [if_pos (by exact hsp i hi)]
  unfold firstErrFrom
  rw [if_pos (by exact hsp k hk)]; rfl
theorem two_odd {b : Book} (h : errM b = 0) {i k : Nat} (hi : i < b.spellings.length) (hk : k < b.spellings.length) {s : List Int} (h1 : s ∈ stringsOf b i) (h2 : s ∈ stringsOf b k) : oddL (twoBook b b.spellings[i] b.spellings[k]) = [] := by
  have hv := valid_of (two_err h hi hk)
  have e0 : stringsOf (twoBook b b.spellings[i] b.spellings[k]) 0 = stringsOf b i := by
    unfold stringsOf; rw [lettersAt_eq _ 0 (by show 0 < 2; omega), lettersAt_eq b i hi]; rfl
  have e1 : stringsOf (twoBook b b.spellings[i] b.spellings[k]) 1 = stringsOf b k := by
    unfold stringsOf; rw [lettersAt_eq _ 1 (by show 1 < 2; omega), lettersAt_eq b k hk]; rfl
  have hp := (oddP_iff hv (s := 0) (Nat.two_pow_pos _)).2 (.inr ⟨s, fun j hj _ => by
    have hj2 : j < 2 := hj
    have : j = 0 ∨ j = 1 := by omega
    rcases this with rfl | rfl
    · rw [e0]; exact h1
    · rw [e1]; exact h2⟩)
  have := len_le_of_not ((oddL_spec _).2 0 (Nat.two_pow_pos _) hp)
  have e : (membersM 0).length = 0 := by decide
  rw [e] at this
  exact List.eq_nil_of_length_eq_zero (by omega)
end Go.Proofs.Ytagpngddaenkkaa
