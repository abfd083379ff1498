/-
  EarFewest returns true for any book and any byte, and lets both be as they were. No condition.
-/
import Derived.Test.YtagpngddaenkkaaBunL
import Derived.Test.YtagpngddaenkkaaBunQ
import Derived.Test.YtagpngddaenkkaaBunO
namespace Go.Proofs.Ytagpngddaenkkaa
set_option linter.unusedVariables false

theorem mem_members {s i : Nat} : i ∈ membersM s ↔ s.testBit i = true ∧ i < 5 := by
  simp only [membersM, membersTo, List.mem_filter, List.mem_range]
  exact And.comm
theorem members_sorted (s : Nat) : (membersM s).Pairwise (· < ·) := List.Pairwise.filter _ List.pairwise_lt_range
theorem allOf_bit (b : Book) (i : Nat) : (allOf b).testBit i = decide (i < b.spellings.length) := by
  unfold allOf; rw [Nat.testBit_two_pow_sub_one]
theorem mem_all {b : Book} (h5 : b.spellings.length ≤ 5) {i : Nat} : i ∈ membersM (allOf b) ↔ i < b.spellings.length := by
  rw [mem_members, allOf_bit]; simp; omega
theorem sub_bit (b : Book) (s i : Nat) : (allOf b ^^^ (allOf b &&& s)).testBit i = (decide (i < b.spellings.length) && !s.testBit i) := by
  rw [Nat.testBit_xor, Nat.testBit_and, allOf_bit]
  cases decide (i < b.spellings.length) <;> cases s.testBit i <;> rfl
theorem bit_lt {s n i : Nat} (hs : s < 2 ^ n) (h : s.testBit i = true) : i < n := by
  rcases Nat.lt_or_ge i n with h1 | h1
  · exact h1
  · rw [Nat.testBit_lt_two_pow (Nat.lt_of_lt_of_le hs (Nat.pow_le_pow_right (by decide) h1))] at h; cases h
theorem not_all {b : Book} {s : Nat} (hs : s < 2 ^ b.spellings.length) (h : s ≠ allOf b) : ∃ i, i < b.spellings.length ∧ s.testBit i = false := by
  refine Classical.byContradiction fun hn => h ?_
  apply Nat.eq_of_testBit_eq
  intro i
  rw [allOf_bit]
  cases hi : s.testBit i
  · symm; rw [decide_eq_false_iff_not]
    intro h1
    exact hn ⟨i, h1, hi⟩
  · symm; rw [decide_eq_true_iff]; exact bit_lt hs hi
/-- without a set all others have a string in common, or there are no others -/
theorem oddP_iff {b : Book} (hv : Valid b) {s : Nat} (hs : s < 2 ^ b.spellings.length) : oddP (canM b (membersM (allOf b))) (allOf b) s = true ↔ s = allOf b ∨ ∃ k, ∀ i, i < b.spellings.length → s.testBit i = false → k ∈ stringsOf b i := by
  have hn5 := hv.n
  have hnd := canM_nodup hv (l := membersM (allOf b)) fun n h => (mem_all hn5).1 h
  have hsub : ∀ i, (allOf b ^^^ (allOf b &&& s)).testBit i = true ↔ i < b.spellings.length ∧ s.testBit i = false := fun i => by rw [sub_bit]; simp
  unfold oddP
  rw [Bool.or_eq_true, beq_iff_eq, or_comm]
  by_cases ha : s = allOf b
  · simp [ha]
  · refine or_congr Iff.rfl ?_
    unfold sharedB
    rw [List.any_eq_true]
    constructor
    · rintro ⟨⟨k, v⟩, hm, hb⟩
      refine ⟨k, fun i hi hbit => ?_⟩
      have := (entry_sub hnd hm fun j hj => (mem_all hn5).2 ((hsub j).1 hj).1).1 (by simpa using hb)
      exact this i ((hsub i).2 ⟨hi, hbit⟩)
    · rintro ⟨k, hk⟩
      obtain ⟨i, hi, hbit⟩ := not_all hs ha
      obtain ⟨p, hp, rfl⟩ := List.mem_map.1 ((canM_keys (b := b) (l := membersM (allOf b))).2 ⟨i, (mem_all hn5).2 hi, hk i hi hbit⟩)
      refine ⟨p, hp, ?_⟩
      rw [beq_iff_eq]
      exact (entry_sub (k := p.1) (v := p.2) hnd hp fun j hj => (mem_all hn5).2 ((hsub j).1 hj).1).2 fun j hj => hk j ((hsub j).1 hj).1 ((hsub j).1 hj).2
theorem oddP_all (M : Tally) (a : Nat) : oddP M a a = true := by unfold oddP; simp
theorem allOf_lt_pow (b : Book) : allOf b < 2 ^ b.spellings.length := by
  unfold allOf
  have := Nat.two_pow_pos b.spellings.length
  omega
/-- what Odd names: a set that will do, and none before it will -/
theorem oddL_spec (b : Book) : (∃ s, s < 2 ^ b.spellings.length ∧ oddP (canM b (membersM (allOf b))) (allOf b) s = true ∧ membersM s = oddL b) ∧
    ∀ s, s < 2 ^ b.spellings.length → oddP (canM b (membersM (allOf b))) (allOf b) s = true → ¬ cmpFew (membersM s) (oddL b) < 0 := by
  have h := fewTo_is (oddP (canM b (membersM (allOf b))) (allOf b)) (2 ^ b.spellings.length)
  unfold oddL
  cases hr : fewTo (oddP (canM b (membersM (allOf b))) (allOf b)) (2 ^ b.spellings.length) with
  | none =>
    rw [hr] at h
    have := h (allOf b) (allOf_lt_pow b)
    rw [oddP_all] at this; cases this
  | some f =>
    rw [hr] at h
    exact h
theorem len_le_of_not {l m : List Nat} (h : ¬ cmpFew l m < 0) : m.length ≤ l.length := by
  rcases Nat.lt_or_ge l.length m.length with h1 | h1
  · exfalso; apply h
    have e1 : (ints l).length = l.length := by simp [ints]
    have e2 : (ints m).length = m.length := by simp [ints]
    unfold cmpFew cmpSS
    rw [e1, e2, if_neg (by omega), cmpM_neg]; omega
  · exact h1
theorem all_but : ∀ n : Fin 6, 0 < n.1 → (membersM (2 ^ n.1 - 2)).length + 1 = n.1 ∧ 2 ^ n.1 - 2 < 2 ^ n.1 ∧ ∀ i : Fin 6, i.1 < n.1 → (2 ^ n.1 - 2).testBit i.1 = false → i.1 = 0 := by decide +kernel
theorem oddL_len {b : Book} (hv : Valid b) (h0 : 0 < b.spellings.length) : (oddL b).length < b.spellings.length := by
  have hn5 := hv.n
  obtain ⟨h1, h2, h3⟩ := all_but ⟨b.spellings.length, by omega⟩ h0
  simp only at h1 h2 h3
  obtain ⟨t, ht⟩ := stringsOf_some hv 0 h0
  have hp := (oddP_iff hv h2).2 (.inr ⟨t, fun i hi hb => by
    have := h3 ⟨i, by omega⟩ hi hb
    simp only at this
    rw [this]; exact ht⟩)
  have := len_le_of_not ((oddL_spec b).2 _ h2 hp)
  omega
theorem oddL_fine (b : Book) : (oddL b).Pairwise (· < ·) ∧ ∀ i ∈ oddL b, i < b.spellings.length := by
  obtain ⟨⟨s, hs, -, e⟩, -⟩ := oddL_spec b
  rw [← e]
  exact ⟨members_sorted s, fun i hi => bit_lt hs (mem_members.1 hi).1⟩
theorem rising_of {n : Nat} : ∀ (l : List Nat) (last : Int), (∀ i ∈ l, i < n) → l.Pairwise (· < ·) → (∀ i ∈ l, last < (i : Int)) → risingM n last (ints l) = true
  | [], _, _, _, _ => rfl
  | x :: l, last, h1, h2, h3 => by
    have e : ints (x :: l) = (x : Int) :: ints l := rfl
    rw [e, risingM]
    have hx := h1 x (by simp)
    have hl := h3 x (by simp)
    rw [List.pairwise_cons] at h2
    rw [rising_of l x (fun i hi => h1 i (by simp [hi])) h2.2 fun i hi => by have := h2.1 i hi; omega]
    simp; omega
theorem sorted_ext : ∀ {l m : List Nat}, l.Pairwise (· < ·) → m.Pairwise (· < ·) → (∀ x, x ∈ l ↔ x ∈ m) → l = m
  | [], [], _, _, _ => rfl
  | [], y :: m, _, _, h => by have := (h y).2 (by simp); simp at this
  | x :: l, [], _, _, h => by have := (h x).1 (by simp); simp at this
  | x :: l, y :: m, hl, hm, h => by
    rw [List.pairwise_cons] at hl hm
    have hxy : x = y := by
      have h1 := (h x).1 (by simp)
      have h2 := (h y).2 (by simp)
      rcases List.mem_cons.1 h1 with e | h1
      · exact e
      · rcases List.mem_cons.1 h2 with e | h2
        · exact e.symm
        · have := hm.1 x h1; have := hl.1 y h2; omega
    subst hxy
    congr 1
    refine sorted_ext hl.2 hm.2 fun z => ?_
    constructor
    · intro hz
      have h1 := (h z).1 (by simp [hz])
      rcases List.mem_cons.1 h1 with e | h1
      · subst e; have := hl.1 z hz; omega
      · exact h1
    · intro hz
      have h1 := (h z).2 (by simp [hz])
      rcases List.mem_cons.1 h1 with e | h1
      · subst e; have := hm.1 z hz; omega
      · exact h1
theorem members_bits {l : List Nat} {n : Nat} (hn : n ≤ 5) (hl : ∀ i ∈ l, i < n) (hs : l.Pairwise (· < ·)) : membersM (bitsM l) = l ∧ bitsM l < 2 ^ n := by
  constructor
  · refine sorted_ext (members_sorted _) hs fun i => ?_
    rw [mem_members, bitsM_bit]
    exact ⟨fun h => h.1, fun h => ⟨h, by have := hl i h; omega⟩⟩
  · refine Nat.lt_pow_two_of_testBit _ fun i hi => ?_
    cases h : (bitsM l).testBit i
    · rfl
    · have := hl i ((bitsM_bit l i).1 h); omega
/-- the spellings that are none of some -/
def othersN (l : List Nat) (n : Nat) : List Nat := (List.range n).filter fun i => !decide (i ∈ l)
theorem othersTo_ints (l : List Nat) (n : Nat) : othersTo (ints l) n = ints (othersN l n) := by
  unfold othersTo othersN
  congr 1
  apply List.filter_congr
  intro i _
  congr 1
  rw [decide_eq_decide]
  simp only [ints, List.mem_map]
  exact ⟨fun ⟨a, h1, h2⟩ => by
    have e : a = i := by omega
    rw [← e]; exact h1, fun h => ⟨i, h, rfl⟩⟩
theorem mem_others {l : List Nat} {n i : Nat} : i ∈ othersN l n ↔ i < n ∧ i ∉ l := by simp [othersN]
theorem others_sorted (l : List Nat) (n : Nat) : (othersN l n).Pairwise (· < ·) := List.Pairwise.filter _ List.pairwise_lt_range
theorem all_others {b : Book} {l : List Nat} {k : List Int} : All b (othersN l b.spellings.length) k ↔ ∀ i, i < b.spellings.length → i ∉ l → k ∈ stringsOf b i := by
  unfold All
  simp only [mem_others]
  exact ⟨fun h i h1 h2 => h i ⟨h1, h2⟩, fun h i ⟨h1, h2⟩ => h i h1 h2⟩
/-- without the spellings of Odd all others have a string in common -/
theorem odd_common {b : Book} (hv : Valid b) (h0 : 0 < b.spellings.length) : othersN (oddL b) b.spellings.length ≠ [] ∧ ∃ k, All b (othersN (oddL b) b.spellings.length) k := by
  have hn5 := hv.n
  have hlen := oddL_len hv h0
  obtain ⟨⟨s, hs, hp, e⟩, -⟩ := oddL_spec b
  have hne : s ≠ allOf b := by
    rintro rfl
    have : (membersM (allOf b)).length = b.spellings.length := by
      have e1 : membersM (allOf b) = List.range b.spellings.length := sorted_ext (members_sorted _) List.pairwise_lt_range fun i => by rw [mem_all hn5]; simp
      rw [e1]; simp
    rw [e] at this; omega
  have hb : ∀ i, i < b.spellings.length → (i ∉ oddL b ↔ s.testBit i = false) := fun i hi => by
    rw [← e, mem_members]
    have : i < 5 := by omega
    simp [this]
  rcases (oddP_iff hv hs).1 hp with h | ⟨k, hk⟩
  · exact absurd h hne
  · obtain ⟨i, hi, hbit⟩ := not_all hs hne
    refine ⟨fun h => ?_, k, all_others.2 fun j hj hn => hk j hj ((hb j hj).1 hn)⟩
    have : i ∈ othersN (oddL b) b.spellings.length := mem_others.2 ⟨hi, (hb i hi).2 hbit⟩
    rw [h] at this; simp at this
/-- without any that come before they have not -/
theorem odd_least {b : Book} (hv : Valid b) {l : List Nat} (hl : ∀ i ∈ l, i < b.spellings.length) (hs : l.Pairwise (· < ·)) (h : ∃ k, All b (othersN l b.spellings.length) k) : fewerM (ints l) (ints (oddL b)) = false := by
  obtain ⟨e, hlt⟩ := members_bits hv.n hl hs
  obtain ⟨k, hk⟩ := h
  have hp := (oddP_iff hv hlt).2 (.inr ⟨k, fun i hi hbit => all_others.1 hk i hi fun hm => by
    rw [(bitsM_bit l i).2 hm] at hbit; cases hbit⟩)
  have := (oddL_spec b).2 _ hlt hp
  rw [e] at this
  cases hf : fewerM (ints l) (ints (oddL b))
  · rfl
  · exact absurd ((fewerM_cmp _ _).1 hf) this
end Go.Proofs.Ytagpngddaenkkaa

namespace Go.Proofs.Ytagpngddaenkkaa
open Go.RowKit
set_option linter.unusedVariables false

/-- a pair whose second is this number -/
def IsPair (er : Int) (u : Value) (_ : World) : Prop := ∃ x, u = .tuple #[x, .int .i64 er]
def Any (_ : Value) (_ : World) : Prop := True
theorem isPair_keep {er : Int} (u : Value) (a c : World) (_ : Ext a c) (h : IsPair er u a) : IsPair er u c := h
open Classical in
/-- the error of Common of the others -/
noncomputable def comErr (b : Book) (l : List Nat) : Int := if othersN l b.spellings.length = [] then 2 else if ∃ k, All b (othersN l b.spellings.length) k then 0 else 9
theorem comErr_odd {b : Book} (hv : Valid b) (h0 : 0 < b.spellings.length) : comErr b (oddL b) = 0 := by
  obtain ⟨h1, h2⟩ := odd_common hv h0
  unfold comErr
  rw [if_neg h1, if_pos h2]
theorem comErr_zero {b : Book} {l : List Nat} (h : comErr b l = 0) : ∃ k, All b (othersN l b.spellings.length) k := by
  unfold comErr at h
  split at h
  · cases h
  · split at h
    · assumption
    · cases h
theorem common_others (v : Value) (b : Book) (bv : Value) (he : errM b = 0) (l : List Nat) (w : World) (hb : BookAt w bv b) (hlv : IntsAt w v (othersTo (ints l) b.spellings.length)) :
    Calls Try.prog 33 #[bv, v] w fun e w' => ∃ u, e = .returned u ∧ Ext w w' ∧ IsPair (comErr b l) u w' := by
  rw [othersTo_ints] at hlv
  have hl : ∀ n ∈ othersN l b.spellings.length, n < b.spellings.length := fun n h => (mem_others.1 h).1
  refine (common_all v b bv he _ hl (others_sorted l b.spellings.length) w hb hlv).mono ?_
  rintro e w' ⟨u, er, k, rfl, -, hx, hc⟩
  refine ⟨_, rfl, hx, u, ?_⟩
  have : comErr b l = er := by
    unfold comErr
    rcases hc with ⟨h1, rfl, -⟩ | ⟨h1, rfl, -, h2⟩ | ⟨h1, rfl, h2, -⟩
    · rw [if_pos h1]
    · rw [if_neg h1, if_neg h2]
    · rw [if_neg h1, if_pos ⟨k, h2⟩]
  rw [this]

set_option maxRecDepth 100000 in
set_option maxHeartbeats 2000000 in
theorem fewest_law (bv : Value) (b : Book) (bits : Nat) (hbits : bits ≤ 255) (w : World) (hb : BookAt w bv b) :
    Calls Try.prog 11 #[bv, .int .u8 bits] w fun e w' => e = .returned (.bool true) ∧ Ext w w' := by
  have hb0 := hb
  obtain ⟨ba, bc, bs, bd, rfl, -, -, -, hsl, hsc, -⟩ := hb.open
  obtain ⟨i0, hi, hz0, hz1, hz2⟩ := info_parts infoInt
  have wb : IntKind.i64.wrap (bits : Int) = bits := IntWalk.i64_in _ (by omega)
  have aw := fun w => awake_any w
  go_enter Try.func11, Try.ntmps11
  go_wp2_with fail
  have hB : Boxed ((w).alloc (.cells #[.int .i64 b.sounds, .slice ba b.alphabets.length bc, .slice bs b.spellings.length bd] 25)) w.heap.size b ba bc bs bd := ⟨by simp [go_sem], by simp [go_sem], by simp [go_sem], hb0.ext (by first | (with_reducible exact Ext.refl _) | (with_reducible assumption) | (show Below _ _ _; go_grown; done))⟩
  have hx : Ext w ((w).alloc (.cells #[.int .i64 b.sounds, .slice ba b.alphabets.length bc, .slice bs b.spellings.length bd] 25)) := ext_alloc _ _
  generalize ((w).alloc (.cells #[.int .i64 b.sounds, .slice ba b.alphabets.length bc, .slice bs b.spellings.length bd] 25)) = W at *
  have c0 := hB.c0
  have c1 := hB.c1
  have c2 := hB.c2
  have z1 := hB.lt
  by_cases he : errM b = 0
  rotate_left
  · have hod := fun w hb => odd_err (.agg #[.int .i64 b.sounds, .slice ba b.alphabets.length bc, .slice bs b.spellings.length bd]) b he w hb
    have hev : (errM b == 0) = false := by simpa using he
    have he' : (errM b != 0) = true := by simpa using he
    have hva := fun w hb => valid_any (.agg #[.int .i64 b.sounds, .slice ba b.alphabets.length bc, .slice bs b.spellings.length bd]) b w hb
    generalize errM b = er at *
    have He := Lib.hid he
    clear he
    refine (hod _ hB.at_).mono ?_
    rintro e w1 ⟨rfl, hx1⟩
    replace hB := hB.ext hx1
    replace c0 := hB.c0
    replace c1 := hB.c1
    replace c2 := hB.c2
    replace z1 := hB.lt
    have x1 := hx.trans hx1
    clear hx1 hod
    go_wp2_with fail
    refine (hva _ hB.at_).mono ?_
    rintro e w2 ⟨rfl, hx2⟩
    have x2 := x1.trans hx2
    rw [hev]
    clear hx2 hva hB c0 c1 c2 z1
    go_wp2_with fail
    refine (aw _).mono ?_
    rintro e w3 ⟨rfl, hx3⟩
    have x3 := x2.trans hx3
    clear hx3
    go_wp2
    go_ret
    exact ⟨rfl, x3⟩
  have hv := valid_of he
  have hn5 := hv.n
  have hev : (errM b == 0) = true := by simpa using he
  have He := Lib.hid he
  clear he
  refine (odd_ok (.agg #[.int .i64 b.sounds, .slice ba b.alphabets.length bc, .slice bs b.spellings.length bd]) b He.out _ hB.at_).mono ?_
  rintro e w1 ⟨u, rfl, hu, hx1⟩
  have hfine := oddL_fine b
  have hrise : risingM b.spellings.length (-1) (ints (oddL b)) = true := rising_of _ _ hfine.2 hfine.1 fun i _ => by omega
  have hlen : (ints (oddL b)).length = (oddL b).length := by simp [ints]
  have hle : 0 < b.spellings.length → (oddL b).length < b.spellings.length := oddL_len hv
  have hcm := fun v w hb hl => common_others v b (.agg #[.int .i64 b.sounds, .slice ba b.alphabets.length bc, .slice bs b.spellings.length bd]) He.out (oddL b) w hb hl
  have hce : 0 < b.spellings.length → comErr b (oddL b) = 0 := comErr_odd hv
  have hle0 : b.spellings.length = 0 → (oddL b).length = 0 := fun h => by
    match hL : oddL b, hfine.2 with
    | [], _ => rfl
    | x :: l, h2 => have := h2 x (by simp); omega
  have hleast : ∀ l : List Nat, (∀ i ∈ l, i < b.spellings.length) → l.Pairwise (· < ·) → comErr b l = 0 → fewerM (ints l) (ints (oddL b)) = false := fun l h1 h2 h3 => odd_least hv h1 h2 (comErr_zero h3)
  have hcm2 := fun l v w hb hl => common_others v b (.agg #[.int .i64 b.sounds, .slice ba b.alphabets.length bc, .slice bs b.spellings.length bd]) He.out l w hb hl
  have hoth := fun v w hb hl => others_any (.agg #[.int .i64 b.sounds, .slice ba b.alphabets.length bc, .slice bs b.spellings.length bd]) v b (ints (oddL b)) w hb hl hn5
  have hoth2 := fun v l w hb hl => others_any (.agg #[.int .i64 b.sounds, .slice ba b.alphabets.length bc, .slice bs b.spellings.length bd]) v b (ints l) w hb hl hn5
  generalize oddL b = L at *
  obtain ⟨ua, uc, rfl, -⟩ := hu.shape
  rw [hlen] at hu ⊢
  have Hlen := Lib.hid hlen
  replace hB := hB.ext hx1
  replace c0 := hB.c0
  replace c1 := hB.c1
  replace c2 := hB.c2
  replace z1 := hB.lt
  have x1 := hx.trans hx1
  clear hx1 hlen hx hfine
  have Hce := Lib.hid hce
  have Hle := Lib.hid hle
  have Hle0 := Lib.hid hle0
  have Hleast := Lib.hid hleast
  clear hce hle hle0 hleast
  go_wp2_with fail
  refine (valid_any _ b _ hB.at_).mono ?_
  rintro e w2 ⟨rfl, hx2⟩
  rw [hev]
  have x2 := x1.trans hx2
  replace hB := hB.ext hx2
  replace c0 := hB.c0
  replace c1 := hB.c1
  replace c2 := hB.c2
  replace z1 := hB.lt
  replace hu := hu.ext hx2
  clear hx2
  have z2 := x2.size
  go_wp2
  go_loopw [7, 8] (fun v i wr => ∃ k : Nat, k ≤ b.spellings.length ∧ i = .int .i64 k ∧ Ext w2 wr ∧ wr.ownsRow w2.heap.size 3 1 v (ints (pickTo bits k)).length ((ints (pickTo bits k)).map (Value.int .i64))) (fun _ i _ => b.spellings.length - (intOf i).toNat)
  case atStart => exact ⟨0, Nat.zero_le _, rfl, Ext.refl _, World.ownsRow_nil _ _ _ _⟩
  case round =>
    obtain ⟨k, hk, rfl, hxr, hown⟩ := hrel
    have hszr := hxr.size
    have hBr := hB.ext hxr
    have d0 := hBr.c0
    have d1 := hBr.c1
    have d2 := hBr.c2
    have y1 := hBr.lt
    by_cases hlt : k < b.spellings.length
    · have k1 : (k : Int) < (b.spellings.length : Int) := by omega
      have hlen : (ints (pickTo bits k)).length ≤ k := by have := pickTo_len bits k; simpa [ints] using this
      go_wp2_with fail
      refine (bit_any bits k (by unfold I64; omega) (by omega) wr).mono ?_
      rintro e w3 ⟨rfl, rfl⟩
      cases hm : bitM k (bits : Int)
      · have Hst := Lib.hid (pickTo_no bits k hm)
        clear hm
        go_wp2
        go_roundw
        case rel => exact ⟨k + 1, by omega, by go_num, hxr, by rw [Hst.out]; exact hown⟩
        case measure => simp [intOf]; omega
      · have Hst := Lib.hid (pickTo_yes bits k hm)
        clear hm
        go_wp2_with ((at_builtin; refine wpList_append_own _ rfl _ _ 32 rfl (w2.heap.size) 3 i0 (.int .i64 0) 1 8 Try.underlying32 hi hz0 hz1 hz2 rfl (by decide) _ _ _ rfl (hown.alloc _) ⟨wr.heap.size, 0, none⟩ 1 1 [.int .i64 k] rfl rfl (cell_one_new _ _ _) (by simp [Value.oneCell']) (by unfold maxLen; omega) (by omega) (by simp; omega) ?_; intro v' w2' hown' hgrow _))
        have hx3 : Ext w2 w2' := Ext.grown (hxr.alloc _) hgrow fun k hk => (hown.lt k hk).1
        go_roundw
        case rel => exact ⟨k + 1, by omega, by go_num, hx3, by rw [Hst.out]; simpa [ints] using hown'⟩
        case measure => simp [intOf]; omega
    · obtain rfl : k = b.spellings.length := by omega
      have hil : ∀ n ∈ pickTo bits b.spellings.length, n < b.spellings.length := fun n hn => pickTo_lt hn
      have hso := pickTo_sorted bits b.spellings.length
      have hov := IntsAt.of_own hown (ints_I64 fun n hn => by have := hil n hn; omega)
      have hleast := Hleast.out _ hil hso
      have hcm2 := hcm2 (pickTo bits b.spellings.length)
      have hoth2 := fun v w hb hl => hoth2 v (pickTo bits b.spellings.length) w hb hl
      generalize pickTo bits b.spellings.length = o at *
      have holen : (ints o).length = o.length := by simp [ints]
      obtain ⟨oa, oc, rfl, -⟩ := hov.shape
      rw [holen] at hov ⊢
      replace hu := hu.ext hxr
      have xw := x2.trans hxr
      have Hleast2 := Lib.hid hleast
      clear hown hlt hil hso hleast holen hxr hB c0 c1 c2 z1 hk
      go_wp2_with fail
      refine (rising_any _ _ (ints L) wr hu).mono ?_
      rintro e w3 ⟨rfl, hx3⟩
      rw [hrise]
      have x3 := xw.trans hx3
      replace hBr := hBr.ext hx3
      replace d0 := hBr.c0
      replace d1 := hBr.c1
      replace d2 := hBr.c2
      replace y1 := hBr.lt
      replace hu := hu.ext hx3
      replace hov := hov.ext hx3
      clear hx3 xw hszr
      by_cases hn0 : b.spellings.length = 0
      · have hn1 : ¬ (0 : Int) < (b.spellings.length : Int) := by omega
        have hn3 : ((b.spellings.length : Int) == 0) = true := by rw [beq_iff_eq]; omega
        have hsp : b.spellings = [] := List.eq_nil_of_length_eq_zero hn0
        clear hn0
        go_wp2_with fail
        refine (aw _).mono ?_
        rintro e w4 ⟨rfl, hx4⟩
        have x4 := x3.trans hx4
        clear hx4
        go_wp2
        go_ret
        exact ⟨rfl, x4⟩
      · have hn1 : (0 : Int) < (b.spellings.length : Int) := by omega
        have hce := Hce.out (by omega)
        have hle := Hle.out (by omega)
        have hn2 : ¬ (b.spellings.length : Int) ≤ (L.length : Int) := by omega
        have hn3 : ((b.spellings.length : Int) == 0) = false := by rw [beq_eq_false_iff_ne]; omega
        clear hle
        rw [hce] at hcm
        go_wp2_with fail
        apply Facts.wp_region [.val _, .val _, .val _, .fact (ListV (othersTo (ints L) b.spellings.length)), .fact (IsPair 0), .fact (IsPair 0), .fact Any, .val (.int .i64 0), .fact Any, .val (.int .i64 0)] (by kernel_rfl) (by kernel_rfl) ?keep ?main
        case keep => exact ⟨fun u a c hx h => IntsAt.ext h hx, isPair_keep, isPair_keep, fun _ _ _ _ _ => trivial, fun _ _ _ _ _ => trivial, trivial⟩
        case main =>
          iterate 3 (refine ⟨fun w1 hx hh => ?_, ?_⟩; focus (clear hh; have e0 := hx.cell d0; have e1 := hx.cell d1; have e2 := hx.cell d2; go_simp; first | exact ⟨Ext.refl _, rfl⟩ | exact Ext.refl _))
          refine ⟨fun w1 hx hh => ?_, ?_⟩
          · clear hh
            go_simp
            refine (hoth _ w1 (hBr.at_.ext hx) (hu.ext hx)).mono ?_
            rintro e w' ⟨v, rfl, h1, hx2⟩
            exact ⟨_, rfl, hx2, h1⟩
          intro u3
          refine ⟨fun w1 hx hh => ?_, ?_⟩
          · have h3 : ListV (othersTo (ints L) b.spellings.length) u3 w1 := hh 3 _ List.mem_cons_self (by kernel_rfl)
            clear hh
            go_simp
            exact hcm _ w1 (hBr.at_.ext hx) h3
          intro u4
          refine ⟨fun w1 hx hh => ?_, ?_⟩
          · have h4 : IsPair 0 u4 w1 := hh 4 _ List.mem_cons_self (by kernel_rfl)
            clear hh
            go_simp
            first | exact ⟨Ext.refl _, h4⟩ | exact Ext.refl _ | exact h4
          intro u5
          refine ⟨fun w1 hx hh => ?_, ?_⟩
          · have h5 : IsPair 0 u5 w1 := hh 5 _ List.mem_cons_self (by kernel_rfl)
            have e5 := h5.choose_spec
            generalize h5.choose = x5 at *
            clear hh h5
            subst e5
            go_simp
            first | exact ⟨Ext.refl _, trivial⟩ | exact Ext.refl _ | trivial
          intro u6
          refine ⟨fun w1 hx hh => ?_, ?_⟩
          · have h5 : IsPair 0 u5 w1 := hh 5 _ (List.mem_cons_of_mem _ List.mem_cons_self) (by kernel_rfl)
            have e5 := h5.choose_spec
            generalize h5.choose = x5 at *
            clear hh h5
            subst e5
            go_simp
            first | exact ⟨Ext.refl _, rfl⟩ | exact Ext.refl _
          refine ⟨fun w1 hx hh => ?_, ?_⟩
          · clear hh
            go_simp
            first | exact ⟨Ext.refl _, trivial⟩ | exact Ext.refl _ | trivial
          intro u8
          iterate 1 (refine ⟨fun w1 hx hh => ?_, ?_⟩; focus (clear hh; skip; go_simp; first | exact ⟨Ext.refl _, rfl⟩ | exact Ext.refl _))
          intro w4 hx4 hh
          clear hh
          have x4 := x3.trans hx4
          replace hBr := hBr.ext hx4
          replace d0 := hBr.c0
          replace d1 := hBr.c1
          replace d2 := hBr.c2
          replace y1 := hBr.lt
          replace hu := hu.ext hx4
          replace hov := hov.ext hx4
          clear hx4 hcm hoth
          have hmm := Hleast2.out
          generalize comErr b o = er at *
          clear Hleast2
          have Hmm := Lib.hid hmm
          clear hmm
          go_simp
          go_wp2_with fail
          apply Facts.wp_region [.val _, .val _, .val _, .fact (ListV (othersTo (ints o) b.spellings.length)), .fact (IsPair er), .fact (IsPair er), .fact Any, .val (.int .i64 er), .fact Any, .val (.int .i64 er)] (by kernel_rfl) (by kernel_rfl) ?keep ?main
          case keep => exact ⟨fun u a c hx h => IntsAt.ext h hx, isPair_keep, isPair_keep, fun _ _ _ _ _ => trivial, fun _ _ _ _ _ => trivial, trivial⟩
          case main =>
            iterate 3 (refine ⟨fun w1 hx hh => ?_, ?_⟩; focus (clear hh; have e0 := hx.cell d0; have e1 := hx.cell d1; have e2 := hx.cell d2; go_simp; first | exact ⟨Ext.refl _, rfl⟩ | exact Ext.refl _))
            refine ⟨fun w1 hx hh => ?_, ?_⟩
            · clear hh
              go_simp
              refine (hoth2 _ w1 (hBr.at_.ext hx) (hov.ext hx)).mono ?_
              rintro e w' ⟨v, rfl, h1, hx2⟩
              exact ⟨_, rfl, hx2, h1⟩
            intro u3
            refine ⟨fun w1 hx hh => ?_, ?_⟩
            · have h3 : ListV (othersTo (ints o) b.spellings.length) u3 w1 := hh 3 _ List.mem_cons_self (by kernel_rfl)
              clear hh
              go_simp
              exact hcm2 _ w1 (hBr.at_.ext hx) h3
            intro u4
            refine ⟨fun w1 hx hh => ?_, ?_⟩
            · have h4 : IsPair er u4 w1 := hh 4 _ List.mem_cons_self (by kernel_rfl)
              clear hh
              go_simp
              first | exact ⟨Ext.refl _, h4⟩ | exact Ext.refl _ | exact h4
            intro u5
            refine ⟨fun w1 hx hh => ?_, ?_⟩
            · have h5 : IsPair er u5 w1 := hh 5 _ List.mem_cons_self (by kernel_rfl)
              have e5 := h5.choose_spec
              generalize h5.choose = x5 at *
              clear hh h5
              subst e5
              go_simp
              first | exact ⟨Ext.refl _, trivial⟩ | exact Ext.refl _ | trivial
            intro u6
            refine ⟨fun w1 hx hh => ?_, ?_⟩
            · have h5 : IsPair er u5 w1 := hh 5 _ (List.mem_cons_of_mem _ List.mem_cons_self) (by kernel_rfl)
              have e5 := h5.choose_spec
              generalize h5.choose = x5 at *
              clear hh h5
              subst e5
              go_simp
              first | exact ⟨Ext.refl _, rfl⟩ | exact Ext.refl _
            refine ⟨fun w1 hx hh => ?_, ?_⟩
            · clear hh
              go_simp
              first | exact ⟨Ext.refl _, trivial⟩ | exact Ext.refl _ | trivial
            intro u8
            iterate 1 (refine ⟨fun w1 hx hh => ?_, ?_⟩; focus (clear hh; skip; go_simp; first | exact ⟨Ext.refl _, rfl⟩ | exact Ext.refl _))
            intro w5 hx5 hh
            clear hh
            have x5 := x4.trans hx5
            replace hu := hu.ext hx5
            replace hov := hov.ext hx5
            clear hx5 hcm2 hoth2 hBr d0 d1 d2 y1
            by_cases h0 : er = 0
            · have hff := Hmm.out h0
              subst h0
              have hfew := fun w hl hm => fewer_any (.slice oa o.length oc) (.slice ua L.length uc) (ints o) (ints L) w hl hm
              rw [hff] at hfew
              clear hff Hmm
              go_simp
              go_wp2_with fail
              refine (hfew _ hov hu).mono ?_
              rintro e w6 ⟨rfl, hx6⟩
              have x6 := x5.trans hx6
              clear hx6 hfew
              go_wp2_with fail
              refine (aw _).mono ?_
              rintro e w7 ⟨rfl, hx7⟩
              have x7 := x6.trans hx7
              clear hx7
              go_wp2
              go_ret
              exact ⟨rfl, x7⟩
            · have h1 : (er != 0) = true := by simpa using h0
              clear h0 Hmm
              go_simp
              go_wp2_with fail
              refine (aw _).mono ?_
              rintro e w7 ⟨rfl, hx7⟩
              have x7 := x5.trans hx7
              clear hx7
              go_wp2
              go_ret
              exact ⟨rfl, x7⟩
end Go.Proofs.Ytagpngddaenkkaa

namespace Go.Proofs.Ytagpngddaenkkaa.earFewest
open Go.ChangeShapes Go.WideShapes Go.ChangeAt Go.RowKit
set_option linter.unusedVariables false

theorem own : ownKnob Try.prog.godebug = none := by kernel_rfl
theorem laid : laidOutB Try.prog = true := by kernel_rfl
theorem read0 : Try.prog.readableRec 25 = true := by kernel_rfl
theorem row0 : 25 < Try.prog.types.size := of_decide_eq_true (by kernel_rfl)
theorem read1 : Try.prog.readableRec 5 = true := by kernel_rfl
theorem row1 : 5 < Try.prog.types.size := of_decide_eq_true (by kernel_rfl)

set_option maxRecDepth 100000 in
theorem lifted (os : Os) (started : os.Started) (H : Type) (enc : TypeId × Value → H) :
    ReturnsInHanded {} Try.checked os 11 .any (Rows.earFewestSpec.pre6 enc Try.prog Try.f11 Rows.earFewestRow.domain false) (Rows.earFewestSpec.post enc Try.prog Try.f11 false true false false) := by
  refine returnsInHanded_of_change (C := Try.checked) own started (by kernel_rfl) Try.func11
    (ChangeSpec.witness6 (enc := enc) (C := Try.checked) false ⟨#[], #[.agg #[.int .i64 0, .slice none 0 0, .slice none 0 0], .int .u8 0], []⟩ 8 (by kernel_rfl) (by kernel_rfl) (by kernel_rfl) (by kernel_rfl)) ?_
  intro W base args ds gs before hval0 hW hcnd _
  have hval : ∀ (j : Nat) t v, Try.f11.params[j]? = some t → args[j]? = some v → Value.okWide Try.prog W .any base t v := hval0
  have hW' := hW
  obtain ⟨p, q, hA0, hV, rfl, hfz, hnd⟩ := hW
  have hA : DataW.TrodAll enc Try.prog W 0 (fun _ => true) true Try.f11.params.toList args.toList ds p := hA0
  rw [Try.params11] at hA hval
  obtain ⟨v0, vs0, d0, ds0, p0, q0, hargs0, rfl, rfl, h0, r0⟩ := trodAll_cons hA
  obtain ⟨v1, vs1, d1, ds1, p1, q1, hargs1, rfl, rfl, h1, r1⟩ := trodAll_cons r0
  obtain ⟨rfl, rfl, rfl⟩ := trodAll_nil r1
  subst hargs1
  obtain rfl : args = #[v0, v1] := by cases args; simp_all
  obtain ⟨rfl, rfl⟩ := trodVars_none hV
  obtain ⟨b, hb⟩ := book_of (hval 0 25 v0 rfl rfl) h0
  obtain ⟨x, rfl, hx⟩ := byte_of (hval 1 5 v1 rfl rfl) h1
  clear hA0 hval0
  simp only [List.append_nil] at hW'
  refine (fewest_law v0 b x hx W hb).mono fun e W' ⟨he, hg⟩ => ?_
  subst he
  have hlt := hW'.lt
  exact ⟨_, rfl, post_ext (pa := p0 ++ p1) (pv := []) hW' (fun _ _ _ => (trodAll_cons_mk (shut_bool Try.underlying4 _) trodAll_mk0))
    (fun sp hsp => by
      have g0 := Go.WideElems.Trod_stays (sp' := sp) laid read0 row0 h0 (W' := W') (fun p hp => same_of_ext hg (hlt p (List.mem_append_left _ hp))) (fun p hp => hsp p (List.mem_append_left _ hp))
      have g1 := Go.WideElems.Trod_stays (sp' := sp) laid read1 row1 h1 (W' := W') (fun p hp => same_of_ext hg (hlt p (List.mem_append_right _ hp))) (fun p hp => hsp p (List.mem_append_right _ hp))
      have := trodAll_cons_mk g0 (trodAll_cons_mk g1 (trodAll_mk0 (enc := enc) (P := Try.prog) (w := W') (base := 0) (spare := sp) (held := true)))
      rw [List.append_nil] at this
      exact this) (fun _ _ => rfl) (by simp)
    hg (ok_one (by kernel_rfl) rfl (okWide_bool_mk Try.underlying4 _))⟩

theorem over : Rows.earFewestRow.holds Try.pinned (OpenSpec.ofChange Rows.earFewestSpec) :=
  OpenClaim.holds_of_wide 11 Try.f11 rfl rfl rfl rfl rfl rfl rfl ⟨rfl, rfl, rfl, rfl, rfl⟩ rfl rfl rfl rfl rfl (by kernel_rfl) Try.func11 (by kernel_rfl)
    (of_decide_eq_true (by kernel_rfl)) (by unfold Func.isWrapper; first | (rw [if_pos (by decide +kernel)]; kernel_rfl) | (rw [if_neg (by decide +kernel)]; exact ⟨rfl, rfl⟩))
    (fun os started H enc _ => lifted os started H enc)

/-- ████ THE STATEMENT ████ -/
theorem earFewest_said : Rows.EarFewestSaid :=
  over
end Go.Proofs.Ytagpngddaenkkaa.earFewest
