/-
  WHAT A SPELLING CAN BE, AND WHO CAN BE WHAT: plain lists, and what is so of them.
-/
import Derived.Test.YtbodmgilcohfjaaValid
namespace Go.Proofs.Ytbodmgilcohfjaa
set_option linter.unusedVariables false

/-- silence, and so many sounds less one -/
def soundsTo (k : Nat) : List Int := (List.range k).map fun (j : Nat) => (j : Int) - 1
theorem soundsTo_succ (k : Nat) : soundsTo (k + 1) = soundsTo k ++ [(k : Int) - 1] := by simp [soundsTo, List.range_succ]
theorem mem_soundsTo {k : Nat} {n : Int} : n ∈ soundsTo k ↔ -1 ≤ n ∧ n < (k : Int) - 1 := by
  simp only [soundsTo, List.mem_map, List.mem_range]
  constructor
  · rintro ⟨j, hj, rfl⟩; omega
  · rintro ⟨h1, h2⟩; exact ⟨(n + 1).toNat, by omega, by omega⟩
def withS (s : List Int) (n : Int) : List Int := if n = -1 then s else s ++ [n]
/-- what some letters give behind a sound string, once for each way; K: the sounds and silence -/
def yields (K : Nat) : List Letter → List Int → List (List Int)
  | [], s => [s]
  | y :: ys, s => (soundsTo K).flatMap fun n => if givesM y n then yields K ys (withS s n) else []
def yieldsTo (K : Nat) (y : Letter) (ys : List Letter) (s : List Int) (k : Nat) : List (List Int) :=
  (soundsTo k).flatMap fun n => if givesM y n then yields K ys (withS s n) else []
theorem yields_cons (K : Nat) (y : Letter) (ys : List Letter) (s : List Int) : yields K (y :: ys) s = yieldsTo K y ys s K := rfl
theorem yieldsTo_zero (K : Nat) (y : Letter) (ys : List Letter) (s : List Int) : yieldsTo K y ys s 0 = [] := rfl
theorem yieldsTo_yes (K : Nat) (y : Letter) (ys : List Letter) (s : List Int) (k : Nat) (h : givesM y ((k : Int) - 1) = true) : yieldsTo K y ys s (k + 1) = yieldsTo K y ys s k ++ yields K ys (withS s ((k : Int) - 1)) := by
  simp [yieldsTo, soundsTo_succ, h]
theorem yieldsTo_no (K : Nat) (y : Letter) (ys : List Letter) (s : List Int) (k : Nat) (h : givesM y ((k : Int) - 1) = false) : yieldsTo K y ys s (k + 1) = yieldsTo K y ys s k := by
  simp [yieldsTo, soundsTo_succ, h]
/-- a string that some letters can be, letter by letter -/
inductive Can (K : Nat) : List Letter → List Int → List Int → Prop
  | nil (s : List Int) : Can K [] s s
  | cons (y : Letter) (ys : List Letter) (s t : List Int) (n : Int) (hn : n ∈ soundsTo K) (hg : givesM y n = true) (h : Can K ys (withS s n) t) : Can K (y :: ys) s t
theorem mem_yields {K : Nat} : ∀ {ls : List Letter} {s t : List Int}, t ∈ yields K ls s ↔ Can K ls s t
  | [], s, t => by
    simp only [yields, List.mem_singleton]
    constructor
    · rintro rfl; exact .nil _
    · rintro ⟨⟩; rfl
  | y :: ys, s, t => by
    simp only [yields, List.mem_flatMap]
    constructor
    · rintro ⟨n, hn, ht⟩
      split at ht
      · rename_i hg; exact .cons y ys s t n hn hg (mem_yields.1 ht)
      · cases ht
    · rintro h
      cases h with
      | cons _ _ _ _ n hn hg h => exact ⟨n, hn, by rw [if_pos hg]; exact mem_yields.2 h⟩
theorem Can.len {K : Nat} {ls : List Letter} {s t : List Int} (h : Can K ls s t) : t.length ≤ s.length + ls.length := by
  induction h with
  | nil s => simp
  | cons y ys s t n hn hg h ih =>
    have : (withS s n).length ≤ s.length + 1 := by unfold withS; split <;> simp
    simp only [List.length_cons]; omega
theorem Can.fine {K : Nat} {ls : List Letter} {s t : List Int} (h : Can K ls s t) (hs : ∀ x ∈ s, 0 ≤ x ∧ x < (K : Int) - 1) : ∀ x ∈ t, 0 ≤ x ∧ x < (K : Int) - 1 := by
  induction h with
  | nil s => exact hs
  | cons y ys s t n hn hg h ih =>
    refine ih fun x hx => ?_
    unfold withS at hx
    split at hx
    · exact hs x hx
    · rename_i h1
      have := mem_soundsTo.1 hn
      rcases List.mem_append.1 hx with hx | hx
      · exact hs x hx
      · simp at hx; subst hx; omega

/-- WHO CAN BE WHAT: each string with the bits of those who can be it -/
abbrev Tally := List (List Int × Nat)
def getT (k : List Int) : Tally → Option Nat
  | [] => none
  | p :: M => if p.1 = k then some p.2 else getT k M
def putT (k : List Int) (v : Nat) : Tally → Tally
  | [] => [(k, v)]
  | p :: M => if p.1 = k then (k, v) :: M else p :: putT k v M
def markT (bit : Nat) (M : Tally) (k : List Int) : Tally := putT k ((getT k M).getD 0 ||| bit) M
theorem getT_putT (k : List Int) (v : Nat) (k' : List Int) : ∀ M : Tally, getT k' (putT k v M) = if k' = k then some v else getT k' M
  | [] => by
    simp only [putT, getT]
    by_cases h : k = k'
    · rw [if_pos h, if_pos h.symm]
    · rw [if_neg h, if_neg (fun e => h e.symm)]
  | p :: M => by
    have ih := getT_putT k v k' M
    simp only [putT]
    by_cases hp : p.1 = k
    · rw [if_pos hp]
      simp only [getT]
      by_cases h : k = k'
      · rw [if_pos h, if_pos h.symm]
      · rw [if_neg h, if_neg (fun e => h e.symm), if_neg (by rw [hp]; exact h)]
    · rw [if_neg hp]
      simp only [getT]
      by_cases h : k' = k
      · rw [if_pos h, if_neg (by rw [h]; exact hp), ih, if_pos h]
      · rw [if_neg h, ih, if_neg h]
theorem keys_putT (k : List Int) (v : Nat) (k' : List Int) : ∀ M : Tally, k' ∈ (putT k v M).map (·.1) ↔ k' = k ∨ k' ∈ M.map (·.1)
  | [] => by simp [putT]
  | p :: M => by
    have ih := keys_putT k v k' M
    simp only [putT]
    by_cases hp : p.1 = k
    · rw [if_pos hp]; simp only [List.map_cons, List.mem_cons, hp]; constructor
      · rintro (h | h); exact .inl h; exact .inr (.inr h)
      · rintro (h | h | h); exact .inl h; exact .inl h; exact .inr h
    · rw [if_neg hp]; simp only [List.map_cons, List.mem_cons, ih]
      constructor
      · rintro (h | h | h); exact .inr (.inl h); exact .inl h; exact .inr (.inr h)
      · rintro (h | h | h); exact .inr (.inl h); exact .inl h; exact .inr (.inr h)
theorem nodup_putT (k : List Int) (v : Nat) : ∀ M : Tally, (M.map (·.1)).Nodup → ((putT k v M).map (·.1)).Nodup
  | [], _ => by simp [putT]
  | p :: M, h => by
    simp only [List.map_cons, List.nodup_cons] at h
    have ih := nodup_putT k v M h.2
    simp only [putT]
    by_cases hp : p.1 = k
    · rw [if_pos hp]; simp only [List.map_cons, List.nodup_cons]; exact ⟨by rw [← hp]; exact h.1, h.2⟩
    · rw [if_neg hp]; simp only [List.map_cons, List.nodup_cons]
      refine ⟨fun hm => ?_, ih⟩
      rcases (keys_putT k v p.1 M).1 hm with e | e
      · exact hp e
      · exact h.1 e
theorem getT_keys (k : List Int) : ∀ M : Tally, (getT k M).isSome = true ↔ k ∈ M.map (·.1)
  | [] => by simp [getT]
  | p :: M => by
    have ih := getT_keys k M
    simp only [getT, List.map_cons, List.mem_cons]
    by_cases hp : p.1 = k
    · simp [hp]
    · rw [if_neg hp, ih]; constructor
      · exact .inr
      · rintro (h | h); exact absurd h.symm hp; exact h
theorem getT_mem {k : List Int} {v : Nat} : ∀ {M : Tally}, getT k M = some v → (k, v) ∈ M
  | p :: M, h => by
    simp only [getT] at h
    split at h
    · rename_i hp; cases h; rw [← hp]; exact List.mem_cons_self
    · exact List.mem_cons_of_mem _ (getT_mem h)
theorem mem_getT {k : List Int} {v : Nat} : ∀ {M : Tally}, (M.map (·.1)).Nodup → (k, v) ∈ M → getT k M = some v
  | p :: M, hn, h => by
    simp only [List.map_cons, List.nodup_cons] at hn
    simp only [getT]
    rcases List.mem_cons.1 h with e | h
    · rw [← e]; simp
    · rw [if_neg]
      · exact mem_getT hn.2 h
      · intro e; exact hn.1 (by rw [e]; exact List.mem_map.2 ⟨_, h, rfl⟩)
theorem putT_len (k : List Int) (v : Nat) : ∀ M : Tally, (putT k v M).length ≤ M.length + 1
  | [] => by simp [putT]
  | p :: M => by
    have := putT_len k v M
    simp only [putT]
    split <;> simp <;> omega

/-- what is so of a tally as it grows -/
structure FineT (K : Nat) (M : Tally) : Prop where
  nodup : (M.map (·.1)).Nodup
  keys : ∀ p ∈ M, p.1.length ≤ 5 ∧ ∀ x ∈ p.1, 0 ≤ x ∧ x < (K : Int) - 1
  vals : ∀ p ∈ M, p.2 < 32
theorem FineT.nil (K : Nat) : FineT K [] := ⟨by simp, by simp, by simp⟩
theorem mem_putT {k : List Int} {v : Nat} {p : List Int × Nat} : ∀ {M : Tally}, p ∈ putT k v M → p = (k, v) ∨ p ∈ M
  | [], h => by simp [putT] at h; exact .inl h
  | q :: M, h => by
    simp only [putT] at h
    split at h
    · rcases List.mem_cons.1 h with e | h
      · exact .inl e
      · exact .inr (List.mem_cons_of_mem _ h)
    · rcases List.mem_cons.1 h with e | h
      · exact .inr (by rw [e]; exact List.mem_cons_self)
      · rcases mem_putT h with e | h
        · exact .inl e
        · exact .inr (List.mem_cons_of_mem _ h)
theorem FineT.get_lt {K : Nat} {M : Tally} (h : FineT K M) (k : List Int) : (getT k M).getD 0 < 32 := by
  cases hg : getT k M with
  | none => simp
  | some v => exact h.vals _ (getT_mem hg)
theorem or_lt {a n : Nat} (ha : a < 32) (hn : n < 5) : a ||| 2 ^ n < 32 := by
  have h2 : 2 ^ n < 2 ^ 5 := Nat.pow_lt_pow_right (by decide) hn
  exact Nat.or_lt_two_pow (n := 5) ha h2
theorem FineT.mark {K : Nat} {M : Tally} (h : FineT K M) {k : List Int} (hk : k.length ≤ 5 ∧ ∀ x ∈ k, 0 ≤ x ∧ x < (K : Int) - 1) {n : Nat} (hn : n < 5) : FineT K (markT (2 ^ n) M k) := by
  refine ⟨nodup_putT _ _ _ h.nodup, fun p hp => ?_, fun p hp => ?_⟩
  · rcases mem_putT hp with rfl | hp
    · exact hk
    · exact h.keys p hp
  · rcases mem_putT hp with rfl | hp
    · exact or_lt (h.get_lt k) hn
    · exact h.vals p hp

def lettersAt (b : Book) (n : Nat) : List Letter := match b.spellings[n]? with
  | none => []
  | some x => lettersM (lettersOf b.alphabets x.alphabet) x.text
def stringsOf (b : Book) (n : Nat) : List (List Int) := yields (b.sounds.toNat + 1) (lettersAt b n) []
def canFrom (b : Book) (M : Tally) (l : List Nat) : Tally := l.foldl (fun M n => (stringsOf b n).foldl (markT (2 ^ n)) M) M
def canM (b : Book) (l : List Nat) : Tally := canFrom b [] l
theorem foldl_mark_snoc (bit : Nat) (l : List (List Int)) (k : List Int) (M : Tally) : (l ++ [k]).foldl (markT bit) M = markT bit (l.foldl (markT bit) M) k := by simp
theorem canFrom_snoc (b : Book) (M : Tally) (l : List Nat) (n : Nat) : canFrom b M (l ++ [n]) = (stringsOf b n).foldl (markT (2 ^ n)) (canFrom b M l) := by simp [canFrom]
theorem fine_foldl {K n : Nat} (hn : n < 5) : ∀ (l : List (List Int)) (M : Tally), FineT K M → (∀ k ∈ l, k.length ≤ 5 ∧ ∀ x ∈ k, 0 ≤ x ∧ x < (K : Int) - 1) → FineT K (l.foldl (markT (2 ^ n)) M)
  | [], _, h, _ => h
  | k :: l, M, h, hl => fine_foldl hn l _ (h.mark (hl k List.mem_cons_self) hn) fun x hx => hl x (List.mem_cons_of_mem _ hx)
/-- the bit of a spelling behind some marks -/
theorem get_foldl (bit : Nat) (k : List Int) : ∀ (l : List (List Int)) (M : Tally), getT k (l.foldl (markT bit) M) = if k ∈ l then some ((getT k M).getD 0 ||| bit) else getT k M
  | [], _ => by simp
  | x :: l, M => by
    rw [List.foldl_cons, get_foldl bit k l]
    unfold markT
    simp only [getT_putT]
    by_cases hx : k = x
    · subst hx
      rw [if_pos rfl, if_pos List.mem_cons_self]
      split
      · simp [Nat.or_assoc]
      · rfl
    · simp [hx]
/-- WHO CAN BE A STRING, told by bits -/
theorem get_canFrom (b : Book) (k : List Int) : ∀ (l : List Nat) (M : Tally), getT k (canFrom b M l) = if (∃ n ∈ l, k ∈ stringsOf b n) then some (l.foldl (fun s n => if k ∈ stringsOf b n then s ||| 2 ^ n else s) ((getT k M).getD 0)) else getT k M
  | [], M => by simp [canFrom]
  | n :: l, M => by
    have ih := get_canFrom b k l ((stringsOf b n).foldl (markT (2 ^ n)) M)
    have e : canFrom b M (n :: l) = canFrom b ((stringsOf b n).foldl (markT (2 ^ n)) M) l := by simp [canFrom]
    rw [e, ih, get_foldl]
    by_cases h : k ∈ stringsOf b n
    · have hex : ∃ m ∈ n :: l, k ∈ stringsOf b m := ⟨n, List.mem_cons_self, h⟩
      rw [if_pos hex]
      simp only [List.foldl_cons, if_pos h, Option.getD_some]
      split
      · rfl
      · rename_i hno
        have : l.foldl (fun s m => if k ∈ stringsOf b m then s ||| 2 ^ m else s) ((getT k M).getD 0 ||| 2 ^ n) = (getT k M).getD 0 ||| 2 ^ n := by
          clear ih e hex
          generalize (getT k M).getD 0 ||| 2 ^ n = s
          induction l with
          | nil => rfl
          | cons m l ih2 =>
            rw [List.foldl_cons, if_neg (fun hm => hno ⟨m, List.mem_cons_self, hm⟩)]
            exact ih2 fun ⟨x, hx, hk⟩ => hno ⟨x, List.mem_cons_of_mem _ hx, hk⟩
        rw [this]
    · have hiff : (∃ m ∈ n :: l, k ∈ stringsOf b m) ↔ ∃ m ∈ l, k ∈ stringsOf b m := by
        constructor
        · rintro ⟨m, hm, hk⟩
          rcases List.mem_cons.1 hm with rfl | hm
          · exact absurd hk h
          · exact ⟨m, hm, hk⟩
        · rintro ⟨m, hm, hk⟩; exact ⟨m, List.mem_cons_of_mem _ hm, hk⟩
      simp only [hiff, if_neg h, List.foldl_cons]
theorem testBit_marks (p : Nat → Bool) (i : Nat) : ∀ (l : List Nat) (s : Nat), (l.foldl (fun s n => if p n then s ||| 2 ^ n else s) s).testBit i = (s.testBit i || l.any fun n => n == i && p n)
  | [], s => by simp
  | n :: l, s => by
    rw [List.foldl_cons, testBit_marks p i l]
    by_cases hp : p n = true
    · rw [if_pos hp]
      by_cases h : n = i
      · subst h; simp [Nat.testBit_or, Nat.testBit_two_pow_self, hp]
      · have h' : (n == i) = false := by simpa using h
        simp [Nat.testBit_or, Nat.testBit_two_pow_of_ne h, h']
    · simp only [Bool.not_eq_true] at hp
      simp [hp]
end Go.Proofs.Ytbodmgilcohfjaa
