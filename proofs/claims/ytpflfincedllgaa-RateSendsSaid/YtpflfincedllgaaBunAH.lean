/-
  WHAT A SPELLING CAN BE, AND WHO CAN BE WHAT: plain lists, and what is so of them.
  WHAT THE ITERATOR OF A SPELLING'S SOUND STRINGS YIELDS: each string of the list, in its order, for whatever body keeps the cells.
  WHAT soundStrings RETURNS: an iterator that yields what a spelling can be.
  A MAP BY SOUND STRINGS, as it lies in memory: what is looked up in it, and how it is written.
  WHAT canBe RETURNS: a new map of all sound strings that some spellings can be, each with the bits of those that can be it.
  WHAT canBe RETURNS, in a book without an error.
  A RANGE OVER A MAP BY SOUND STRINGS, in whatever order; and how sound strings are ordered.
  WHAT firstOf RETURNS: the first string that all of some spellings can be, and whether there is one.
  WHAT ear.Spell RETURNS, for any book, number and list: the text and the error that the document says.
  WHAT Count, Reads, Common, First, Alike AND Odd RETURN where there is no error.
  WHAT Common RETURNS where there is no error.
  WHAT First AND Alike RETURN where there is no error.
  WHAT fewestOdd AND Odd RETURN where there is no error.
  WHAT cmp.Or, sets.compare, sets.Fewest AND fewestOdd RETURN where there is no error.
  THE FEWEST ENTRIES without which there is a truth: sets.Fewest over isTrueWithout, of the program.
  A HOUSE WITHOUT AN ERROR IS VALID.
-/
import Derived.Test.YtpflfincedllgaaBunAD
import Derived.Test.YtpflfincedllgaaBunAB
import Derived.RangeFuncWrites
import Derived.RangeFuncLeaves
import Derived.TacticsInMore
import Derived.LoopIn
import Derived.Maps.RangeRun
import Derived.MapKept
import Derived.RangeFuncBox
import Derived.RangeFuncNested
import Derived.Shelf.Abstract
import Derived.Maps.AppendAt
import Derived.Maps.RangeWalk
import Derived.Test.YtpflfincedllgaaBunAC
import Derived.Test.YtpflfincedllgaaBunAG
namespace Go.Proofs.Ytpflfincedllgaa
set_option linter.unusedSimpArgs false
set_option linter.unusedVariables false
set_option linter.unusedVariables false

/-- silence, and so many sounds less one -/
def soundsTo (k : Nat) : List Int := (List.range k).map fun (j : Nat) => (j : Int) - 1
theorem soundsTo_succ (k : Nat) : soundsTo (k + 1) = soundsTo k ++ [(k : Int) - 1] := by simp [soundsTo, List.range_succ]
theorem mem_soundsTo {k : Nat} {n : Int} : n ∈ soundsTo k ↔ -1 ≤ n ∧ n < (k : Int) - 1 := by
  simp only [soundsTo, List.mem_map, List.mem_range]
  constructor
  · rintro ⟨j, hj, rfl⟩; omega
  · rintro ⟨h1, h2⟩; exact ⟨(n + 1).toNat, by omega, by omega⟩
def withS (s : List Int) (n : Int) : List Int := if n = -1 then s else s ++ [n]
/-- what some letters give behind a sound string, once for each way; K: the sounds and silence -/
def yields (K : Nat) : List Letter → List Int → List (List Int)
  | [], s => [s]
  | y :: ys, s => (soundsTo K).flatMap fun n => if givesM y n then yields K ys (withS s n) else []
def yieldsTo (K : Nat) (y : Letter) (ys : List Letter) (s : List Int) (k : Nat) : List (List Int) :=
  (soundsTo k).flatMap fun n => if givesM y n then yields K ys (withS s n) else []
theorem yields_cons (K : Nat) (y : Letter) (ys : List Letter) (s : List Int) : yields K (y :: ys) s = yieldsTo K y ys s K := rfl
theorem yieldsTo_zero (K : Nat) (y : Letter) (ys : List Letter) (s : List Int) : yieldsTo K y ys s 0 = [] := rfl
theorem yieldsTo_yes (K : Nat) (y : Letter) (ys : List Letter) (s : List Int) (k : Nat) (h : givesM y ((k : Int) - 1) = true) : yieldsTo K y ys s (k + 1) = yieldsTo K y ys s k ++ yields K ys (withS s ((k : Int) - 1)) := by
  simp [yieldsTo, soundsTo_succ, h]
theorem yieldsTo_no (K : Nat) (y : Letter) (ys : List Letter) (s : List Int) (k : Nat) (h : givesM y ((k : Int) - 1) = false) : yieldsTo K y ys s (k + 1) = yieldsTo K y ys s k := by
  simp [yieldsTo, soundsTo_succ, h]
/-- a string that some letters can be, letter by letter -/
inductive Can (K : Nat) : List Letter → List Int → List Int → Prop
  | nil (s : List Int) : Can K [] s s
  | cons (y : Letter) (ys : List Letter) (s t : List Int) (n : Int) (hn : n ∈ soundsTo K) (hg : givesM y n = true) (h : Can K ys (withS s n) t) : Can K (y :: ys) s t
theorem mem_yields {K : Nat} : ∀ {ls : List Letter} {s t : List Int}, t ∈ yields K ls s ↔ Can K ls s t
  | [], s, t => by
    simp only [yields, List.mem_singleton]
    constructor
    · rintro rfl; exact .nil _
    · rintro ⟨⟩; rfl
  | y :: ys, s, t => by
    simp only [yields, List.mem_flatMap]
    constructor
    · rintro ⟨n, hn, ht⟩
      split at ht
      · rename_i hg; exact .cons y ys s t n hn hg (mem_yields.1 ht)
      · cases ht
    · rintro h
      cases h with
      | cons _ _ _ _ n hn hg h => exact ⟨n, hn, by rw [if_pos hg]; exact mem_yields.2 h⟩
theorem Can.len {K : Nat} {ls : List Letter} {s t : List Int} (h : Can K ls s t) : t.length ≤ s.length + ls.length := by
  induction h with
  | nil s => simp
  | cons y ys s t n hn hg h ih =>
    have : (withS s n).length ≤ s.length + 1 := by unfold withS; split <;> simp
    simp only [List.length_cons]; omega
theorem Can.fine {K : Nat} {ls : List Letter} {s t : List Int} (h : Can K ls s t) (hs : ∀ x ∈ s, 0 ≤ x ∧ x < (K : Int) - 1) : ∀ x ∈ t, 0 ≤ x ∧ x < (K : Int) - 1 := by
  induction h with
  | nil s => exact hs
  | cons y ys s t n hn hg h ih =>
    refine ih fun x hx => ?_
    unfold withS at hx
    split at hx
    · exact hs x hx
    · rename_i h1
      have := mem_soundsTo.1 hn
      rcases List.mem_append.1 hx with hx | hx
      · exact hs x hx
      · simp at hx; subst hx; omega

/-- WHO CAN BE WHAT: each string with the bits of those who can be it -/
abbrev Tally := List (List Int × Nat)
def getT (k : List Int) : Tally → Option Nat
  | [] => none
  | p :: M => if p.1 = k then some p.2 else getT k M
def putT (k : List Int) (v : Nat) : Tally → Tally
  | [] => [(k, v)]
  | p :: M => if p.1 = k then (k, v) :: M else p :: putT k v M
def markT (bit : Nat) (M : Tally) (k : List Int) : Tally := putT k ((getT k M).getD 0 ||| bit) M
theorem getT_putT (k : List Int) (v : Nat) (k' : List Int) : ∀ M : Tally, getT k' (putT k v M) = if k' = k then some v else getT k' M
  | [] => by
    simp only [putT, getT]
    by_cases h : k = k'
    · rw [if_pos h, if_pos h.symm]
    · rw [if_neg h, if_neg (fun e => h e.symm)]
  | p :: M => by
    have ih := getT_putT k v k' M
    simp only [putT]
    by_cases hp : p.1 = k
    · rw [if_pos hp]
      simp only [getT]
      by_cases h : k = k'
      · rw [if_pos h, if_pos h.symm]
      · rw [if_neg h, if_neg (fun e => h e.symm), if_neg (by rw [hp]; exact h)]
    · rw [if_neg hp]
      simp only [getT]
      by_cases h : k' = k
      · rw [if_pos h, if_neg (by rw [h]; exact hp), ih, if_pos h]
      · rw [if_neg h, ih, if_neg h]
theorem keys_putT (k : List Int) (v : Nat) (k' : List Int) : ∀ M : Tally, k' ∈ (putT k v M).map (·.1) ↔ k' = k ∨ k' ∈ M.map (·.1)
  | [] => by simp [putT]
  | p :: M => by
    have ih := keys_putT k v k' M
    simp only [putT]
    by_cases hp : p.1 = k
    · rw [if_pos hp]; simp only [List.map_cons, List.mem_cons, hp]; constructor
      · rintro (h | h); exact .inl h; exact .inr (.inr h)
      · rintro (h | h | h); exact .inl h; exact .inl h; exact .inr h
    · rw [if_neg hp]; simp only [List.map_cons, List.mem_cons, ih]
      constructor
      · rintro (h | h | h); exact .inr (.inl h); exact .inl h; exact .inr (.inr h)
      · rintro (h | h | h); exact .inr (.inl h); exact .inl h; exact .inr (.inr h)
theorem nodup_putT (k : List Int) (v : Nat) : ∀ M : Tally, (M.map (·.1)).Nodup → ((putT k v M).map (·.1)).Nodup
  | [], _ => by simp [putT]
  | p :: M, h => by
    simp only [List.map_cons, List.nodup_cons] at h
    have ih := nodup_putT k v M h.2
    simp only [putT]
    by_cases hp : p.1 = k
    · rw [if_pos hp]; simp only [List.map_cons, List.nodup_cons]; exact ⟨by rw [← hp]; exact h.1, h.2⟩
    · rw [if_neg hp]; simp only [List.map_cons, List.nodup_cons]
      refine ⟨fun hm => ?_, ih⟩
      rcases (keys_putT k v p.1 M).1 hm with e | e
      · exact hp e
      · exact h.1 e
theorem getT_keys (k : List Int) : ∀ M : Tally, (getT k M).isSome = true ↔ k ∈ M.map (·.1)
  | [] => by simp [getT]
  | p :: M => by
    have ih := getT_keys k M
    simp only [getT, List.map_cons, List.mem_cons]
    by_cases hp : p.1 = k
    · simp [hp]
    · rw [if_neg hp, ih]; constructor
      · exact .inr
      · rintro (h | h); exact absurd h.symm hp; exact h
theorem getT_mem {k : List Int} {v : Nat} : ∀ {M : Tally}, getT k M = some v → (k, v) ∈ M
  | p :: M, h => by
    simp only [getT] at h
    split at h
    · rename_i hp; cases h; rw [← hp]; exact List.mem_cons_self
    · exact List.mem_cons_of_mem _ (getT_mem h)
theorem mem_getT {k : List Int} {v : Nat} : ∀ {M : Tally}, (M.map (·.1)).Nodup → (k, v) ∈ M → getT k M = some v
  | p :: M, hn, h => by
    simp only [List.map_cons, List.nodup_cons] at hn
    simp only [getT]
    rcases List.mem_cons.1 h with e | h
    · rw [← e]; simp
    · rw [if_neg]
      · exact mem_getT hn.2 h
      · intro e; exact hn.1 (by rw [e]; exact List.mem_map.2 ⟨_, h, rfl⟩)
theorem putT_len (k : List Int) (v : Nat) : ∀ M : Tally, (putT k v M).length ≤ M.length + 1
  | [] => by simp [putT]
  | p :: M => by
    have := putT_len k v M
    simp only [putT]
    split <;> simp <;> omega

/-- what is so of a tally as it grows -/
structure FineT (K : Nat) (M : Tally) : Prop where
  nodup : (M.map (·.1)).Nodup
  keys : ∀ p ∈ M, p.1.length ≤ 5 ∧ ∀ x ∈ p.1, 0 ≤ x ∧ x < (K : Int) - 1
  vals : ∀ p ∈ M, p.2 < 32
theorem FineT.nil (K : Nat) : FineT K [] := ⟨by simp, by simp, by simp⟩
theorem mem_putT {k : List Int} {v : Nat} {p : List Int × Nat} : ∀ {M : Tally}, p ∈ putT k v M → p = (k, v) ∨ p ∈ M
  | [], h => by simp [putT] at h; exact .inl h
  | q :: M, h => by
    simp only [putT] at h
    split at h
    · rcases List.mem_cons.1 h with e | h
      · exact .inl e
      · exact .inr (List.mem_cons_of_mem _ h)
    · rcases List.mem_cons.1 h with e | h
      · exact .inr (by rw [e]; exact List.mem_cons_self)
      · rcases mem_putT h with e | h
        · exact .inl e
        · exact .inr (List.mem_cons_of_mem _ h)
theorem FineT.get_lt {K : Nat} {M : Tally} (h : FineT K M) (k : List Int) : (getT k M).getD 0 < 32 := by
  cases hg : getT k M with
  | none => simp
  | some v => exact h.vals _ (getT_mem hg)
theorem or_lt {a n : Nat} (ha : a < 32) (hn : n < 5) : a ||| 2 ^ n < 32 := by
  have h2 : 2 ^ n < 2 ^ 5 := Nat.pow_lt_pow_right (by decide) hn
  exact Nat.or_lt_two_pow (n := 5) ha h2
theorem FineT.mark {K : Nat} {M : Tally} (h : FineT K M) {k : List Int} (hk : k.length ≤ 5 ∧ ∀ x ∈ k, 0 ≤ x ∧ x < (K : Int) - 1) {n : Nat} (hn : n < 5) : FineT K (markT (2 ^ n) M k) := by
  refine ⟨nodup_putT _ _ _ h.nodup, fun p hp => ?_, fun p hp => ?_⟩
  · rcases mem_putT hp with rfl | hp
    · exact hk
    · exact h.keys p hp
  · rcases mem_putT hp with rfl | hp
    · exact or_lt (h.get_lt k) hn
    · exact h.vals p hp

def lettersAt (b : Book) (n : Nat) : List Letter := match b.spellings[n]? with
  | none => []
  | some x => lettersM (lettersOf b.alphabets x.alphabet) x.text
def stringsOf (b : Book) (n : Nat) : List (List Int) := yields (b.sounds.toNat + 1) (lettersAt b n) []
def canFrom (b : Book) (M : Tally) (l : List Nat) : Tally := l.foldl (fun M n => (stringsOf b n).foldl (markT (2 ^ n)) M) M
def canM (b : Book) (l : List Nat) : Tally := canFrom b [] l
theorem foldl_mark_snoc (bit : Nat) (l : List (List Int)) (k : List Int) (M : Tally) : (l ++ [k]).foldl (markT bit) M = markT bit (l.foldl (markT bit) M) k := by simp
theorem canFrom_snoc (b : Book) (M : Tally) (l : List Nat) (n : Nat) : canFrom b M (l ++ [n]) = (stringsOf b n).foldl (markT (2 ^ n)) (canFrom b M l) := by simp [canFrom]
theorem fine_foldl {K n : Nat} (hn : n < 5) : ∀ (l : List (List Int)) (M : Tally), FineT K M → (∀ k ∈ l, k.length ≤ 5 ∧ ∀ x ∈ k, 0 ≤ x ∧ x < (K : Int) - 1) → FineT K (l.foldl (markT (2 ^ n)) M)
  | [], _, h, _ => h
  | k :: l, M, h, hl => fine_foldl hn l _ (h.mark (hl k List.mem_cons_self) hn) fun x hx => hl x (List.mem_cons_of_mem _ hx)
/-- the bit of a spelling behind some marks -/
theorem get_foldl (bit : Nat) (k : List Int) : ∀ (l : List (List Int)) (M : Tally), getT k (l.foldl (markT bit) M) = if k ∈ l then some ((getT k M).getD 0 ||| bit) else getT k M
  | [], _ => by simp
  | x :: l, M => by
    rw [List.foldl_cons, get_foldl bit k l]
    unfold markT
    simp only [getT_putT]
    by_cases hx : k = x
    · subst hx
      rw [if_pos rfl, if_pos List.mem_cons_self]
      split
      · simp [Nat.or_assoc]
      · rfl
    · simp [hx]
/-- WHO CAN BE A STRING, told by bits -/
theorem get_canFrom (b : Book) (k : List Int) : ∀ (l : List Nat) (M : Tally), getT k (canFrom b M l) = if (∃ n ∈ l, k ∈ stringsOf b n) then some (l.foldl (fun s n => if k ∈ stringsOf b n then s ||| 2 ^ n else s) ((getT k M).getD 0)) else getT k M
  | [], M => by simp [canFrom]
  | n :: l, M => by
    have ih := get_canFrom b k l ((stringsOf b n).foldl (markT (2 ^ n)) M)
    have e : canFrom b M (n :: l) = canFrom b ((stringsOf b n).foldl (markT (2 ^ n)) M) l := by simp [canFrom]
    rw [e, ih, get_foldl]
    by_cases h : k ∈ stringsOf b n
    · have hex : ∃ m ∈ n :: l, k ∈ stringsOf b m := ⟨n, List.mem_cons_self, h⟩
      rw [if_pos hex]
      simp only [List.foldl_cons, if_pos h, Option.getD_some]
      split
      · rfl
      · rename_i hno
        have : l.foldl (fun s m => if k ∈ stringsOf b m then s ||| 2 ^ m else s) ((getT k M).getD 0 ||| 2 ^ n) = (getT k M).getD 0 ||| 2 ^ n := by
          clear ih e hex
          generalize (getT k M).getD 0 ||| 2 ^ n = s
          induction l with
          | nil => rfl
          | cons m l ih2 =>
            rw [List.foldl_cons, if_neg (fun hm => hno ⟨m, List.mem_cons_self, hm⟩)]
            exact ih2 fun ⟨x, hx, hk⟩ => hno ⟨x, List.mem_cons_of_mem _ hx, hk⟩
        rw [this]
    · have hiff : (∃ m ∈ n :: l, k ∈ stringsOf b m) ↔ ∃ m ∈ l, k ∈ stringsOf b m := by
        constructor
        · rintro ⟨m, hm, hk⟩
          rcases List.mem_cons.1 hm with rfl | hm
          · exact absurd hk h
          · exact ⟨m, hm, hk⟩
        · rintro ⟨m, hm, hk⟩; exact ⟨m, List.mem_cons_of_mem _ hm, hk⟩
      simp only [hiff, if_neg h, List.foldl_cons]
theorem testBit_marks (p : Nat → Bool) (i : Nat) : ∀ (l : List Nat) (s : Nat), (l.foldl (fun s n => if p n then s ||| 2 ^ n else s) s).testBit i = (s.testBit i || l.any fun n => n == i && p n)
  | [], s => by simp
  | n :: l, s => by
    rw [List.foldl_cons, testBit_marks p i l]
    by_cases hp : p n = true
    · rw [if_pos hp]
      by_cases h : n = i
      · subst h; simp [Nat.testBit_or, Nat.testBit_two_pow_self, hp]
      · have h' : (n == i) = false := by simpa using h
        simp [Nat.testBit_or, Nat.testBit_two_pow_of_ne h, h']
    · simp only [Bool.not_eq_true] at hp
      simp [hp]
end Go.Proofs.Ytpflfincedllgaa

namespace Go.Proofs.Ytpflfincedllgaa
set_option linter.unusedSimpArgs false
set_option linter.unusedVariables false
open Go.RowKit

/-- all cells are as they were -/
def CK (w w' : World) : Prop := w.heap.size ≤ w'.heap.size ∧ ∀ p v, w.cell? p = some v → w'.cell? p = some v ∧ w'.frozen? p = w.frozen? p
theorem CK.refl (w : World) : CK w w := ⟨Nat.le_refl _, fun _ _ h => ⟨h, rfl⟩⟩
theorem CK.trans {a b c : World} (h : CK a b) (k : CK b c) : CK a c := ⟨Nat.le_trans h.1 k.1, fun p v hp => by
  obtain ⟨h1, h2⟩ := h.2 p v hp
  obtain ⟨k1, k2⟩ := k.2 p v h1
  exact ⟨k1, k2.trans h2⟩⟩
theorem Ext.ck {w w' : World} (h : Ext w w') : CK w w' := ⟨h.size, fun _ _ hp => ⟨h.cell hp, h.frozen (cell_lt hp)⟩⟩
theorem CK.cell {w w' : World} (h : CK w w') {p : Addr} {v : Value} (hc : w.cell? p = some v) : w'.cell? p = some v := (h.2 p v hc).1
theorem two_ck : Facts.Piv.Two Ext CK := ⟨fun _ _ h => h.ck, fun _ _ _ h k => h.trans k, fun _ _ _ h k => h.trans k, Ext.refl, fun a => ext_drew a⟩
theorem SliceAt.ck {α : Type} {sz : Nat} {R : World → Nat → Nat → α → Prop} (hR : ∀ w w' b o x, CK w w' → R w b o x → R w' b o x) {w w' : World} {v : Value} {l : List α} (h : SliceAt sz R w v l) (hx : CK w w') : SliceAt sz R w' v l := by
  obtain ⟨a, cap, h1, h2, h3, h4⟩ := h
  exact ⟨a, cap, h1, h2, h3, fun i hi => by obtain ⟨b, off, e, r⟩ := h4 i hi; exact ⟨b, off, e, hR _ _ _ _ _ hx r⟩⟩
theorem LettersAt.ck {w w' : World} {v : Value} {l : List Letter} (h : LettersAt w v l) (hx : CK w w') : LettersAt w' v l :=
  SliceAt.ck (fun _ _ _ _ _ hx h => ⟨hx.cell h.1, hx.cell h.2.1, hx.cell h.2.2.1, h.2.2.2⟩) h hx

theorem two_any : Facts.Piv.Two Ext (fun _ _ => True) := ⟨fun _ _ _ => trivial, fun _ _ _ h k => h.trans k, fun _ _ _ _ _ => trivial, Ext.refl, fun a => ext_drew a⟩
/-- a bool that says which of two facts is so -/
def Goes (G X : World → Prop) (b : Bool) (u : Value) (w : World) : Prop := (u = .bool b ∧ G w) ∨ (u = .bool (!b) ∧ X w)
theorem Goes.keeps {G X : World → Prop} {b : Bool} (hG : ∀ A B, Ext A B → G A → G B) (hX : ∀ A B, Ext A B → X A → X B) (u : Value) (w1 w2 : World) (h : Ext w1 w2) (hg : Goes G X b u w1) : Goes G X b u w2 := by
  rcases hg with ⟨e, g⟩ | ⟨e, g⟩
  · exact .inl ⟨e, hG _ _ h g⟩
  · exact .inr ⟨e, hX _ _ h g⟩
theorem Goes.nb {G X : World → Prop} {b : Bool} {u : Value} {w : World} (h : Goes G X b u w) (hn : ∀ x, u ≠ .bool x) : False := by
  rcases h with ⟨e, -⟩ | ⟨e, -⟩
  · exact hn _ e
  · exact hn _ e
theorem Goes.yes {G X : World → Prop} {b : Bool} {w : World} (h : Goes G X b (.bool b) w) : G w := by
  rcases h with ⟨-, g⟩ | ⟨e, -⟩
  · exact g
  · cases b <;> cases e
theorem Goes.no {G X : World → Prop} {b : Bool} {w : World} (h : Goes G X b (.bool (!b)) w) : X w := by
  rcases h with ⟨e, -⟩ | ⟨-, g⟩
  · cases b <;> cases e
  · exact g
theorem yieldsTo_mono (K : Nat) (y : Letter) (ys : List Letter) (s : List Int) (k m : Nat) (h : k ≤ m) : (yieldsTo K y ys s k).length ≤ (yieldsTo K y ys s m).length := by
  obtain ⟨d, rfl⟩ := Nat.exists_eq_add_of_le h
  clear h
  induction d with
  | zero => exact Nat.le_refl _
  | succ d ih =>
    rw [show k + (d + 1) = (k + d) + 1 from by omega]
    cases hg : givesM y (((k + d : Nat) : Int) - 1)
    · rw [yieldsTo_no K y ys s (k + d) hg]; exact ih
    · rw [yieldsTo_yes K y ys s (k + d) hg, List.length_append]; omega
/-- what is yielded keeps the cells; the body says whether it goes on -/
def Body (m l N : Nat) (S : Int) (J Jx : List (List Int) → World → Prop) : Prop :=
  ∀ pre x W1, x.length ≤ 5 → (∀ y ∈ x, 0 ≤ y ∧ y < S) → J pre W1 → pre.length < N → YieldAt Fence.wide m Try.prog l #[ssV x] W1 fun e W' => (e = .returned (.bool true) ∧ J (pre ++ [x]) W' ∧ CK W1 W') ∨ (e = .returned (.bool false) ∧ Jx (pre ++ [x]) W')

def GivePost (J Jx : List (List Int) → World → Prop) (all : List (List Int)) (W : World) (e : Ending) (W' : World) : Prop :=
  (e = .returned (.bool true) ∧ J all W' ∧ CK W W') ∨ (e = .returned (.bool false) ∧ ∃ pre, Jx pre W')

theorem good_with {s : List Int} {n S : Int} (h : ∀ y ∈ s, 0 ≤ y ∧ y < S) (hn : -1 ≤ n ∧ n < S) : ∀ y ∈ withS s n, 0 ≤ y ∧ y < S := by
  intro y hy
  unfold withS at hy
  split at hy
  · exact h y hy
  · rcases List.mem_append.1 hy with hy | hy
    · exact h y hy
    · simp at hy; subst hy; omega
end Go.Proofs.Ytpflfincedllgaa

namespace Go.Proofs.Ytpflfincedllgaa
set_option linter.unusedSimpArgs false
set_option linter.unusedVariables false
open Go.RowKit

theorem abides_ext {α : Type} {J : List α → World → Prop} {B : Nat} (h : AbidesFrom B J) : ∀ s X Y, Ext X Y → J s X → J s Y := fun s X Y hx hj => h s X Y none hj hx.grownBy (fun r e => by cases e)

/-- the sound strings that a book's letters can give -/
abbrev SoundsS (S : Int) := { x : List Int // x.length ≤ 5 ∧ ∀ y ∈ x, 0 ≤ y ∧ y < S }
theorem lettersAt_eq (b : Book) (n : Nat) (hn : n < b.spellings.length) : lettersAt b n = lettersM (lettersOf b.alphabets (b.spellings[n]).alphabet) (b.spellings[n]).text := by
  unfold lettersAt
  rw [List.getElem?_eq_getElem hn]
theorem lettersAt_fine {b : Book} (hv : Valid b) (n : Nat) (hn : n < b.spellings.length) : (lettersAt b n).length ≤ 5 ∧ ∀ x ∈ lettersAt b n, FineL x := by
  rw [lettersAt_eq b n hn]
  have hs := hv.sp n hn
  refine ⟨by rw [lettersM, lettersTo_len]; exact hs.t.2, fun x hx => ?_⟩
  refine lettersTo_all FineL _ _ _ (fun y hy => ?_) (by simp [FineL]) x hx
  have h1 : (b.spellings[n]).alphabet.toNat < b.alphabets.length := by have := hs.a; omega
  rw [lettersOf, List.getElem?_eq_getElem h1] at hy
  exact hv.fine _ h1 y hy
end Go.Proofs.Ytpflfincedllgaa

namespace Go.Proofs.Ytpflfincedllgaa
set_option linter.unusedSimpArgs false
set_option linter.unusedVariables false
set_option linter.unusedVariables false
set_option linter.unusedSimpArgs false
open Go.RowKit
open Go.ChangeMaps (setBlock)

theorem ssV_inj {l m : List Int} (hl : l.length ≤ 5) (hm : m.length ≤ 5) (h : ssV l = ssV m) : l = m := by
  unfold ssV ssRaw at h
  simp only [Value.agg.injEq, Array.mk.injEq, List.cons.injEq, Value.int.injEq, true_and, and_true] at h
  obtain ⟨h0, h1, h2, h3, h4, h5⟩ := h
  have hlen : l.length = m.length := by omega
  refine List.ext_getElem hlen fun i hi hi' => ?_
  have e : ∀ (l : List Int) (j : Nat) (hj : j < l.length), l.getD j 0 = l[j] := fun l j hj => by simp [List.getD_eq_getElem?_getD, hj]
  have h5 : i = 0 ∨ i = 1 ∨ i = 2 ∨ i = 3 ∨ i = 4 := by omega
  rcases h5 with rfl | rfl | rfl | rfl | rfl
  · rw [← e l _ hi, ← e m _ hi']; assumption
  · rw [← e l _ hi, ← e m _ hi']; assumption
  · rw [← e l _ hi, ← e m _ hi']; assumption
  · rw [← e l _ hi, ← e m _ hi']; assumption
  · rw [← e l _ hi, ← e m _ hi']; assumption

def entries (M : Tally) : List (Value × Value) := M.map fun p => (ssV p.1, .int .i64 (p.2 : Nat))
structure EntriesAre (es : Array MapEntry) (M : Tally) : Prop where
  pairs : es.toList.map (fun e => (e.key, e.val)) = entries M
  born : es.toList.map (·.born) = List.range M.length
theorem EntriesAre.size {es : Array MapEntry} {M : Tally} (h : EntriesAre es M) : es.size = M.length := by
  have := congrArg List.length h.pairs
  simpa [entries] using this
/-- the map in block B is this one -/
def MapIs (w : World) (B : Nat) (M : Tally) : Prop := ∃ es, w.heap[B]? = some (.map es M.length) ∧ EntriesAre es M
theorem MapIs.nil (w : World) : MapIs (w.alloc (.map #[] 0)) w.heap.size [] := ⟨#[], World.alloc_heap_new w _, ⟨rfl, rfl⟩⟩
theorem MapIs.lt {w : World} {B : Nat} {M : Tally} (h : MapIs w B M) : B < w.heap.size := by
  obtain ⟨es, hb, -⟩ := h; exact (Array.getElem?_eq_some_iff.1 hb).1
theorem MapIs.kept {w w' : World} {B : Nat} {M : Tally} (h : MapIs w B M) (e : w'.heap[B]? = w.heap[B]?) : MapIs w' B M := by
  obtain ⟨es, hb, h1⟩ := h; exact ⟨es, e.trans hb, h1⟩

/-- where a string stands, and what with -/
def findT (k : List Int) : Tally → Nat → Option (Nat × Nat)
  | [], _ => none
  | p :: M, i => if p.1 = k then some (i, p.2) else findT k M (i + 1)
theorem findT_get (k : List Int) : ∀ (M : Tally) (i : Nat), (findT k M i).map (·.2) = getT k M
  | [], _ => rfl
  | p :: M, i => by
    simp only [findT, getT]
    split
    · rfl
    · exact findT_get k M (i + 1)
theorem findT_put (k : List Int) (v : Nat) : ∀ (M : Tally) (i j : Nat) (u : Nat), findT k M i = some (j, u) → i ≤ j ∧ ∃ hj : j - i < M.length, (M[j - i]).1 = k ∧ putT k v M = M.set (j - i) (k, v)
  | p :: M, i, j, u, h => by
    simp only [findT] at h
    split at h
    · rename_i hp
      cases h
      exact ⟨Nat.le_refl _, by simp, by simpa using hp, by simp [putT, hp]⟩
    · rename_i hp
      obtain ⟨h1, h2, h3, h4⟩ := findT_put k v M (i + 1) j u h
      have e : j - i = (j - (i + 1)) + 1 := by omega
      refine ⟨by omega, by simp; omega, ?_, ?_⟩
      · simp only [e, List.getElem_cons_succ]; exact h3
      · simp only [e, List.set_cons_succ, putT, if_neg hp, h4]
theorem findT_none (k : List Int) (v : Nat) : ∀ (M : Tally) (i : Nat), findT k M i = none → putT k v M = M ++ [(k, v)]
  | [], _, _ => rfl
  | p :: M, i, h => by
    simp only [findT] at h
    split at h
    · cases h
    · rename_i hp
      simp only [putT, if_neg hp, List.cons_append, findT_none k v M (i + 1) h]

theorem run_stays_ss (k : List Int) (w : World) : (Instr.keyThatStays (ssV k) (ssV k)).run Try.prog w = .ok (ssV k) w := by
  have : Instr.sameBits 10000 (ssV k) (ssV k) = true := by
    unfold ssV ssRaw
    simp [Instr.sameBits]
  simp [Instr.keyThatStays, this, Sem.run]

/-- the entry of a string, made where there is none -/
def entM (k : List Int) (M : Tally) : Tally := match findT k M 0 with
  | some _ => M
  | none => M ++ [(k, 0)]
def entE (k : List Int) (M : Tally) (es : Array MapEntry) : Array MapEntry := match findT k M 0 with
  | some _ => es
  | none => es.push { key := ssV k, val := .int .i64 0, born := M.length }
def posT (k : List Int) (M : Tally) : Nat := match findT k M 0 with
  | some (j, _) => j
  | none => M.length
def stoE (k : List Int) (M : Tally) (v : Nat) (es : Array MapEntry) : Array MapEntry := (entE k M es).modify (posT k M) fun e => { e with val := .int .i64 (v : Nat) }
theorem findT_at (k : List Int) (M : Tally) (j u : Nat) (h : findT k M 0 = some (j, u)) : ∃ hj : j < M.length, M[j] = (k, u) := by
  have key : ∀ (M : Tally) (i : Nat), findT k M i = some (j, u) → i ≤ j ∧ ∃ hj : j - i < M.length, M[j - i] = (k, u) := by
    intro M
    induction M with
    | nil => intro i h; simp [findT] at h
    | cons p M ih =>
      intro i h
      simp only [findT] at h
      split at h
      · rename_i hp
        cases h
        refine ⟨Nat.le_refl _, by simp, ?_⟩
        simp only [Nat.sub_self, List.getElem_cons_zero, ← hp]
      · obtain ⟨h1, h2, h3⟩ := ih (i + 1) h
        have e : j - i = (j - (i + 1)) + 1 := by omega
        refine ⟨by omega, by simp; omega, ?_⟩
        simp only [e, List.getElem_cons_succ]; exact h3
  obtain ⟨-, h2, h3⟩ := key M 0 h
  exact ⟨by simpa using h2, by simpa using h3⟩
theorem EntriesAre.at {es : Array MapEntry} {M : Tally} (h : EntriesAre es M) (j : Nat) (hj : j < M.length) : ∃ hj' : j < es.size, es[j] = { key := ssV (M[j]).1, val := .int .i64 ((M[j]).2 : Nat), born := j } := by
  have hj' : j < es.size := by rw [h.size]; exact hj
  refine ⟨hj', ?_⟩
  have h1 := congrArg (fun l => l[j]?) h.pairs
  have h2 := congrArg (fun l => l[j]?) h.born
  simp only [List.getElem?_map, entries, List.getElem?_eq_getElem hj, List.getElem?_range hj, Option.map_some] at h1 h2
  rw [Array.getElem?_toList, Array.getElem?_eq_getElem hj'] at h1 h2
  simp only [Option.map_some, Option.some.injEq, Prod.mk.injEq] at h1 h2
  cases he : es[j] with
  | mk a b c => rw [he] at h1 h2; simp at h1 h2; simp [h1, h2]
theorem entM_len (k : List Int) (M : Tally) : (entM k M).length = if (findT k M 0).isSome then M.length else M.length + 1 := by
  unfold entM
  cases findT k M 0 <;> simp
theorem EntriesAre.ent {es : Array MapEntry} {M : Tally} (h : EntriesAre es M) (k : List Int) : EntriesAre (entE k M es) (entM k M) := by
  unfold entE entM
  cases findT k M 0 with
  | some q => exact h
  | none => exact ⟨by simp [h.pairs, entries], by simp [h.born, List.range_succ]⟩
theorem posT_lt (k : List Int) (M : Tally) : posT k M < (entM k M).length := by
  unfold posT entM
  cases hq : findT k M 0 with
  | none => simp
  | some q => obtain ⟨j, u⟩ := q; obtain ⟨hj, -⟩ := findT_at k M j u hq; exact hj
theorem entM_at (k : List Int) (M : Tally) (h : posT k M < (entM k M).length) : (entM k M)[posT k M] = (k, (getT k M).getD 0) := by
  have hg := findT_get k M 0
  revert h
  unfold posT entM
  cases hq : findT k M 0 with
  | none => intro h; rw [hq] at hg; simp [← hg]
  | some q =>
    obtain ⟨j, u⟩ := q
    intro h
    obtain ⟨hj, e⟩ := findT_at k M j u hq
    rw [hq] at hg
    simp only [← hg, Option.map_some, Option.getD_some]
    exact e
theorem putT_entM (k : List Int) (v : Nat) (M : Tally) : putT k v M = (entM k M).set (posT k M) (k, v) := by
  unfold posT entM
  cases hq : findT k M 0 with
  | none => rw [findT_none k v M 0 hq]; simp
  | some q => obtain ⟨j, u⟩ := q; obtain ⟨-, -, -, e⟩ := findT_put k v M 0 j u hq; simpa using e
theorem EntriesAre.sto {es : Array MapEntry} {M : Tally} (h : EntriesAre es M) (k : List Int) (v : Nat) : EntriesAre (stoE k M v es) (putT k v M) := by
  have h1 := h.ent k
  have hp := posT_lt k M
  obtain ⟨hj, hat⟩ := h1.at _ hp
  rw [entM_at k M hp] at hat
  rw [putT_entM]
  unfold stoE
  generalize entE k M es = fs at *
  generalize posT k M = j at *
  generalize entM k M = L at *
  refine ⟨?_, ?_⟩
  · refine List.ext_getElem? fun i => ?_
    have hi := congrArg (fun l => l[i]?) h1.pairs
    simp only [entries, List.getElem?_map, Array.getElem?_toList, Array.getElem?_modify, List.getElem?_set] at hi ⊢
    by_cases e : j = i
    · subst e
      simp only [if_true, hp, Array.getElem?_eq_getElem hj, hat, Option.map_some]
    · simp only [if_neg e]
      exact hi
  · rw [List.length_set, ← h1.born]
    refine List.ext_getElem? fun i => ?_
    simp only [List.getElem?_map, Array.getElem?_toList, Array.getElem?_modify]
    by_cases e : j = i
    · subst e; simp [Array.getElem?_eq_getElem hj]
    · simp only [if_neg e]
theorem entM_twice (k : List Int) (M : Tally) : (findT k (entM k M) 0).isSome = true ∧ posT k (entM k M) = posT k M ∧ getT k (entM k M) = some ((getT k M).getD 0) := by
  have hg := findT_get k M 0
  have app : ∀ (M : Tally) (i : Nat), findT k M i = none → findT k (M ++ [(k, 0)]) i = some (i + M.length, 0) := by
    intro M
    induction M with
    | nil => intro i _; simp [findT]
    | cons p M ih =>
      intro i h
      simp only [findT] at h
      split at h
      · cases h
      · rename_i hp
        simp only [List.cons_append, findT, if_neg hp, ih (i + 1) h, List.length_cons]
        congr 2; omega
  unfold posT
  cases hq : findT k M 0 with
  | none =>
    rw [hq] at hg
    have e : entM k M = M ++ [(k, 0)] := by unfold entM; rw [hq]
    have ha := app M 0 hq
    have hg2 := findT_get k (M ++ [(k, 0)]) 0
    rw [ha] at hg2
    rw [e, ha]
    refine ⟨rfl, by simp, ?_⟩
    rw [← hg2, ← hg]; rfl
  | some q =>
    rw [hq] at hg
    have e : entM k M = M := by unfold entM; rw [hq]
    rw [e, hq]
    exact ⟨rfl, rfl, by rw [← hg]; rfl⟩
theorem find_born (es : Array MapEntry) (M : Tally) (h : EntriesAre es M) (j : Nat) (hj : j < M.length) : es.findIdx? (fun e => (e.born : Int) == (j : Int)) = some j := by
  rw [Array.findIdx?_eq_some_iff_getElem]
  obtain ⟨hj', hat⟩ := h.at j hj
  refine ⟨hj', by simp [hat], fun i hi => ?_⟩
  obtain ⟨hi', hat'⟩ := h.at i (by omega)
  simp only [hat', beq_iff_eq, Int.natCast_inj]
  omega
end Go.Proofs.Ytpflfincedllgaa

namespace Go.Proofs.Ytpflfincedllgaa
set_option linter.unusedSimpArgs false
set_option linter.unusedVariables false
set_option linter.unusedVariables false
open Go.RowKit
open Go.ChangeMaps (setBlock)

theorem leaves_marks {F : Fence} {n : Nat} {P : Program} {fn : Func} {tmps : Array Value} {R : Ending → World → Prop} (n0 : Nat) (Pw : World → Prop) (hP : ∀ W D, n0 ≤ D → Pw W → W.heap[D]? = some (.deferred (some [])) → Pw (W.putObj D (.deferred none)))
    (hend : ∀ W, Pw W → LeavesInM F n P fn tmps R [] .returning W) : ∀ (Ds : List Nat) (W : World), Ds.Nodup → (∀ D ∈ Ds, n0 ≤ D ∧ W.heap[D]? = some (.deferred (some []))) → Pw W →
      LeavesInM F n P fn tmps R (Ds.map fun D => { target := .collected D, args := #[] }) .returning W
  | [], W, _, _, h => hend W h
  | D :: Ds, W, hn, hd, h => by
    obtain ⟨h1, h2⟩ := hd D List.mem_cons_self
    rw [List.nodup_cons] at hn
    refine ⟨by simp, .inl ⟨D, _, rfl, run_takeDeferred h2, ?_⟩⟩
    refine leaves_marks n0 Pw hP hend Ds _ hn.2 (fun E hE => ?_) (hP _ _ h1 h h2)
    obtain ⟨h3, h4⟩ := hd E (List.mem_cons_of_mem _ hE)
    exact ⟨h3, (World.putObj_heap_other (fun e => hn.1 (by first | (rw [e]; exact hE) | (rw [← e]; exact hE)))).trans h4⟩

/-- what is so of the world behind some rounds: the cells that were there when it began, the map, the marks -/
structure Told (n0 : Nat) (w0 W5 : World) (B : Nat) (M : Tally) (Ds : List Nat) (W : World) : Prop where
  ck : CK W5 W
  ext : Ext w0 W
  map : MapIs W B M
  marks : ∀ D ∈ Ds, n0 ≤ D ∧ D < W5.heap.size ∧ W.heap[D]? = some (.deferred (some []))
theorem CK.grownBy {a w w' : World} {row : Option Nat} (h : CK a w) (hg : w.grownBy w' row) (hr : ∀ r, row = some r → ∃ o : Obj, w.heap[r]? = some o ∧ o.isCells = false) : CK a w' :=
  h.trans ⟨hg.size, fun p v hp => ⟨cell_kept hp hg hr, frozen_kept hp hg hr⟩⟩
theorem Told.kept {n0 : Nat} {w0 W5 : World} {B : Nat} {M : Tally} {Ds : List Nat} {W W' : World} (h : Told n0 w0 W5 B M Ds W) (hB : B < W5.heap.size) (hw : w0.heap.size ≤ W5.heap.size) {row : Option Nat} (hg : W.grownBy W' row) (hr : ∀ r, row = some r → W5.heap.size ≤ r ∧ ∃ o : Obj, W.heap[r]? = some o ∧ o.isCells = false) : Told n0 w0 W5 B M Ds W' := by
  have hs := h.ck.1
  refine ⟨h.ck.grownBy hg (fun r e => (hr r e).2), h.ext.grown hg (fun r e => Nat.le_trans hw (hr r e).1), h.map.kept (hg.block B (by omega) (fun e => by have := (hr B e.symm).1; omega)), fun D hD => ?_⟩
  obtain ⟨h1, h2, h3⟩ := h.marks D hD
  exact ⟨h1, h2, (hg.block D (by omega) (fun e => by have := (hr D e.symm).1; omega)).trans h3⟩

/-- the map's block is as it was, or the entry has been taken; nothing else has turned -/
structure Turn (B : Nat) (O0 O1 : Obj) (a b : World) : Prop where
  g : a.grownBy b (some B)
  s : b.heap.size = a.heap.size
  o : b.heap[B]? = a.heap[B]? ∨ (a.heap[B]? = some O0 ∧ b.heap[B]? = some O1)
theorem two_turn (B : Nat) (O0 O1 : Obj) : Facts.Piv.Two (Turn B O0 O1) (fun _ _ => True) :=
  ⟨fun _ _ _ => trivial, fun a b c h k => ⟨h.g.trans k.g, k.s.trans h.s, by
    rcases k.o with k1 | ⟨k1, k2⟩
    · rcases h.o with h1 | ⟨h1, h2⟩
      · exact .inl (k1.trans h1)
      · exact .inr ⟨h1, k1.trans h2⟩
    · rcases h.o with h1 | ⟨h1, h2⟩
      · exact .inr ⟨h1.symm.trans k1, k2⟩
      · exact .inr ⟨h1, k2⟩⟩, fun _ _ _ _ _ => trivial, fun _ => ⟨⟨rfl, rfl, rfl, Nat.le_refl _, fun _ _ _ => rfl⟩, rfl, .inl rfl⟩, fun _ => ⟨⟨rfl, rfl, rfl, Nat.le_refl _, fun _ _ _ => rfl⟩, rfl, .inl rfl⟩⟩
theorem Turn.refl (B : Nat) (O0 O1 : Obj) (a : World) : Turn B O0 O1 a a := (two_turn B O0 O1).r a
theorem Turn.either {B : Nat} {O0 O1 : Obj} {a b : World} (h : Turn B O0 O1 a b) (ha : a.heap[B]? = some O0) : b.heap[B]? = some O0 ∨ b.heap[B]? = some O1 := by
  rcases h.o with h1 | ⟨h1, h2⟩
  · exact .inl (h1.trans ha)
  · exact .inr h2
theorem Turn.one {B : Nat} {O0 O1 : Obj} {a b : World} (h : Turn B O0 O1 a b) (ha : a.heap[B]? = some O1) : b.heap[B]? = some O1 := by
  rcases h.o with h1 | ⟨h1, h2⟩
  · exact h1.trans ha
  · exact h2
theorem ent_same {k : List Int} {M : Tally} {es : Array MapEntry} (h : (findT k M 0).isSome = true) : entM k M = M ∧ entE k M es = es := by
  unfold entM entE
  cases hq : findT k M 0 with
  | none => rw [hq] at h; cases h
  | some q => exact ⟨rfl, rfl⟩
def obj0 (es : Array MapEntry) (M : Tally) : Obj := .map es M.length
def obj1 (k : List Int) (es : Array MapEntry) (M : Tally) : Obj := .map (entE k M es) (entM k M).length
def obj2 (k : List Int) (v : Nat) (es : Array MapEntry) (M : Tally) : Obj := .map (stoE k M v es) (putT k v M).length
theorem Turn.two {B : Nat} {k : List Int} {v : Nat} {es : Array MapEntry} {M : Tally} {a b : World} (h : Turn B (obj0 es M) (obj1 k es M) a b) (ha : a.heap[B]? = some (obj2 k v es M)) : b.heap[B]? = some (obj2 k v es M) := by
  rcases h.o with h1 | ⟨h1, h2⟩
  · exact h1.trans ha
  · rw [ha] at h1
    have e := Option.some.inj h1
    have hl : (putT k v M).length = M.length := by unfold obj0 obj2 at e; exact (Obj.map.inj e).2
    have hs : (findT k M 0).isSome = true := by
      rw [putT_entM, List.length_set, entM_len] at hl
      by_cases hf : (findT k M 0).isSome = true
      · exact hf
      · rw [if_neg hf] at hl; omega
    obtain ⟨e1, e2⟩ := ent_same (es := es) hs
    have e3 : obj1 k es M = obj0 es M := by unfold obj1 obj0; rw [e1, e2]
    rw [h2, e3, ← e]
theorem obj_last {k : List Int} {v : Nat} {es : Array MapEntry} {M : Tally} (h : obj0 es M = obj2 k v es M) : obj1 k es M = obj2 k v es M := by
  have hl : (putT k v M).length = M.length := by unfold obj0 obj2 at h; exact (Obj.map.inj h).2.symm
  have hs : (findT k M 0).isSome = true := by
    rw [putT_entM, List.length_set, entM_len] at hl
    by_cases hf : (findT k M 0).isSome = true
    · exact hf
    · rw [if_neg hf] at hl; omega
  obtain ⟨e1, e2⟩ := ent_same (es := es) hs
  have e3 : obj1 k es M = obj0 es M := by unfold obj1 obj0; rw [e1, e2]
  rw [e3, h]
/-- .. or the entry has been written -/
structure Turn2 (B : Nat) (O0 O1 O2 : Obj) (a b : World) : Prop where
  g : a.grownBy b (some B)
  s : b.heap.size = a.heap.size
  o : b.heap[B]? = a.heap[B]? ∨ (a.heap[B]? = some O0 ∧ b.heap[B]? = some O1) ∨ b.heap[B]? = some O2
theorem two_turn2 (B : Nat) (O0 O1 O2 : Obj) (hO : O0 = O2 → O1 = O2) : Facts.Piv.Two (Turn B O0 O1) (Turn2 B O0 O1 O2) :=
  ⟨fun _ _ h => ⟨h.g, h.s, by rcases h.o with h1 | h1; exact .inl h1; exact .inr (.inl h1)⟩, (two_turn B O0 O1).te, fun a b c h k => ⟨h.g.trans k.g, k.s.trans h.s, by
    rcases k.o with k1 | ⟨k1, k2⟩ | k1
    · rcases h.o with h1 | ⟨h1, h2⟩ | h1
      · exact .inl (k1.trans h1)
      · exact .inr (.inl ⟨h1, k1.trans h2⟩)
      · exact .inr (.inr (k1.trans h1))
    · rcases h.o with h1 | ⟨h1, h2⟩ | h1
      · exact .inr (.inl ⟨h1.symm.trans k1, k2⟩)
      · exact .inr (.inl ⟨h1, k2⟩)
      · refine .inr (.inr ?_)
        rw [h1] at k1
        rw [k2, hO (Option.some.inj k1).symm]
    · exact .inr (.inr k1)⟩, (two_turn B O0 O1).r, (two_turn B O0 O1).d⟩
/-- the entry that has been taken, and the written one -/
def Taken (B : Nat) (O1 O2 : Obj) (x : Value) (u : Value) (w : World) : Prop := u = x ∧ (w.heap[B]? = some O1 ∨ w.heap[B]? = some O2)
def Written (B : Nat) (O2 : Obj) (W : World) (_ : Value) (w : World) : Prop := W.grownBy w (some B) ∧ w.heap.size = W.heap.size ∧ w.heap[B]? = some O2
def IsVal (x : Value) (u : Value) (_ : World) : Prop := u = x
theorem Taken.e {B : Nat} {k : List Int} {v : Nat} {es : Array MapEntry} {M : Tally} {x u : Value} {a b : World} (h : Turn B (obj0 es M) (obj1 k es M) a b) (ht : Taken B (obj1 k es M) (obj2 k v es M) x u a) : Taken B (obj1 k es M) (obj2 k v es M) x u b := by
  obtain ⟨e, h1 | h1⟩ := ht
  · exact ⟨e, .inl (h.one h1)⟩
  · exact ⟨e, .inr (h.two h1)⟩
theorem Taken.c {B : Nat} {O0 O1 O2 : Obj} {x u : Value} {a b : World} (h : Turn2 B O0 O1 O2 a b) (ht : Taken B O1 O2 x u a) : Taken B O1 O2 x u b := by
  obtain ⟨e, ht⟩ := ht
  refine ⟨e, ?_⟩
  rcases h.o with h1 | ⟨-, h1⟩ | h1
  · rw [h1]; exact ht
  · exact .inl h1
  · exact .inr h1
theorem Taken.now {B : Nat} {k : List Int} {v : Nat} {es : Array MapEntry} {M : Tally} {x u : Value} {a b : World} (h : Turn B (obj0 es M) (obj1 k es M) a b) (ha : a.heap[B]? = some (obj0 es M)) (ht : Taken B (obj1 k es M) (obj2 k v es M) x u b) : b.heap[B]? = some (obj1 k es M) := by
  obtain ⟨-, h1 | h1⟩ := ht
  · exact h1
  · rcases h.either ha with h2 | h2
    · rw [h1] at h2
      rw [h1, obj_last (Option.some.inj h2).symm]
    · exact h2
theorem Written.e {B : Nat} {k : List Int} {v : Nat} {es : Array MapEntry} {M : Tally} {W : World} {u : Value} {a b : World} (h : Turn B (obj0 es M) (obj1 k es M) a b) (ht : Written B (obj2 k v es M) W u a) : Written B (obj2 k v es M) W u b :=
  ⟨ht.1.trans h.g, h.s.trans ht.2.1, h.two ht.2.2⟩
theorem Turn.ck {B : Nat} {O0 O1 : Obj} {a b : World} {es : Array MapEntry} {c : Nat} (h : Turn B O0 O1 a b) (ha : a.heap[B]? = some (.map es c)) : CK a b :=
  (CK.refl a).grownBy h.g (fun r e => by cases e; exact ⟨_, ha, rfl⟩)
section
variable {w1 : World} {B : Nat} {M : Tally} {es : Array MapEntry} {k : List Int}
theorem ent_keys (hk : k.length ≤ 5) (hM : ∀ p ∈ M, p.1.length ≤ 5) : ∀ p ∈ entM k M, p.1.length ≤ 5 := by
  intro p hp
  unfold entM at hp
  cases hq : findT k M 0 with
  | none =>
    rw [hq] at hp
    rcases List.mem_append.1 hp with h | h
    · exact hM p h
    · simp at h; subst h; exact hk
  | some q => rw [hq] at hp; exact hM p hp
end
end Go.Proofs.Ytpflfincedllgaa

namespace Go.Proofs.Ytpflfincedllgaa
set_option linter.unusedSimpArgs false
set_option linter.unusedVariables false
open Go.RowKit
open Go.ChangeMaps (setBlock)
set_option linter.unusedVariables false
attribute [local go_sem] Oper.semAt_some

def marksOf (Ds : List Nat) : List Deferred := Ds.map fun D => { target := .collected D, args := #[] }

/-- a sound string's six cells -/
structure SSAt (W : World) (u : Nat) (x : List Int) : Prop where
  c0 : W.cell? ⟨u, 0, none⟩ = some (.int .i64 x.length)
  c1 : W.cell? ⟨u, 1, none⟩ = some (.int .i64 (x.getD 0 0))
  c2 : W.cell? ⟨u, 2, none⟩ = some (.int .i64 (x.getD 1 0))
  c3 : W.cell? ⟨u, 3, none⟩ = some (.int .i64 (x.getD 2 0))
  c4 : W.cell? ⟨u, 4, none⟩ = some (.int .i64 (x.getD 3 0))
  c5 : W.cell? ⟨u, 5, none⟩ = some (.int .i64 (x.getD 4 0))
theorem SSAt.ck {W W' : World} {u : Nat} {x : List Int} (h : SSAt W u x) (hx : CK W W') : SSAt W' u x :=
  ⟨hx.cell h.c0, hx.cell h.c1, hx.cell h.c2, hx.cell h.c3, hx.cell h.c4, hx.cell h.c5⟩
theorem SSAt.new (W : World) (x : List Int) (t : TypeId) : SSAt (W.alloc (.cells #[.int .i64 x.length, .int .i64 (x.getD 0 0), .int .i64 (x.getD 1 0), .int .i64 (x.getD 2 0), .int .i64 (x.getD 3 0), .int .i64 (x.getD 4 0)] t)) W.heap.size x :=
  ⟨by simp [go_sem], by simp [go_sem], by simp [go_sem], by simp [go_sem], by simp [go_sem], by simp [go_sem]⟩

theorem shl_small : ∀ n : Fin 5, IntKind.i64.wrap (2 ^ n.1) = ((2 ^ n.1 : Nat) : Int) := by decide +kernel
theorem stringsOf_fine {b : Book} (hv : Valid b) (n : Nat) (hn : n < b.spellings.length) : ∀ k ∈ stringsOf b n, k.length ≤ 5 ∧ ∀ x ∈ k, 0 ≤ x ∧ x < ((b.sounds.toNat + 1 : Nat) : Int) - 1 := by
  intro k hk
  have hc := mem_yields.1 hk
  have hf := (lettersAt_fine hv n hn).1
  refine ⟨by have := hc.len; simp at this; omega, hc.fine (by simp)⟩
theorem canM_fine {b : Book} (hv : Valid b) : ∀ (l : List Nat) (M : Tally), (∀ n ∈ l, n < b.spellings.length) → FineT (b.sounds.toNat + 1) M → FineT (b.sounds.toNat + 1) (canFrom b M l)
  | [], _, _, h => h
  | n :: l, M, hl, h => by
    have hn := hl n List.mem_cons_self
    have e : canFrom b M (n :: l) = canFrom b ((stringsOf b n).foldl (markT (2 ^ n)) M) l := by simp [canFrom]
    rw [e]
    exact canM_fine hv l _ (fun m hm => hl m (List.mem_cons_of_mem _ hm)) (fine_foldl (by have := hv.n; omega) _ _ h (stringsOf_fine hv n hn))
end Go.Proofs.Ytpflfincedllgaa

namespace Go.Proofs.Ytpflfincedllgaa
set_option linter.unusedSimpArgs false
set_option linter.unusedVariables false
set_option linter.unusedVariables false
set_option linter.unusedSimpArgs false
open Go.RowKit
open Go.ChangeMaps (setBlock)

/-- the iterator in block r has handed out the entries with these numbers -/
def IterAt (w : World) (r B : Nat) (m : Nat) (seen : Array Nat) : Prop := w.heap[r]? = some (.mapIter (some B) m seen m)
/-- how many entries of m are still to come -/
def leftN (m : Nat) (seen : Array Nat) : Nat := ((List.range m).filter fun i => !seen.contains i).length
def leftW (m r : Nat) (w : World) : Nat := match w.heap[r]? with
  | some (.mapIter _ _ seen _) => leftN m seen
  | _ => 0
theorem leftW_eq {w : World} {r B m : Nat} {seen : Array Nat} (h : IterAt w r B m seen) : leftW m r w = leftN m seen := by
  unfold leftW; rw [h]
theorem filter_lt {α : Type} (p q : α → Bool) (x : α) (hq : ∀ y, q y = true → p y = true) (h1 : p x = true) (h2 : q x = false) : ∀ l : List α, x ∈ l → (l.filter q).length < (l.filter p).length
  | [], h => by cases h
  | y :: l, h => by
    have hle : ∀ l : List α, (l.filter q).length ≤ (l.filter p).length := by
      intro l
      induction l with
      | nil => exact Nat.le_refl _
      | cons z l ih =>
        cases hz : q z
        · cases hp : p z <;> simp [hz, hp] <;> omega
        · simp [hz, hq z hz]; omega
    rcases List.mem_cons.1 h with e | h
    · subst e
      have := hle l
      simp [h1, h2]; omega
    · have ih := filter_lt p q x hq h1 h2 l h
      cases hz : q y
      · cases hp : p y <;> simp [hz, hp] <;> omega
      · simp [hz, hq y hz]; omega
theorem leftN_push {m i : Nat} {seen : Array Nat} (hi : i < m) (h : seen.contains i = false) : leftN m (seen.push i) < leftN m seen := by
  refine filter_lt _ _ i (fun y hy => ?_) (by rw [h]; rfl) (by simp [Array.contains_push]) _ (by simpa using hi)
  simp only [Bool.not_eq_true', Array.contains_push, Bool.or_eq_false_iff] at hy ⊢
  exact hy.1
theorem left_entries {es : Array MapEntry} {M : Tally} (hE : EntriesAre es M) {seen : Array Nat} {e : MapEntry} (h : e ∈ (leftOf es seen).toList) : ∃ i, ∃ hi : i < M.length, e = { key := ssV (M[i]).1, val := .int .i64 ((M[i]).2 : Nat), born := i } ∧ seen.contains i = false := by
  unfold leftOf at h
  rw [Array.mem_toList_iff, Array.mem_filter] at h
  obtain ⟨h1, h2⟩ := h
  obtain ⟨i, hi, rfl⟩ := Array.getElem_of_mem h1
  have hi' : i < M.length := by rw [← hE.size]; exact hi
  obtain ⟨_, hat⟩ := hE.at i hi'
  refine ⟨i, hi', hat, ?_⟩
  rw [hat] at h2
  simpa using h2
theorem left_none {es : Array MapEntry} {M : Tally} (hE : EntriesAre es M) {seen : Array Nat} (h : (leftOf es seen).size = 0) : ∀ i, i < M.length → seen.contains i = true := by
  intro i hi
  obtain ⟨hi', hat⟩ := hE.at i hi
  unfold leftOf at h
  have h0 := Array.eq_empty_of_size_eq_zero h
  rw [Array.filter_eq_empty_iff] at h0
  have := h0 es[i] (Array.getElem_mem hi')
  rw [hat] at this
  simpa using this
section
variable {P : Program} (w : World) {ops : Array Oper} {rest : List Oper} {o : Oper} {a : Act} {Q : Exit → Act → World → Prop}
theorem wpList_next_ss (hg : o.guard = none) (it : Operand) (hop : o.op = Op.next it false) (B r : Nat) (M : Tally) (seen : Array Nat) (hit : a.eval it = .pointer (some ⟨r, 0, none⟩)) (hr : IterAt w r B M.length seen) (h : MapIs w B M)
    (hDone : (∀ i, i < M.length → seen.contains i = true) → wpList Try.prog ops Q rest (a.put o.dst (.tuple #[.bool false])) w)
    (hMore : ∀ (i : Nat) (hi : i < M.length) (w' : World), seen.contains i = false → IterAt w' r B M.length (seen.push i) → w.grownBy w' (some r) → w'.heap.size = w.heap.size →
      (Instr.entry (.pointer (some ⟨r, 0, none⟩))).run Try.prog w' = .ok (.tuple #[ssV (M[i]).1, .int .i64 ((M[i]).2 : Nat)]) w' → wpList Try.prog ops Q rest (a.put o.dst (.tuple #[.bool true, ssV (M[i]).1, .int .i64 ((M[i]).2 : Nat)])) w') :
    wpList Try.prog ops Q (o :: rest) a w := by
  refine wpList_plain hg fun K' hK' => ?_
  obtain ⟨es, hb, hE⟩ := h
  have hne : r ≠ B := by
    intro e; subst e; unfold IterAt at hr; rw [hr] at hb; cases hb
  have hlt : r < w.heap.size := (Array.getElem?_eq_some_iff.1 hr).1
  have hold : ∀ x ∈ es.toList, x.born < M.length := by
    intro x hx
    obtain ⟨i, hi, rfl⟩ := List.getElem_of_mem hx
    have hi' : i < M.length := by rw [← hE.size]; simpa using hi
    obtain ⟨_, hat⟩ := hE.at i hi'
    simp [hat, hi']
  unfold Oper.wp
  rcases run_next_at (P := Try.prog) w o.type r B M.length M.length seen es M.length hr hb hold (Nat.le_refl _) with ⟨h0, hrun⟩ | ⟨e, he, w1, hal, hrun⟩
  · simp [execOp, hop, hit, hrun, Result.andThen]
    exact hK' _ _ (hDone (left_none hE h0))
  · obtain ⟨i, hi, rfl, hse⟩ := left_entries hE he
    obtain ⟨hi', hat⟩ := hE.at i hi
    simp only [execOp, hop, hit, Sem.run_bind, hrun, Result.andThen, Sem.run_pure]
    have hh : w1.heap = w.heap := by rcases hal with rfl | rfl <;> rfl
    have hb1 : (setBlock w1 r (.mapIter (some B) M.length (seen.push i) M.length)).heap[B]? = some (.map es M.length) := by simp [setBlock, hh, Array.getElem?_setIfInBounds_ne hne, hb]
    have hr1 : IterAt (setBlock w1 r (.mapIter (some B) M.length (seen.push i) M.length)) r B M.length (seen.push i) := by simp [IterAt, setBlock, hh, hlt]
    refine hK' _ _ (hMore i hi _ hse hr1 ⟨?_, ?_, ?_, ?_, ?_⟩ ?_ ?_)
    · rcases hal with rfl | rfl <;> rfl
    · rcases hal with rfl | rfl <;> rfl
    · rcases hal with rfl | rfl <;> rfl
    · simp [setBlock, hh]
    · intro k hk hkr
      have : r ≠ k := fun e => hkr (by rw [e])
      simp [setBlock, hh, Array.getElem?_setIfInBounds_ne this]
    · simp [setBlock, hh]
    · have := run_entry_at (P := Try.prog) _ r B M.length seen es M.length { key := ssV (M[i]).1, val := .int .i64 ((M[i]).2 : Nat), born := i } hr1 hb1 (by rw [← hat]; simp) (by
        have hbn := hE.born
        rw [hbn]; exact List.nodup_range)
      simpa using this
end

theorem cmpM_neg {x y : Int} : cmpM x y < 0 ↔ x < y := by unfold cmpM; split <;> (try split) <;> omega
theorem cmpM_zero {x y : Int} : cmpM x y = 0 ↔ x = y := by unfold cmpM; split <;> (try split) <;> omega
theorem cmpL_trans : ∀ {a b c : List Int}, cmpL a b < 0 → cmpL b c < 0 → cmpL a c < 0
  | [], [], _, h, _ => by simp [cmpL] at h
  | [], _ :: _, [], _, k => by simp [cmpL] at k
  | [], _ :: _, _ :: _, _, _ => by simp [cmpL]
  | _ :: _, [], _, h, _ => by simp [cmpL] at h
  | _ :: _, _ :: _, [], _, k => by simp [cmpL] at k
  | x :: a, y :: b, z :: c, h, k => by
    unfold cmpL at h k ⊢
    by_cases h1 : cmpM x y = 0
    · rw [if_pos h1] at h
      have e := cmpM_zero.1 h1; subst e
      by_cases h2 : cmpM x z = 0
      · rw [if_pos h2] at k ⊢; exact cmpL_trans h k
      · rw [if_neg h2] at k ⊢; exact k
    · rw [if_neg h1] at h
      have h3 := cmpM_neg.1 h
      by_cases h2 : cmpM y z = 0
      · have e := cmpM_zero.1 h2; subst e
        rw [if_neg h1]; exact h
      · rw [if_neg h2] at k
        have k3 := cmpM_neg.1 k
        have h4 : cmpM x z < 0 := cmpM_neg.2 (by omega)
        rw [if_neg (by omega)]; exact h4
theorem cmpSS_trans {a b c : List Int} (h : cmpSS a b < 0) (k : cmpSS b c < 0) : cmpSS a c < 0 := by
  unfold cmpSS at *
  by_cases h1 : a.length = b.length
  · rw [if_pos h1] at h
    by_cases h2 : b.length = c.length
    · rw [if_pos h2] at k; rw [if_pos (by omega)]; exact cmpL_trans h k
    · rw [if_neg h2] at k
      have := cmpM_neg.1 k
      rw [if_neg (by omega)]; exact cmpM_neg.2 (by omega)
  · rw [if_neg h1] at h
    have h3 := cmpM_neg.1 h
    by_cases h2 : b.length = c.length
    · rw [if_neg (by omega)]; exact cmpM_neg.2 (by omega)
    · rw [if_neg h2] at k
      have := cmpM_neg.1 k
      rw [if_neg (by omega)]; exact cmpM_neg.2 (by omega)

/-- the first string, of some entries, whose bits have all of n -/
structure FirstIs (M : Tally) (on : Nat → Prop) (n : Nat) (k : List Int) (f : Bool) : Prop where
  no : f = false → k = [] ∧ ∀ i (hi : i < M.length), on i → (M[i]).2 &&& n ≠ n
  yes : f = true → (∃ i, ∃ hi : i < M.length, (M[i]).1 = k ∧ (M[i]).2 &&& n = n) ∧ ∀ i (hi : i < M.length), on i → (M[i]).2 &&& n = n → ¬ cmpSS (M[i]).1 k < 0
theorem FirstIs.start (M : Tally) (n : Nat) : FirstIs M (fun i => (#[] : Array Nat).contains i = true) n [] false :=
  ⟨fun _ => ⟨rfl, fun i _ h => by simp at h⟩, fun h => by cases h⟩
theorem FirstIs.skip {M : Tally} {seen : Array Nat} {n : Nat} {k : List Int} {f : Bool} (h : FirstIs M (fun i => seen.contains i = true) n k f) {j : Nat} (hj : j < M.length)
    (hs : (M[j]).2 &&& n ≠ n ∨ (f = true ∧ ¬ cmpSS (M[j]).1 k < 0)) : FirstIs M (fun i => (seen.push j).contains i = true) n k f := by
  refine ⟨fun hf => ⟨(h.no hf).1, fun i hi ho => ?_⟩, fun hf => ⟨(h.yes hf).1, fun i hi ho hb => ?_⟩⟩
  · rw [Array.contains_push, Bool.or_eq_true] at ho
    rcases ho with ho | ho
    · exact (h.no hf).2 i hi ho
    · obtain rfl : i = j := by simpa using ho
      rcases hs with hs | ⟨h1, -⟩
      · exact hs
      · rw [hf] at h1; cases h1
  · rw [Array.contains_push, Bool.or_eq_true] at ho
    rcases ho with ho | ho
    · exact (h.yes hf).2 i hi ho hb
    · obtain rfl : i = j := by simpa using ho
      rcases hs with hs | ⟨-, h1⟩
      · exact absurd hb hs
      · exact h1
theorem cmpSS_self (k : List Int) : cmpSS k k = 0 := by unfold cmpSS; rw [if_pos rfl, cmpL_self]
theorem FirstIs.take {M : Tally} {seen : Array Nat} {n : Nat} {k : List Int} {f : Bool} (h : FirstIs M (fun i => seen.contains i = true) n k f) {j : Nat} (hj : j < M.length)
    (hb : (M[j]).2 &&& n = n) (hs : f = false ∨ cmpSS (M[j]).1 k < 0) : FirstIs M (fun i => (seen.push j).contains i = true) n (M[j]).1 true := by
  refine ⟨fun hf => (by cases hf), fun _ => ⟨⟨j, hj, rfl, hb⟩, fun i hi ho hbi => ?_⟩⟩
  rw [Array.contains_push, Bool.or_eq_true] at ho
  rcases ho with ho | ho
  · cases f with
    | false => exact absurd hbi ((h.no rfl).2 i hi ho)
    | true =>
      have hs := hs.resolve_left (by simp)
      intro hlt
      exact (h.yes rfl).2 i hi ho hbi (cmpSS_trans hlt hs)
  · obtain rfl : i = j := by simpa using ho
    rw [cmpSS_self]; omega
/-- a sound string's six cells -/
structure SixAt (W : World) (u : Nat) (x : List Int) : Prop where
  c0 : W.cell? ⟨u, 0, none⟩ = some (.int .i64 x.length)
  c1 : W.cell? ⟨u, 1, none⟩ = some (.int .i64 (x.getD 0 0))
  c2 : W.cell? ⟨u, 2, none⟩ = some (.int .i64 (x.getD 1 0))
  c3 : W.cell? ⟨u, 3, none⟩ = some (.int .i64 (x.getD 2 0))
  c4 : W.cell? ⟨u, 4, none⟩ = some (.int .i64 (x.getD 3 0))
  c5 : W.cell? ⟨u, 5, none⟩ = some (.int .i64 (x.getD 4 0))
theorem SixAt.ck {W W' : World} {u : Nat} {x : List Int} (h : SixAt W u x) (hx : CK W W') : SixAt W' u x :=
  ⟨hx.cell h.c0, hx.cell h.c1, hx.cell h.c2, hx.cell h.c3, hx.cell h.c4, hx.cell h.c5⟩
theorem SixAt.new (W : World) (x : List Int) (t : TypeId) : SixAt (W.alloc (.cells #[.int .i64 x.length, .int .i64 (x.getD 0 0), .int .i64 (x.getD 1 0), .int .i64 (x.getD 2 0), .int .i64 (x.getD 3 0), .int .i64 (x.getD 4 0)] t)) W.heap.size x :=
  ⟨by simp [go_sem], by simp [go_sem], by simp [go_sem], by simp [go_sem], by simp [go_sem], by simp [go_sem]⟩

theorem six_set {w : World} {B : Nat} {x0 x1 x2 x3 x4 x5 : Value} (h0 : w.cell? ⟨B, 0, none⟩ = some x0) (h1 : w.cell? ⟨B, 1, none⟩ = some x1) (h2 : w.cell? ⟨B, 2, none⟩ = some x2) (h3 : w.cell? ⟨B, 3, none⟩ = some x3) (h4 : w.cell? ⟨B, 4, none⟩ = some x4) (h5 : w.cell? ⟨B, 5, none⟩ = some x5) (a b c d e f : Value) :
    (w.setCell ⟨B, 0, none⟩ a).cell? ⟨B, 0, none⟩ = some a ∧
    ((w.setCell ⟨B, 0, none⟩ a).setCell ⟨B, 1, none⟩ b).cell? ⟨B, 1, none⟩ = some b ∧
    (((w.setCell ⟨B, 0, none⟩ a).setCell ⟨B, 1, none⟩ b).setCell ⟨B, 2, none⟩ c).cell? ⟨B, 2, none⟩ = some c ∧
    ((((w.setCell ⟨B, 0, none⟩ a).setCell ⟨B, 1, none⟩ b).setCell ⟨B, 2, none⟩ c).setCell ⟨B, 3, none⟩ d).cell? ⟨B, 3, none⟩ = some d ∧
    (((((w.setCell ⟨B, 0, none⟩ a).setCell ⟨B, 1, none⟩ b).setCell ⟨B, 2, none⟩ c).setCell ⟨B, 3, none⟩ d).setCell ⟨B, 4, none⟩ e).cell? ⟨B, 4, none⟩ = some e ∧
    ((((((w.setCell ⟨B, 0, none⟩ a).setCell ⟨B, 1, none⟩ b).setCell ⟨B, 2, none⟩ c).setCell ⟨B, 3, none⟩ d).setCell ⟨B, 4, none⟩ e).setCell ⟨B, 5, none⟩ f).cell? ⟨B, 5, none⟩ = some f := by
  have o : ∀ {w : World} {i j : Nat} {x : Value} (v : Value), i ≠ j → w.cell? ⟨B, j, none⟩ = some x → (w.setCell ⟨B, i, none⟩ v).cell? ⟨B, j, none⟩ = some x := fun v hne h => set_other h (.inr hne) v
  refine ⟨set_cell h0 a, set_cell (o a (by decide) h1) b, set_cell (o b (by decide) (o a (by decide) h2)) c, set_cell (o c (by decide) (o b (by decide) (o a (by decide) h3))) d,
    set_cell (o d (by decide) (o c (by decide) (o b (by decide) (o a (by decide) h4)))) e, set_cell (o e (by decide) (o d (by decide) (o c (by decide) (o b (by decide) (o a (by decide) h5))))) f⟩
/-- the six cells behind six stores -/
theorem six_all {w : World} {B : Nat} {x0 x1 x2 x3 x4 x5 : Value} (h0 : w.cell? ⟨B, 0, none⟩ = some x0) (h1 : w.cell? ⟨B, 1, none⟩ = some x1) (h2 : w.cell? ⟨B, 2, none⟩ = some x2) (h3 : w.cell? ⟨B, 3, none⟩ = some x3) (h4 : w.cell? ⟨B, 4, none⟩ = some x4) (h5 : w.cell? ⟨B, 5, none⟩ = some x5) (k : List Int) :
    SixAt ((((((w.setCell ⟨B, 0, none⟩ (.int .i64 k.length)).setCell ⟨B, 1, none⟩ (.int .i64 (k.getD 0 0))).setCell ⟨B, 2, none⟩ (.int .i64 (k.getD 1 0))).setCell ⟨B, 3, none⟩ (.int .i64 (k.getD 2 0))).setCell ⟨B, 4, none⟩ (.int .i64 (k.getD 3 0))).setCell ⟨B, 5, none⟩ (.int .i64 (k.getD 4 0))) B k := by
  obtain ⟨t0, t1, t2, t3, t4, t5⟩ := six_set h0 h1 h2 h3 h4 h5 (.int .i64 k.length) (.int .i64 (k.getD 0 0)) (.int .i64 (k.getD 1 0)) (.int .i64 (k.getD 2 0)) (.int .i64 (k.getD 3 0)) (.int .i64 (k.getD 4 0))
  have o : ∀ {w : World} {i j : Nat} {x : Value} (v : Value), i ≠ j → w.cell? ⟨B, j, none⟩ = some x → (w.setCell ⟨B, i, none⟩ v).cell? ⟨B, j, none⟩ = some x := fun v hne h => set_other h (.inr hne) v
  exact ⟨o _ (by decide) (o _ (by decide) (o _ (by decide) (o _ (by decide) (o _ (by decide) t0)))), o _ (by decide) (o _ (by decide) (o _ (by decide) (o _ (by decide) t1))), o _ (by decide) (o _ (by decide) (o _ (by decide) t2)), o _ (by decide) (o _ (by decide) t3), o _ (by decide) t4, t5⟩
theorem six_grown (w : World) (B : Nat) (a b c d e f : Value) : w.grownBy ((((((w.setCell ⟨B, 0, none⟩ a).setCell ⟨B, 1, none⟩ b).setCell ⟨B, 2, none⟩ c).setCell ⟨B, 3, none⟩ d).setCell ⟨B, 4, none⟩ e).setCell ⟨B, 5, none⟩ f) (some B) := by
  have g : ∀ (w : World) (i : Nat) (v : Value), w.grownBy (w.setCell ⟨B, i, none⟩ v) (some B) := fun w i v =>
    ⟨rfl, rfl, rfl, (KeepsWalks.setCell w _ v).size, fun k _ hk => Below.heap_setCell _ _ _ k (fun e => hk (by rw [e]))⟩
  exact (((((g _ _ _).trans (g _ _ _)).trans (g _ _ _)).trans (g _ _ _)).trans (g _ _ _)).trans (g _ _ _)
/-- what the loop keeps -/
structure Range (w0 : World) (r B m a c : Nat) (seen : Array Nat) (M : Tally) (k : List Int) (W : World) : Prop where
  it : IterAt W r B m seen
  map : MapIs W B M
  six : SixAt W a k
  fr : ∀ o, W.frozen? ⟨a, o, none⟩ = false
  res : SixAt W c []
  frr : ∀ o, W.frozen? ⟨c, o, none⟩ = false
  ext : Ext w0 W
theorem Range.later {w0 : World} {r B m a c : Nat} {seen : Array Nat} {M : Tally} {k : List Int} {W W' : World} (h : Range w0 r B m a c seen M k W) (hx : Ext W W') : Range w0 r B m a c seen M k W' :=
  ⟨(Below.block hx r (Array.getElem?_eq_some_iff.1 h.it).1).trans h.it, h.map.kept (Below.block hx B h.map.lt), h.six.ck hx.ck, fun o => by rw [hx.frozen (p := ⟨a, o, none⟩) (cell_lt h.six.c0 : a < _)]; exact h.fr o, h.res.ck hx.ck, fun o => by rw [hx.frozen (p := ⟨c, o, none⟩) (cell_lt h.res.c0 : c < _)]; exact h.frr o, h.ext.trans hx⟩
theorem Range.next {w0 : World} {r B m a c : Nat} {seen : Array Nat} {M : Tally} {k : List Int} {W W' : World} (h : Range w0 r B m a c seen M k W) (hg : W.grownBy W' (some r)) {i : Nat} (hi : IterAt W' r B m (seen.push i)) (hra : r ≠ a) (hBr : B ≠ r) (hcr : c ≠ r) (h0 : w0.heap.size ≤ r) : Range w0 r B m a c (seen.push i) M k W' := by
  have hne : ∀ o, some (⟨c, o, none⟩ : Addr).block ≠ some r := fun o e => hcr (by cases e; rfl)
  have hna : ∀ o, some (⟨a, o, none⟩ : Addr).block ≠ some r := fun o e => hra (by cases e; rfl)
  exact ⟨hi, h.map.kept (hg.block B h.map.lt (fun e => hBr (by cases e; rfl))),
    ⟨hg.cell h.six.c0 (hna _), hg.cell h.six.c1 (hna _), hg.cell h.six.c2 (hna _), hg.cell h.six.c3 (hna _), hg.cell h.six.c4 (hna _), hg.cell h.six.c5 (hna _)⟩,
    fun o => (World.frozen?_of_block (hg.block a (cell_lt h.six.c0) (hna o))).trans (h.fr o),
    ⟨hg.cell h.res.c0 (hne _), hg.cell h.res.c1 (hne _), hg.cell h.res.c2 (hne _), hg.cell h.res.c3 (hne _), hg.cell h.res.c4 (hne _), hg.cell h.res.c5 (hne _)⟩,
    fun o => (World.frozen?_of_block (hg.block c (cell_lt h.res.c0) (hne o))).trans (h.frr o), h.ext.grown hg (fun _ e => by cases e; exact h0)⟩
theorem Range.took {w0 : World} {r B m a c : Nat} {seen : Array Nat} {M : Tally} {k : List Int} {W : World} (h : Range w0 r B m a c seen M k W) (hra : r ≠ a) (hBa : B ≠ a) (hca : c ≠ a) (h0 : w0.heap.size ≤ a) (q : List Int) :
    Range w0 r B m a c seen M q ((((((W.setCell ⟨a, 0, none⟩ (.int .i64 q.length)).setCell ⟨a, 1, none⟩ (.int .i64 (q.getD 0 0))).setCell ⟨a, 2, none⟩ (.int .i64 (q.getD 1 0))).setCell ⟨a, 3, none⟩ (.int .i64 (q.getD 2 0))).setCell ⟨a, 4, none⟩ (.int .i64 (q.getD 3 0))).setCell ⟨a, 5, none⟩ (.int .i64 (q.getD 4 0))) := by
  have g := six_grown W a (.int .i64 q.length) (.int .i64 (q.getD 0 0)) (.int .i64 (q.getD 1 0)) (.int .i64 (q.getD 2 0)) (.int .i64 (q.getD 3 0)) (.int .i64 (q.getD 4 0))
  have hc := cell_lt h.res.c0
  refine ⟨(g.block r (Array.getElem?_eq_some_iff.1 h.it).1 (fun e => hra (by cases e; rfl))).trans h.it, h.map.kept (g.block B h.map.lt (fun e => hBa (by cases e; rfl))), six_all h.six.c0 h.six.c1 h.six.c2 h.six.c3 h.six.c4 h.six.c5 q, fun o => ?_, ?_, fun o => ?_, h.ext.grown g (fun _ e => by cases e; exact h0)⟩
  · have := h.fr o
    simpa [go_sem] using this
  · have hne : ∀ o, some (⟨c, o, none⟩ : Addr).block ≠ some a := fun o e => hca (by cases e; rfl)
    exact ⟨g.cell h.res.c0 (hne _), g.cell h.res.c1 (hne _), g.cell h.res.c2 (hne _), g.cell h.res.c3 (hne _), g.cell h.res.c4 (hne _), g.cell h.res.c5 (hne _)⟩
  · have := h.frr o
    simpa [go_sem] using this
theorem and_small : ∀ (a b : Fin 32), bits BinOp.and IntKind.i64 ((a.1 : Nat) : Int) ((b.1 : Nat) : Int) = ((a.1 &&& b.1 : Nat) : Int) := by decide +kernel
end Go.Proofs.Ytpflfincedllgaa

namespace Go.Proofs.Ytpflfincedllgaa
set_option linter.unusedSimpArgs false
set_option linter.unusedVariables false
open Go.RowKit
set_option linter.unusedVariables false

end Go.Proofs.Ytpflfincedllgaa

namespace Go.Proofs.Ytpflfincedllgaa
set_option linter.unusedSimpArgs false
set_option linter.unusedVariables false
open Go.RowKit
set_option linter.unusedSimpArgs false

def spellM (b : Book) (a : Int) (heard : List Int) : ByteArray × Int :=
  if errM b ≠ 0 then (⟨#[]⟩, errM b) else match b.alphabets[a.toNat]? with
    | none => (⟨#[]⟩, 4)
    | some x => if a < 0 then (⟨#[]⟩, 4) else if heardErrM b.sounds heard ≠ 0 then (⟨#[]⟩, heardErrM b.sounds heard) else (strOf (shortS x.letters (wantedM heard)), shortE x.letters (wantedM heard))
theorem openM_nil (b : Book) : openM b [] = errM b := by
  unfold openM
  split
  · rfl
  · rename_i h
    rw [if_neg (by simp [withinM])]
    have : errM b = 0 := by simpa using h
    exact this.symm

end Go.Proofs.Ytpflfincedllgaa

namespace Go.Proofs.Ytpflfincedllgaa
set_option linter.unusedSimpArgs false
set_option linter.unusedVariables false
open Go.RowKit
set_option linter.unusedVariables false

theorem openM_ok {b : Book} (h : errM b = 0) {l : List Int} (hl : ∀ x ∈ l, 0 ≤ x ∧ x < b.spellings.length) : openM b l = 0 := by
  unfold openM
  rw [if_neg (by rw [h]; exact fun e => e rfl), if_neg]
  rw [Bool.not_eq_false, withinM, List.all_eq_true]
  intro x hx
  have := hl x hx
  simp [inM]; omega

end Go.Proofs.Ytpflfincedllgaa

namespace Go.Proofs.Ytpflfincedllgaa
set_option linter.unusedSimpArgs false
set_option linter.unusedVariables false
open Go.RowKit
set_option linter.unusedVariables false

end Go.Proofs.Ytpflfincedllgaa

namespace Go.Proofs.Ytpflfincedllgaa
set_option linter.unusedSimpArgs false
set_option linter.unusedVariables false
open Go.RowKit
set_option linter.unusedVariables false

theorem IntsAt.twoAt {w : World} {m n : Int} {t : TypeId} {B : Nat} (hB : w.heap.size = B) (h : -9223372036854775808 ≤ n ∧ n ≤ 9223372036854775807) (h' : -9223372036854775808 ≤ m ∧ m ≤ 9223372036854775807) : IntsAt (w.alloc (.cells #[.int .i64 n, .int .i64 m] t)) (.slice (some ⟨B, 0, none⟩) 2 2) [n, m] := by
  subst hB; exact IntsAt.two h h'
/-- whether the first string is common, and whether there is but one -/
def alikeV (M : Tally) (f : Bool) : Int := if f = false then 2 else if M.length = 1 then 1 else 0
end Go.Proofs.Ytpflfincedllgaa

namespace Go.Proofs.Ytpflfincedllgaa
set_option linter.unusedSimpArgs false
set_option linter.unusedVariables false
open Go.RowKit
set_option linter.unusedVariables false

/-- whether some string has all of these bits -/
def sharedB (M : Tally) (n : Nat) : Bool := M.any fun p => p.2 &&& n == n
theorem FirstIs.shared {M : Tally} {n : Nat} {k : List Int} {f : Bool} (h : FirstIs M (fun _ => True) n k f) : f = sharedB M n := by
  unfold sharedB
  cases f
  · symm
    rw [List.any_eq_false]
    intro p hp
    obtain ⟨i, hi, rfl⟩ := List.getElem_of_mem hp
    simpa using (h.no rfl).2 i hi trivial
  · symm
    obtain ⟨i, hi, -, e⟩ := (h.yes rfl).1
    rw [List.any_eq_true]
    exact ⟨M[i], List.getElem_mem hi, by simpa using e⟩
/-- which of two lists is told first: that with fewer numbers, of as long ones that which comes first -/
def cmpFew (l m : List Nat) : Int := cmpSS (ints l) (ints m)
theorem cmpL_zero : ∀ {a b : List Int}, cmpL a b = 0 → a = b
  | [], [], _ => rfl
  | [], _ :: _, h => by simp [cmpL] at h
  | _ :: _, [], h => by simp [cmpL] at h
  | x :: a, y :: b, h => by
    unfold cmpL at h
    by_cases h1 : cmpM x y = 0
    · rw [if_pos h1] at h
      rw [cmpM_zero.1 h1, cmpL_zero h]
    · rw [if_neg h1] at h; exact absurd h h1
theorem cmpSS_zero {a b : List Int} (h : cmpSS a b = 0) : a = b := by
  unfold cmpSS at h
  split at h
  · exact cmpL_zero h
  · rename_i h1
    have := cmpM_zero.1 h
    exact absurd (by omega) h1
theorem cmpSS_le {a b c : List Int} (h : cmpSS a b < 0) (k : ¬ 0 < cmpSS b c) : cmpSS a c < 0 := by
  by_cases h0 : cmpSS b c = 0
  · rw [← cmpSS_zero h0]; exact h
  · exact cmpSS_trans h (by omega)
def fewStep (P : Nat → Bool) (r : Option (List Nat)) (s : Nat) : Option (List Nat) := match r with
  | none => if P s = true then some (membersM s) else none
  | some f => if 0 < cmpFew (membersM s) f then some f else if P s = true then some (membersM s) else some f
/-- the first of the fewest, of the sets below a number -/
def fewTo (P : Nat → Bool) (k : Nat) : Option (List Nat) := (List.range k).foldl (fewStep P) none
theorem fewTo_succ (P : Nat → Bool) (k : Nat) : fewTo P (k + 1) = fewStep P (fewTo P k) k := by simp [fewTo, List.range_succ]
def FewIs (P : Nat → Bool) (k : Nat) : Option (List Nat) → Prop
  | none => ∀ s, s < k → P s = false
  | some f => (∃ s, s < k ∧ P s = true ∧ membersM s = f) ∧ ∀ s, s < k → P s = true → ¬ cmpFew (membersM s) f < 0
theorem fewTo_is (P : Nat → Bool) : ∀ k, FewIs P k (fewTo P k)
  | 0 => fun s h => by omega
  | k + 1 => by
    have ih := fewTo_is P k
    rw [fewTo_succ]
    have self : ∀ l : List Nat, cmpFew l l = 0 := fun l => cmpSS_self _
    cases hr : fewTo P k with
    | none =>
      rw [hr] at ih
      simp only [fewStep]
      by_cases hp : P k = true
      · rw [if_pos hp]
        refine ⟨⟨k, by omega, hp, rfl⟩, fun s hs hps => ?_⟩
        rcases Nat.lt_or_ge s k with h | h
        · rw [ih s h] at hps; cases hps
        · obtain rfl : s = k := by omega
          rw [self]; omega
      · rw [if_neg hp]
        intro s hs
        rcases Nat.lt_or_ge s k with h | h
        · exact ih s h
        · obtain rfl : s = k := by omega
          simpa using hp
    | some f =>
      rw [hr] at ih
      obtain ⟨⟨s0, h0, hp0, e0⟩, hmin⟩ := ih
      simp only [fewStep]
      by_cases hc : 0 < cmpFew (membersM k) f
      · rw [if_pos hc]
        refine ⟨⟨s0, by omega, hp0, e0⟩, fun s hs hps => ?_⟩
        rcases Nat.lt_or_ge s k with h | h
        · exact hmin s h hps
        · obtain rfl : s = k := by omega
          omega
      · rw [if_neg hc]
        by_cases hp : P k = true
        · rw [if_pos hp]
          refine ⟨⟨k, by omega, hp, rfl⟩, fun s hs hps hlt => ?_⟩
          rcases Nat.lt_or_ge s k with h | h
          · exact hmin s h hps (cmpSS_le hlt hc)
          · obtain rfl : s = k := by omega
            rw [self] at hlt; omega
        · rw [if_neg hp]
          refine ⟨⟨s0, by omega, hp0, e0⟩, fun s hs hps => ?_⟩
          rcases Nat.lt_or_ge s k with h | h
          · exact hmin s h hps
          · obtain rfl : s = k := by omega
            exact absurd hps hp
def allOf (b : Book) : Nat := 2 ^ b.spellings.length - 1
theorem andNot_small : ∀ (a b : Fin 32), bits BinOp.andNot IntKind.i64 ((a.1 : Nat) : Int) ((b.1 : Nat) : Int) = ((a.1 ^^^ (a.1 &&& b.1) : Nat) : Int) := by decide +kernel
theorem xor_lt : ∀ (a b : Fin 32), a.1 ^^^ (a.1 &&& b.1) < 32 := by decide +kernel
theorem allOf_lt {b : Book} (h : b.spellings.length ≤ 5) : allOf b < 32 := by
  unfold allOf
  have : 2 ^ b.spellings.length ≤ 2 ^ 5 := Nat.pow_le_pow_right (by decide) h
  have h0 : 0 < 2 ^ b.spellings.length := Nat.two_pow_pos _
  omega
theorem membersM_mem {n m : Nat} (h : m ∈ membersM n) : n.testBit m = true ∧ m < 5 := by
  simp only [membersM, membersTo, List.mem_filter, List.mem_range] at h
  exact ⟨h.2, h.1⟩
theorem members_all {b : Book} {n : Nat} (h : n ∈ membersM (allOf b)) : n < b.spellings.length := by
  have := (membersM_mem h).1
  unfold allOf at this
  rw [Nat.testBit_two_pow_sub_one] at this
  simpa using this

theorem shl_all : ∀ n : Fin 6, wrap64 (wrap64 (2 ^ n.1) - 1) = ((2 ^ n.1 - 1 : Nat) : Int) := by decide +kernel
def oddP (M : Tally) (all odd : Nat) : Bool := sharedB M (all ^^^ (all &&& odd)) || odd == all
/-- the fewest spellings without which all others are alike -/
def oddL (b : Book) : List Nat := (fewTo (oddP (canM b (membersM (allOf b))) (allOf b)) (2 ^ b.spellings.length)).getD []
def MapV (M : Tally) (u : Value) (w : World) : Prop := ∃ B, u = .map (some B) ∧ MapIs w B M
theorem MapV.ext {M : Tally} {u : Value} {w w' : World} (hx : Ext w w') (h : MapV M u w) : MapV M u w' := by
  obtain ⟨B, e, hm⟩ := h; exact ⟨B, e, hm.kept (Below.block hx _ hm.lt)⟩
def ListV (l : List Int) (u : Value) (w : World) : Prop := IntsAt w u l

def orM : List Int → Int
  | [] => 0
  | x :: l => if x = 0 then orM l else x
end Go.Proofs.Ytpflfincedllgaa

namespace Go.Proofs.Ytpflfincedllgaa
set_option linter.unusedSimpArgs false
set_option linter.unusedVariables false
open Go.RowKit
set_option linter.unusedVariables false

theorem orM_step (l : List Int) (k : Nat) (h : k < l.length) : orM (l.drop k) = if l[k] = 0 then orM (l.drop (k + 1)) else l[k] := by
  rw [List.drop_eq_getElem_cons h, orM]
theorem or_any (v : Value) (l : List Int) (w : World) (h : IntsAt w v l) :
    Calls Try.prog 120 #[v] w fun e w' => e = .returned (.int .i64 (orM l)) ∧ w = w' := by
  obtain ⟨a, cap, rfl, hlc, hcm, hc⟩ := h
  go_enter Try.func120, Try.ntmps120
  go_wp2
  go_loop [8] (fun i => ∃ k : Nat, k ≤ l.length ∧ i = .int .i64 k ∧ orM (l.drop k) = orM l) (fun i => l.length - (intOf i).toNat)
  case atStart => exact ⟨0, Nat.zero_le _, rfl, by simp⟩
  case round =>
    obtain ⟨k, hk, rfl, hw⟩ := hrel
    have Hw := Lib.hid hw; clear hw
    by_cases hlt : k < l.length
    · obtain ⟨b, off, rfl, hck, -⟩ := hc k hlt
      clear hc
      have hst := orM_step l k hlt
      generalize hx : l[k] = x at *
      have Hst := Lib.hid hst
      clear hx hst
      simp only [Nat.mul_one] at hck
      by_cases h1 : x = 0
      · subst h1
        go_wp2
        go_round
        case rel => exact ⟨k + 1, by omega, by go_num, by rw [← Hw.out, Hst.out, if_pos rfl]⟩
        case measure => simp [intOf]; omega
      · have h2 : (x != 0) = true := by simpa using h1
        have H1 := Lib.hid h1
        clear h1
        go_wp2
        go_ret
        exact ⟨ret_int (by rw [← Hw.out, Hst.out, if_neg H1.out]), rfl⟩
    · go_wp2
      go_ret
      exact ⟨ret_int (by rw [← Hw.out, List.drop_eq_nil_of_le (by omega)]; rfl), rfl⟩
theorem orM_cmp (l m : List Int) : orM [cmpM l.length m.length, cmpL l m] = cmpSS l m := by
  unfold orM orM orM cmpSS
  by_cases h : l.length = m.length
  · rw [if_pos h, h, if_pos (cmpM_self _)]
    split
    · rename_i h0; exact h0.symm
    · rfl
  · rw [if_neg h, if_neg]
    intro h0
    have := cmpM_zero.1 h0
    omega
theorem cmpM_I64 (x y : Int) : I64 (cmpM x y) := by unfold cmpM I64; split <;> (try split) <;> omega
theorem cmpL_I64 : ∀ l m : List Int, I64 (cmpL l m)
  | [], [] => by unfold cmpL I64; omega
  | [], _ :: _ => by unfold cmpL I64; omega
  | _ :: _, [] => by unfold cmpL I64; omega
  | x :: l, y :: m => by
    unfold cmpL
    split
    · exact cmpL_I64 l m
    · exact cmpM_I64 x y
set_option maxHeartbeats 1000000 in
theorem setsCompare_any (v u : Value) (l m : List Int) (w : World) (hl : IntsAt w v l) (hm : IntsAt w u m) :
    Calls Try.prog 113 #[v, u] w fun e w' => e = .returned (.int .i64 (cmpSS l m)) ∧ Ext w w' := by
  obtain ⟨a, cap, rfl, hlc, hcm⟩ := hl.shape
  obtain ⟨a', cap', rfl, hlc', hcm'⟩ := hm.shape
  have hcl := compareL_any _ _ l m w hl hm
  have hI := cmpL_I64 l m
  have hI2 := cmpM_I64 l.length m.length
  have hor := orM_cmp l m
  generalize cmpL l m = c2 at *
  generalize hc1 : cmpM l.length m.length = c1 at *
  have Hc1 := Lib.hid hc1
  have Hor := Lib.hid hor
  clear hc1 hor
  go_enter Try.func113, Try.ntmps113
  go_wp2_with fail
  refine (cmp_any _ _ _).mono ?_
  rintro e w' ⟨rfl, rfl⟩
  rw [Hc1.out]
  go_wp2_with fail
  refine hcl.mono ?_
  rintro e w' ⟨rfl, rfl⟩
  go_wp2_with fail
  refine (or_any _ [c1, c2] _ (IntsAt.two hI2 hI)).mono ?_
  rintro e w' ⟨rfl, rfl⟩
  go_wp2
  go_ret
  exact ⟨ret_int Hor.out, ext_alloc _ _⟩
end Go.Proofs.Ytpflfincedllgaa

namespace Go.Proofs.Ytpflfincedllgaa
set_option linter.unusedSimpArgs false
set_option linter.unusedVariables false
open Go.RowKit
set_option linter.unusedVariables false
set_option maxRecDepth 100000
def trueP (h : House) (s : Nat) : Bool := !decide (truL h (outB s) = [])
theorem shl_sixR : ∀ n : Fin 6, IntKind.i64.wrap (2 ^ n.1) = ((2 ^ n.1 : Nat) : Int) := by decide +kernel
set_option maxHeartbeats 2000000 in
theorem fewest_wrong (hv : Value) (h : House) (hV : ValidH h) (n : Nat) (hn : n ≤ 5) (w : World) (hl : LookAt w hv h) :
    Calls Try.prog 86 #[.int .i64 n, .func (.func 87) #[hv] #[]] w
      fun e w' => ∃ u f, e = .returned (.tuple #[u, .bool f]) ∧ f = (fewTo (trueP h) (2 ^ n)).isSome ∧ IntsAt w' u (ints ((fewTo (trueP h) (2 ^ n)).getD [])) ∧ Ext w w' := by
  have hsh := shl_sixR ⟨n, by omega⟩
  simp only at hsh
  have hlim : 2 ^ n ≤ 32 := Nat.pow_le_pow_right (n := 2) (by decide) hn
  have hclo := fun s (hs : s < 32) w hl => isTrueWithout_any hv h hV s hs w hl
  change ∀ s, s < 32 → ∀ w, LookAt w hv h → Calls Try.prog _ _ w (fun e w' => e = .returned (.bool (trueP h s)) ∧ Ext w w') at hclo
  have hstep := fewTo_succ (trueP h)
  generalize trueP h = P at *
  obtain ⟨lim, hL⟩ : ∃ lim, lim = 2 ^ n := ⟨_, rfl⟩
  rw [← hL] at hsh hlim ⊢
  have HL := Lib.hid hL
  have Hst := Lib.hid hstep
  clear hL hstep
  go_enter Try.func86, Try.ntmps86
  go_wp2
  go_loopw [6, 7, 12] (fun v f i wr => ∃ (k : Nat) (r : Option (List Nat)) (fb : Bool), k ≤ lim ∧ i = .int .i64 k ∧ fewTo P k = r ∧ f = .bool fb ∧ fb = r.isSome ∧ IntsAt wr v (ints (r.getD [])) ∧ Ext w wr) (fun _ _ i _ => lim - (intOf i).toNat)
  case atStart => exact ⟨0, none, false, Nat.zero_le _, rfl, rfl, rfl, rfl, SliceAt.nil, Ext.refl _⟩
  case round =>
    obtain ⟨k, r, fb, hk, rfl, hr, rfl, hfb, hv, hx⟩ := hrel
    by_cases hlt : k < lim
    · have hst := Hst.out k
      rw [hr] at hst
      have hk32 : k < 32 := by omega
      have hmk := fun w => members_any k hk32 w
      have kk : (k : Int) < (lim : Int) := by omega
      have hcl := fun w h1 => hclo k hk32 w h1
      have Hr := Lib.hid hr
      clear hr hclo
      generalize hlk : membersM k = l at *
      generalize hpk : P k = pk at *
      go_wp2_with fail
      refine (hmk _).mono ?_
      rintro e w3 ⟨u, rfl, hu, hx3⟩
      have x3 := hx.trans hx3
      replace hv := hv.ext hx3
      obtain ⟨ua, uc, rfl, -⟩ := hu.shape
      clear hx3 hmk
      cases r with
      | none =>
        have hfb' : fb = false := by simpa using hfb
        subst hfb'
        have hst1 : fewTo P (k + 1) = if pk = true then some l else none := by rw [hst]; simp only [fewStep, hpk, hlk]
        obtain ⟨va, vc, rfl, -⟩ := hv.shape
        have Hst1 := Lib.hid hst1
        clear hst hst1 hfb hpk hlk
        go_wp2_with fail
        refine (hcl _ (hl.ext x3)).mono ?_
        rintro e w4 ⟨rfl, hx4⟩
        replace hu := hu.ext hx4
        replace hv := hv.ext hx4
        have x4 := x3.trans hx4
        clear hx4 hcl
        cases pk
        · go_wp2
          go_roundw
          case rel => exact ⟨k + 1, none, false, by omega, by go_num, Hst1.out, rfl, rfl, hv, x4⟩
          case measure => simp [intOf]; omega
        · go_wp2
          go_roundw
          case rel => exact ⟨k + 1, some l, true, by omega, by go_num, Hst1.out, rfl, rfl, hu, x4⟩
          case measure => simp [intOf]; omega
      | some best =>
        have hfb' : fb = true := by simpa using hfb
        subst hfb'
        have hst1 : fewTo P (k + 1) = if 0 < cmpFew l best then some best else if pk = true then some l else some best := by rw [hst]; simp only [fewStep, hpk, hlk]
        simp only [Option.getD_some] at hv
        obtain ⟨va, vc, rfl, -⟩ := hv.shape
        have Hst1 := Lib.hid hst1
        clear hst hst1 hfb hpk hlk
        have hcmp := setsCompare_any _ _ (ints l) (ints best) w3 hu hv
        have hcf : cmpSS (ints l) (ints best) = cmpFew l best := rfl
        rw [hcf] at hcmp
        clear hcf
        generalize cmpFew l best = cv at *
        go_wp2_with fail
        refine hcmp.mono ?_
        rintro e w4 ⟨rfl, hx4⟩
        replace hu := hu.ext hx4
        replace hv := hv.ext hx4
        have x4 := x3.trans hx4
        clear hx4 hcmp
        by_cases h0 : 0 < cv
        · have Hst2 : Hid (fewTo P (k + 1) = some best) := Lib.hid (by rw [Hst1.out, if_pos h0])
          go_wp2
          go_roundw
          case rel => exact ⟨k + 1, some best, true, by omega, by go_num, Hst2.out, rfl, rfl, hv, x4⟩
          case measure => simp [intOf]; omega
        · have Hst2 : Hid (fewTo P (k + 1) = if pk = true then some l else some best) := Lib.hid (by rw [Hst1.out, if_neg h0])
          go_wp2_with fail
          refine (hcl _ (hl.ext x4)).mono ?_
          rintro e w5 ⟨rfl, hx5⟩
          replace hu := hu.ext hx5
          replace hv := hv.ext hx5
          have x5 := x4.trans hx5
          clear hx5 hcl
          cases pk
          · go_wp2
            go_roundw
            case rel => exact ⟨k + 1, some best, true, by omega, by go_num, Hst2.out, rfl, rfl, hv, x5⟩
            case measure => simp [intOf]; omega
          · go_wp2
            go_roundw
            case rel => exact ⟨k + 1, some l, true, by omega, by go_num, Hst2.out, rfl, rfl, hu, x5⟩
            case measure => simp [intOf]; omega
    · have hke : k = lim := by omega
      subst hke
      obtain ⟨va, vc, rfl, -⟩ := hv.shape
      have Hfin := Lib.hid hr
      clear hr hclo
      go_wp2
      go_ret2
      exact ⟨_, fb, rfl, by rw [Hfin.out]; exact hfb, by rw [Hfin.out]; exact hv, hx⟩
end Go.Proofs.Ytpflfincedllgaa

namespace Go.Proofs.Ytpflfincedllgaa
set_option linter.unusedSimpArgs false
set_option linter.unusedVariables false
open Go.RowKit
set_option linter.unusedVariables false
theorem not_inM {x lo hi : Int} (h : ¬ inM x lo hi = false) : lo ≤ x ∧ x ≤ hi := (inM_iff _ _ _).1 (by simpa using h)
theorem noneFrom {α : Type} (f : List α → α → Int) : ∀ (l pre : List α), (firstErrFrom f pre l).2 = 0 → ∀ x ∈ l, ∃ p, f p x = 0
  | [], _, _, x, hx => by cases hx
  | y :: r, pre, h, x, hx => by
    rw [firstErrFrom] at h
    by_cases h0 : f pre y = 0
    · rw [if_pos h0] at h
      rcases List.mem_cons.1 hx with rfl | h1
      · exact ⟨pre, h0⟩
      · exact noneFrom f r _ h x h1
    · rw [if_neg h0] at h
      exact absurd h h0
theorem listErr_ok {α : Type} {most : Int} {l : List α} {f : Int × Int} (h : (listErr most l f).2 = 0) : (l.length : Int) ≤ most ∧ f.2 = 0 := by
  unfold listErr at h
  split at h
  · cases h
  · exact ⟨by omega, h⟩
theorem validH_of {h : House} (he : raErr h = 0) : ValidH h := by
  unfold raErr raCheck at he
  split at he
  · cases he
  rename_i h1
  split at he
  · cases he
  rename_i h2
  split at he
  · rename_i h3; exact absurd he h3
  rename_i h3
  split at he
  · cases he
  rename_i h4
  split at he
  · rename_i h5; exact absurd he h5
  rename_i h5
  split at he
  · rename_i h6; exact absurd he h6
  rename_i h6
  have e3 := Decidable.not_not.1 h3
  have e5 := listErr_ok (Decidable.not_not.1 h5)
  have e6 := listErr_ok (Decidable.not_not.1 h6)
  refine ⟨not_inM h1, Decidable.not_not.1 h2, ?_, not_inM h4, by omega, ?_, by omega, ?_⟩
  · intro s hs
    obtain ⟨p, hp⟩ := noneFrom spanE _ _ e3 s hs
    unfold spanE spanErrM at hp
    split at hp
    · cases hp
    rename_i g1
    split at hp
    · cases hp
    rename_i g2
    have a1 := not_inM (fun e => g1 (.inl e))
    have a2 := not_inM (fun e => g1 (.inr e))
    omega
  · intro a ha
    obtain ⟨p, hp⟩ := noneFrom agentErrM _ _ e5.2 a ha
    unfold agentErrM at hp
    split at hp
    · rename_i g; exact absurd hp g
    split at hp
    · cases hp
    rename_i g1
    exact ⟨not_inM (fun e => g1 (.inl e)), not_inM (fun e => g1 (.inr e))⟩
  · intro e hin
    obtain ⟨p, hp⟩ := noneFrom (rentE h.agents.length h.days) _ _ e6.2 e hin
    unfold rentE entErrM at hp
    split at hp
    · cases hp
    rename_i g1
    split at hp
    · cases hp
    rename_i g2
    have a1 := not_inM (fun e => g1 (.inl e))
    have a2 := not_inM (fun e => g1 (.inr e))
    have a3 := not_inM (fun e => g2 (.inl e))
    have a4 := not_inM (fun e => g2 (.inr e))
    exact ⟨by omega, by omega, a3, a4⟩
end Go.Proofs.Ytpflfincedllgaa
