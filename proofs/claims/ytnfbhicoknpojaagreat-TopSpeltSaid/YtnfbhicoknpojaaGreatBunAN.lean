/-
  WHAT A SPELLING CAN BE, AND WHO CAN BE WHAT: plain lists, and what is so of them.
  WHAT THE ITERATOR OF A SPELLING'S SOUND STRINGS YIELDS: each string of the list, in its order, for whatever body keeps the cells.
  WHAT soundStrings RETURNS: an iterator that yields what a spelling can be.
  A MAP BY SOUND STRINGS, as it lies in memory: what is looked up in it, and how it is written.
  WHAT canBe RETURNS: a new map of all sound strings that some spellings can be, each with the bits of those that can be it.
-/
import Derived.Test.YtnfbhicoknpojaaGreatBunAD
import Derived.Test.YtnfbhicoknpojaaGreatBunAE
import Derived.RangeFuncWrites
import Derived.RangeFuncLeaves
import Derived.TacticsInMore
import Derived.LoopIn
import Derived.Test.YtnfbhicoknpojaaGreatBunAC
import Derived.Maps.RangeRun
import Derived.MapKept
import Derived.RangeFuncBox
import Derived.RangeFuncNested
import Derived.Shelf.Abstract
import Derived.Maps.AppendAt
namespace Go.Proofs.YtnfbhicoknpojaaGreat
set_option linter.unusedSimpArgs false
set_option linter.unusedVariables false
set_option linter.unusedVariables false

/-- silence, and so many sounds less one -/
def soundsTo (k : Nat) : List Int := (List.range k).map fun (j : Nat) => (j : Int) - 1
theorem soundsTo_succ (k : Nat) : soundsTo (k + 1) = soundsTo k ++ [(k : Int) - 1] := by simp [soundsTo, List.range_succ]
theorem mem_soundsTo {k : Nat} {n : Int} : n ∈ soundsTo k ↔ -1 ≤ n ∧ n < (k : Int) - 1 := by
  simp only [soundsTo, List.mem_map, List.mem_range]
  constructor
  · rintro ⟨j, hj, rfl⟩; omega
  · rintro ⟨h1, h2⟩; exact ⟨(n + 1).toNat, by omega, by omega⟩
def withS (s : List Int) (n : Int) : List Int := if n = -1 then s else s ++ [n]
/-- what some letters give behind a sound string, once for each way; K: the sounds and silence -/
def yields (K : Nat) : List Letter → List Int → List (List Int)
  | [], s => [s]
  | y :: ys, s => (soundsTo K).flatMap fun n => if givesM y n then yields K ys (withS s n) else []
def yieldsTo (K : Nat) (y : Letter) (ys : List Letter) (s : List Int) (k : Nat) : List (List Int) :=
  (soundsTo k).flatMap fun n => if givesM y n then yields K ys (withS s n) else []
theorem yields_cons (K : Nat) (y : Letter) (ys : List Letter) (s : List Int) : yields K (y :: ys) s = yieldsTo K y ys s K := rfl
theorem yieldsTo_zero (K : Nat) (y : Letter) (ys : List Letter) (s : List Int) : yieldsTo K y ys s 0 = [] := rfl
theorem yieldsTo_yes (K : Nat) (y : Letter) (ys : List Letter) (s : List Int) (k : Nat) (h : givesM y ((k : Int) - 1) = true) : yieldsTo K y ys s (k + 1) = yieldsTo K y ys s k ++ yields K ys (withS s ((k : Int) - 1)) := by
  simp [yieldsTo, soundsTo_succ, h]
theorem yieldsTo_no (K : Nat) (y : Letter) (ys : List Letter) (s : List Int) (k : Nat) (h : givesM y ((k : Int) - 1) = false) : yieldsTo K y ys s (k + 1) = yieldsTo K y ys s k := by
  simp [yieldsTo, soundsTo_succ, h]
/-- a string that some letters can be, letter by letter -/
inductive Can (K : Nat) : List Letter → List Int → List Int → Prop
  | nil (s : List Int) : Can K [] s s
  | cons (y : Letter) (ys : List Letter) (s t : List Int) (n : Int) (hn : n ∈ soundsTo K) (hg : givesM y n = true) (h : Can K ys (withS s n) t) : Can K (y :: ys) s t
theorem mem_yields {K : Nat} : ∀ {ls : List Letter} {s t : List Int}, t ∈ yields K ls s ↔ Can K ls s t
  | [], s, t => by
    simp only [yields, List.mem_singleton]
    constructor
    · rintro rfl; exact .nil _
    · rintro ⟨⟩; rfl
  | y :: ys, s, t => by
    simp only [yields, List.mem_flatMap]
    constructor
    · rintro ⟨n, hn, ht⟩
      split at ht
      · rename_i hg; exact .cons y ys s t n hn hg (mem_yields.1 ht)
      · cases ht
    · rintro h
      cases h with
      | cons _ _ _ _ n hn hg h => exact ⟨n, hn, by rw [if_pos hg]; exact mem_yields.2 h⟩
theorem Can.len {K : Nat} {ls : List Letter} {s t : List Int} (h : Can K ls s t) : t.length ≤ s.length + ls.length := by
  induction h with
  | nil s => simp
  | cons y ys s t n hn hg h ih =>
    have : (withS s n).length ≤ s.length + 1 := by unfold withS; split <;> simp
    simp only [List.length_cons]; omega
theorem Can.fine {K : Nat} {ls : List Letter} {s t : List Int} (h : Can K ls s t) (hs : ∀ x ∈ s, 0 ≤ x ∧ x < (K : Int) - 1) : ∀ x ∈ t, 0 ≤ x ∧ x < (K : Int) - 1 := by
  induction h with
  | nil s => exact hs
  | cons y ys s t n hn hg h ih =>
    refine ih fun x hx => ?_
    unfold withS at hx
    split at hx
    · exact hs x hx
    · rename_i h1
      have := mem_soundsTo.1 hn
      rcases List.mem_append.1 hx with hx | hx
      · exact hs x hx
      · simp at hx; subst hx; omega

/-- WHO CAN BE WHAT: each string with the bits of those who can be it -/
abbrev Tally := List (List Int × Nat)
def getT (k : List Int) : Tally → Option Nat
  | [] => none
  | p :: M => if p.1 = k then some p.2 else getT k M
def putT (k : List Int) (v : Nat) : Tally → Tally
  | [] => [(k, v)]
  | p :: M => if p.1 = k then (k, v) :: M else p :: putT k v M
def markT (bit : Nat) (M : Tally) (k : List Int) : Tally := putT k ((getT k M).getD 0 ||| bit) M
theorem getT_putT (k : List Int) (v : Nat) (k' : List Int) : ∀ M : Tally, getT k' (putT k v M) = if k' = k then some v else getT k' M
  | [] => by
    simp only [putT, getT]
    by_cases h : k = k'
    · rw [if_pos h, if_pos h.symm]
    · rw [if_neg h, if_neg (fun e => h e.symm)]
  | p :: M => by
    have ih := getT_putT k v k' M
    simp only [putT]
    by_cases hp : p.1 = k
    · rw [if_pos hp]
      simp only [getT]
      by_cases h : k = k'
      · rw [if_pos h, if_pos h.symm]
      · rw [if_neg h, if_neg (fun e => h e.symm), if_neg (by rw [hp]; exact h)]
    · rw [if_neg hp]
      simp only [getT]
      by_cases h : k' = k
      · rw [if_pos h, if_neg (by rw [h]; exact hp), ih, if_pos h]
      · rw [if_neg h, ih, if_neg h]
theorem keys_putT (k : List Int) (v : Nat) (k' : List Int) : ∀ M : Tally, k' ∈ (putT k v M).map (·.1) ↔ k' = k ∨ k' ∈ M.map (·.1)
  | [] => by simp [putT]
  | p :: M => by
    have ih := keys_putT k v k' M
    simp only [putT]
    by_cases hp : p.1 = k
    · rw [if_pos hp]; simp only [List.map_cons, List.mem_cons, hp]; constructor
      · rintro (h | h); exact .inl h; exact .inr (.inr h)
      · rintro (h | h | h); exact .inl h; exact .inl h; exact .inr h
    · rw [if_neg hp]; simp only [List.map_cons, List.mem_cons, ih]
      constructor
      · rintro (h | h | h); exact .inr (.inl h); exact .inl h; exact .inr (.inr h)
      · rintro (h | h | h); exact .inr (.inl h); exact .inl h; exact .inr (.inr h)
theorem nodup_putT (k : List Int) (v : Nat) : ∀ M : Tally, (M.map (·.1)).Nodup → ((putT k v M).map (·.1)).Nodup
  | [], _ => by simp [putT]
  | p :: M, h => by
    simp only [List.map_cons, List.nodup_cons] at h
    have ih := nodup_putT k v M h.2
    simp only [putT]
    by_cases hp : p.1 = k
    · rw [if_pos hp]; simp only [List.map_cons, List.nodup_cons]; exact ⟨by rw [← hp]; exact h.1, h.2⟩
    · rw [if_neg hp]; simp only [List.map_cons, List.nodup_cons]
      refine ⟨fun hm => ?_, ih⟩
      rcases (keys_putT k v p.1 M).1 hm with e | e
      · exact hp e
      · exact h.1 e
theorem getT_keys (k : List Int) : ∀ M : Tally, (getT k M).isSome = true ↔ k ∈ M.map (·.1)
  | [] => by simp [getT]
  | p :: M => by
    have ih := getT_keys k M
    simp only [getT, List.map_cons, List.mem_cons]
    by_cases hp : p.1 = k
    · simp [hp]
    · rw [if_neg hp, ih]; constructor
      · exact .inr
      · rintro (h | h); exact absurd h.symm hp; exact h
theorem getT_mem {k : List Int} {v : Nat} : ∀ {M : Tally}, getT k M = some v → (k, v) ∈ M
  | p :: M, h => by
    simp only [getT] at h
    split at h
    · rename_i hp; cases h; rw [← hp]; exact List.mem_cons_self
    · exact List.mem_cons_of_mem _ (getT_mem h)
theorem mem_getT {k : List Int} {v : Nat} : ∀ {M : Tally}, (M.map (·.1)).Nodup → (k, v) ∈ M → getT k M = some v
  | p :: M, hn, h => by
    simp only [List.map_cons, List.nodup_cons] at hn
    simp only [getT]
    rcases List.mem_cons.1 h with e | h
    · rw [← e]; simp
    · rw [if_neg]
      · exact mem_getT hn.2 h
      · intro e; exact hn.1 (by rw [e]; exact List.mem_map.2 ⟨_, h, rfl⟩)
theorem putT_len (k : List Int) (v : Nat) : ∀ M : Tally, (putT k v M).length ≤ M.length + 1
  | [] => by simp [putT]
  | p :: M => by
    have := putT_len k v M
    simp only [putT]
    split <;> simp <;> omega

/-- what is so of a tally as it grows -/
structure FineT (K : Nat) (M : Tally) : Prop where
  nodup : (M.map (·.1)).Nodup
  keys : ∀ p ∈ M, p.1.length ≤ 5 ∧ ∀ x ∈ p.1, 0 ≤ x ∧ x < (K : Int) - 1
  vals : ∀ p ∈ M, p.2 < 32
theorem FineT.nil (K : Nat) : FineT K [] := ⟨by simp, by simp, by simp⟩
theorem mem_putT {k : List Int} {v : Nat} {p : List Int × Nat} : ∀ {M : Tally}, p ∈ putT k v M → p = (k, v) ∨ p ∈ M
  | [], h => by simp [putT] at h; exact .inl h
  | q :: M, h => by
    simp only [putT] at h
    split at h
    · rcases List.mem_cons.1 h with e | h
      · exact .inl e
      · exact .inr (List.mem_cons_of_mem _ h)
    · rcases List.mem_cons.1 h with e | h
      · exact .inr (by rw [e]; exact List.mem_cons_self)
      · rcases mem_putT h with e | h
        · exact .inl e
        · exact .inr (List.mem_cons_of_mem _ h)
theorem FineT.get_lt {K : Nat} {M : Tally} (h : FineT K M) (k : List Int) : (getT k M).getD 0 < 32 := by
  cases hg : getT k M with
  | none => simp
  | some v => exact h.vals _ (getT_mem hg)
theorem or_lt {a n : Nat} (ha : a < 32) (hn : n < 5) : a ||| 2 ^ n < 32 := by
  have h2 : 2 ^ n < 2 ^ 5 := Nat.pow_lt_pow_right (by decide) hn
  exact Nat.or_lt_two_pow (n := 5) ha h2
theorem FineT.mark {K : Nat} {M : Tally} (h : FineT K M) {k : List Int} (hk : k.length ≤ 5 ∧ ∀ x ∈ k, 0 ≤ x ∧ x < (K : Int) - 1) {n : Nat} (hn : n < 5) : FineT K (markT (2 ^ n) M k) := by
  refine ⟨nodup_putT _ _ _ h.nodup, fun p hp => ?_, fun p hp => ?_⟩
  · rcases mem_putT hp with rfl | hp
    · exact hk
    · exact h.keys p hp
  · rcases mem_putT hp with rfl | hp
    · exact or_lt (h.get_lt k) hn
    · exact h.vals p hp

def lettersAt (b : Book) (n : Nat) : List Letter := match b.spellings[n]? with
  | none => []
  | some x => lettersM (lettersOf b.alphabets x.alphabet) x.text
def stringsOf (b : Book) (n : Nat) : List (List Int) := yields (b.sounds.toNat + 1) (lettersAt b n) []
def canFrom (b : Book) (M : Tally) (l : List Nat) : Tally := l.foldl (fun M n => (stringsOf b n).foldl (markT (2 ^ n)) M) M
def canM (b : Book) (l : List Nat) : Tally := canFrom b [] l
theorem foldl_mark_snoc (bit : Nat) (l : List (List Int)) (k : List Int) (M : Tally) : (l ++ [k]).foldl (markT bit) M = markT bit (l.foldl (markT bit) M) k := by simp
theorem canFrom_snoc (b : Book) (M : Tally) (l : List Nat) (n : Nat) : canFrom b M (l ++ [n]) = (stringsOf b n).foldl (markT (2 ^ n)) (canFrom b M l) := by simp [canFrom]
theorem fine_foldl {K n : Nat} (hn : n < 5) : ∀ (l : List (List Int)) (M : Tally), FineT K M → (∀ k ∈ l, k.length ≤ 5 ∧ ∀ x ∈ k, 0 ≤ x ∧ x < (K : Int) - 1) → FineT K (l.foldl (markT (2 ^ n)) M)
  | [], _, h, _ => h
  | k :: l, M, h, hl => fine_foldl hn l _ (h.mark (hl k List.mem_cons_self) hn) fun x hx => hl x (List.mem_cons_of_mem _ hx)
/-- the bit of a spelling behind some marks -/
theorem get_foldl (bit : Nat) (k : List Int) : ∀ (l : List (List Int)) (M : Tally), getT k (l.foldl (markT bit) M) = if k ∈ l then some ((getT k M).getD 0 ||| bit) else getT k M
  | [], _ => by simp
  | x :: l, M => by
    rw [List.foldl_cons, get_foldl bit k l]
    unfold markT
    simp only [getT_putT]
    by_cases hx : k = x
    · subst hx
      rw [if_pos rfl, if_pos List.mem_cons_self]
      split
      · simp [Nat.or_assoc]
      · rfl
    · simp [hx]
/-- WHO CAN BE A STRING, told by bits -/
theorem get_canFrom (b : Book) (k : List Int) : ∀ (l : List Nat) (M : Tally), getT k (canFrom b M l) = if (∃ n ∈ l, k ∈ stringsOf b n) then some (l.foldl (fun s n => if k ∈ stringsOf b n then s ||| 2 ^ n else s) ((getT k M).getD 0)) else getT k M
  | [], M => by simp [canFrom]
  | n :: l, M => by
    have ih := get_canFrom b k l ((stringsOf b n).foldl (markT (2 ^ n)) M)
    have e : canFrom b M (n :: l) = canFrom b ((stringsOf b n).foldl (markT (2 ^ n)) M) l := by simp [canFrom]
    rw [e, ih, get_foldl]
    by_cases h : k ∈ stringsOf b n
    · have hex : ∃ m ∈ n :: l, k ∈ stringsOf b m := ⟨n, List.mem_cons_self, h⟩
      rw [if_pos hex]
      simp only [List.foldl_cons, if_pos h, Option.getD_some]
      split
      · rfl
      · rename_i hno
        have : l.foldl (fun s m => if k ∈ stringsOf b m then s ||| 2 ^ m else s) ((getT k M).getD 0 ||| 2 ^ n) = (getT k M).getD 0 ||| 2 ^ n := by
          clear ih e hex
          generalize (getT k M).getD 0 ||| 2 ^ n = s
          induction l with
          | nil => rfl
          | cons m l ih2 =>
            rw [List.foldl_cons, if_neg (fun hm => hno ⟨m, List.mem_cons_self, hm⟩)]
            exact ih2 fun ⟨x, hx, hk⟩ => hno ⟨x, List.mem_cons_of_mem _ hx, hk⟩
        rw [this]
    · have hiff : (∃ m ∈ n :: l, k ∈ stringsOf b m) ↔ ∃ m ∈ l, k ∈ stringsOf b m := by
        constructor
        · rintro ⟨m, hm, hk⟩
          rcases List.mem_cons.1 hm with rfl | hm
          · exact absurd hk h
          · exact ⟨m, hm, hk⟩
        · rintro ⟨m, hm, hk⟩; exact ⟨m, List.mem_cons_of_mem _ hm, hk⟩
      simp only [hiff, if_neg h, List.foldl_cons]
theorem testBit_marks (p : Nat → Bool) (i : Nat) : ∀ (l : List Nat) (s : Nat), (l.foldl (fun s n => if p n then s ||| 2 ^ n else s) s).testBit i = (s.testBit i || l.any fun n => n == i && p n)
  | [], s => by simp
  | n :: l, s => by
    rw [List.foldl_cons, testBit_marks p i l]
    by_cases hp : p n = true
    · rw [if_pos hp]
      by_cases h : n = i
      · subst h; simp [Nat.testBit_or, Nat.testBit_two_pow_self, hp]
      · have h' : (n == i) = false := by simpa using h
        simp [Nat.testBit_or, Nat.testBit_two_pow_of_ne h, h']
    · simp only [Bool.not_eq_true] at hp
      simp [hp]
end Go.Proofs.YtnfbhicoknpojaaGreat

namespace Go.Proofs.YtnfbhicoknpojaaGreat
set_option linter.unusedSimpArgs false
set_option linter.unusedVariables false
open Go.RowKit

/-- all cells are as they were -/
def CK (w w' : World) : Prop := w.heap.size ≤ w'.heap.size ∧ ∀ p v, w.cell? p = some v → w'.cell? p = some v ∧ w'.frozen? p = w.frozen? p
theorem CK.refl (w : World) : CK w w := ⟨Nat.le_refl _, fun _ _ h => ⟨h, rfl⟩⟩
theorem CK.trans {a b c : World} (h : CK a b) (k : CK b c) : CK a c := ⟨Nat.le_trans h.1 k.1, fun p v hp => by
  obtain ⟨h1, h2⟩ := h.2 p v hp
  obtain ⟨k1, k2⟩ := k.2 p v h1
  exact ⟨k1, k2.trans h2⟩⟩
theorem Ext.ck {w w' : World} (h : Ext w w') : CK w w' := ⟨h.size, fun _ _ hp => ⟨h.cell hp, h.frozen (cell_lt hp)⟩⟩
theorem CK.cell {w w' : World} (h : CK w w') {p : Addr} {v : Value} (hc : w.cell? p = some v) : w'.cell? p = some v := (h.2 p v hc).1
theorem two_ck : Facts.Piv.Two Ext CK := ⟨fun _ _ h => h.ck, fun _ _ _ h k => h.trans k, fun _ _ _ h k => h.trans k, Ext.refl, fun a => ext_drew a⟩
theorem SliceAt.ck {α : Type} {sz : Nat} {R : World → Nat → Nat → α → Prop} (hR : ∀ w w' b o x, CK w w' → R w b o x → R w' b o x) {w w' : World} {v : Value} {l : List α} (h : SliceAt sz R w v l) (hx : CK w w') : SliceAt sz R w' v l := by
  obtain ⟨a, cap, h1, h2, h3, h4⟩ := h
  exact ⟨a, cap, h1, h2, h3, fun i hi => by obtain ⟨b, off, e, r⟩ := h4 i hi; exact ⟨b, off, e, hR _ _ _ _ _ hx r⟩⟩
theorem LettersAt.ck {w w' : World} {v : Value} {l : List Letter} (h : LettersAt w v l) (hx : CK w w') : LettersAt w' v l :=
  SliceAt.ck (fun _ _ _ _ _ hx h => ⟨hx.cell h.1, hx.cell h.2.1, hx.cell h.2.2.1, h.2.2.2⟩) h hx

theorem two_any : Facts.Piv.Two Ext (fun _ _ => True) := ⟨fun _ _ _ => trivial, fun _ _ _ h k => h.trans k, fun _ _ _ _ _ => trivial, Ext.refl, fun a => ext_drew a⟩
/-- a bool that says which of two facts is so -/
def Goes (G X : World → Prop) (b : Bool) (u : Value) (w : World) : Prop := (u = .bool b ∧ G w) ∨ (u = .bool (!b) ∧ X w)
theorem Goes.keeps {G X : World → Prop} {b : Bool} (hG : ∀ A B, Ext A B → G A → G B) (hX : ∀ A B, Ext A B → X A → X B) (u : Value) (w1 w2 : World) (h : Ext w1 w2) (hg : Goes G X b u w1) : Goes G X b u w2 := by
  rcases hg with ⟨e, g⟩ | ⟨e, g⟩
  · exact .inl ⟨e, hG _ _ h g⟩
  · exact .inr ⟨e, hX _ _ h g⟩
theorem Goes.nb {G X : World → Prop} {b : Bool} {u : Value} {w : World} (h : Goes G X b u w) (hn : ∀ x, u ≠ .bool x) : False := by
  rcases h with ⟨e, -⟩ | ⟨e, -⟩
  · exact hn _ e
  · exact hn _ e
theorem Goes.yes {G X : World → Prop} {b : Bool} {w : World} (h : Goes G X b (.bool b) w) : G w := by
  rcases h with ⟨-, g⟩ | ⟨e, -⟩
  · exact g
  · cases b <;> cases e
theorem Goes.no {G X : World → Prop} {b : Bool} {w : World} (h : Goes G X b (.bool (!b)) w) : X w := by
  rcases h with ⟨e, -⟩ | ⟨-, g⟩
  · cases b <;> cases e
  · exact g
theorem yieldsTo_mono (K : Nat) (y : Letter) (ys : List Letter) (s : List Int) (k m : Nat) (h : k ≤ m) : (yieldsTo K y ys s k).length ≤ (yieldsTo K y ys s m).length := by
  obtain ⟨d, rfl⟩ := Nat.exists_eq_add_of_le h
  clear h
  induction d with
  | zero => exact Nat.le_refl _
  | succ d ih =>
    rw [show k + (d + 1) = (k + d) + 1 from by omega]
    cases hg : givesM y (((k + d : Nat) : Int) - 1)
    · rw [yieldsTo_no K y ys s (k + d) hg]; exact ih
    · rw [yieldsTo_yes K y ys s (k + d) hg, List.length_append]; omega
/-- what is yielded keeps the cells; the body says whether it goes on -/
def Body (m l N : Nat) (S : Int) (J Jx : List (List Int) → World → Prop) : Prop :=
  ∀ pre x W1, x.length ≤ 5 → (∀ y ∈ x, 0 ≤ y ∧ y < S) → J pre W1 → pre.length < N → YieldAt Fence.wide m Tryz.prog l #[ssV x] W1 fun e W' => (e = .returned (.bool true) ∧ J (pre ++ [x]) W' ∧ CK W1 W') ∨ (e = .returned (.bool false) ∧ Jx (pre ++ [x]) W')

/-- the captured variables of the iterator's inner function, as they lie in memory -/
structure Captured (W : World) (l bl bk : Nat) (yb gb : Nat) (lv : Value) (ls : List Letter) (S : Int) : Prop where
  letters : W.cell? ⟨bl, 0, none⟩ = some lv
  at_ : LettersAt W lv ls
  book : W.cell? ⟨bk, 0, none⟩ = some (.int .i64 S)
  yield : W.cell? ⟨yb, 0, none⟩ = some (.func (.yield l) #[] #[])
  give : W.cell? ⟨gb, 0, none⟩ = some (.func (.func 131) #[] #[.pointer (some ⟨bl, 0, none⟩), .pointer (some ⟨yb, 0, none⟩), .pointer (some ⟨bk, 0, none⟩), .pointer (some ⟨gb, 0, none⟩)])
theorem Captured.ck {W W' : World} {l bl bk yb gb : Nat} {lv : Value} {ls : List Letter} {S : Int} (h : Captured W l bl bk yb gb lv ls S) (hx : CK W W') : Captured W' l bl bk yb gb lv ls S :=
  ⟨hx.cell h.letters, h.at_.ck hx, hx.cell h.book, hx.cell h.yield, hx.cell h.give⟩

def GivePost (J Jx : List (List Int) → World → Prop) (all : List (List Int)) (W : World) (e : Ending) (W' : World) : Prop :=
  (e = .returned (.bool true) ∧ J all W' ∧ CK W W') ∨ (e = .returned (.bool false) ∧ ∃ pre, Jx pre W')

theorem good_with {s : List Int} {n S : Int} (h : ∀ y ∈ s, 0 ≤ y ∧ y < S) (hn : -1 ≤ n ∧ n < S) : ∀ y ∈ withS s n, 0 ≤ y ∧ y < S := by
  intro y hy
  unfold withS at hy
  split at hy
  · exact h y hy
  · rcases List.mem_append.1 hy with hy | hy
    · exact h y hy
    · simp at hy; subst hy; omega
theorem with_S (s : List Int) (n : Int) (hs : s.length < 5) (w : World) : Calls Tryz.prog 132 #[ssV s, .int .i64 n] w fun r w' => r = .returned (ssV (withS s n)) ∧ Ext w w' := by
  by_cases h : n = -1
  · subst h; rw [withS, if_pos rfl]; exact with_none s w
  · rw [withS, if_neg h]; exact with_any s n hs h w
set_option maxRecDepth 100000 in
set_option maxHeartbeats 20000000 in
theorem give_any (m l bl bk yb gb N : Nat) (lv : Value) (ls : List Letter) (S : Int) (hS : 1 ≤ S ∧ S ≤ 4) (h5 : ls.length ≤ 5) (hf : ∀ x ∈ ls, FineL x) (J Jx : List (List Int) → World → Prop)
    (hJ : ∀ s A B, Ext A B → J s A → J s B) (hJx : ∀ s A B, Ext A B → Jx s A → Jx s B) (hY : Body m l N S J Jx) :
    ∀ (rem at_ : Nat) (s : List Int) (pre : List (List Int)) (W : World), at_ + rem = ls.length → s.length ≤ at_ → (∀ y ∈ s, 0 ≤ y ∧ y < S) → Captured W l bl bk yb gb lv ls S → J pre W → pre.length + (yields (S.toNat + 1) (ls.drop at_) s).length ≤ N →
      Calls Tryz.prog 131 #[.int .i64 at_, ssV s, .pointer (some ⟨bl, 0, none⟩), .pointer (some ⟨yb, 0, none⟩), .pointer (some ⟨bk, 0, none⟩), .pointer (some ⟨gb, 0, none⟩)] W
        (GivePost J Jx (pre ++ yields (S.toNat + 1) (ls.drop at_) s) W) := by
  intro rem
  induction rem with
  | zero =>
    intro at_ s pre W hat hs hgs hc hp hN
    obtain ⟨cl, hl, cb, cy, cg⟩ := hc
    obtain ⟨a, cap, rfl, hlc, hcm⟩ := hl.shape
    have hat' : at_ = ls.length := by omega
    subst hat'
    rw [List.drop_length] at hN ⊢
    simp only [yields, List.length_cons, List.length_nil] at hN ⊢
    obtain ⟨fn, tmps, assign, body, hy, hR⟩ := hY pre s _ (by omega) hgs (hJ _ _ _ (ext_alloc W (.cells #[.int .i64 s.length, .int .i64 (s.getD 0 0), .int .i64 (s.getD 1 0), .int .i64 (s.getD 2 0), .int .i64 (s.getD 3 0), .int .i64 (s.getD 4 0)] 129)) hp) (by omega)
    have z1 := cell_lt cl
    have z2 := cell_lt cy
    unfold ssV ssRaw at *
    generalize s.getD 0 0 = s0 at *
    generalize s.getD 1 0 = s1 at *
    generalize s.getD 2 0 = s2 at *
    generalize s.getD 3 0 = s3 at *
    generalize s.getD 4 0 = s4 at *
    generalize (s.length : Int) = sn at *
    go_enter Tryz.func131, Tryz.ntmps131
    refine (wpIn_wide (n := m + 1)).1 ?_
    gi_wp2
    refine hR.mono ?_
    rintro e W3 (⟨rfl, hJ3, hk3⟩ | ⟨rfl, hJx3⟩)
    · gi_wp2
      go_ret
      exact .inl ⟨rfl, hJ3, (ext_alloc _ _).ck.trans hk3⟩
    · gi_wp2
      go_ret
      exact .inr ⟨rfl, _, hJx3⟩
  | succ rem ih =>
    intro at_ s pre W hat hs hgs hc hp hN
    have hlt : at_ < ls.length := by omega
    have hdrop := List.drop_eq_getElem_cons hlt
    rw [hdrop, yields_cons] at hN ⊢
    have hfy : FineL ls[at_] := hf _ (List.getElem_mem hlt)
    obtain ⟨lb, lo, cap, rfl, hlc, hcm, c0, c1, c2, hu8, hu64⟩ : ∃ lb lo cap, lv = .slice (some ⟨lb, lo, none⟩) ls.length cap ∧ ls.length ≤ cap ∧ cap ≤ 9223372036854775807 ∧ letterR W lb (lo + at_ * 3) ls[at_] := by
      obtain ⟨a, cap, e, h1, h2, hh⟩ := hc.at_
      obtain ⟨lb, lo, rfl, hr⟩ := hh at_ hlt
      exact ⟨lb, lo, cap, e, h1, h2, hr⟩
    generalize hyy : ls[at_] = y at *
    obtain ⟨sn, s0, s1, s2, s3, s4, hsv⟩ : ∃ sn s0 s1 s2 s3 s4, ssV s = .agg #[.int .i64 sn, .int .i64 s0, .int .i64 s1, .int .i64 s2, .int .i64 s3, .int .i64 s4] := ⟨_, _, _, _, _, _, rfl⟩
    have hwith : ∀ (n : Int) (w : World), Calls Tryz.prog 132 #[.agg #[.int .i64 sn, .int .i64 s0, .int .i64 s1, .int .i64 s2, .int .i64 s3, .int .i64 s4], .int .i64 n] w fun r w' => r = .returned (ssV (withS s n)) ∧ Ext w w' := fun n w => by
      have := with_S s n (by omega) w
      rwa [hsv] at this
    have hgives : ∀ (n : Int) (w : World), -1 ≤ n ∧ n ≤ 3 → Calls Tryz.prog 67 #[.agg #[.int .u8 y.c, .int .i64 y.sounds, .bool y.silent], .int .i64 n] w fun r w' => r = .returned (.bool (givesM y n)) ∧ Ext w w' := fun n w h =>
      gives_any _ y n ⟨rfl, hu8, hu64⟩ hfy h w
    have hih : ∀ (n : Int) (pre : List (List Int)) (w : World), -1 ≤ n ∧ n < S → Captured w l bl bk yb gb (.slice (some ⟨lb, lo, none⟩) ls.length cap) ls S → J pre w → pre.length + (yields (S.toNat + 1) (ls.drop (at_ + 1)) (withS s n)).length ≤ N →
        Calls Tryz.prog 131 #[.int .i64 ((at_ : Int) + 1), ssV (withS s n), .pointer (some ⟨bl, 0, none⟩), .pointer (some ⟨yb, 0, none⟩), .pointer (some ⟨bk, 0, none⟩), .pointer (some ⟨gb, 0, none⟩)] w
          (GivePost J Jx (pre ++ yields (S.toNat + 1) (ls.drop (at_ + 1)) (withS s n)) w) := fun n pre w h0 h1 h2 h3 => by
      have := ih (at_ + 1) (withS s n) pre w (by omega) (by unfold withS; split <;> (try simp) <;> omega) (good_with hgs h0) h1 h2 h3
      rwa [show ((at_ + 1 : Nat) : Int) = (at_ : Int) + 1 from by omega] at this
    clear ih hdrop
    generalize ls.drop (at_ + 1) = ys at *
    rw [hsv]
    obtain ⟨W1, hW1⟩ : ∃ W1, W1 = W.alloc (.cells #[.int .i64 sn, .int .i64 s0, .int .i64 s1, .int .i64 s2, .int .i64 s3, .int .i64 s4] 129) := ⟨_, rfl⟩
    have hx1 : Ext W W1 := by rw [hW1]; exact ext_alloc _ _
    have q0 : W1.cell? ⟨W.heap.size, 0, none⟩ = some (.int .i64 sn) := by subst hW1; simp [go_sem]
    have q1 : W1.cell? ⟨W.heap.size, 1, none⟩ = some (.int .i64 s0) := by subst hW1; simp [go_sem]
    have q2 : W1.cell? ⟨W.heap.size, 2, none⟩ = some (.int .i64 s1) := by subst hW1; simp [go_sem]
    have q3 : W1.cell? ⟨W.heap.size, 3, none⟩ = some (.int .i64 s2) := by subst hW1; simp [go_sem]
    have q4 : W1.cell? ⟨W.heap.size, 4, none⟩ = some (.int .i64 s3) := by subst hW1; simp [go_sem]
    have q5 : W1.cell? ⟨W.heap.size, 5, none⟩ = some (.int .i64 s4) := by subst hW1; simp [go_sem]
    have hc1 := hc.ck hx1.ck
    have hp1 := hJ _ _ _ hx1 hp
    have cl := hc.letters
    have z1 := cell_lt cl
    have z2 := cell_lt c0
    have k1 : (at_ : Int) < (ls.length : Int) := by omega
    have wat : IntKind.i64.wrap ((at_ : Int) + 1) = (at_ : Int) + 1 := IntWalk.i64_in _ (by omega)
    have HW := Lib.hid hW1
    have Hpost := Lib.hid hN
    clear hN hc hp hW1
    go_enter Tryz.func131, Tryz.ntmps131
    go_wp2
    rw [← HW.out]
    go_loopw [10] (fun i wr => ∃ k : Nat, k ≤ S.toNat + 1 ∧ i = .int .i64 ((k : Int) - 1) ∧ CK W1 wr ∧ J (pre ++ yieldsTo (S.toNat + 1) y ys s k) wr) (fun i _ => S.toNat + 1 - (intOf i + 1).toNat)
    case atStart => exact ⟨0, Nat.zero_le _, rfl, CK.refl _, by rw [yieldsTo_zero, List.append_nil]; exact hp1⟩
    case round =>
      obtain ⟨k, hk, rfl, hx, hj⟩ := hrel
      have hcr := hc1.ck hx
      have cb := hcr.book
      have cg := hcr.give
      have p0 := hx.cell q0
      have p1 := hx.cell q1
      have p2 := hx.cell q2
      have p3 := hx.cell q3
      have p4 := hx.cell q4
      have p5 := hx.cell q5
      clear hc1
      by_cases hkS : (k : Int) - 1 < S
      · have hn3 : -1 ≤ (k : Int) - 1 ∧ (k : Int) - 1 ≤ 3 := by omega
        obtain ⟨n, hn⟩ : ∃ n, n = (k : Int) - 1 := ⟨_, rfl⟩
        rw [← hn] at hkS hn3 ⊢
        have Hn := Lib.hid hn
        have wn : IntKind.i64.wrap (n + 1) = n + 1 := IntWalk.i64_in _ (by omega)
        clear hn
        cases hg : givesM y n
        · have hst := yieldsTo_no (S.toNat + 1) y ys s k (by rw [← Hn.out]; exact hg)
          have hgv := fun w => hgives n w hn3
          rw [hg] at hgv
          have Hst := Lib.hid hst
          clear hg hst hgives hwith hih
          go_wp2_with fail
          apply Facts.wp_region [.val _, .val _, .val _, .val _, .val _, .val _, .val _, .val _, .val _, .val _, .val _, .val _, .val _] (by kernel_rfl) (by kernel_rfl) trivial ?main
          case main =>
            iterate 2 (refine ⟨fun w1 hx hh => ?_, ?_⟩; focus (clear hh; skip; go_simp; exact ⟨Ext.refl _, rfl⟩))
            refine ⟨fun w1 hx hh => ?_, ?_⟩
            · clear hh
              go_simp
              refine (hgv _).mono ?_
              rintro e w' ⟨rfl, hx2⟩
              exact ⟨_, rfl, hx2, rfl⟩
            iterate 10 (refine ⟨fun w1 hx hh => ?_, ?_⟩; focus (clear hh; skip; go_simp; exact ⟨Ext.refl _, rfl⟩))
            intro w1 hx1 hh
            clear hh
            go_simp
            go_wp2
            go_roundw
            case rel => exact ⟨k + 1, by have := Hn.out; omega, by rw [show ((k + 1 : Nat) : Int) - 1 = n + 1 from by have := Hn.out; omega], hx.trans hx1.ck, by rw [Hst.out]; exact hJ _ _ _ hx1 hj⟩
            case measure => have := Hn.out; simp [intOf]; omega
        · have hst := yieldsTo_yes (S.toNat + 1) y ys s k (by rw [← Hn.out]; exact hg)
          rw [← Hn.out] at hst
          have hgv := fun w => hgives n w hn3
          rw [hg] at hgv
          have hwv := fun w => hwith n w
          have hle := yieldsTo_mono (S.toNat + 1) y ys s (k + 1) (S.toNat + 1) (by have := Hn.out; omega)
          have hiv := fun w h1 h2 => hih n (pre ++ yieldsTo (S.toNat + 1) y ys s k) w ⟨hn3.1, hkS⟩ h1 h2 (by
            have := Hpost.out
            rw [hst] at hle
            simp only [List.length_append] at hle ⊢
            omega)
          have Hst := Lib.hid hst
          clear hg hst hgives hwith hih hle
          go_wp2_with fail
          obtain ⟨G, hGi, hGo, hGk⟩ : ∃ G : World → Prop, (∀ w, J (pre ++ yieldsTo (S.toNat + 1) y ys s (k + 1)) w → CK wr w → G w) ∧ (∀ w, G w → J (pre ++ yieldsTo (S.toNat + 1) y ys s (k + 1)) w ∧ CK wr w) ∧ ∀ A B, Ext A B → G A → G B :=
            ⟨fun w => J (pre ++ yieldsTo (S.toNat + 1) y ys s (k + 1)) w ∧ CK wr w, fun _ h1 h2 => ⟨h1, h2⟩, fun _ h => h, fun _ _ hx h => ⟨hJ _ _ _ hx h.1, h.2.trans hx.ck⟩⟩
          obtain ⟨X, hXi, hXo, hXk⟩ : ∃ X : World → Prop, (∀ w, (∃ q, Jx q w) → X w) ∧ (∀ w, X w → ∃ q, Jx q w) ∧ ∀ A B, Ext A B → X A → X B :=
            ⟨fun w => ∃ q, Jx q w, fun _ h => h, fun _ h => h, fun _ _ hx ⟨q, h⟩ => ⟨q, hJx _ _ _ hx h⟩⟩
          apply Facts.Piv.wp_region two_any 10 [.val _, .val _, .val _, .val _, .val _, .val _, .val _, .val _, .val _, .val _, .fact (Goes G X true), .fact (Goes G X false), .fact (Goes G X false)] (by kernel_rfl) (by kernel_rfl) (by kernel_rfl) ?keep ?main
          case keep =>
            exact ⟨Goes.keeps hGk hXk, fun h => absurd h (Bool.eq_false_iff.1 (by kernel_rfl)), Goes.keeps hGk hXk, fun h => absurd h (Bool.eq_false_iff.1 (by kernel_rfl)), Goes.keeps hGk hXk, fun h => absurd h (Bool.eq_false_iff.1 (by kernel_rfl)), trivial⟩
          case main =>
            iterate 2 (refine ⟨fun w1 hE hx hh => ?_, ?_⟩; focus (clear hh hx; replace hE := hE (by kernel_rfl); skip; go_simp; exact ⟨Ext.refl _, rfl⟩))
            refine ⟨fun w1 hE hx hh => ?_, ?_⟩
            · clear hh hx
              replace hE := hE (by kernel_rfl)
              go_simp
              refine (hgv _).mono ?_
              rintro e w' ⟨rfl, hx2⟩
              exact ⟨_, rfl, hx2, rfl⟩
            iterate 1 (refine ⟨fun w1 hE hx hh => ?_, ?_⟩; focus (clear hh hx; replace hE := hE (by kernel_rfl); skip; go_simp; exact ⟨Ext.refl _, rfl⟩))
            iterate 1 (refine ⟨fun w1 hE hx hh => ?_, ?_⟩; focus (clear hh hx; replace hE := hE (by kernel_rfl); have e1 := hE.cell cg; go_simp; exact ⟨Ext.refl _, rfl⟩))
            iterate 2 (refine ⟨fun w1 hE hx hh => ?_, ?_⟩; focus (clear hh hx; replace hE := hE (by kernel_rfl); skip; go_simp; exact ⟨Ext.refl _, rfl⟩))
            iterate 1 (refine ⟨fun w1 hE hx hh => ?_, ?_⟩; focus (clear hh hx; replace hE := hE (by kernel_rfl); (have e0 := hE.cell p0; have e1 := hE.cell p1; have e2 := hE.cell p2; have e3 := hE.cell p3; have e4 := hE.cell p4; have e5 := hE.cell p5); go_simp; exact ⟨Ext.refl _, rfl⟩))
            iterate 1 (refine ⟨fun w1 hE hx hh => ?_, ?_⟩; focus (clear hh hx; replace hE := hE (by kernel_rfl); skip; go_simp; exact ⟨Ext.refl _, rfl⟩))
            refine ⟨fun w1 hE hx hh => ?_, ?_⟩
            · clear hh hx
              replace hE := hE (by kernel_rfl)
              go_simp
              refine (hwv _).mono ?_
              rintro e w' ⟨rfl, hx2⟩
              exact ⟨_, rfl, hx2, rfl⟩
            refine ⟨fun w1 hE hx hh => ?_, ?_⟩
            · clear hh hx
              replace hE := hE (by kernel_rfl)
              go_simp
              refine (hiv _ (hcr.ck hE.ck) (hJ _ _ _ hE hj)).mono ?_
              rintro e w' (⟨rfl, hj2, hk2⟩ | ⟨rfl, hq⟩)
              · exact ⟨_, rfl, .inl ⟨rfl, hGi _ (by rw [Hst.out, ← List.append_assoc]; exact hj2) (hE.ck.trans hk2)⟩⟩
              · exact ⟨_, rfl, .inr ⟨rfl, hXi _ hq⟩⟩
            intro u10
            refine ⟨fun w1 hE hx hh => ?_, ?_⟩
            · have h10 : Goes G X true u10 w1 := hh 10 _ List.mem_cons_self (by kernel_rfl)
              clear hh hE hx
              cases u10
              case bool x =>
                cases x
                · have h1 := Goes.no (b := true) h10
                  go_simp; exact ⟨Ext.refl _, .inr ⟨rfl, h1⟩⟩
                · have h1 := Goes.yes h10
                  go_simp; exact ⟨Ext.refl _, .inl ⟨rfl, h1⟩⟩
              all_goals (exfalso; exact h10.nb (fun x h => by cases h))
            intro u11
            refine ⟨fun w1 hE hx hh => ?_, ?_⟩
            · have h10 : Goes G X false u11 w1 := hh 11 _ List.mem_cons_self (by kernel_rfl)
              clear hh hE hx
              cases u11
              case bool x =>
                cases x
                · have h1 := Goes.yes h10
                  go_simp; first | exact Ext.refl _ | exact ⟨Ext.refl _, .inl ⟨rfl, h1⟩⟩
                · have h1 := Goes.no (b := false) h10
                  go_simp; first | exact Ext.refl _ | exact ⟨Ext.refl _, .inr ⟨rfl, h1⟩⟩
              all_goals (exfalso; exact h10.nb (fun x h => by cases h))
            intro u12 w1 hx1 hh
            have h12 : Goes G X false u12 w1 := hh 12 _ List.mem_cons_self
            clear hh hx1
            cases u12
            case bool x =>
              cases x
              · obtain ⟨hj2, hk2⟩ := hGo _ (Goes.yes h12)
                clear hGi hGo hGk hXi hXo hXk
                go_simp
                go_wp2
                go_roundw
                case rel => exact ⟨k + 1, by have := Hn.out; omega, by rw [show ((k + 1 : Nat) : Int) - 1 = n + 1 from by have := Hn.out; omega], hx.trans hk2, hj2⟩
                case measure => have := Hn.out; simp [intOf]; omega
              · have hq := hXo _ (Goes.no (b := false) h12)
                clear hGi hGo hGk hXi hXo hXk
                go_simp
                go_wp2
                go_ret
                exact .inr ⟨rfl, hq⟩
            all_goals (exfalso; exact h12.nb (fun x h => by cases h))
      · have hke : k = S.toNat + 1 := by omega
        subst hke
        go_wp2
        go_ret
        exact .inl ⟨rfl, hj, hx1.ck.trans hx⟩
end Go.Proofs.YtnfbhicoknpojaaGreat

namespace Go.Proofs.YtnfbhicoknpojaaGreat
set_option linter.unusedSimpArgs false
set_option linter.unusedVariables false
open Go.RowKit

theorem abides_ext {α : Type} {J : List α → World → Prop} {B : Nat} (h : AbidesFrom B J) : ∀ s X Y, Ext X Y → J s X → J s Y := fun s X Y hx hj => h s X Y none hj hx.grownBy (fun r e => by cases e)

/-- the sound strings that a book's letters can give -/
abbrev SoundsS (S : Int) := { x : List Int // x.length ≤ 5 ∧ ∀ y ∈ x, 0 ≤ y ∧ y < S }
set_option maxRecDepth 100000 in
set_option maxHeartbeats 2000000 in
theorem iter_any (n : Nat) (bl bk : Nat) (lv : Value) (ls : List Letter) (S : Int) (hS : 1 ≤ S ∧ S ≤ 4) (h5 : ls.length ≤ 5) (hf : ∀ x ∈ ls, FineL x) (w : World)
    (hl : w.cell? ⟨bl, 0, none⟩ = some lv) (hls : LettersAt w lv ls) (hk : w.cell? ⟨bk, 0, none⟩ = some (.int .i64 S)) :
    SeqStopsK Fence.wide n Tryz.prog 130 #[.pointer (some ⟨bl, 0, none⟩), .pointer (some ⟨bk, 0, none⟩)] (fun x : SoundsS S => #[ssV x.1]) CK (fun ys => ys.map (·.1) = yields (S.toNat + 1) ls []) (fun _ => True) (yields (S.toNat + 1) ls []).length w := by
  intro l J0 Jx0 W hW hJ hJx hY0 h0
  have hJe := abides_ext hJ
  have hJxe := abides_ext hJx
  obtain ⟨J, hJi, hJo, hJk⟩ : ∃ J : List (List Int) → World → Prop, (∀ (q : List (SoundsS S)) W, J0 q W → J (q.map (·.1)) W) ∧ (∀ p W, J p W → ∃ q : List (SoundsS S), q.map (·.1) = p ∧ J0 q W) ∧ ∀ p A B, Ext A B → J p A → J p B :=
    ⟨fun p W => ∃ q : List (SoundsS S), q.map (·.1) = p ∧ J0 q W, fun q W h => ⟨q, rfl, h⟩, fun _ _ h => h, fun p A B hx ⟨q, e, h⟩ => ⟨q, e, hJe _ _ _ hx h⟩⟩
  obtain ⟨Jx, hJxi, hJxo, hJxk⟩ : ∃ J : List (List Int) → World → Prop, (∀ (q : List (SoundsS S)) W, Jx0 q W → J (q.map (·.1)) W) ∧ (∀ p W, J p W → ∃ q : List (SoundsS S), q.map (·.1) = p ∧ Jx0 q W) ∧ ∀ p A B, Ext A B → J p A → J p B :=
    ⟨fun p W => ∃ q : List (SoundsS S), q.map (·.1) = p ∧ Jx0 q W, fun q W h => ⟨q, rfl, h⟩, fun _ _ h => h, fun p A B hx ⟨q, e, h⟩ => ⟨q, e, hJxe _ _ _ hx h⟩⟩
  have hY : Body (n - 1) l (yields (S.toNat + 1) ls []).length S J Jx := by
    intro pre x W1 hx5 hxg hj hlen
    obtain ⟨q, rfl, hq⟩ := hJo _ _ hj
    obtain ⟨fn, tmps, assign, body, hy, hR⟩ := hY0 q ⟨x, hx5, hxg⟩ W1 hq (by simpa using hlen)
    refine ⟨fn, tmps, assign, body, hy, hR.mono ?_⟩
    rintro e W' (⟨h1, h2, h3⟩ | ⟨h1, h2⟩)
    · exact .inl ⟨h1, by have := hJi _ _ h2; simpa using this, h3⟩
    · exact .inr ⟨h1, by have := hJxi _ _ h2; simpa using this⟩
  have hxW : Ext w W := hW
  refine callsIn_wide.2 ?_
  have z1 := cell_lt hl
  have z2 := cell_lt hk
  replace hl := hxW.cell hl
  replace hls := hls.ext hxW
  replace hk := hxW.cell hk
  have y1 := cell_lt hl
  have y2 := cell_lt hk
  have hg := give_any (n - 1) l bl bk W.heap.size (W.heap.size + 1) (yields (S.toNat + 1) ls []).length lv ls S hS h5 hf J Jx hJk hJxk hY ls.length 0 [] []
  obtain ⟨W3, hW3⟩ : ∃ W3, W3 = (W.alloc (.cells #[.func (.yield l) #[] #[]] 222)).alloc (.cells #[.func (.func 131) #[] #[.pointer (some ⟨bl, 0, none⟩), .pointer (some ⟨W.heap.size, 0, none⟩), .pointer (some ⟨bk, 0, none⟩), .pointer (some ⟨W.heap.size + 1, 0, none⟩)]] 223) := ⟨_, rfl⟩
  have hx3 : Ext W W3 := by rw [hW3]; exact (ext_alloc _ _).alloc _
  have hc : Captured W3 l bl bk W.heap.size (W.heap.size + 1) lv ls S := ⟨hx3.cell hl, hls.ext hx3, hx3.cell hk, by rw [hW3]; simp [go_sem], by rw [hW3]; simp [go_sem]⟩
  have hg3 := hg W3 (by simp) (by simp) (by simp) hc (hJk _ _ _ hx3 (hJi [] _ h0)) (by simp)
  have HW := Lib.hid hW3
  clear hW3 hg hc
  have hse : ssV [] = .agg #[.int .i64 0, .int .i64 0, .int .i64 0, .int .i64 0, .int .i64 0, .int .i64 0] := rfl
  rw [hse] at hg3
  simp only [List.append_toArray, List.cons_append, List.nil_append]
  go_enter Tryz.func130, Tryz.ntmps130
  go_wp2_with fail
  rw [← HW.out]
  refine hg3.mono ?_
  rintro e W4 (⟨rfl, hj, hck⟩ | ⟨rfl, hq⟩)
  · obtain ⟨q, e, hq⟩ := hJo _ _ hj
    go_wp2
    go_end0
    exact ⟨⟨_, rfl⟩, .inl ⟨q, by simpa using e, hq⟩⟩
  · obtain ⟨p, hp⟩ := hq
    obtain ⟨q, -, hq⟩ := hJxo _ _ hp
    go_wp2
    go_end0
    exact ⟨⟨_, rfl⟩, .inr ⟨q, trivial, hq⟩⟩

theorem lettersAt_eq (b : Book) (n : Nat) (hn : n < b.spellings.length) : lettersAt b n = lettersM (lettersOf b.alphabets (b.spellings[n]).alphabet) (b.spellings[n]).text := by
  unfold lettersAt
  rw [List.getElem?_eq_getElem hn]
theorem lettersAt_fine {b : Book} (hv : Valid b) (n : Nat) (hn : n < b.spellings.length) : (lettersAt b n).length ≤ 5 ∧ ∀ x ∈ lettersAt b n, FineL x := by
  rw [lettersAt_eq b n hn]
  have hs := hv.sp n hn
  refine ⟨by rw [lettersM, lettersTo_len]; exact hs.t.2, fun x hx => ?_⟩
  refine lettersTo_all FineL _ _ _ (fun y hy => ?_) (by simp [FineL]) x hx
  have h1 : (b.spellings[n]).alphabet.toNat < b.alphabets.length := by have := hs.a; omega
  rw [lettersOf, List.getElem?_eq_getElem h1] at hy
  exact hv.fine _ h1 y hy
set_option maxRecDepth 100000 in
set_option maxHeartbeats 2000000 in
theorem soundStrings_any (bv : Value) (b : Book) (hv : Valid b) (n : Nat) (hn : n < b.spellings.length) (w : World) (hb : BookAt w bv b) :
    Calls Tryz.prog 101 #[bv, .int .i64 n] w
      fun e w' => ∃ bl bk lv, e = .returned (.func (.func 130) #[] #[.pointer (some ⟨bl, 0, none⟩), .pointer (some ⟨bk, 0, none⟩)]) ∧
        w'.cell? ⟨bl, 0, none⟩ = some lv ∧ LettersAt w' lv (lettersAt b n) ∧ w'.cell? ⟨bk, 0, none⟩ = some (.int .i64 b.sounds) ∧ Ext w w' := by
  have hs := hv.sp n hn
  have hlet := fun w h => letters_any bv b n hn hs.a hs.t.2 hs.k w h
  rw [← lettersAt_eq b n hn] at hlet
  have hb0 := hb
  obtain ⟨a, c, s, d, rfl, -⟩ := hb.open
  go_enter Tryz.func101, Tryz.ntmps101
  go_wp2_with fail
  refine (hlet _ (hb0.ext (ext_alloc _ _))).mono ?_
  rintro e w1 ⟨v, rfl, hv1, hx1⟩
  have q0 : w1.cell? ⟨w.heap.size, 0, none⟩ = some (.int .i64 b.sounds) := hx1.cell (by simp [go_sem])
  have z0 := cell_lt q0
  obtain ⟨la, lc, rfl, -⟩ := hv1.shape
  have x1 : Ext w w1 := hx1.of_alloc
  clear hx1 hlet
  go_wp2
  go_ret
  refine ⟨_, _, .slice la (lettersAt b n).length lc, rfl, ?_, hv1.ext ?_, ?_, ?_⟩
  · simp [go_sem]
  · exact ext_alloc _ _
  · simpa [go_sem, z0] using q0
  · exact x1.alloc _
end Go.Proofs.YtnfbhicoknpojaaGreat

namespace Go.Proofs.YtnfbhicoknpojaaGreat
set_option linter.unusedSimpArgs false
set_option linter.unusedVariables false
set_option linter.unusedVariables false
set_option linter.unusedSimpArgs false
open Go.RowKit
open Go.ChangeMaps (setBlock)

theorem ssV_inj {l m : List Int} (hl : l.length ≤ 5) (hm : m.length ≤ 5) (h : ssV l = ssV m) : l = m := by
  unfold ssV ssRaw at h
  simp only [Value.agg.injEq, Array.mk.injEq, List.cons.injEq, Value.int.injEq, true_and, and_true] at h
  obtain ⟨h0, h1, h2, h3, h4, h5⟩ := h
  have hlen : l.length = m.length := by omega
  refine List.ext_getElem hlen fun i hi hi' => ?_
  have e : ∀ (l : List Int) (j : Nat) (hj : j < l.length), l.getD j 0 = l[j] := fun l j hj => by simp [List.getD_eq_getElem?_getD, hj]
  have h5 : i = 0 ∨ i = 1 ∨ i = 2 ∨ i = 3 ∨ i = 4 := by omega
  rcases h5 with rfl | rfl | rfl | rfl | rfl
  · rw [← e l _ hi, ← e m _ hi']; assumption
  · rw [← e l _ hi, ← e m _ hi']; assumption
  · rw [← e l _ hi, ← e m _ hi']; assumption
  · rw [← e l _ hi, ← e m _ hi']; assumption
  · rw [← e l _ hi, ← e m _ hi']; assumption

def entries (M : Tally) : List (Value × Value) := M.map fun p => (ssV p.1, .int .i64 (p.2 : Nat))
structure EntriesAre (es : Array MapEntry) (M : Tally) : Prop where
  pairs : es.toList.map (fun e => (e.key, e.val)) = entries M
  born : es.toList.map (·.born) = List.range M.length
theorem EntriesAre.size {es : Array MapEntry} {M : Tally} (h : EntriesAre es M) : es.size = M.length := by
  have := congrArg List.length h.pairs
  simpa [entries] using this
/-- the map in block B is this one -/
def MapIs (w : World) (B : Nat) (M : Tally) : Prop := ∃ es, w.heap[B]? = some (.map es M.length) ∧ EntriesAre es M
theorem MapIs.nil (w : World) : MapIs (w.alloc (.map #[] 0)) w.heap.size [] := ⟨#[], World.alloc_heap_new w _, ⟨rfl, rfl⟩⟩
theorem MapIs.lt {w : World} {B : Nat} {M : Tally} (h : MapIs w B M) : B < w.heap.size := by
  obtain ⟨es, hb, -⟩ := h; exact (Array.getElem?_eq_some_iff.1 hb).1
theorem MapIs.kept {w w' : World} {B : Nat} {M : Tally} (h : MapIs w B M) (e : w'.heap[B]? = w.heap[B]?) : MapIs w' B M := by
  obtain ⟨es, hb, h1⟩ := h; exact ⟨es, e.trans hb, h1⟩

/-- where a string stands, and what with -/
def findT (k : List Int) : Tally → Nat → Option (Nat × Nat)
  | [], _ => none
  | p :: M, i => if p.1 = k then some (i, p.2) else findT k M (i + 1)
theorem findT_get (k : List Int) : ∀ (M : Tally) (i : Nat), (findT k M i).map (·.2) = getT k M
  | [], _ => rfl
  | p :: M, i => by
    simp only [findT, getT]
    split
    · rfl
    · exact findT_get k M (i + 1)
theorem findT_put (k : List Int) (v : Nat) : ∀ (M : Tally) (i j : Nat) (u : Nat), findT k M i = some (j, u) → i ≤ j ∧ ∃ hj : j - i < M.length, (M[j - i]).1 = k ∧ putT k v M = M.set (j - i) (k, v)
  | p :: M, i, j, u, h => by
    simp only [findT] at h
    split at h
    · rename_i hp
      cases h
      exact ⟨Nat.le_refl _, by simp, by simpa using hp, by simp [putT, hp]⟩
    · rename_i hp
      obtain ⟨h1, h2, h3, h4⟩ := findT_put k v M (i + 1) j u h
      have e : j - i = (j - (i + 1)) + 1 := by omega
      refine ⟨by omega, by simp; omega, ?_, ?_⟩
      · simp only [e, List.getElem_cons_succ]; exact h3
      · simp only [e, List.set_cons_succ, putT, if_neg hp, h4]
theorem findT_none (k : List Int) (v : Nat) : ∀ (M : Tally) (i : Nat), findT k M i = none → putT k v M = M ++ [(k, v)]
  | [], _, _ => rfl
  | p :: M, i, h => by
    simp only [findT] at h
    split at h
    · cases h
    · rename_i hp
      simp only [putT, if_neg hp, List.cons_append, findT_none k v M (i + 1) h]

theorem equal_sound (l m : List Int) (hl : l.length ≤ 5) (hm : m.length ≤ 5) (w : World) : (Op.equal 129 (ssV l) (ssV m)).run Tryz.prog w = .ok (decide (l = m)) w := by
  have hop : ∀ x y : Value, Op.equal 129 x y = Op.equalIn Op.maxDepth 129 x y := fun _ _ => rfl
  obtain ⟨m0, hd⟩ : ∃ m0, Op.maxDepth = m0 + 3 := ⟨9997, by decide⟩
  rw [hop, hd]
  rw [show ssV l = ssRaw l.length (l.getD 0 0) (l.getD 1 0) (l.getD 2 0) (l.getD 3 0) (l.getD 4 0) from rfl, show ssV m = ssRaw m.length (m.getD 0 0) (m.getD 1 0) (m.getD 2 0) (m.getD 3 0) (m.getD 4 0) from rfl]
  rw [eq_sound]
  congr 1
  by_cases e : l = m
  · subst e; simp
  · rw [decide_eq_false e]
    by_cases hq : ssV l = ssV m
    · exact absurd (ssV_inj hl hm hq) e
    · simp only [Bool.and_eq_false_iff, beq_eq_false_iff_ne]
      by_cases h0 : (l.length : Int) = m.length
      · refine .inr ?_
        by_cases h1 : l.getD 0 0 = m.getD 0 0
        · refine .inr ?_
          by_cases h2 : l.getD 1 0 = m.getD 1 0
          · refine .inr ?_
            by_cases h3 : l.getD 2 0 = m.getD 2 0
            · refine .inr ?_
              by_cases h4 : l.getD 3 0 = m.getD 3 0
              · refine .inr fun h5 => hq ?_
                unfold ssV; rw [h0, h1, h2, h3, h4, h5]
              · exact .inl h4
            · exact .inl h3
          · exact .inl h2
        · exact .inl h1
      · exact .inl h0
theorem run_findAsking_ss (k : List Int) (hk : k.length ≤ 5) (w : World) : ∀ (es : List MapEntry) (M : Tally) (i : Nat), es.map (fun e => (e.key, e.val)) = entries M → (∀ p ∈ M, p.1.length ≤ 5) →
    (Instr.findAsking 129 (ssV k) es i).run Tryz.prog w = .ok ((findT k M i).map fun q => (q.1, .int .i64 (q.2 : Nat))) w
  | [], M, i, h, _ => by
    cases M with
    | nil => simp [Instr.findAsking, findT]
    | cons p M => simp [entries] at h
  | e :: es, M, i, h, hM => by
    cases M with
    | nil => simp [entries] at h
    | cons p M =>
      simp only [entries, List.map_cons, List.cons.injEq, Prod.mk.injEq] at h
      obtain ⟨⟨h1, h2⟩, h3⟩ := h
      have ih := run_findAsking_ss k hk w es M (i + 1) h3 fun q hq => hM q (List.mem_cons_of_mem _ hq)
      unfold Instr.findAsking
      simp only [Sem.run_bind, h1, equal_sound k p.1 hk (hM p List.mem_cons_self), Result.andThen, findT]
      by_cases hp : p.1 = k
      · rw [if_pos hp, decide_eq_true hp.symm]
        simp [h2, Sem.run]
      · rw [if_neg hp, decide_eq_false (fun x => hp x.symm)]
        simpa using ih
theorem run_findKey_ss (k : List Int) (hk : k.length ≤ 5) (w : World) (es : List MapEntry) (M : Tally) (h : es.map (fun e => (e.key, e.val)) = entries M) (hM : ∀ p ∈ M, p.1.length ≤ 5) :
    (Instr.findKey 129 (ssV k) es).run Tryz.prog w = .ok ((findT k M 0).map fun q => (q.1, .int .i64 (q.2 : Nat))) w := by
  have hask := run_findAsking_ss k hk w es M 0 h hM
  have hu : ∃ fs, Tryz.prog.underlying 129 = some (.struct fs) := ⟨_, Tryz.underlying129⟩
  obtain ⟨fs, hu⟩ := hu
  unfold Instr.findKey
  simp only [Sem.run_bind, run_underlying hu, Result.andThen]
  cases es with
  | nil =>
    cases M with
    | nil => simp [Instr.findNow, findT, Sem.run]
    | cons p M => simp [entries] at h
  | cons e es => simpa [Instr.findNow, Instr.sameNow] using hask
theorem run_check_raw (n a b c d e : Int) (em : Bool) (w : World) : (Instr.checkKey em 10000 129 (.agg #[.int .i64 n, .int .i64 a, .int .i64 b, .int .i64 c, .int .i64 d, .int .i64 e])).run Tryz.prog w = .ok () w := by
  have hb : ∀ w, (isAgg 127).run Tryz.prog w = .ok true w := fun _ => by kernel_rfl
  have ha : ∀ w, (isAgg 3).run Tryz.prog w = .ok false w := fun _ => by kernel_rfl
  have hs : ∀ w, (sizeOf 127).run Tryz.prog w = .ok 5 w := fun _ => by kernel_rfl
  have hs1 : ∀ w, (sizeOf 3).run Tryz.prog w = .ok 1 w := fun _ => by kernel_rfl
  have hi : Tryz.prog.underlying 3 = some (.int .i64) := Tryz.underlying3
  have h5 : Tryz.prog.underlying 127 = some (.array 5 3) := Tryz.underlying127
  have hint : ∀ (m : Nat) (x : Int) (w : World), (Instr.checkKey em (m + 1) 3 (.int .i64 x)).run Tryz.prog w = .ok () w := fun m x w => by
    simp [Instr.checkKey, run_underlying hi]
  have harr : ∀ (m : Nat) (w : World), (Instr.checkKey em (m + 2) 127 (.agg #[.int .i64 a, .int .i64 b, .int .i64 c, .int .i64 d, .int .i64 e])).run Tryz.prog w = .ok () w := fun m w => by
    rw [Instr.checkKey]
    simp [run_underlying h5, Result.andThen, List.range', hint, hs1, ha, part, go_sem]
  obtain ⟨fs, hu⟩ : ∃ fs, Tryz.prog.underlying 129 = some (.struct fs) := ⟨_, Tryz.underlying129⟩
  have hf : ((Tryz.prog.fieldsOf 129).toList.map fun f => (f.name, f.type, f.offset)) = [("long", 3, 0), ("sounds", 127, 1)] := by kernel_rfl
  have hfs : Tryz.prog.fieldsOf 129 = fs := by simp [Program.fieldsOf, hu]
  rw [hfs] at hf
  obtain ⟨fl⟩ := fs
  obtain ⟨f, g, rfl⟩ : ∃ f g, fl = [f, g] := by
    rcases fl with _ | ⟨f, _ | ⟨g, _ | ⟨h, r⟩⟩⟩
    · simp at hf
    · simp at hf
    · exact ⟨f, g, rfl⟩
    · simp at hf
  simp only [List.map_cons, List.map_nil, List.cons.injEq, Prod.mk.injEq, and_true] at hf
  obtain ⟨⟨h1, h2, h3⟩, h4, h5', h6⟩ := hf
  rw [Instr.checkKey]
  have hint' := hint 9998
  have harr' := harr 9997
  simp [run_underlying hu, Result.andThen, h1, h2, h3, h4, h5', h6, part, ha, hb, hs, go_sem, hint', harr']
theorem run_check_ss (k : List Int) (em : Bool) (w : World) : (Instr.checkKey em 10000 129 (ssV k)).run Tryz.prog w = .ok () w := run_check_raw _ _ _ _ _ _ em w
theorem run_stays_ss (k : List Int) (w : World) : (Instr.keyThatStays (ssV k) (ssV k)).run Tryz.prog w = .ok (ssV k) w := by
  have : Instr.sameBits 10000 (ssV k) (ssV k) = true := by
    unfold ssV ssRaw
    simp [Instr.sameBits]
  simp [Instr.keyThatStays, this, Sem.run]

/-- WHAT IS LOOKED UP -/
theorem run_lookup_ss {w : World} {B : Nat} {M : Tally} (k : List Int) (hk : k.length ≤ 5) (hM : ∀ p ∈ M, p.1.length ≤ 5) (h : MapIs w B M) (ok : Bool) :
    (Instr.lookup 125 (.map (some B)) (ssV k) ok).run Tryz.prog w = .ok (if ok then .tuple #[.int .i64 ((getT k M).getD 0 : Nat), .bool (getT k M).isSome] else .int .i64 ((getT k M).getD 0 : Nat)) w := by
  obtain ⟨es, hb, hE⟩ := h
  have hu : Tryz.prog.underlying 125 = some (.map 129 3) := Tryz.underlying125
  have hz : (zeroValue 3).run Tryz.prog w = .ok (.int .i64 0) w := Tryz.zeroValue3 w
  have hf := run_findKey_ss k hk w es.toList M hE.pairs hM
  have hg := findT_get k M 0
  unfold Instr.lookup
  simp only [Sem.run_bind, run_underlying hu, MapKept.run_getObj_map hb, run_check_ss, hf, Result.andThen, Sem.run_pure]
  cases hq : findT k M 0 with
  | none =>
    rw [hq] at hg
    cases ok <;> simp [hz, ← hg, Sem.run, Result.andThen]
  | some q =>
    rw [hq] at hg
    cases ok <;> simp [← hg, Sem.run, Result.andThen]
/-- the entry of a string, made where there is none -/
def entM (k : List Int) (M : Tally) : Tally := match findT k M 0 with
  | some _ => M
  | none => M ++ [(k, 0)]
def entE (k : List Int) (M : Tally) (es : Array MapEntry) : Array MapEntry := match findT k M 0 with
  | some _ => es
  | none => es.push { key := ssV k, val := .int .i64 0, born := M.length }
def posT (k : List Int) (M : Tally) : Nat := match findT k M 0 with
  | some (j, _) => j
  | none => M.length
def stoE (k : List Int) (M : Tally) (v : Nat) (es : Array MapEntry) : Array MapEntry := (entE k M es).modify (posT k M) fun e => { e with val := .int .i64 (v : Nat) }
theorem findT_at (k : List Int) (M : Tally) (j u : Nat) (h : findT k M 0 = some (j, u)) : ∃ hj : j < M.length, M[j] = (k, u) := by
  have key : ∀ (M : Tally) (i : Nat), findT k M i = some (j, u) → i ≤ j ∧ ∃ hj : j - i < M.length, M[j - i] = (k, u) := by
    intro M
    induction M with
    | nil => intro i h; simp [findT] at h
    | cons p M ih =>
      intro i h
      simp only [findT] at h
      split at h
      · rename_i hp
        cases h
        refine ⟨Nat.le_refl _, by simp, ?_⟩
        simp only [Nat.sub_self, List.getElem_cons_zero, ← hp]
      · obtain ⟨h1, h2, h3⟩ := ih (i + 1) h
        have e : j - i = (j - (i + 1)) + 1 := by omega
        refine ⟨by omega, by simp; omega, ?_⟩
        simp only [e, List.getElem_cons_succ]; exact h3
  obtain ⟨-, h2, h3⟩ := key M 0 h
  exact ⟨by simpa using h2, by simpa using h3⟩
theorem EntriesAre.at {es : Array MapEntry} {M : Tally} (h : EntriesAre es M) (j : Nat) (hj : j < M.length) : ∃ hj' : j < es.size, es[j] = { key := ssV (M[j]).1, val := .int .i64 ((M[j]).2 : Nat), born := j } := by
  have hj' : j < es.size := by rw [h.size]; exact hj
  refine ⟨hj', ?_⟩
  have h1 := congrArg (fun l => l[j]?) h.pairs
  have h2 := congrArg (fun l => l[j]?) h.born
  simp only [List.getElem?_map, entries, List.getElem?_eq_getElem hj, List.getElem?_range hj, Option.map_some] at h1 h2
  rw [Array.getElem?_toList, Array.getElem?_eq_getElem hj'] at h1 h2
  simp only [Option.map_some, Option.some.injEq, Prod.mk.injEq] at h1 h2
  cases he : es[j] with
  | mk a b c => rw [he] at h1 h2; simp at h1 h2; simp [h1, h2]
theorem entM_len (k : List Int) (M : Tally) : (entM k M).length = if (findT k M 0).isSome then M.length else M.length + 1 := by
  unfold entM
  cases findT k M 0 <;> simp
theorem EntriesAre.ent {es : Array MapEntry} {M : Tally} (h : EntriesAre es M) (k : List Int) : EntriesAre (entE k M es) (entM k M) := by
  unfold entE entM
  cases findT k M 0 with
  | some q => exact h
  | none => exact ⟨by simp [h.pairs, entries], by simp [h.born, List.range_succ]⟩
theorem posT_lt (k : List Int) (M : Tally) : posT k M < (entM k M).length := by
  unfold posT entM
  cases hq : findT k M 0 with
  | none => simp
  | some q => obtain ⟨j, u⟩ := q; obtain ⟨hj, -⟩ := findT_at k M j u hq; exact hj
theorem entM_at (k : List Int) (M : Tally) (h : posT k M < (entM k M).length) : (entM k M)[posT k M] = (k, (getT k M).getD 0) := by
  have hg := findT_get k M 0
  revert h
  unfold posT entM
  cases hq : findT k M 0 with
  | none => intro h; rw [hq] at hg; simp [← hg]
  | some q =>
    obtain ⟨j, u⟩ := q
    intro h
    obtain ⟨hj, e⟩ := findT_at k M j u hq
    rw [hq] at hg
    simp only [← hg, Option.map_some, Option.getD_some]
    exact e
theorem putT_entM (k : List Int) (v : Nat) (M : Tally) : putT k v M = (entM k M).set (posT k M) (k, v) := by
  unfold posT entM
  cases hq : findT k M 0 with
  | none => rw [findT_none k v M 0 hq]; simp
  | some q => obtain ⟨j, u⟩ := q; obtain ⟨-, -, -, e⟩ := findT_put k v M 0 j u hq; simpa using e
theorem EntriesAre.sto {es : Array MapEntry} {M : Tally} (h : EntriesAre es M) (k : List Int) (v : Nat) : EntriesAre (stoE k M v es) (putT k v M) := by
  have h1 := h.ent k
  have hp := posT_lt k M
  obtain ⟨hj, hat⟩ := h1.at _ hp
  rw [entM_at k M hp] at hat
  rw [putT_entM]
  unfold stoE
  generalize entE k M es = fs at *
  generalize posT k M = j at *
  generalize entM k M = L at *
  refine ⟨?_, ?_⟩
  · refine List.ext_getElem? fun i => ?_
    have hi := congrArg (fun l => l[i]?) h1.pairs
    simp only [entries, List.getElem?_map, Array.getElem?_toList, Array.getElem?_modify, List.getElem?_set] at hi ⊢
    by_cases e : j = i
    · subst e
      simp only [if_true, hp, Array.getElem?_eq_getElem hj, hat, Option.map_some]
    · simp only [if_neg e]
      exact hi
  · rw [List.length_set, ← h1.born]
    refine List.ext_getElem? fun i => ?_
    simp only [List.getElem?_map, Array.getElem?_toList, Array.getElem?_modify]
    by_cases e : j = i
    · subst e; simp [Array.getElem?_eq_getElem hj]
    · simp only [if_neg e]
theorem entM_twice (k : List Int) (M : Tally) : (findT k (entM k M) 0).isSome = true ∧ posT k (entM k M) = posT k M ∧ getT k (entM k M) = some ((getT k M).getD 0) := by
  have hg := findT_get k M 0
  have app : ∀ (M : Tally) (i : Nat), findT k M i = none → findT k (M ++ [(k, 0)]) i = some (i + M.length, 0) := by
    intro M
    induction M with
    | nil => intro i _; simp [findT]
    | cons p M ih =>
      intro i h
      simp only [findT] at h
      split at h
      · cases h
      · rename_i hp
        simp only [List.cons_append, findT, if_neg hp, ih (i + 1) h, List.length_cons]
        congr 2; omega
  unfold posT
  cases hq : findT k M 0 with
  | none =>
    rw [hq] at hg
    have e : entM k M = M ++ [(k, 0)] := by unfold entM; rw [hq]
    have ha := app M 0 hq
    have hg2 := findT_get k (M ++ [(k, 0)]) 0
    rw [ha] at hg2
    rw [e, ha]
    refine ⟨rfl, by simp, ?_⟩
    rw [← hg2, ← hg]; rfl
  | some q =>
    rw [hq] at hg
    have e : entM k M = M := by unfold entM; rw [hq]
    rw [e, hq]
    exact ⟨rfl, rfl, by rw [← hg]; rfl⟩
theorem find_born (es : Array MapEntry) (M : Tally) (h : EntriesAre es M) (j : Nat) (hj : j < M.length) : es.findIdx? (fun e => (e.born : Int) == (j : Int)) = some j := by
  rw [Array.findIdx?_eq_some_iff_getElem]
  obtain ⟨hj', hat⟩ := h.at j hj
  refine ⟨hj', by simp [hat], fun i hi => ?_⟩
  obtain ⟨hi', hat'⟩ := h.at i (by omega)
  simp only [hat', beq_iff_eq, Int.natCast_inj]
  omega
/-- THE ENTRY IS TAKEN, or made -/
theorem run_entry_ss {w : World} {B : Nat} {M : Tally} {es : Array MapEntry} (k : List Int) (hk : k.length ≤ 5) (hM : ∀ p ∈ M, p.1.length ≤ 5) (hb : w.heap[B]? = some (.map es M.length)) (hE : EntriesAre es M) :
    (Instr.mapEntry 125 (.map (some B)) (ssV k)).run Tryz.prog w = .ok (.tuple #[.int .i64 ((getT k M).getD 0 : Nat), .int .i64 (posT k M : Nat)]) (setBlock w B (.map (entE k M es) (entM k M).length)) := by
  have hu : Tryz.prog.underlying 125 = some (.map 129 3) := Tryz.underlying125
  have hz : (zeroValue 3).run Tryz.prog w = .ok (.int .i64 0) w := Tryz.zeroValue3 w
  have hf := run_findKey_ss k hk w es.toList M hE.pairs hM
  have hg := findT_get k M 0
  unfold Instr.mapEntry
  simp only [Sem.run_bind, run_underlying hu, MapKept.run_getObj_map hb, run_check_ss, hf, Result.andThen]
  cases hq : findT k M 0 with
  | none =>
    rw [hq] at hg
    simp [hz, Result.andThen, MapKept.run_setObj_map _ hb, entE, entM, posT, hq, ← hg, setBlock, goInt]
  | some q =>
    obtain ⟨j, u⟩ := q
    rw [hq] at hg
    obtain ⟨hj, e⟩ := findT_at k M j u hq
    obtain ⟨hj', hat⟩ := hE.at j hj
    rw [e] at hat
    have hmod : (es.modify j fun e => { e with key := ssV k }) = es := by
      refine Array.ext' ?_
      refine List.ext_getElem? fun i => ?_
      simp only [Array.getElem?_toList, Array.getElem?_modify]
      by_cases e : j = i
      · subst e; simp [Array.getElem?_eq_getElem hj', hat]
      · simp [if_neg e]
    simp [run_stays_ss, Array.getElem?_eq_getElem hj', hat, Result.andThen, MapKept.run_setObj_map _ hb, hmod, entE, entM, posT, hq, ← hg, setBlock, goInt]
theorem run_store_ss {w : World} {B : Nat} {M : Tally} {es : Array MapEntry} (k : List Int) (v : Nat) (hb : w.heap[B]? = some (.map (entE k M es) (entM k M).length)) (hE : EntriesAre es M) :
    (Instr.entryStore 125 (.map (some B)) (.int .i64 (posT k M : Nat)) (.int .i64 (v : Nat))).run Tryz.prog w = .ok () (setBlock w B (.map (stoE k M v es) (putT k v M).length)) := by
  have hfi := find_born _ _ (hE.ent k) _ (posT_lt k M)
  have hl : (putT k v M).length = (entM k M).length := by rw [putT_entM, List.length_set]
  unfold Instr.entryStore
  simp [MapKept.run_getObj_map hb, Result.andThen, asInt, asIntOf, hfi, MapKept.run_setObj_map _ hb, setBlock, hl, stoE]
end Go.Proofs.YtnfbhicoknpojaaGreat

namespace Go.Proofs.YtnfbhicoknpojaaGreat
set_option linter.unusedSimpArgs false
set_option linter.unusedVariables false
set_option linter.unusedVariables false
open Go.RowKit
open Go.ChangeMaps (setBlock)

theorem leaves_marks {F : Fence} {n : Nat} {P : Program} {fn : Func} {tmps : Array Value} {R : Ending → World → Prop} (n0 : Nat) (Pw : World → Prop) (hP : ∀ W D, n0 ≤ D → Pw W → W.heap[D]? = some (.deferred (some [])) → Pw (W.putObj D (.deferred none)))
    (hend : ∀ W, Pw W → LeavesInM F n P fn tmps R [] .returning W) : ∀ (Ds : List Nat) (W : World), Ds.Nodup → (∀ D ∈ Ds, n0 ≤ D ∧ W.heap[D]? = some (.deferred (some []))) → Pw W →
      LeavesInM F n P fn tmps R (Ds.map fun D => { target := .collected D, args := #[] }) .returning W
  | [], W, _, _, h => hend W h
  | D :: Ds, W, hn, hd, h => by
    obtain ⟨h1, h2⟩ := hd D List.mem_cons_self
    rw [List.nodup_cons] at hn
    refine ⟨by simp, .inl ⟨D, _, rfl, run_takeDeferred h2, ?_⟩⟩
    refine leaves_marks n0 Pw hP hend Ds _ hn.2 (fun E hE => ?_) (hP _ _ h1 h h2)
    obtain ⟨h3, h4⟩ := hd E (List.mem_cons_of_mem _ hE)
    exact ⟨h3, (World.putObj_heap_other (fun e => hn.1 (by first | (rw [e]; exact hE) | (rw [← e]; exact hE)))).trans h4⟩

/-- what is so of the world behind some rounds: the cells that were there when it began, the map, the marks -/
structure Told (n0 : Nat) (w0 W5 : World) (B : Nat) (M : Tally) (Ds : List Nat) (W : World) : Prop where
  ck : CK W5 W
  ext : Ext w0 W
  map : MapIs W B M
  marks : ∀ D ∈ Ds, n0 ≤ D ∧ D < W5.heap.size ∧ W.heap[D]? = some (.deferred (some []))
theorem CK.grownBy {a w w' : World} {row : Option Nat} (h : CK a w) (hg : w.grownBy w' row) (hr : ∀ r, row = some r → ∃ o : Obj, w.heap[r]? = some o ∧ o.isCells = false) : CK a w' :=
  h.trans ⟨hg.size, fun p v hp => ⟨cell_kept hp hg hr, frozen_kept hp hg hr⟩⟩
theorem Told.kept {n0 : Nat} {w0 W5 : World} {B : Nat} {M : Tally} {Ds : List Nat} {W W' : World} (h : Told n0 w0 W5 B M Ds W) (hB : B < W5.heap.size) (hw : w0.heap.size ≤ W5.heap.size) {row : Option Nat} (hg : W.grownBy W' row) (hr : ∀ r, row = some r → W5.heap.size ≤ r ∧ ∃ o : Obj, W.heap[r]? = some o ∧ o.isCells = false) : Told n0 w0 W5 B M Ds W' := by
  have hs := h.ck.1
  refine ⟨h.ck.grownBy hg (fun r e => (hr r e).2), h.ext.grown hg (fun r e => Nat.le_trans hw (hr r e).1), h.map.kept (hg.block B (by omega) (fun e => by have := (hr B e.symm).1; omega)), fun D hD => ?_⟩
  obtain ⟨h1, h2, h3⟩ := h.marks D hD
  exact ⟨h1, h2, (hg.block D (by omega) (fun e => by have := (hr D e.symm).1; omega)).trans h3⟩

/-- the map's block is as it was, or the entry has been taken; nothing else has turned -/
structure Turn (B : Nat) (O0 O1 : Obj) (a b : World) : Prop where
  g : a.grownBy b (some B)
  s : b.heap.size = a.heap.size
  o : b.heap[B]? = a.heap[B]? ∨ (a.heap[B]? = some O0 ∧ b.heap[B]? = some O1)
theorem two_turn (B : Nat) (O0 O1 : Obj) : Facts.Piv.Two (Turn B O0 O1) (fun _ _ => True) :=
  ⟨fun _ _ _ => trivial, fun a b c h k => ⟨h.g.trans k.g, k.s.trans h.s, by
    rcases k.o with k1 | ⟨k1, k2⟩
    · rcases h.o with h1 | ⟨h1, h2⟩
      · exact .inl (k1.trans h1)
      · exact .inr ⟨h1, k1.trans h2⟩
    · rcases h.o with h1 | ⟨h1, h2⟩
      · exact .inr ⟨h1.symm.trans k1, k2⟩
      · exact .inr ⟨h1, k2⟩⟩, fun _ _ _ _ _ => trivial, fun _ => ⟨⟨rfl, rfl, rfl, Nat.le_refl _, fun _ _ _ => rfl⟩, rfl, .inl rfl⟩, fun _ => ⟨⟨rfl, rfl, rfl, Nat.le_refl _, fun _ _ _ => rfl⟩, rfl, .inl rfl⟩⟩
theorem Turn.refl (B : Nat) (O0 O1 : Obj) (a : World) : Turn B O0 O1 a a := (two_turn B O0 O1).r a
theorem Turn.either {B : Nat} {O0 O1 : Obj} {a b : World} (h : Turn B O0 O1 a b) (ha : a.heap[B]? = some O0) : b.heap[B]? = some O0 ∨ b.heap[B]? = some O1 := by
  rcases h.o with h1 | ⟨h1, h2⟩
  · exact .inl (h1.trans ha)
  · exact .inr h2
theorem Turn.one {B : Nat} {O0 O1 : Obj} {a b : World} (h : Turn B O0 O1 a b) (ha : a.heap[B]? = some O1) : b.heap[B]? = some O1 := by
  rcases h.o with h1 | ⟨h1, h2⟩
  · exact h1.trans ha
  · exact h2
theorem ent_same {k : List Int} {M : Tally} {es : Array MapEntry} (h : (findT k M 0).isSome = true) : entM k M = M ∧ entE k M es = es := by
  unfold entM entE
  cases hq : findT k M 0 with
  | none => rw [hq] at h; cases h
  | some q => exact ⟨rfl, rfl⟩
def obj0 (es : Array MapEntry) (M : Tally) : Obj := .map es M.length
def obj1 (k : List Int) (es : Array MapEntry) (M : Tally) : Obj := .map (entE k M es) (entM k M).length
def obj2 (k : List Int) (v : Nat) (es : Array MapEntry) (M : Tally) : Obj := .map (stoE k M v es) (putT k v M).length
theorem Turn.two {B : Nat} {k : List Int} {v : Nat} {es : Array MapEntry} {M : Tally} {a b : World} (h : Turn B (obj0 es M) (obj1 k es M) a b) (ha : a.heap[B]? = some (obj2 k v es M)) : b.heap[B]? = some (obj2 k v es M) := by
  rcases h.o with h1 | ⟨h1, h2⟩
  · exact h1.trans ha
  · rw [ha] at h1
    have e := Option.some.inj h1
    have hl : (putT k v M).length = M.length := by unfold obj0 obj2 at e; exact (Obj.map.inj e).2
    have hs : (findT k M 0).isSome = true := by
      rw [putT_entM, List.length_set, entM_len] at hl
      by_cases hf : (findT k M 0).isSome = true
      · exact hf
      · rw [if_neg hf] at hl; omega
    obtain ⟨e1, e2⟩ := ent_same (es := es) hs
    have e3 : obj1 k es M = obj0 es M := by unfold obj1 obj0; rw [e1, e2]
    rw [h2, e3, ← e]
theorem obj_last {k : List Int} {v : Nat} {es : Array MapEntry} {M : Tally} (h : obj0 es M = obj2 k v es M) : obj1 k es M = obj2 k v es M := by
  have hl : (putT k v M).length = M.length := by unfold obj0 obj2 at h; exact (Obj.map.inj h).2.symm
  have hs : (findT k M 0).isSome = true := by
    rw [putT_entM, List.length_set, entM_len] at hl
    by_cases hf : (findT k M 0).isSome = true
    · exact hf
    · rw [if_neg hf] at hl; omega
  obtain ⟨e1, e2⟩ := ent_same (es := es) hs
  have e3 : obj1 k es M = obj0 es M := by unfold obj1 obj0; rw [e1, e2]
  rw [e3, h]
/-- .. or the entry has been written -/
structure Turn2 (B : Nat) (O0 O1 O2 : Obj) (a b : World) : Prop where
  g : a.grownBy b (some B)
  s : b.heap.size = a.heap.size
  o : b.heap[B]? = a.heap[B]? ∨ (a.heap[B]? = some O0 ∧ b.heap[B]? = some O1) ∨ b.heap[B]? = some O2
theorem two_turn2 (B : Nat) (O0 O1 O2 : Obj) (hO : O0 = O2 → O1 = O2) : Facts.Piv.Two (Turn B O0 O1) (Turn2 B O0 O1 O2) :=
  ⟨fun _ _ h => ⟨h.g, h.s, by rcases h.o with h1 | h1; exact .inl h1; exact .inr (.inl h1)⟩, (two_turn B O0 O1).te, fun a b c h k => ⟨h.g.trans k.g, k.s.trans h.s, by
    rcases k.o with k1 | ⟨k1, k2⟩ | k1
    · rcases h.o with h1 | ⟨h1, h2⟩ | h1
      · exact .inl (k1.trans h1)
      · exact .inr (.inl ⟨h1, k1.trans h2⟩)
      · exact .inr (.inr (k1.trans h1))
    · rcases h.o with h1 | ⟨h1, h2⟩ | h1
      · exact .inr (.inl ⟨h1.symm.trans k1, k2⟩)
      · exact .inr (.inl ⟨h1, k2⟩)
      · refine .inr (.inr ?_)
        rw [h1] at k1
        rw [k2, hO (Option.some.inj k1).symm]
    · exact .inr (.inr k1)⟩, (two_turn B O0 O1).r, (two_turn B O0 O1).d⟩
/-- the entry that has been taken, and the written one -/
def Taken (B : Nat) (O1 O2 : Obj) (x : Value) (u : Value) (w : World) : Prop := u = x ∧ (w.heap[B]? = some O1 ∨ w.heap[B]? = some O2)
def Written (B : Nat) (O2 : Obj) (W : World) (_ : Value) (w : World) : Prop := W.grownBy w (some B) ∧ w.heap.size = W.heap.size ∧ w.heap[B]? = some O2
def IsVal (x : Value) (u : Value) (_ : World) : Prop := u = x
theorem Taken.e {B : Nat} {k : List Int} {v : Nat} {es : Array MapEntry} {M : Tally} {x u : Value} {a b : World} (h : Turn B (obj0 es M) (obj1 k es M) a b) (ht : Taken B (obj1 k es M) (obj2 k v es M) x u a) : Taken B (obj1 k es M) (obj2 k v es M) x u b := by
  obtain ⟨e, h1 | h1⟩ := ht
  · exact ⟨e, .inl (h.one h1)⟩
  · exact ⟨e, .inr (h.two h1)⟩
theorem Taken.c {B : Nat} {O0 O1 O2 : Obj} {x u : Value} {a b : World} (h : Turn2 B O0 O1 O2 a b) (ht : Taken B O1 O2 x u a) : Taken B O1 O2 x u b := by
  obtain ⟨e, ht⟩ := ht
  refine ⟨e, ?_⟩
  rcases h.o with h1 | ⟨-, h1⟩ | h1
  · rw [h1]; exact ht
  · exact .inl h1
  · exact .inr h1
theorem Taken.now {B : Nat} {k : List Int} {v : Nat} {es : Array MapEntry} {M : Tally} {x u : Value} {a b : World} (h : Turn B (obj0 es M) (obj1 k es M) a b) (ha : a.heap[B]? = some (obj0 es M)) (ht : Taken B (obj1 k es M) (obj2 k v es M) x u b) : b.heap[B]? = some (obj1 k es M) := by
  obtain ⟨-, h1 | h1⟩ := ht
  · exact h1
  · rcases h.either ha with h2 | h2
    · rw [h1] at h2
      rw [h1, obj_last (Option.some.inj h2).symm]
    · exact h2
theorem Written.e {B : Nat} {k : List Int} {v : Nat} {es : Array MapEntry} {M : Tally} {W : World} {u : Value} {a b : World} (h : Turn B (obj0 es M) (obj1 k es M) a b) (ht : Written B (obj2 k v es M) W u a) : Written B (obj2 k v es M) W u b :=
  ⟨ht.1.trans h.g, h.s.trans ht.2.1, h.two ht.2.2⟩
theorem Turn.ck {B : Nat} {O0 O1 : Obj} {a b : World} {es : Array MapEntry} {c : Nat} (h : Turn B O0 O1 a b) (ha : a.heap[B]? = some (.map es c)) : CK a b :=
  (CK.refl a).grownBy h.g (fun r e => by cases e; exact ⟨_, ha, rfl⟩)
section
variable {w1 : World} {B : Nat} {M : Tally} {es : Array MapEntry} {k : List Int}
theorem ent_keys (hk : k.length ≤ 5) (hM : ∀ p ∈ M, p.1.length ≤ 5) : ∀ p ∈ entM k M, p.1.length ≤ 5 := by
  intro p hp
  unfold entM at hp
  cases hq : findT k M 0 with
  | none =>
    rw [hq] at hp
    rcases List.mem_append.1 hp with h | h
    · exact hM p h
    · simp at h; subst h; exact hk
  | some q => rw [hq] at hp; exact hM p hp
theorem lookup_two (hk : k.length ≤ 5) (hM : ∀ p ∈ M, p.1.length ≤ 5) (hE : EntriesAre es M) (h : w1.heap[B]? = some (obj0 es M) ∨ w1.heap[B]? = some (obj1 k es M)) :
    (Instr.lookup 125 (.map (some B)) (ssV k) false).run Tryz.prog w1 = .ok (.int .i64 ((getT k M).getD 0 : Nat)) w1 := by
  rcases h with h | h
  · have := run_lookup_ss k hk hM ⟨es, h, hE⟩ false
    simpa using this
  · have := run_lookup_ss k hk (ent_keys hk hM) ⟨_, h, hE.ent k⟩ false
    rw [(entM_twice k M).2.2] at this
    simpa using this
theorem entry_two (hk : k.length ≤ 5) (hM : ∀ p ∈ M, p.1.length ≤ 5) (hE : EntriesAre es M) (h : w1.heap[B]? = some (obj0 es M) ∨ w1.heap[B]? = some (obj1 k es M)) :
    ∃ w2, (Instr.mapEntry 125 (.map (some B)) (ssV k)).run Tryz.prog w1 = .ok (.tuple #[.int .i64 ((getT k M).getD 0 : Nat), .int .i64 (posT k M : Nat)]) w2 ∧ Turn B (obj0 es M) (obj1 k es M) w1 w2 ∧ w2.heap[B]? = some (obj1 k es M) := by
  have hlt : B < w1.heap.size := by rcases h with h | h <;> exact (Array.getElem?_eq_some_iff.1 h).1
  have hnew : ∀ o : Obj, (setBlock w1 B o).heap[B]? = some o := fun o => by simp [setBlock, hlt]
  rcases h with h | h
  · exact ⟨_, run_entry_ss k hk hM h hE, ⟨grownBy_putObj' w1 B _, by simp [setBlock], .inr ⟨h, hnew _⟩⟩, hnew _⟩
  · have := run_entry_ss k hk (ent_keys hk hM) h (hE.ent k)
    obtain ⟨t1, t2, t3⟩ := entM_twice k M
    obtain ⟨e1, e2⟩ := ent_same (es := entE k M es) t1
    rw [t3, t2, e1, e2] at this
    refine ⟨_, this, ⟨grownBy_putObj' w1 B _, by simp [setBlock], .inl ?_⟩, hnew _⟩
    rw [hnew, h]; rfl
theorem store_two (hE : EntriesAre es M) (v : Nat) (h : w1.heap[B]? = some (obj1 k es M)) :
    (Instr.entryStore 125 (.map (some B)) (.int .i64 (posT k M : Nat)) (.int .i64 (v : Nat))).run Tryz.prog w1 = .ok () (setBlock w1 B (obj2 k v es M)) ∧ w1.grownBy (setBlock w1 B (obj2 k v es M)) (some B) ∧ (setBlock w1 B (obj2 k v es M)).heap.size = w1.heap.size ∧ (setBlock w1 B (obj2 k v es M)).heap[B]? = some (obj2 k v es M) := by
  have hlt : B < w1.heap.size := (Array.getElem?_eq_some_iff.1 h).1
  exact ⟨run_store_ss k v h hE, grownBy_putObj' w1 B _, by simp [setBlock], by simp [setBlock, hlt]⟩
end
end Go.Proofs.YtnfbhicoknpojaaGreat
