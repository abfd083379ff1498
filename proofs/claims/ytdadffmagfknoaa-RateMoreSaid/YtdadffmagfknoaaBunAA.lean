/-
  WHAT IS READ OF MEMORY: lists of numbers, letters, alphabets, spellings and books as they lie in memory; that they still do in each later world; and what the parts of a book are. Plain definitions and lemmas for the proofs of this seat.
  WHAT THE SMALL FUNCTIONS OF ear AND OF THE REFERENCE RETURN: letters, digits, numbers within bounds, comparisons. For any arguments.
  WHAT slices.IndexFunc, slices.ContainsFunc AND letterAt RETURN where ear calls them: the first place of a letter, and whether a name is among those of alphabets. For any lists.
  WHAT ear.Name RETURNS, for any string: whether it has 1 to 16 bytes, the first one from a to z, each other one such a letter, a digit or a full stop.
  WHAT IS READ OF MEMORY, LAYER 2: lists of words, parts, forms, shelves, marks and fills as they lie in memory.
  WHAT IS READ OF MEMORY, LAYER 8: spans, agents, entries and houses as they lie in memory.
  A RULE FOR A REGION THAT DRAWS ITS ORDER: what each operation yields is said by a fact of its own, which holds in each later world, and which may lean on the facts of the operations that it waits for alone. Then behind the region, in whatever order it went, all facts hold. Over any program.
  WHAT letterError RETURNS: the first error of a letter of an alphabet. For any letters before it, in a book whose number of sounds is as stated.
  WHAT check.First RETURNS at the letters of an alphabet: the first one with an error, and this error.
  THE ERROR OF A NAME, which things before must not have.
  THE NAMES OF AGENTS: names.Error, of the program.
  WHAT check.Span RETURNS: the error of a span, each end of which has to be within two numbers.
  RATES AND TRUTHS, plain: what agents pay, which rates days can have, which of them are truths.
-/
import Derived.Test.YtdadffmagfknoaaRows
import Derived.WalkKit
import Derived.WalkSpells
import Derived.BigQuiet
import Derived.Deep.QuietTactic
import Derived.Handy
import Derived.WalkLawsBesides
import Derived.WalkSmall
import Derived.Lib.Hide
import Derived.Laws.EntriesVeiled
import Derived.Still
import Derived.StillTail
import Derived.Orders
import Derived.KernelRfl
import Derived.Outline
namespace Go.Proofs.Ytdadffmagfknoaa
set_option linter.unusedSimpArgs false
set_option linter.unusedVariables false
open Go.RowKit

theorem cell_lt {w : World} {p : Addr} {v : Value} (h : w.cell? p = some v) : p.block < w.heap.size := by
  unfold World.cell? at h
  rcases Nat.lt_or_ge p.block w.heap.size with hh | hh
  · exact hh
  · rw [Array.getElem?_eq_none hh] at h; cases h

/-- a later world: what was there is as it was -/
def Ext (w w' : World) : Prop := Below w.heap.size w w'
theorem Ext.refl (w : World) : Ext w w := Below.refl _ _
theorem Ext.trans {a b c : World} (h : Ext a b) (k : Ext b c) : Ext a c := Below.trans h (Below.mono k h.size)
theorem Ext.size {a b : World} (h : Ext a b) : a.heap.size ≤ b.heap.size := Below.size h
theorem Ext.alloc {a w : World} (h : Ext a w) (o : Obj) : Ext a (w.alloc o) := Below.alloc h h.size o
theorem Ext.drew {a w : World} (h : Ext a w) : Ext a w.drew := Below.drew h
theorem Ext.drewN {a w : World} (h : Ext a w) (n : Nat) : Ext a (w.drewN n) := below_drewN h n
theorem Ext.setCell {a w : World} (h : Ext a w) {p : Addr} (hp : a.heap.size ≤ p.block) (u : Value) : Ext a (w.setCell p u) := Below.setCell h hp u
theorem Ext.cell {w w' : World} (h : Ext w w') {p : Addr} {v : Value} (hc : w.cell? p = some v) : w'.cell? p = some v := by
  rw [Below.cell h (cell_lt hc)]; exact hc
theorem Ext.frozen {w w' : World} (h : Ext w w') {p : Addr} (hp : p.block < w.heap.size) : w'.frozen? p = w.frozen? p := Below.frozen h hp
theorem Ext.below {w w' : World} (h : Ext w w') : Below w.heap.size w w' := h
theorem Ext.of_alloc {w w' : World} {o : Obj} (h : Ext (w.alloc o) w') : Ext w w' := ((Ext.refl w).alloc o).trans h
theorem ext_alloc (w : World) (o : Obj) : Ext w (w.alloc o) := (Ext.refl w).alloc o
theorem ext_drew (w : World) : Ext w w.drew := (Ext.refl w).drew
/-- behind a call all old cells, and all old marks, are as they were: two rules for the walk -/
theorem Ext.rules {W w1 : World} (hb : Ext W w1) : (∀ b o, b < W.heap.size → w1.cell? ⟨b, o, none⟩ = W.cell? ⟨b, o, none⟩) ∧ (∀ b o, b < W.heap.size → w1.frozen? ⟨b, o, none⟩ = W.frozen? ⟨b, o, none⟩) :=
  ⟨fun b o h => Below.cell (p := ⟨b, o, none⟩) hb h, fun b o h => Below.frozen (p := ⟨b, o, none⟩) hb h⟩

abbrev big : Nat := 9223372036854775807

/-- a list in memory: each element in sz cells -/
def SliceAt {α : Type} (sz : Nat) (R : World → Nat → Nat → α → Prop) (w : World) (v : Value) (l : List α) : Prop :=
  ∃ a cap, v = .slice a l.length cap ∧ l.length ≤ cap ∧ cap ≤ 9223372036854775807 ∧
    ∀ i (h : i < l.length), ∃ b off, a = some ⟨b, off, none⟩ ∧ R w b (off + i * sz) l[i]

def Keeps {α : Type} (R : World → Nat → Nat → α → Prop) : Prop := ∀ w w' b o x, Ext w w' → R w b o x → R w' b o x

theorem SliceAt.ext {α : Type} {sz : Nat} {R : World → Nat → Nat → α → Prop} (hR : Keeps R) {w w' : World} {v : Value} {l : List α} (h : SliceAt sz R w v l) (hx : Ext w w') : SliceAt sz R w' v l := by
  obtain ⟨a, cap, h1, h2, h3, h4⟩ := h
  exact ⟨a, cap, h1, h2, h3, fun i hi => by obtain ⟨b, off, e, r⟩ := h4 i hi; exact ⟨b, off, e, hR _ _ _ _ _ hx r⟩⟩
theorem SliceAt.shape {α : Type} {sz : Nat} {R : World → Nat → Nat → α → Prop} {w : World} {v : Value} {l : List α} (h : SliceAt sz R w v l) :
    ∃ a cap, v = .slice a l.length cap ∧ l.length ≤ cap ∧ cap ≤ 9223372036854775807 := by
  obtain ⟨a, cap, h1, h2, h3, _⟩ := h; exact ⟨a, cap, h1, h2, h3⟩
theorem SliceAt.nil {α : Type} {sz : Nat} {R : World → Nat → Nat → α → Prop} {w : World} : SliceAt sz R w (.slice none 0 0) ([] : List α) :=
  ⟨none, 0, rfl, Nat.le_refl _, by omega, fun i h => by simp at h⟩
/-- the first elements of a list -/
theorem SliceAt.take {α : Type} {sz : Nat} {R : World → Nat → Nat → α → Prop} {w : World} {a : Option Addr} {n cap : Nat} {l : List α} (h : SliceAt sz R w (.slice a n cap) l) (k : Nat) (hk : k ≤ n) :
    SliceAt sz R w (.slice a k cap) (l.take k) := by
  obtain ⟨a', cap', h1, h2, h3, h4⟩ := h
  cases h1
  have hl : (l.take k).length = k := by simp; omega
  refine ⟨a, cap, by rw [hl], by omega, h3, fun i hi => ?_⟩
  rw [hl] at hi
  obtain ⟨b, off, e, r⟩ := h4 i (by omega)
  exact ⟨b, off, e, by simpa using r⟩

def intR (w : World) (b o : Nat) (x : Int) : Prop := w.cell? ⟨b, o, none⟩ = some (.int .i64 x) ∧ -9223372036854775808 ≤ x ∧ x ≤ 9223372036854775807
theorem intR.keeps : Keeps intR := fun _ _ _ _ _ hx h => ⟨hx.cell h.1, h.2⟩
abbrev IntsAt : World → Value → List Int → Prop := SliceAt 1 intR
theorem IntsAt.ext {w w' : World} {v : Value} {l : List Int} (h : IntsAt w v l) (hx : Ext w w') : IntsAt w' v l := SliceAt.ext intR.keeps h hx
theorem IntsAt.one {w : World} {n : Int} {t : TypeId} (h : -9223372036854775808 ≤ n ∧ n ≤ 9223372036854775807) : IntsAt (w.alloc (.cells #[.int .i64 n] t)) (.slice (some ⟨w.heap.size, 0, none⟩) 1 1) [n] :=
  ⟨_, _, rfl, Nat.le_refl _, by omega, fun i hi => by
    obtain rfl : i = 0 := by simpa using hi
    exact ⟨_, _, rfl, by simp [go_sem], h⟩⟩
theorem IntsAt.oneAt {w : World} {n : Int} {t : TypeId} {B : Nat} (hB : w.heap.size = B) (h : -9223372036854775808 ≤ n ∧ n ≤ 9223372036854775807) : IntsAt (w.alloc (.cells #[.int .i64 n] t)) (.slice (some ⟨B, 0, none⟩) 1 1) [n] := by
  subst hB; exact IntsAt.one h
theorem IntsAt.two {w : World} {m n : Int} {t : TypeId} (h : -9223372036854775808 ≤ n ∧ n ≤ 9223372036854775807) (h' : -9223372036854775808 ≤ m ∧ m ≤ 9223372036854775807) : IntsAt (w.alloc (.cells #[.int .i64 n, .int .i64 m] t)) (.slice (some ⟨w.heap.size, 0, none⟩) 2 2) [n, m] :=
  ⟨_, _, rfl, Nat.le_refl _, by omega, fun i hi => by
    have : i = 0 ∨ i = 1 := by simp at hi; omega
    rcases this with rfl | rfl
    · exact ⟨_, _, rfl, by simp [go_sem], h⟩
    · exact ⟨_, _, rfl, by simp [go_sem], h'⟩⟩

structure Letter where
  c : Int
  sounds : Int
  silent : Bool
  deriving DecidableEq
structure Alphabet where
  name : ByteArray
  letters : List Letter
  deriving DecidableEq
structure Spelling where
  alphabet : Int
  text : ByteArray
  deriving DecidableEq
structure Book where
  sounds : Int
  alphabets : List Alphabet
  spellings : List Spelling
  deriving DecidableEq

def strR (w : World) (b o : Nat) (x : ByteArray) : Prop := w.cell? ⟨b, o, none⟩ = some (.string x) ∧ x.size ≤ 9223372036854775807
theorem strR.keeps : Keeps strR := fun _ _ _ _ _ hx h => ⟨hx.cell h.1, h.2⟩
abbrev StrsAt : World → Value → List ByteArray → Prop := SliceAt 1 strR
theorem StrsAt.ext {w w' : World} {v : Value} {l : List ByteArray} (h : StrsAt w v l) (hx : Ext w w') : StrsAt w' v l := SliceAt.ext strR.keeps h hx

def I64 (n : Int) : Prop := -9223372036854775808 ≤ n ∧ n ≤ 9223372036854775807
def U8 (n : Int) : Prop := 0 ≤ n ∧ n ≤ 255
def LetterV (v : Value) (x : Letter) : Prop := v = .agg #[.int .u8 x.c, .int .i64 x.sounds, .bool x.silent] ∧ U8 x.c ∧ I64 x.sounds
def letterR (w : World) (b o : Nat) (x : Letter) : Prop :=
  w.cell? ⟨b, o, none⟩ = some (.int .u8 x.c) ∧ w.cell? ⟨b, o + 1, none⟩ = some (.int .i64 x.sounds) ∧ w.cell? ⟨b, o + 2, none⟩ = some (.bool x.silent) ∧ U8 x.c ∧ I64 x.sounds
theorem letterR.keeps : Keeps letterR := fun _ _ _ _ _ hx h => ⟨hx.cell h.1, hx.cell h.2.1, hx.cell h.2.2.1, h.2.2.2⟩
abbrev LettersAt : World → Value → List Letter → Prop := SliceAt 3 letterR
theorem LettersAt.ext {w w' : World} {v : Value} {l : List Letter} (h : LettersAt w v l) (hx : Ext w w') : LettersAt w' v l := SliceAt.ext letterR.keeps h hx

def AlphabetV (w : World) (v : Value) (x : Alphabet) : Prop := ∃ u, v = .agg #[.string x.name, u] ∧ x.name.size ≤ 9223372036854775807 ∧ LettersAt w u x.letters
def alphabetR (w : World) (b o : Nat) (x : Alphabet) : Prop :=
  w.cell? ⟨b, o, none⟩ = some (.string x.name) ∧ x.name.size ≤ 9223372036854775807 ∧ ∃ u, w.cell? ⟨b, o + 1, none⟩ = some u ∧ LettersAt w u x.letters
theorem alphabetR.keeps : Keeps alphabetR := fun _ _ _ _ _ hx h => ⟨hx.cell h.1, h.2.1, by obtain ⟨u, h1, h2⟩ := h.2.2; exact ⟨u, hx.cell h1, h2.ext hx⟩⟩
abbrev AlphabetsAt : World → Value → List Alphabet → Prop := SliceAt 2 alphabetR
theorem AlphabetsAt.ext {w w' : World} {v : Value} {l : List Alphabet} (h : AlphabetsAt w v l) (hx : Ext w w') : AlphabetsAt w' v l := SliceAt.ext alphabetR.keeps h hx

def spellingR (w : World) (b o : Nat) (x : Spelling) : Prop :=
  w.cell? ⟨b, o, none⟩ = some (.int .i64 x.alphabet) ∧ w.cell? ⟨b, o + 1, none⟩ = some (.string x.text) ∧ I64 x.alphabet ∧ x.text.size ≤ 9223372036854775807
theorem spellingR.keeps : Keeps spellingR := fun _ _ _ _ _ hx h => ⟨hx.cell h.1, hx.cell h.2.1, h.2.2⟩
abbrev SpellingsAt : World → Value → List Spelling → Prop := SliceAt 2 spellingR
theorem SpellingsAt.ext {w w' : World} {v : Value} {l : List Spelling} (h : SpellingsAt w v l) (hx : Ext w w') : SpellingsAt w' v l := SliceAt.ext spellingR.keeps h hx

def BookAt (w : World) (v : Value) (b : Book) : Prop :=
  ∃ av sv, v = .agg #[.int .i64 b.sounds, av, sv] ∧ I64 b.sounds ∧ AlphabetsAt w av b.alphabets ∧ SpellingsAt w sv b.spellings
theorem BookAt.ext {w w' : World} {v : Value} {b : Book} (h : BookAt w v b) (hx : Ext w w') : BookAt w' v b := by
  obtain ⟨av, sv, h1, h2, h3, h4⟩ := h
  exact ⟨av, sv, h1, h2, h3.ext hx, h4.ext hx⟩
/-- a book, down to the two lists' places -/
theorem BookAt.open {w : World} {v : Value} {b : Book} (h : BookAt w v b) : ∃ a c s d, v = .agg #[.int .i64 b.sounds, .slice a b.alphabets.length c, .slice s b.spellings.length d] ∧
    I64 b.sounds ∧ b.alphabets.length ≤ c ∧ c ≤ 9223372036854775807 ∧ b.spellings.length ≤ d ∧ d ≤ 9223372036854775807 ∧ BookAt w v b ∧ AlphabetsAt w (.slice a b.alphabets.length c) b.alphabets ∧ SpellingsAt w (.slice s b.spellings.length d) b.spellings := by
  have hh := h
  obtain ⟨av, sv, rfl, h2, h3, h4⟩ := h
  obtain ⟨a, c, rfl, h5, h6⟩ := h3.shape
  obtain ⟨s, d, rfl, h7, h8⟩ := h4.shape
  exact ⟨a, c, s, d, rfl, h2, h5, h6, h7, h8, hh, h3, h4⟩
def u8R (w : World) (b o : Nat) (x : Int) : Prop := w.cell? ⟨b, o, none⟩ = some (.int .u8 x) ∧ U8 x
theorem u8R.keeps : Keeps u8R := fun _ _ _ _ _ hx h => ⟨hx.cell h.1, h.2⟩
abbrev BytesAt : World → Value → List Int → Prop := SliceAt 1 u8R
theorem BytesAt.ext {w w' : World} {v : Value} {l : List Int} (h : BytesAt w v l) (hx : Ext w w') : BytesAt w' v l := SliceAt.ext u8R.keeps h hx
def turnM (l : List Int) (n : Nat) : Int := l.getD (n % l.length) 0
theorem set_cell {w : World} {p : Addr} {x : Value} (h : w.cell? p = some x) (v : Value) : (w.setCell p v).cell? p = some v := by
  unfold World.cell? at h
  unfold World.setCell World.cell?
  cases hb : w.heap[p.block]? with
  | none => rw [hb] at h; cases h
  | some o =>
    rw [hb] at h
    cases o <;> simp only at h <;> try (cases h)
    rename_i c e f
    split at h
    · cases h
    · rename_i hs
      have hl : p.off < c.size := (Array.getElem?_eq_some_iff.1 h).1
      obtain ⟨lo, hi⟩ := f
      simp [Array.getElem?_modify, hb, hs, hl]
theorem set_other {w : World} {p q : Addr} {x : Value} (h : w.cell? q = some x) (hne : p.block ≠ q.block ∨ p.off ≠ q.off) (v : Value) : (w.setCell p v).cell? q = some x := by
  unfold World.cell? at h
  unfold World.setCell World.cell?
  simp only [Array.getElem?_modify]
  cases hb : w.heap[q.block]? with
  | none => rw [hb] at h; cases h
  | some o =>
    rw [hb] at h
    by_cases hpq : p.block = q.block
    · have hoff := hne.resolve_left (fun e => e hpq)
      rw [if_pos hpq]
      cases o <;> simp only at h <;> try (cases h)
      rename_i c e f
      obtain ⟨lo, hi⟩ := f
      simp only [Option.map_some]
      split at h
      · cases h
      · rename_i hs
        rw [if_neg hs]
        split
        · exact h
        · rw [Array.getElem?_setIfInBounds_ne hoff]; exact h
    · rw [if_neg hpq]; exact h
theorem three_cells {w : World} {B : Nat} {x y z : Value} (h0 : w.cell? ⟨B, 0, none⟩ = some x) (h1 : w.cell? ⟨B, 1, none⟩ = some y) (h2 : w.cell? ⟨B, 2, none⟩ = some z) (a b c : Value) :
    (((w.setCell ⟨B, 0, none⟩ a).setCell ⟨B, 1, none⟩ b).setCell ⟨B, 2, none⟩ c).cell? ⟨B, 0, none⟩ = some a ∧
    (((w.setCell ⟨B, 0, none⟩ a).setCell ⟨B, 1, none⟩ b).setCell ⟨B, 2, none⟩ c).cell? ⟨B, 1, none⟩ = some b ∧
    (((w.setCell ⟨B, 0, none⟩ a).setCell ⟨B, 1, none⟩ b).setCell ⟨B, 2, none⟩ c).cell? ⟨B, 2, none⟩ = some c :=
  ⟨set_other (set_other (set_cell h0 a) (.inr (by simp)) b) (.inr (by simp)) c, set_other (set_cell (set_other h1 (.inr (by simp)) a) b) (.inr (by simp)) c,
    set_cell (set_other (set_other h2 (.inr (by simp)) a) (.inr (by simp)) b) c⟩
theorem ret_bool {a b : Bool} (h : a = b) : Ending.returned (.bool a) = .returned (.bool b) := by rw [h]
theorem ret_int {k : IntKind} {a b : Int} (h : a = b) : Ending.returned (.int k a) = .returned (.int k b) := by rw [h]
end Go.Proofs.Ytdadffmagfknoaa

namespace Go.Proofs.Ytdadffmagfknoaa
set_option linter.unusedSimpArgs false
set_option linter.unusedVariables false
open Go.RowKit

def inM (n lo hi : Int) : Bool := decide (lo ≤ n) && decide (n ≤ hi)

theorem In_any (n lo hi : Int) (w : World) :
    Calls Try.prog 46 #[.int .i64 n, .int .i64 lo, .int .i64 hi] w fun e w' => e = .returned (.bool (inM n lo hi)) ∧ w = w' := by
  by_cases h : lo ≤ n <;> by_cases h2 : n ≤ hi
  all_goals
    go_enter Try.func46, Try.ntmps46
    go_wp2
    go_ret
    exact ⟨by simp [inM, h, h2], rfl⟩
theorem isLetter_any (c : Int) (w : World) :
    Calls Try.prog 122 #[.int .i32 c] w fun e w' => e = .returned (.bool (inM c 97 122)) ∧ w = w' := by
  by_cases h : 97 ≤ c <;> by_cases h2 : c ≤ 122
  all_goals
    go_enter Try.func122, Try.ntmps122
    go_wp2
    go_ret
    exact ⟨by simp [inM, h, h2], rfl⟩
theorem isDigit_any (c : Int) (w : World) :
    Calls Try.prog 123 #[.int .i32 c] w fun e w' => e = .returned (.bool (inM c 48 57)) ∧ w = w' := by
  by_cases h : 48 ≤ c <;> by_cases h2 : c ≤ 57
  all_goals
    go_enter Try.func123, Try.ntmps123
    go_wp2
    go_ret
    exact ⟨by simp [inM, h, h2], rfl⟩

def withinM (lo hi : Int) (l : List Int) : Bool := l.all fun n => inM n lo hi
theorem withinM_one (lo hi n : Int) : withinM lo hi [n] = inM n lo hi := by simp [withinM]
theorem withinM_two (lo hi m n : Int) : withinM lo hi [m, n] = (inM m lo hi && inM n lo hi) := by simp [withinM]
theorem withinM_step (lo hi : Int) (l : List Int) (k : Nat) (h : k < l.length) (x : Int) (hx : l[k] = x) (h0 : withinM lo hi (l.take k) = true) (h1 : lo ≤ x) (h2 : x ≤ hi) : withinM lo hi (l.take (k + 1)) = true := by
  rw [List.take_succ_eq_append_getElem h, hx]
  simp only [withinM, List.all_append, Bool.and_eq_true] at *
  exact ⟨h0, by simp [inM, h1, h2]⟩
theorem withinM_no (lo hi : Int) (l : List Int) (k : Nat) (h : k < l.length) (x : Int) (hx : l[k] = x) (h1 : x < lo ∨ hi < x) : withinM lo hi l = false := by
  rw [withinM, List.all_eq_false]
  refine ⟨x, hx ▸ List.getElem_mem h, ?_⟩
  simp [inM]; omega

theorem within_any (lo hi : Int) (v : Value) (l : List Int) (w : World) (h : IntsAt w v l) :
    Calls Try.prog 49 #[.int .i64 lo, .int .i64 hi, v] w fun e w' => e = .returned (.bool (withinM lo hi l)) ∧ w = w' := by
  obtain ⟨a, cap, rfl, hlc, hcm, hc⟩ := h
  go_enter Try.func49, Try.ntmps49
  go_wp2
  go_loop [11] (fun i => ∃ k : Nat, k ≤ l.length ∧ i = .int .i64 k ∧ withinM lo hi (l.take k) = true) (fun i => l.length - (intOf i).toNat)
  case atStart => exact ⟨0, Nat.zero_le _, rfl, by simp [withinM]⟩
  case round =>
    obtain ⟨k, hk, rfl, hw⟩ := hrel
    have Hw := Lib.hid hw; clear hw
    by_cases hlt : k < l.length
    · obtain ⟨b, off, rfl, hck, -⟩ := hc k hlt
      clear hc
      generalize hx : l[k] = x at *
      have Hx := Lib.hid hx; clear hx
      simp only [Nat.mul_one] at hck
      by_cases h1 : x < lo
      · go_wp2
        go_ret
        exact ⟨ret_bool (withinM_no lo hi l k hlt x Hx.out (.inl h1)).symm, rfl⟩
      · by_cases h2 : x ≤ hi
        · go_wp2
          go_round
          case rel => exact ⟨k + 1, by omega, by go_num, withinM_step lo hi l k hlt x Hx.out Hw.out (by omega) h2⟩
          case measure => simp [intOf]; omega
        · go_wp2
          go_ret
          exact ⟨ret_bool (withinM_no lo hi l k hlt x Hx.out (.inr (by omega))).symm, rfl⟩
    · go_wp2
      go_ret
      refine ⟨ret_bool ?_, rfl⟩
      have := Hw.out
      rwa [List.take_of_length_le (by omega), eq_comm] at this

def cmpM (x y : Int) : Int := if x < y then -1 else if y < x then 1 else 0
end Go.Proofs.Ytdadffmagfknoaa

namespace Go.Proofs.Ytdadffmagfknoaa
set_option linter.unusedSimpArgs false
set_option linter.unusedVariables false
open Go.RowKit

def idxM {α : Type} (p : α → Bool) (l : List α) : Int := match l.findIdx? p with | some i => (i : Int) | none => -1
theorem idxM_none {α : Type} (p : α → Bool) (l : List α) (h : ∀ i (hi : i < l.length), p l[i] = false) : idxM p l = -1 := by
  have : l.findIdx? p = none := by
    rw [List.findIdx?_eq_none_iff]
    intro x hx
    obtain ⟨i, hi, rfl⟩ := List.getElem_of_mem hx
    exact h i hi
  simp [idxM, this]
theorem idxM_some {α : Type} (p : α → Bool) (l : List α) (k : Nat) (hk : k < l.length) (h : ∀ i (_ : i < k) (hi : i < l.length), p l[i] = false) (hp : p l[k] = true) : idxM p l = k := by
  have : l.findIdx? p = some k := by
    rw [List.findIdx?_eq_some_iff_getElem]
    exact ⟨hk, hp, fun j hj => by simpa using h j hj (by omega)⟩
  simp [idxM, this]

theorem idxM_ge {α : Type} (p : α → Bool) (l : List α) : decide (0 ≤ idxM p l) = l.any p := by
  unfold idxM
  cases h : l.findIdx? p with
  | none => rw [List.findIdx?_eq_none_iff] at h; symm; simp only [show ¬ (0 : Int) ≤ -1 from by omega, decide_false]; rw [List.any_eq_false]; exact fun x hx => by simp [h x hx]
  | some k => rw [List.findIdx?_eq_some_iff_getElem] at h; symm; simp only [Int.natCast_nonneg, decide_true]; rw [List.any_eq_true]; exact ⟨_, List.getElem_mem h.1, h.2.1⟩

end Go.Proofs.Ytdadffmagfknoaa

namespace Go.Proofs.Ytdadffmagfknoaa
set_option linter.unusedSimpArgs false
set_option linter.unusedVariables false
open Go.RowKit

def okByte (k : Nat) (c : Int) : Bool := inM c 97 122 || (decide (k ≠ 0) && (inM c 48 57 || c == 46))
def byteAt (s : ByteArray) (k : Nat) : Int := ((s.data.toList.getD k 0).toNat : Int)
def nameM (s : ByteArray) : Bool := inM s.size 1 16 && (List.range s.size).all fun k => okByte k (byteAt s k)

theorem nameM_no (s : ByteArray) (k : Nat) (hk : k < s.size) (h : okByte k (byteAt s k) = false) : nameM s = false := by
  unfold nameM
  rw [Bool.and_eq_false_iff]
  right
  rw [List.all_eq_false]
  exact ⟨k, List.mem_range.2 hk, by simp [h]⟩
theorem nameM_yes (s : ByteArray) (h : inM s.size 1 16 = true) (h2 : ∀ j, j < s.size → okByte j (byteAt s j) = true) : nameM s = true := by
  unfold nameM
  rw [h, Bool.true_and, List.all_eq_true]
  exact fun k hk => h2 k (List.mem_range.1 hk)
theorem byteAt_eq (s : ByteArray) (k : Nat) (hk : k < s.size) : byteAt s k = ((s[k]'hk).toNat : Int) := by
  unfold byteAt
  rw [List.getD_eq_getElem?_getD, List.getElem?_eq_getElem (by simpa using hk)]
  rfl

theorem name_step {s : ByteArray} {k : Nat} {c : Int} (h : ∀ j, j < k → okByte j (byteAt s j) = true) (hc : byteAt s k = c) (hb : okByte k c = true) : ∀ j, j < k + 1 → okByte j (byteAt s j) = true := fun j hj => by
  rcases Nat.lt_or_ge j k with hjk | hjk
  · exact h j hjk
  · obtain rfl : j = k := by omega
    rw [hc]; exact hb
theorem Ext.iter {a w : World} (h : Ext a w) (s : ByteArray) (p : Nat) : Ext a (w.iter s p) := h.alloc _

theorem iterPos_alloc (w : World) (o : Obj) (s : ByteArray) (p : Nat) : ((w.alloc o).iter s p).iterPos (w.heap.size + 1) = p := by
  have h := World.iterPos_iter (w.alloc o) s p
  rwa [World.size_alloc] at h
theorem name_any (s : ByteArray) (w : World) (hs : s.size ≤ 9223372036854775807) :
    Calls Try.prog 114 #[.string s] w fun e w' => e = .returned (.bool (nameM s)) ∧ Ext w w' := by
  cases hin : inM s.size 1 16
  · have Hin := Lib.hid hin; clear hin
    have Hn : Hid (nameM s = false) := Lib.hid (by simp [nameM, Hin.out])
    go_enter Try.func114, Try.ntmps114
    go_wp2_with fail
    refine (within_any _ _ _ [(s.size : Int)] _ (IntsAt.one (by omega))).mono ?_
    rintro e w' ⟨rfl, rfl⟩
    rw [withinM_one, Hin.out]
    go_wp2
    go_ret
    exact ⟨ret_bool Hn.out.symm, (by first | (with_reducible exact Ext.refl _) | (with_reducible assumption) | (show Below _ _ _; go_grown; done))⟩
  · have Hin := Lib.hid hin; clear hin
    go_enter Try.func114, Try.ntmps114
    go_wp2_with fail
    refine (within_any _ _ _ [(s.size : Int)] _ (IntsAt.one (by omega))).mono ?_
    rintro e w' ⟨rfl, rfl⟩
    rw [withinM_one, Hin.out]
    go_wp2_with fail
    go_loopw [3] (fun _ wr => ∃ k : Nat, k ≤ s.size ∧ wr = (w.alloc (.cells #[.int .i64 s.size] 3)).iter s k ∧ ∀ j, j < k → okByte j (byteAt s j) = true) (fun _ wr => s.size - wr.iterPos (w.heap.size + 1))
    case atStart => exact ⟨0, Nat.zero_le _, rfl, fun j hj => absurd hj (Nat.not_lt_zero _)⟩
    case round =>
      obtain ⟨k, hk, rfl, hok⟩ := hrel
      have Hok := Lib.hid hok; clear hok
      by_cases hp : k < s.size
      · by_cases ha : (s[k]'hp).toNat < 128
        · have hnx := fun ty => run_next_ascii (P := Try.prog) (w.alloc (.cells #[.int .i64 s.size] 3)) s k ty hp ha
          have hbe := byteAt_eq s k hp
          obtain ⟨c, hc⟩ : ∃ c : Int, ((s[k]'hp).toNat : Int) = c := ⟨_, rfl⟩
          have hc0 : 0 ≤ c ∧ c < 128 := by omega
          rw [hc] at hnx hbe
          simp only [World.size_alloc] at hnx
          have Hbe := Lib.hid hbe
          clear hbe hc ha
          cases i1 : inM c 97 122
          · by_cases hk0 : k = 0
            · subst hk0
              have Hn : Hid (nameM s = false) := Lib.hid (nameM_no s _ hp (by rw [Hbe.out]; simp [okByte, i1]))
              go_wp2_with (first | (go_at_call 122; refine (isLetter_any _ _).mono ?_; rintro e w' ⟨rfl, rfl⟩) | (go_at_call 123; refine (isDigit_any _ _).mono ?_; rintro e w' ⟨rfl, rfl⟩))
              go_ret
              exact ⟨ret_bool Hn.out.symm, (ext_alloc _ _).iter _ _⟩
            · have hk1 : (((k : Int)) == 0) = false := by simp; omega
              cases i2 : inM c 48 57
              · by_cases i3 : (c != 46) = true
                have Hn : Hid (nameM s = false) := Lib.hid (nameM_no s k hp (by rw [Hbe.out]; simp [okByte, i1, i2]; intro _; simpa using i3))
                go_wp2_with (first | (go_at_call 122; refine (isLetter_any _ _).mono ?_; rintro e w' ⟨rfl, rfl⟩) | (go_at_call 123; refine (isDigit_any _ _).mono ?_; rintro e w' ⟨rfl, rfl⟩))
                go_ret
                exact ⟨ret_bool Hn.out.symm, (ext_alloc _ _).iter _ _⟩
                · have i4 : (c != 46) = false := by simpa using i3
                  have i5 : c = 46 := by simpa using i3
                  clear i3
                  have Hb : Hid (okByte k c = true) := Lib.hid (by rw [okByte, i1, i2, i5]; simp [hk0])
                  clear i5
                  go_wp2_with (first | (go_at_call 122; refine (isLetter_any _ _).mono ?_; rintro e w' ⟨rfl, rfl⟩) | (go_at_call 123; refine (isDigit_any _ _).mono ?_; rintro e w' ⟨rfl, rfl⟩))
                  go_roundw
                  case rel => exact ⟨k + 1, by omega, rfl, name_step Hok.out Hbe.out Hb.out⟩
                  case measure => simp only [iterPos_alloc]; omega
              ·
                have Hb : Hid (okByte k c = true) := Lib.hid (by simp [okByte, i1, i2, hk0])
                go_wp2_with (first | (go_at_call 122; refine (isLetter_any _ _).mono ?_; rintro e w' ⟨rfl, rfl⟩) | (go_at_call 123; refine (isDigit_any _ _).mono ?_; rintro e w' ⟨rfl, rfl⟩))
                go_roundw
                case rel => exact ⟨k + 1, by omega, rfl, name_step Hok.out Hbe.out Hb.out⟩
                case measure => simp only [iterPos_alloc]; omega
          ·
            have Hb : Hid (okByte k c = true) := Lib.hid (by simp [okByte, i1])
            go_wp2_with (first | (go_at_call 122; refine (isLetter_any _ _).mono ?_; rintro e w' ⟨rfl, rfl⟩) | (go_at_call 123; refine (isDigit_any _ _).mono ?_; rintro e w' ⟨rfl, rfl⟩))
            go_roundw
            case rel => exact ⟨k + 1, by omega, rfl, name_step Hok.out Hbe.out Hb.out⟩
            case measure => simp only [iterPos_alloc]; omega
        · have hnx := fun ty => run_next_any (P := Try.prog) (w.alloc (.cells #[.int .i64 s.size] 3)) s k ty hp
          obtain ⟨c, hc⟩ : ∃ c : Int, ((Utf8.decode s k).1 : Int) = c := ⟨_, rfl⟩
          have hc0 : 128 ≤ c := by have := (decode_high s k hp (by omega)).1; omega
          rw [hc] at hnx
          simp only [World.size_alloc] at hnx
          have hn := nameM_no s k hp (by
            rw [byteAt_eq s k hp]
            have hh : 128 ≤ ((s[k]'hp).toNat : Int) := by omega
            simp [okByte, inM]; omega)
          have Hn := Lib.hid hn; clear hn hc ha
          have i1 : inM c 97 122 = false := by simp [inM]; omega
          have i2 : inM c 48 57 = false := by simp [inM]; omega
          have i3 : (c != 46) = true := by simp; omega
          go_wp2_with (first | (go_at_call 122; refine (isLetter_any _ _).mono ?_; rintro e w' ⟨rfl, rfl⟩) | (go_at_call 123; refine (isDigit_any _ _).mono ?_; rintro e w' ⟨rfl, rfl⟩))
          all_goals (go_ret; exact ⟨ret_bool Hn.out.symm, (ext_alloc _ _).iter _ _⟩)
      · have hnx := fun ty => run_next_end (P := Try.prog) (w.alloc (.cells #[.int .i64 s.size] 3)) s k ty hp
        simp only [World.size_alloc] at hnx
        go_wp2
        go_ret
        exact ⟨ret_bool (nameM_yes s Hin.out fun j hj => Hok.out j (by omega)).symm, (ext_alloc _ _).iter _ _⟩
end Go.Proofs.Ytdadffmagfknoaa

namespace Go.Proofs.Ytdadffmagfknoaa
set_option linter.unusedSimpArgs false
set_option linter.unusedVariables false
open Go.RowKit
set_option linter.unusedVariables false

structure Part where
  words : List ByteArray
  lo : Int
  hi : Int
structure Form where
  name : ByteArray
  parts : List Part
structure Shelf where
  width : Int
  forms : List Form
structure Mark where
  kind : Int
  word : ByteArray

def partR (w : World) (b o : Nat) (p : Part) : Prop :=
  (∃ u, w.cell? ⟨b, o, none⟩ = some u ∧ StrsAt w u p.words) ∧ w.cell? ⟨b, o + 1, none⟩ = some (.int .i64 p.lo) ∧ w.cell? ⟨b, o + 2, none⟩ = some (.int .i64 p.hi) ∧ I64 p.lo ∧ I64 p.hi
theorem partR.keeps : Keeps partR := fun _ _ _ _ _ hx h => ⟨by obtain ⟨u, h1, h2⟩ := h.1; exact ⟨u, hx.cell h1, h2.ext hx⟩, hx.cell h.2.1, hx.cell h.2.2.1, h.2.2.2⟩
abbrev PartsAt : World → Value → List Part → Prop := SliceAt 3 partR
theorem PartsAt.ext {w w' : World} {v : Value} {l : List Part} (h : PartsAt w v l) (hx : Ext w w') : PartsAt w' v l := SliceAt.ext partR.keeps h hx
/-- a part, handed in -/
def PartV (w : World) (v : Value) (p : Part) : Prop := ∃ u, v = .agg #[u, .int .i64 p.lo, .int .i64 p.hi] ∧ StrsAt w u p.words ∧ I64 p.lo ∧ I64 p.hi
theorem PartV.ext {w w' : World} {v : Value} {p : Part} (h : PartV w v p) (hx : Ext w w') : PartV w' v p := by
  obtain ⟨u, e, h1, h2⟩ := h; exact ⟨u, e, h1.ext hx, h2⟩
def formR (w : World) (b o : Nat) (f : Form) : Prop :=
  w.cell? ⟨b, o, none⟩ = some (.string f.name) ∧ f.name.size ≤ 9223372036854775807 ∧ ∃ u, w.cell? ⟨b, o + 1, none⟩ = some u ∧ PartsAt w u f.parts
theorem formR.keeps : Keeps formR := fun _ _ _ _ _ hx h => ⟨hx.cell h.1, h.2.1, by obtain ⟨u, h1, h2⟩ := h.2.2; exact ⟨u, hx.cell h1, h2.ext hx⟩⟩
abbrev FormsAt : World → Value → List Form → Prop := SliceAt 2 formR
theorem FormsAt.ext {w w' : World} {v : Value} {l : List Form} (h : FormsAt w v l) (hx : Ext w w') : FormsAt w' v l := SliceAt.ext formR.keeps h hx
/-- a form, handed in -/
def FormV (w : World) (v : Value) (f : Form) : Prop := ∃ u, v = .agg #[.string f.name, u] ∧ f.name.size ≤ 9223372036854775807 ∧ PartsAt w u f.parts
theorem FormV.ext {w w' : World} {v : Value} {f : Form} (h : FormV w v f) (hx : Ext w w') : FormV w' v f := by
  obtain ⟨u, e, h1, h2⟩ := h; exact ⟨u, e, h1, h2.ext hx⟩
def ShelfAt (w : World) (v : Value) (s : Shelf) : Prop := ∃ u, v = .agg #[.int .i64 s.width, u] ∧ I64 s.width ∧ FormsAt w u s.forms
theorem ShelfAt.ext {w w' : World} {v : Value} {s : Shelf} (h : ShelfAt w v s) (hx : Ext w w') : ShelfAt w' v s := by
  obtain ⟨u, e, h1, h2⟩ := h; exact ⟨u, e, h1, h2.ext hx⟩
theorem ShelfAt.open {w : World} {v : Value} {s : Shelf} (h : ShelfAt w v s) : ∃ a c, v = .agg #[.int .i64 s.width, .slice a s.forms.length c] ∧ I64 s.width ∧ s.forms.length ≤ c ∧ c ≤ 9223372036854775807 ∧ FormsAt w (.slice a s.forms.length c) s.forms := by
  obtain ⟨u, rfl, h1, h2⟩ := h
  obtain ⟨a, c, rfl, h3, h4⟩ := h2.shape
  exact ⟨a, c, rfl, h1, h3, h4, h2⟩
def markR (w : World) (b o : Nat) (m : Mark) : Prop := w.cell? ⟨b, o, none⟩ = some (.int .i64 m.kind) ∧ w.cell? ⟨b, o + 1, none⟩ = some (.string m.word) ∧ I64 m.kind ∧ m.word.size ≤ 9223372036854775807
theorem markR.keeps : Keeps markR := fun _ _ _ _ _ hx h => ⟨hx.cell h.1, hx.cell h.2.1, h.2.2⟩
abbrev MarksAt : World → Value → List Mark → Prop := SliceAt 2 markR
theorem MarksAt.ext {w w' : World} {v : Value} {l : List Mark} (h : MarksAt w v l) (hx : Ext w w') : MarksAt w' v l := SliceAt.ext markR.keeps h hx
def fillR (w : World) (b o : Nat) (l : List ByteArray) : Prop := ∃ u, w.cell? ⟨b, o, none⟩ = some u ∧ StrsAt w u l
theorem fillR.keeps : Keeps fillR := fun _ _ _ _ _ hx h => by obtain ⟨u, h1, h2⟩ := h; exact ⟨u, hx.cell h1, h2.ext hx⟩
abbrev FillsAt : World → Value → List (List ByteArray) → Prop := SliceAt 1 fillR
theorem FillsAt.ext {w w' : World} {v : Value} {l : List (List ByteArray)} (h : FillsAt w v l) (hx : Ext w w') : FillsAt w' v l := SliceAt.ext fillR.keeps h hx
/-- one element of a list: where it lies -/
theorem SliceAt.get {α : Type} {sz : Nat} {R : World → Nat → Nat → α → Prop} {w : World} {a : Option Addr} {n cap : Nat} {l : List α} (h : SliceAt sz R w (.slice a n cap) l) {i : Nat} (hi : i < l.length) : ∃ b off, a = some ⟨b, off, none⟩ ∧ R w b (off + i * sz) l[i] := by
  obtain ⟨a', cap', e, -, -, h4⟩ := h
  obtain rfl := (Value.slice.inj e).1
  exact h4 i hi
theorem SliceAt.len {α : Type} {sz : Nat} {R : World → Nat → Nat → α → Prop} {w : World} {a : Option Addr} {n cap : Nat} {l : List α} (h : SliceAt sz R w (.slice a n cap) l) : n = l.length ∧ l.length ≤ cap ∧ cap ≤ 9223372036854775807 := by
  obtain ⟨a', cap', e, h2, h3, -⟩ := h
  obtain ⟨-, rfl, rfl⟩ := Value.slice.inj e
  exact ⟨rfl, h2, h3⟩
end Go.Proofs.Ytdadffmagfknoaa

namespace Go.Proofs.Ytdadffmagfknoaa
set_option linter.unusedSimpArgs false
set_option linter.unusedVariables false
open Go.RowKit
set_option linter.unusedVariables false

structure Agt where
  name : ByteArray
  fee : Int
  round : Int
structure Ent where
  agent : Int
  day : Int
  near : Int
  far : Int
structure House where
  days : Int
  rates : List (Int × Int)
  step : Int
  agents : List Agt
  entries : List Ent

def spanR (w : World) (b o : Nat) (s : Int × Int) : Prop := w.cell? ⟨b, o, none⟩ = some (.int .i64 s.1) ∧ w.cell? ⟨b, o + 1, none⟩ = some (.int .i64 s.2) ∧ I64 s.1 ∧ I64 s.2
theorem spanR.keeps : Keeps spanR := fun _ _ _ _ _ hx h => ⟨hx.cell h.1, hx.cell h.2.1, h.2.2⟩
abbrev SpansAt : World → Value → List (Int × Int) → Prop := SliceAt 2 spanR
theorem SpansAt.ext {w w' : World} {v : Value} {l : List (Int × Int)} (h : SpansAt w v l) (hx : Ext w w') : SpansAt w' v l := SliceAt.ext spanR.keeps h hx
def agentR (w : World) (b o : Nat) (a : Agt) : Prop := w.cell? ⟨b, o, none⟩ = some (.string a.name) ∧ w.cell? ⟨b, o + 1, none⟩ = some (.int .i64 a.fee) ∧ w.cell? ⟨b, o + 2, none⟩ = some (.int .i64 a.round) ∧ a.name.size ≤ 9223372036854775807 ∧ I64 a.fee ∧ I64 a.round
theorem agentR.keeps : Keeps agentR := fun _ _ _ _ _ hx h => ⟨hx.cell h.1, hx.cell h.2.1, hx.cell h.2.2.1, h.2.2.2⟩
abbrev AgentsAt : World → Value → List Agt → Prop := SliceAt 3 agentR
theorem AgentsAt.ext {w w' : World} {v : Value} {l : List Agt} (h : AgentsAt w v l) (hx : Ext w w') : AgentsAt w' v l := SliceAt.ext agentR.keeps h hx
/-- an agent, handed in -/
def AgentV (v : Value) (a : Agt) : Prop := v = .agg #[.string a.name, .int .i64 a.fee, .int .i64 a.round] ∧ a.name.size ≤ 9223372036854775807 ∧ I64 a.fee ∧ I64 a.round
def entryR (w : World) (b o : Nat) (e : Ent) : Prop := w.cell? ⟨b, o, none⟩ = some (.int .i64 e.agent) ∧ w.cell? ⟨b, o + 1, none⟩ = some (.int .i64 e.day) ∧ w.cell? ⟨b, o + 2, none⟩ = some (.int .i64 e.near) ∧ w.cell? ⟨b, o + 3, none⟩ = some (.int .i64 e.far) ∧ I64 e.agent ∧ I64 e.day ∧ I64 e.near ∧ I64 e.far
theorem entryR.keeps : Keeps entryR := fun _ _ _ _ _ hx h => ⟨hx.cell h.1, hx.cell h.2.1, hx.cell h.2.2.1, hx.cell h.2.2.2.1, h.2.2.2.2⟩
abbrev EntriesAt : World → Value → List Ent → Prop := SliceAt 4 entryR
theorem EntriesAt.ext {w w' : World} {v : Value} {l : List Ent} (h : EntriesAt w v l) (hx : Ext w w') : EntriesAt w' v l := SliceAt.ext entryR.keeps h hx
def entV (e : Ent) : Value := .agg #[.int .i64 e.agent, .int .i64 e.day, .int .i64 e.near, .int .i64 e.far]
def EntV (v : Value) (e : Ent) : Prop := v = entV e ∧ I64 e.agent ∧ I64 e.day ∧ I64 e.near ∧ I64 e.far

def HouseAt (w : World) (v : Value) (h : House) : Prop :=
  ∃ ra rc aa ac ea ec, v = .agg #[.int .i64 h.days, .slice ra h.rates.length rc, .int .i64 h.step, .slice aa h.agents.length ac, .slice ea h.entries.length ec] ∧ I64 h.days ∧ I64 h.step ∧
    SpansAt w (.slice ra h.rates.length rc) h.rates ∧ AgentsAt w (.slice aa h.agents.length ac) h.agents ∧ EntriesAt w (.slice ea h.entries.length ec) h.entries
theorem HouseAt.ext {w w' : World} {v : Value} {h : House} (hh : HouseAt w v h) (hx : Ext w w') : HouseAt w' v h := by
  obtain ⟨ra, rc, aa, ac, ea, ec, e, h1, h2, h3, h4, h5⟩ := hh
  exact ⟨ra, rc, aa, ac, ea, ec, e, h1, h2, h3.ext hx, h4.ext hx, h5.ext hx⟩
theorem SliceAt.le {α : Type} {sz : Nat} {R : World → Nat → Nat → α → Prop} {w : World} {v : Value} {l : List α} (h : SliceAt sz R w v l) : l.length ≤ 9223372036854775807 := by
  obtain ⟨a, cap, -, h2, h3, -⟩ := h; omega
end Go.Proofs.Ytdadffmagfknoaa

namespace Go.Proofs.Ytdadffmagfknoaa
set_option linter.unusedSimpArgs false
set_option linter.unusedVariables false
open Go.RowKit
namespace Facts
variable {P : Program} {ops : Array Oper}

/-- it has returned, and so on -/
def Ret (S : Value → World → Prop) (e : Ending) (w : World) : Prop := ∃ v, e = .returned v ∧ S v w
def upon (P : Program) (S : Value → World → Prop) : Result Next → Prop
  | .ok (.value v) w' => S v w'
  | .ok .skip w' => S undef w'
  | .ok (.enter f args) w' => Calls P f args w' (Ret S)
  | _ => False
theorem upon_value {S : Value → World → Prop} {v : Value} {w : World} : upon P S (.ok (.value v) w) = S v w := rfl
theorem upon_skip {S : Value → World → Prop} {w : World} : upon P S (.ok .skip w) = S undef w := rfl
theorem upon_enter {S : Value → World → Prop} {f : FuncId} {args : Array Value} {w : World} : upon P S (.ok (.enter f args) w) = Calls P f args w (Ret S) := rfl
def stepG (P : Program) (ops : Array Oper) (o : Oper) (a : Act) (w : World) (S : Value → World → Prop) : Prop :=
  if Region.wanted o (yielded ops a.tmps) then upon P S ((execOp a.eval o).run P w) else S undef w

theorem wp_of_stepG {i : Nat} {o : Oper} {a : Act} {w : World} {S : Value → World → Prop} {Q : Exit → Act → World → Prop} {K : Act → World → Prop} (hi : ops[i]? = some o) (h : stepG P ops o a w S)
    (hK : ∀ v w', S v w' → K (a.put o.dst v) w') : wpOp P ops Q i K a w := by
  unfold wpOp
  simp only [hi]
  unfold stepG at h
  split
  · rename_i hw
    rw [if_pos hw] at h
    left
    unfold Oper.wp
    generalize (execOp a.eval o).run P w = r at *
    cases r with
    | halt x w' => exact h.elim
    | ok n w' =>
      cases n <;> simp only [upon] at h <;> simp only [Oper.upon]
      case value v => exact hK _ _ h
      case skip => exact hK _ _ h
      case enter f args => exact h.mono fun e w'' ⟨v, he, hs⟩ => by subst he; exact hK _ _ hs
  · rename_i hw
    rw [if_neg hw] at h
    exact hK _ _ h

def direct (ops : Array Oper) (j : Nat) : List Nat :=
  match ops[j]? with
  | some o => (o.after.toList.filter (Region.binds .any)).map (·.on)
  | none => []
def depsOf (ops : Array Oper) : Nat → Nat → List Nat
  | 0, _ => []
  | n + 1, j => direct ops j ++ (direct ops j).flatMap (depsOf ops n)
def apartB (ops : Array Oper) (i j : Nat) : Bool :=
  match ops[i]?, ops[j]? with
  | some x, some y => x.apart ops y
  | _, _ => true
def okB (ops : Array Oper) : Bool :=
  Region.noSelect ops && (List.range ops.size).all fun j => (direct ops j).all (fun i => decide (i < j)) && (List.range j).all fun i => apartB ops i j || (depsOf ops ops.size j).contains i

def acts (ops : Array Oper) (a : Act) (vs : Nat → Value) (f : Nat → Bool) : Nat → Act
  | 0 => a
  | n + 1 => if f n then (acts ops a vs f n).put ((ops[n]?).bind (·.dst)) (vs n) else acts ops a vs f n

theorem put_size (a : Act) (d : Option Tmp) (v : Value) : (a.put d v).tmps.size = a.tmps.size := by
  cases d <;> simp [Act.put]
theorem acts_size (a : Act) (vs : Nat → Value) (f : Nat → Bool) (n : Nat) : (acts ops a vs f n).tmps.size = a.tmps.size := by
  induction n with
  | zero => rfl
  | succ n ih => simp only [acts]; split <;> simp [put_size, ih]
theorem put_other (a : Act) (d : Option Tmp) (v : Value) (t : Nat) (h : d ≠ some t) : (a.put d v).tmps[t]? = a.tmps[t]? := by
  cases d with
  | none => rfl
  | some d => simp only [Act.put]; rw [Array.getElem?_setIfInBounds_ne (fun e => h (by rw [e]))]
theorem put_same (a b : Act) (t : Nat) (v : Value) (h : a.tmps.size = b.tmps.size) : (a.put (some t) v).tmps[t]? = (b.put (some t) v).tmps[t]? := by
  simp only [Act.put]
  rw [Array.getElem?_setIfInBounds_self, Array.getElem?_setIfInBounds_self, h]
/-- a slot that is written by the same ones is the same -/
theorem acts_slot (a : Act) (vs : Nat → Value) (f g : Nat → Bool) (t : Nat) : ∀ n, (∀ j, j < n → (ops[j]?).bind (·.dst) = some t → f j = g j) → (acts ops a vs f n).tmps[t]? = (acts ops a vs g n).tmps[t]? := by
  intro n
  induction n with
  | zero => intro _; rfl
  | succ n ih =>
    intro h
    have ih := ih fun j hj => h j (by omega)
    simp only [acts]
    by_cases hd : (ops[n]?).bind (·.dst) = some t
    · rw [h n (by omega) hd]
      split
      · rw [hd]; exact put_same _ _ _ _ (by rw [acts_size, acts_size])
      · exact ih
    · split <;> split
      · rw [put_other _ _ _ _ hd, put_other _ _ _ _ hd]; exact ih
      · rw [put_other _ _ _ _ hd]; exact ih
      · rw [put_other _ _ _ _ hd]; exact ih
      · exact ih
theorem eval_slot {a b : Act} {t : Nat} (h : a.tmps[t]? = b.tmps[t]?) : a.eval (.tmp t) = b.eval (.tmp t) := by
  simp only [Act.eval, Array.getD_eq_getD_getElem?, h]
theorem exec_same (o : Oper) (hs : ∀ cs b, o.op ≠ .select cs b) {a b : Act} (h : ∀ t, t ∈ o.looksAt ops → a.tmps[t]? = b.tmps[t]?) : execOp a.eval o = execOp b.eval o :=
  execOp_congr o hs fun x hx => by
    cases x with
    | tmp t => exact eval_slot (h t (List.mem_append_left _ (List.mem_filterMap.2 ⟨.tmp t, by simpa using hx, rfl⟩)))
    | const v => rfl
    | global g => rfl
    | func f => rfl
theorem wanted_same (o : Oper) {a b : Act} (h : ∀ t, t ∈ o.looksAt ops → a.tmps[t]? = b.tmps[t]?) : Region.wanted o (yielded ops a.tmps) = Region.wanted o (yielded ops b.tmps) := by
  unfold Region.wanted
  cases hg : o.guard with
  | none => rfl
  | some gw =>
    obtain ⟨g, want⟩ := gw
    simp only [yielded]
    cases hd : (ops[g]?).bind (·.dst) with
    | none => rfl
    | some t =>
      have := h t (List.mem_append_right _ (by simp [hg, hd]))
      simp only [Option.bind_some, this]
theorem stepG_same {o : Oper} (hs : ∀ cs b, o.op ≠ .select cs b) {a b : Act} {w : World} {S : Value → World → Prop} (h : ∀ t, t ∈ o.looksAt ops → a.tmps[t]? = b.tmps[t]?) (hh : stepG P ops o a w S) : stepG P ops o b w S := by
  unfold stepG at *
  rw [← wanted_same o h, ← exec_same o hs h]; exact hh
theorem acts_congr (a : Act) (vs us : Nat → Value) (f g : Nat → Bool) : ∀ n, (∀ j, j < n → f j = g j ∧ (f j = true → vs j = us j)) → acts ops a vs f n = acts ops a us g n := by
  intro n
  induction n with
  | zero => intro _; rfl
  | succ n ih =>
    intro h
    simp only [acts]
    rw [ih fun j hj => h j (by omega), ← (h n (by omega)).1]
    split
    · rename_i hf; rw [(h n (by omega)).2 hf]
    · rfl
/-- an operation that comes later is put in its place -/
theorem acts_put (a : Act) (vs : Nat → Value) (f : Nat → Bool) (i : Nat) (v : Value) (hf : f i = false) : ∀ n, i < n → (∀ j, i < j → j < n → f j = true → ∀ d, (ops[i]?).bind (·.dst) = some d → (ops[j]?).bind (·.dst) ≠ some d) →
    (acts ops a vs f n).put ((ops[i]?).bind (·.dst)) v = acts ops a (fun j => if j = i then v else vs j) (fun j => f j || decide (j = i)) n := by
  intro n
  induction n with
  | zero => intro h; omega
  | succ n ih =>
    intro hin h
    simp only [acts]
    by_cases hn : i = n
    · subst hn
      simp only [hf, Bool.false_or, decide_true, if_true, Bool.false_eq_true, if_false]
      rw [acts_congr a vs (fun j => if j = i then v else vs j) f (fun j => f j || decide (j = i)) i fun j hj => ⟨by simp [show j ≠ i from by omega], fun _ => by simp [show j ≠ i from by omega]⟩]
    · have ih := ih (by omega) fun j h1 h2 => h j h1 (by omega)
      have hne : (f n || decide (n = i)) = f n := by rw [decide_eq_false (fun e => hn e.symm), Bool.or_false]
      have hni : (if n = i then v else vs n) = vs n := if_neg fun e => hn e.symm
      rw [hne, hni]
      cases hfn : f n
      · simp only [Bool.false_eq_true, if_false]; exact ih
      · simp only [if_true]
        rw [← ih]
        exact (Act.put_comm _ _ _ fun d hd hd2 => h n (by omega) (by omega) hfn d hd2 hd)

theorem dep_in {listed : Array Bool} (hcl : ∀ j, listed.getD j false = true → ∀ i ∈ direct ops j, listed.getD i false = true) : ∀ (n j : Nat), (∀ i ∈ direct ops j, listed.getD i false = true) → ∀ i ∈ depsOf ops n j, listed.getD i false = true
  | 0, _, _, _, hi => by simp [depsOf] at hi
  | n + 1, j, hj, i, hi => by
    simp only [depsOf, List.mem_append, List.mem_flatMap] at hi
    rcases hi with hi | ⟨k, hk, hi⟩
    · exact hj i hi
    · exact dep_in hcl n k (hcl k (hj k hk)) i hi

theorem okB_spec (h : okB ops = true) : (∀ j, j < ops.size → (∀ i ∈ direct ops j, i < j) ∧ ∀ i, i < j → apartB ops i j = true ∨ i ∈ depsOf ops ops.size j) := by
  intro j hj
  simp only [okB, Bool.and_eq_true, List.all_eq_true, List.mem_range, decide_eq_true_eq, Bool.or_eq_true, List.contains_iff_mem] at h
  exact h.2 j hj

theorem direct_ready {j : Nat} {listed : Array Bool} {o : Oper} (ho : ops[j]? = some o) (h : ∀ e ∈ o.after, Region.binds .any e = true → listed.getD e.on false = true) : ∀ i ∈ direct ops j, listed.getD i false = true := by
  intro i hi
  simp only [direct, ho, List.mem_map, List.mem_filter] at hi
  obtain ⟨e, ⟨he, hb⟩, rfl⟩ := hi
  exact h e (by simpa using he) hb
theorem ready_direct {j : Nat} {listed : Array Bool} {o : Oper} (ho : ops[j]? = some o) (h : ∀ i ∈ direct ops j, listed.getD i false = true) : ∀ e ∈ o.after, Region.binds .any e = true → listed.getD e.on false = true := by
  intro e he hb
  exact h e.on (by simp only [direct, ho, List.mem_map, List.mem_filter]; exact ⟨e, ⟨by simpa using he, hb⟩, rfl⟩)

/-- nothing is ready any more: all have come up -/
theorem all_listed (hB : okB ops = true) {listed : Array Bool} (hsz : listed.size = ops.size) (h : Region.ready .any ops listed = []) : ∀ j, j < ops.size → listed.getD j false = true := by
  intro j
  induction j using Nat.strongRecOn with
  | _ j ih =>
    intro hj
    cases hl : listed.getD j false with
    | true => rfl
    | false =>
      exfalso
      have hr : j ∈ Region.ready .any ops listed := by
        rw [mem_ready]
        refine ⟨?_, ops[j], by simp [hj], ready_direct (by simp [hj]) fun i hi => ih i ((okB_spec hB j hj).1 i hi) (Nat.lt_trans ((okB_spec hB j hj).1 i hi) hj)⟩
        rw [Array.getD_eq_getD_getElem?, Array.getElem?_eq_getElem (by omega)] at hl ⊢
        exact hl
      rw [h] at hr; cases hr

theorem getD_rep (m j : Nat) : (Array.replicate m false).getD j false = false := getD_replicate_false m j
theorem wp_facts {id : Nat} {Q : Exit → Act → World → Prop} {a : Act} {w : World} (Φ : Nat → Value → World → Prop) (fix : Nat → Option Value) (hfix : ∀ i v u w, fix i = some v → Φ i u w → u = v) (hm : P.follows .mixedOrders = true) (hB : okB ops = true)
    (hkeep : ∀ i u w1 w2, i < ops.size → Ext w1 w2 → Φ i u w1 → Φ i u w2)
    (hops : ∀ i o, ops[i]? = some o → ∀ (vs : Nat → Value) w1, (∀ j v, fix j = some v → vs j = v) → Ext w w1 → (∀ j ∈ depsOf ops ops.size i, Φ j (vs j) w1) → stepG P ops o (acts ops a vs (fun _ => true) i) w1 (fun u w2 => Ext w1 w2 ∧ Φ i u w2))
    (hend : ∀ (vs : Nat → Value) w1, (∀ j v, fix j = some v → vs j = v) → Ext w w1 → (∀ i, i < ops.size → Φ i (vs i) w1) → Q .normal (acts ops a vs (fun _ => true) ops.size) w1) : (Code.region id ops true).wp P Q a w := by
  have hsel : ∀ (j : Nat) (o : Oper) cs b, ops[j]? = some o → o.op ≠ .select cs b := by
    have h2 := hB
    simp only [okB, Bool.and_eq_true] at h2
    exact Region.noSelect_spec h2.1
  refine wp_region_any hm ?_
  suffices key : ∀ (fuel : Nat) (listed : Array Bool) (vs : Nat → Value) (w1 : World), (∀ j v, fix j = some v → vs j = v) → listed.size = ops.size → listed.toList.count true + fuel = ops.size → Ext w w1 →
      (∀ j, listed.getD j false = true → ∀ i ∈ direct ops j, listed.getD i false = true) → (∀ j, j < ops.size → listed.getD j false = true → Φ j (vs j) w1) →
      wpAny P .any ops Q fuel listed (acts ops a vs (fun j => listed.getD j false) ops.size) w1 by
    have h0 := key ops.size (Array.replicate ops.size false) (fun j => (fix j).getD undef) { w with drawn := w.drawn + 1 } (fun j v h => by simp [h]) (by simp) (by simp [List.count_replicate]) (ext_drew w)
      (fun j hj => by rw [getD_rep] at hj; cases hj) (fun j _ hj => by rw [getD_rep] at hj; cases hj)
    have e : acts ops a (fun j => (fix j).getD undef) (fun j => (Array.replicate ops.size false).getD j false) ops.size = a := by
      have : ∀ n, acts ops a (fun j => (fix j).getD undef) (fun j => (Array.replicate ops.size false).getD j false) n = a := by
        intro n
        induction n with
        | zero => rfl
        | succ n ih => simp only [acts]; rw [if_neg (by rw [getD_rep]; exact Bool.false_ne_true)]; exact ih
      exact this _
    rw [e] at h0
    exact h0
  intro fuel
  have hdone : ∀ (listed : Array Bool) (vs : Nat → Value) (w1 : World), (∀ j v, fix j = some v → vs j = v) → (∀ j, j < ops.size → listed.getD j false = true) → Ext w w1 → (∀ j, j < ops.size → listed.getD j false = true → Φ j (vs j) w1) →
      Q .normal (acts ops a vs (fun j => listed.getD j false) ops.size) w1 := by
    intro listed vs w1 hfx hall hx hΦ
    have := hend vs w1 hfx hx fun i hi => hΦ i hi (hall i hi)
    rwa [acts_congr a vs vs (fun _ => true) (fun j => listed.getD j false) ops.size fun j hj => ⟨(hall j hj).symm, fun _ => rfl⟩] at this
  induction fuel with
  | zero =>
    intro listed vs w1 hfx hsz hc hx hcl hΦ
    have hall : ∀ j, j < ops.size → listed.getD j false = true := by
      intro j hj
      have hlen : listed.toList.count true = listed.toList.length := by simp only [Array.length_toList]; omega
      have := List.count_eq_length.1 hlen (listed[j]'(by omega)) (by simp)
      rw [Array.getD_eq_getD_getElem?, Array.getElem?_eq_getElem (by omega)]
      exact this.symm
    refine ⟨?_, hdone listed vs w1 hfx hall hx hΦ⟩
    rw [List.eq_nil_iff_forall_not_mem]
    intro i hi
    have hi1 := (mem_ready.1 hi)
    obtain ⟨o, ho, -⟩ := hi1.2
    have hlt : i < ops.size := (Array.getElem?_eq_some_iff.1 ho).1
    have h1 := hall i hlt
    have h2 := hi1.1
    rw [Array.getD_eq_getD_getElem?, Array.getElem?_eq_getElem (by omega)] at h1 h2
    simp only [Option.getD_some] at h1 h2
    rw [h1] at h2; cases h2
  | succ fuel ih =>
    intro listed vs w1 hfx hsz hc hx hcl hΦ
    refine ⟨fun h => hdone listed vs w1 hfx (all_listed hB hsz h) hx hΦ, fun i hi => ?_⟩
    obtain ⟨hi0, o, ho, hafter⟩ := mem_ready.1 hi
    have hlt : i < ops.size := (Array.getElem?_eq_some_iff.1 ho).1
    have hnot : listed.getD i false = false := by
      rw [Array.getD_eq_getD_getElem?, Array.getElem?_eq_getElem (by omega)] at hi0 ⊢
      exact hi0
    have hdir := direct_ready ho hafter
    have hdeps := dep_in hcl ops.size i hdir
    have hdl : ∀ j ∈ depsOf ops ops.size i, j < ops.size := fun j hj => by
      have := hdeps j hj
      rcases Nat.lt_or_ge j listed.size with h' | h'
      · omega
      · simp [Array.getD_eq_getD_getElem?, Array.getElem?_eq_none h'] at this
    have hst := hops i o ho vs w1 hfx hx fun j hj => hΦ j (hdl j hj) (hdeps j hj)
    -- a later one that has come up is apart from this one
    have hlater : ∀ j, i < j → j < ops.size → listed.getD j false = true → apartB ops i j = true := fun j h1 h2 h3 =>
      ((okB_spec hB j h2).2 i h1).resolve_right fun hmem => by
        have := dep_in hcl ops.size j (hcl j h3) i hmem
        rw [hnot] at this; cases this
    have hearlier : ∀ j, j < i → listed.getD j false = false → apartB ops j i = true := fun j h1 h3 =>
      ((okB_spec hB i hlt).2 j h1).resolve_right fun hmem => by
        have := hdeps j hmem
        rw [h3] at this; cases this
    have hacts : ∀ n, i ≤ n → n ≤ ops.size → ∀ t, t ∈ o.looksAt ops → (acts ops a vs (fun j => listed.getD j false) n).tmps[t]? = (acts ops a vs (fun _ => true) i).tmps[t]? := by
      intro n hin
      obtain ⟨k, rfl⟩ := Nat.exists_eq_add_of_le hin
      clear hin
      induction k with
      | zero =>
        intro _ t ht
        refine acts_slot a vs _ _ t i fun j hj hd => ?_
        cases hl : listed.getD j false with
        | true => rfl
        | false =>
          have hap := hearlier j hj hl
          have hoj : ops[j]? = some (ops[j]'(by omega)) := by simp [show j < ops.size from by omega]
          rw [hoj] at hd
          simp only [apartB, hoj, ho] at hap
          exact absurd ht ((Oper.apart_spec hap).1 t hd)
      | succ k ih2 =>
        intro hle t ht
        have ih2 := ih2 (by omega) t ht
        obtain ⟨n, hn⟩ : ∃ n, n = i + k := ⟨_, rfl⟩
        rw [← hn] at ih2
        rw [show i + (k + 1) = n + 1 from by omega]
        simp only [acts]
        by_cases hl : listed.getD n false = true
        · rw [if_pos hl]
          have hni : i ≠ n := fun e => by subst e; rw [hnot] at hl; cases hl
          have hap := hlater n (by omega) (by omega) hl
          have hon : ops[n]? = some (ops[n]'(by omega)) := by simp [show n < ops.size from by omega]
          simp only [apartB, hon, ho] at hap
          rw [put_other _ _ _ _ (fun hd => (Oper.apart_spec hap).2.2 t (by rw [hon] at hd; exact hd) ht)]
          exact ih2
        · rw [if_neg hl]; exact ih2
    have hst2 : stepG P ops o (acts ops a vs (fun j => listed.getD j false) ops.size) w1 (fun u w2 => Ext w1 w2 ∧ Φ i u w2) :=
      stepG_same (hsel i o · · ho) (fun t ht => (hacts ops.size (by omega) (Nat.le_refl _) t ht).symm) hst
    refine wp_of_stepG ho hst2 ?_
    rintro v w2 ⟨hx2, hv⟩
    have hod : (ops[i]?).bind (·.dst) = o.dst := by rw [ho]; rfl
    rw [← hod, acts_put a vs (fun j => listed.getD j false) i v hnot ops.size hlt (fun j h1 h2 h3 d hd hd2 => by
      have hap := hlater j h1 h2 h3
      have hoj : ops[j]? = some (ops[j]'h2) := by simp [h2]
      simp only [apartB, hoj, ho] at hap
      rw [ho] at hd; rw [hoj] at hd2
      exact (Oper.apart_spec hap).2.1 d hd hd2)]
    have hget : ∀ j, (listed.setIfInBounds i true).getD j false = (listed.getD j false || decide (j = i)) := by
      intro j
      by_cases hji : j = i
      · subst hji; simp [Array.getD_eq_getD_getElem?, show j < listed.size from by omega]
      · rw [getD_set_ne false (Ne.symm hji)]; simp [hji]
    have := ih (listed.setIfInBounds i true) (fun j => if j = i then v else vs j) w2 (fun j u hj => by
        by_cases hji : j = i
        · subst hji; simpa using hfix j u v w2 hj hv
        · simpa [hji] using hfx j u hj) (by simpa using hsz) (by
        rw [Array.toList_setIfInBounds, List.count_set (by simpa using (by omega : i < listed.size))]
        have e : (listed.toList[i]'(by simpa using (by omega : i < listed.size))) = false := by
          rw [Array.getD_eq_getD_getElem?, Array.getElem?_eq_getElem (by omega)] at hnot
          simpa using hnot
        have e' : (listed.toList[i]'(by simpa using (by omega : i < listed.size)) == true) = false := by rw [e]; rfl
        rw [e']; simp only [Bool.false_eq_true, if_false, beq_self_eq_true, if_true]; omega) (hx.trans hx2)
      (by
        intro j hj k hk
        rw [hget] at hj ⊢
        by_cases hji : j = i
        · subst hji; rw [hdir k hk]; rfl
        · simp only [hji, decide_false, Bool.or_false] at hj
          rw [hcl j hj k hk]; rfl)
      (by
        intro j hj hl
        by_cases hji : j = i
        · subst hji; simpa using hv
        · rw [hget] at hl
          simp only [hji, decide_false, Bool.or_false] at hl
          simp only [hji, if_false]
          exact hkeep j _ _ _ hj hx2 (hΦ j hj hl))
    have e2 : (fun j => (listed.setIfInBounds i true).getD j false) = fun j => listed.getD j false || decide (j = i) := funext hget
    rw [e2] at this
    exact this

inductive Spec where
  | val (v : Value)
  | fact (f : Value → World → Prop)
def Spec.holds : Spec → Value → World → Prop
  | .val v, u, _ => u = v
  | .fact f, u, w => f u w
def Spec.fixed : Spec → Option Value
  | .val v => some v
  | .fact _ => none
/-- the facts that an operation may lean on -/
def Have (ops : Array Oper) (i : Nat) (env : List (Nat × (World → Prop))) (w : World) : Prop := ∀ j p, (j, p) ∈ env → (depsOf ops ops.size i).contains j = true → p w
def Walk (P : Program) (ops : Array Oper) (w : World) (Q : Exit → Act → World → Prop) : Nat → List Oper → List Spec → List (Nat × (World → Prop)) → Act → Prop
  | _, [], _, env, a => ∀ w1, Ext w w1 → (∀ j p, (j, p) ∈ env → p w1) → Q .normal a w1
  | _, _ :: _, [], _, _ => False
  | i, o :: rest, .val v :: ss, env, a => (∀ w1, Ext w w1 → Have ops i env w1 → stepG P ops o a w1 (fun u w2 => Ext w1 w2 ∧ u = v)) ∧ Walk P ops w Q (i + 1) rest ss env (a.put o.dst v)
  | i, o :: rest, .fact f :: ss, env, a => (∀ w1, Ext w w1 → Have ops i env w1 → stepG P ops o a w1 (fun u w2 => Ext w1 w2 ∧ f u w2)) ∧ ∀ u, Walk P ops w Q (i + 1) rest ss ((i, f u) :: env) (a.put o.dst u)

def keepsS (w : World) : List Spec → Prop
  | [] => True
  | .val _ :: r => keepsS w r
  | .fact f :: r => (∀ u w1 w2, Ext w1 w2 → f u w1 → f u w2) ∧ keepsS w r
theorem keepsS_get (w : World) : ∀ (ss : List Spec) (i : Nat) (s : Spec), keepsS w ss → ss[i]? = some s → ∀ u w1 w2, Ext w1 w2 → s.holds u w1 → s.holds u w2
  | [], _, _, _, h => by simp at h
  | .val v :: r, 0, s, _, h => by simp at h; subst h; exact fun _ _ _ _ h => h
  | .val v :: r, i + 1, s, hk, h => keepsS_get w r i s hk (by simpa using h)
  | .fact f :: r, 0, s, hk, h => by simp at h; subst h; exact hk.1
  | .fact f :: r, i + 1, s, hk, h => keepsS_get w r i s hk.2 (by simpa using h)

theorem walk_at {w : World} {Q : Exit → Act → World → Prop} {a0 : Act} (ss : List Spec) (vs : Nat → Value) (hfx : ∀ j s v, ss[j]? = some s → s.fixed = some v → vs j = v) :
    ∀ (n k : Nat) (rest : List Oper) (env : List (Nat × (World → Prop))) (a : Act), n + k = ops.size → (∀ j, rest[j]? = ops[k + j]?) → rest.length = n → a = acts ops a0 vs (fun _ => true) k →
      (∀ j p, (j, p) ∈ env → ∃ f, ss[j]? = some (.fact f) ∧ j < k ∧ p = f (vs j)) → (∀ j f, ss[j]? = some (.fact f) → j < k → (j, f (vs j)) ∈ env) → Walk P ops w Q k rest (ss.drop k) env a →
      (∀ i o, k ≤ i → ops[i]? = some o → ∃ s, ss[i]? = some s ∧ ∀ w1, Ext w w1 → (∀ j ∈ depsOf ops ops.size i, j < i → ∀ s, ss[j]? = some s → s.holds (vs j) w1) → stepG P ops o (acts ops a0 vs (fun _ => true) i) w1 (fun u w2 => Ext w1 w2 ∧ s.holds u w2)) ∧
      (∀ w1, Ext w w1 → (∀ i s, i < ops.size → ss[i]? = some s → s.holds (vs i) w1) → Q .normal (acts ops a0 vs (fun _ => true) ops.size) w1) := by
  intro n
  induction n with
  | zero =>
    intro k rest env a hk hr hl ha henv henv2 hw
    obtain rfl : rest = [] := List.length_eq_zero_iff.1 hl
    have e : k = ops.size := by omega
    subst e
    refine ⟨fun i o hi ho => by have := (Array.getElem?_eq_some_iff.1 ho).1; omega, fun w1 hx hall => ?_⟩
    simp only [Walk] at hw
    rw [← ha]
    refine hw w1 hx fun j p hp => ?_
    obtain ⟨f, hf, hj, rfl⟩ := henv j p hp
    exact hall j _ hj hf
  | succ n ih =>
    intro k rest env a hk hr hl ha henv henv2 hw
    obtain ⟨o, rest, rfl⟩ : ∃ o r, rest = o :: r := by cases rest with | nil => simp at hl | cons o r => exact ⟨o, r, rfl⟩
    have hok : ops[k]? = some o := by simpa using (hr 0).symm
    have hact : ∀ v, vs k = v → a.put o.dst v = acts ops a0 vs (fun _ => true) (k + 1) := fun v hv => by
      simp only [acts, if_true]; rw [← ha, hok, hv]; rfl
    cases hs : ss[k]? with
    | none =>
      rw [List.drop_eq_nil_of_le (by rcases Nat.lt_or_ge k ss.length with h | h; · rw [List.getElem?_eq_getElem h] at hs; cases hs
                                     · exact h)] at hw
      simp only [Walk] at hw
    | some s =>
      have hlt : k < ss.length := (List.getElem?_eq_some_iff.1 hs).1
      rw [List.drop_eq_getElem_cons hlt, (List.getElem?_eq_some_iff.1 hs).2] at hw
      have hlean : ∀ w1, (∀ j ∈ depsOf ops ops.size k, j < k → ∀ s, ss[j]? = some s → s.holds (vs j) w1) → Have ops k env w1 := by
        intro w1 h j p hp hc
        obtain ⟨f, hf, hj, rfl⟩ := henv j p hp
        exact h j (by simpa using hc) hj _ hf
      have hr' : ∀ j, rest[j]? = ops[k + 1 + j]? := fun j => by have := hr (j + 1); simpa [Nat.add_assoc, Nat.add_comm 1 j] using this
      cases s with
      | val v =>
        simp only [Walk] at hw
        have hv : vs k = v := hfx k _ v hs rfl
        obtain ⟨h1, h2⟩ := ih (k + 1) rest env _ (by omega) hr' (by simpa using hl) (hact v hv) (fun j p hp => by obtain ⟨f, hf, hj, e⟩ := henv j p hp; exact ⟨f, hf, by omega, e⟩)
          (fun j f hf hj => henv2 j f hf (by rcases Nat.lt_or_ge j k with h | h; · exact h
                                             · obtain rfl : j = k := by omega
                                               rw [hs] at hf; cases hf)) hw.2
        refine ⟨fun i o' hi ho => ?_, h2⟩
        rcases Nat.lt_or_ge k i with h | h
        · exact h1 i o' (by omega) ho
        · obtain rfl : i = k := by omega
          rw [hok] at ho; cases ho
          exact ⟨_, hs, fun w1 hx hd => by rw [← ha]; exact hw.1 w1 hx (hlean w1 hd)⟩
      | fact f =>
        simp only [Walk] at hw
        obtain ⟨h1, h2⟩ := ih (k + 1) rest ((k, f (vs k)) :: env) _ (by omega) hr' (by simpa using hl) (hact (vs k) rfl) (fun j p hp => by
            rcases List.mem_cons.1 hp with e | hp
            · cases e; exact ⟨f, hs, by omega, rfl⟩
            · obtain ⟨f, hf, hj, e⟩ := henv j p hp; exact ⟨f, hf, by omega, e⟩)
          (fun j g hg hj => by
            rcases Nat.lt_or_ge j k with h | h
            · exact List.mem_cons_of_mem _ (henv2 j g hg h)
            · obtain rfl : j = k := by omega
              rw [hs] at hg; cases hg
              exact List.mem_cons_self) (hw.2 (vs k))
        refine ⟨fun i o' hi ho => ?_, h2⟩
        rcases Nat.lt_or_ge k i with h | h
        · exact h1 i o' (by omega) ho
        · obtain rfl : i = k := by omega
          rw [hok] at ho; cases ho
          exact ⟨_, hs, fun w1 hx hd => by rw [← ha]; exact hw.1 w1 hx (hlean w1 hd)⟩

/-- THE RULE, for a region whose operations are written out: a spec for each operation, the walk in the text's order. -/
theorem wp_region {id : Nat} {Q : Exit → Act → World → Prop} {a : Act} {w : World} {l : List Oper} (ss : List Spec) (hm : P.follows .mixedOrders = true) (hB : okB l.toArray = true) (hk : keepsS w ss)
    (h : Walk P l.toArray w Q 0 l ss [] a) : (Code.region id l.toArray true).wp P Q a w := by
  have base := fun vs hfx => walk_at (P := P) (ops := l.toArray) (w := w) (Q := Q) (a0 := a) ss vs hfx l.length 0 l [] a (by simp) (by simp) rfl rfl (fun _ _ h => by cases h) (fun _ _ _ h => by omega) h
  refine wp_facts (fun i => match ss[i]? with | some s => s.holds | none => fun _ _ => False) (fun i => (ss[i]?).bind Spec.fixed) ?_ hm hB ?_ ?_ ?_
  · intro i v u w hv hu
    cases hs : ss[i]? with
    | none => simp [hs] at hv
    | some s => cases s with
      | val x => simp only [hs, Option.bind_some, Spec.fixed, Option.some.injEq] at hv; subst hv; simpa [hs, Spec.holds] using hu
      | fact f => simp [hs, Spec.fixed] at hv
  · intro i u w1 w2 _ hx hu
    cases hs : ss[i]? with
    | none => simp [hs] at hu
    | some s => simp only [hs] at hu ⊢; exact keepsS_get w ss i s hk hs u w1 w2 hx hu
  · intro i o ho vs w1 hfx hx hd
    obtain ⟨h1, -⟩ := base vs fun j s v hs hv => hfx j v (by simp [hs, hv])
    obtain ⟨s, hs, hst⟩ := h1 i o (Nat.zero_le _) ho
    simp only [hs]
    refine hst w1 hx fun j hj _ s' hs' => ?_
    have := hd j hj
    simpa only [hs'] using this
  · intro vs w1 hfx hx hall
    obtain ⟨-, h2⟩ := base vs fun j s v hs hv => hfx j v (by simp [hs, hv])
    refine h2 w1 hx fun i s hi hs => ?_
    have := hall i hi
    simpa only [hs] using this
attribute [go_sem] stepG upon_value upon_skip upon_enter
end Facts
end Go.Proofs.Ytdadffmagfknoaa

namespace Go.Proofs.Ytdadffmagfknoaa
set_option linter.unusedSimpArgs false
set_option linter.unusedVariables false
open Go.RowKit

def maskM (S : Int) : Int := 2 ^ S.toNat - 1
def letterErrM (S : Int) (before : List Letter) (x : Letter) : Int :=
  if inM x.c 97 122 = false then 6 else if (before.any fun y => y.c == x.c) = true then 5 else if inM x.sounds 0 (maskM S) = false then 7 else if (x.sounds == 0 && !x.silent) = true then 2 else 0

end Go.Proofs.Ytdadffmagfknoaa

namespace Go.Proofs.Ytdadffmagfknoaa
set_option linter.unusedSimpArgs false
set_option linter.unusedVariables false
open Go.RowKit

def firstErrFrom {α : Type} (f : List α → α → Int) : List α → List α → Int × Int
  | _, [] => (0, 0)
  | pre, x :: r => if f pre x = 0 then firstErrFrom f (pre ++ [x]) r else (pre.length, f pre x)
def firstErr {α : Type} (f : List α → α → Int) (l : List α) : Int × Int := firstErrFrom f [] l
theorem firstErrFrom_step {α : Type} (f : List α → α → Int) (l : List α) (k : Nat) (hk : k < l.length) (x : α) (hx : l[k] = x) (h : f (l.take k) x = 0) : firstErrFrom f (l.take (k + 1)) (l.drop (k + 1)) = firstErrFrom f (l.take k) (l.drop k) := by
  rw [List.drop_eq_getElem_cons hk, hx, firstErrFrom, if_pos h, List.take_succ_eq_append_getElem hk, hx]
theorem firstErrFrom_hit {α : Type} (f : List α → α → Int) (l : List α) (k : Nat) (hk : k < l.length) (x : α) (hx : l[k] = x) (h : f (l.take k) x ≠ 0) : firstErrFrom f (l.take k) (l.drop k) = ((k : Int), f (l.take k) x) := by
  rw [List.drop_eq_getElem_cons hk, hx, firstErrFrom, if_neg h, List.length_take, Nat.min_eq_left (by omega)]
theorem firstErrFrom_end {α : Type} (f : List α → α → Int) (l : List α) (k : Nat) (hk : l.length ≤ k) : firstErrFrom f (l.take k) (l.drop k) = (0, 0) := by
  rw [List.drop_eq_nil_of_le hk]; rfl
theorem ret_two {j k : IntKind} {a b c d : Int} (h : (a, b) = (c, d)) : Ending.returned (.tuple #[.int j a, .int k b]) = .returned (.tuple #[.int j c, .int k d]) := by cases h; rfl

end Go.Proofs.Ytdadffmagfknoaa

namespace Go.Proofs.Ytdadffmagfknoaa
set_option linter.unusedSimpArgs false
set_option linter.unusedVariables false
open Go.RowKit

/-- the error of a thing's name, which those before it must not have -/
def nameErrM (names : List ByteArray) (s : ByteArray) : Int := if nameM s = false then 6 else if (names.any fun y => y.toList == s.toList) = true then 5 else 0
end Go.Proofs.Ytdadffmagfknoaa

namespace Go.Proofs.Ytdadffmagfknoaa
set_option linter.unusedSimpArgs false
set_option linter.unusedVariables false
open Go.RowKit
set_option linter.unusedVariables false

theorem agtName_any (a : Agt) (v : Value) (w : World) (hv : AgentV v a) :
    Calls Try.prog 94 #[v] w fun e w' => e = .returned (.string a.name) ∧ Ext w w' := by
  obtain ⟨rfl, -, -, -⟩ := hv
  go_enter Try.func94, Try.ntmps94
  go_wp2
  go_ret
  exact ⟨rfl, (by first | (with_reducible exact Ext.refl _) | (with_reducible assumption) | (show Below _ _ _; go_grown; done))⟩
def nameOfAgt : Value := .func (.func 94) #[] #[]
set_option maxHeartbeats 1000000 in
set_option maxRecDepth 100000 in
theorem nameErrA1_any (a : Agt) (s : ByteArray) (p q : Addr) (v : Value) (w : World) (hv : AgentV v a) (hq : w.cell? q = some nameOfAgt) (hc : w.cell? p = some (.string s)) :
    Calls Try.prog 116 #[v, .pointer (some q), .pointer (some p)] w fun e w' => e = .returned (.bool (a.name.toList == s.toList)) ∧ Ext w w' := by
  have hv0 := hv
  obtain ⟨rfl, -, -, -⟩ := hv
  unfold nameOfAgt at hq
  have b0 : (w.alloc (.cells #[.string a.name, .int .i64 a.fee, .int .i64 a.round] 72)).cell? ⟨w.heap.size, 0, none⟩ = some (.string a.name) := by simp [go_sem]
  have b1 : (w.alloc (.cells #[.string a.name, .int .i64 a.fee, .int .i64 a.round] 72)).cell? ⟨w.heap.size, 1, none⟩ = some (.int .i64 a.fee) := by simp [go_sem]
  have b2 : (w.alloc (.cells #[.string a.name, .int .i64 a.fee, .int .i64 a.round] 72)).cell? ⟨w.heap.size, 2, none⟩ = some (.int .i64 a.round) := by simp [go_sem]
  have x0 := ext_alloc w (.cells #[.string a.name, .int .i64 a.fee, .int .i64 a.round] 72)
  have q1 := x0.cell hq
  have c1 := x0.cell hc
  go_enter Try.func116, Try.ntmps116
  go_wp2_with fail
  apply Facts.wp_region [.val _, .val _, .val (.string a.name), .val _, .val _, .val _] (by kernel_rfl) (by kernel_rfl) trivial ?main
  case main =>
    iterate 2 (refine ⟨fun w1 hx hh => ?_, ?_⟩; focus (clear hh; have f2 := hx.cell b2; have e0 := hx.cell b0; have e1 := hx.cell b1; have e2 := hx.cell q1; have e3 := hx.cell c1; go_simp; exact ⟨Ext.refl _, rfl⟩))
    refine ⟨fun w1 hx hh => ?_, ?_⟩
    · clear hh
      go_simp
      refine (agtName_any a _ w1 hv0).mono ?_
      rintro e w' ⟨rfl, hx2⟩
      exact ⟨_, rfl, hx2, rfl⟩
    iterate 3 (refine ⟨fun w1 hx hh => ?_, ?_⟩; focus (clear hh; have f2 := hx.cell b2; have e0 := hx.cell b0; have e1 := hx.cell b1; have e2 := hx.cell q1; have e3 := hx.cell c1; go_simp; exact ⟨Ext.refl _, rfl⟩))
    intro w1 hx1 hh
    clear hh
    go_simp
    go_wp2
    go_ret
    exact ⟨rfl, x0.trans hx1⟩
theorem indexAgt_any (l : List Agt) (s : ByteArray) (p q : Addr) (v : Value) (w : World) (h : AgentsAt w v l) (hq : w.cell? q = some nameOfAgt) (hc : w.cell? p = some (.string s)) :
    Calls Try.prog 124 #[v, .func (.func 116) #[] #[.pointer (some q), .pointer (some p)]] w
      fun e w' => e = .returned (.int .i64 (idxM (fun y => y.name.toList == s.toList) l)) ∧ Ext w w' := by
  obtain ⟨a, cap, rfl, hlc, hcm⟩ := h.shape
  go_enter Try.func124, Try.ntmps124
  go_wp2
  go_loopw [8] (fun i wr => ∃ k : Nat, k ≤ l.length ∧ i = .int .i64 k ∧ (∀ j (_ : j < k) (hj : j < l.length), (l[j].name.toList == s.toList) = false) ∧ Ext w wr) (fun i _ => l.length - (intOf i).toNat)
  case atStart => exact ⟨0, Nat.zero_le _, rfl, fun _ h => by omega, Ext.refl _⟩
  case round =>
    obtain ⟨k, hk, rfl, hno, hx⟩ := hrel
    have Hno := Lib.hid hno; clear hno
    by_cases hlt : k < l.length
    · obtain ⟨b, off, rfl, h1, h2, h3, hu, hi2, hi3⟩ := (h.ext hx).get hlt
      generalize hy : l[k] = y at *
      have Hy := Lib.hid hy; clear hy
      go_wp2_with fail
      refine (nameErrA1_any y s p q _ _ ⟨rfl, hu, hi2, hi3⟩ (hx.cell hq) (hx.cell hc)).mono ?_
      rintro e w1 ⟨rfl, hx1⟩
      have hx2 := hx.trans hx1
      cases hb : (y.name.toList == s.toList)
      · have Hb := Lib.hid hb; clear hb
        go_wp2
        go_roundw
        case rel => exact ⟨k + 1, by omega, by go_num, fun j hj hl => by
          rcases Nat.lt_or_ge j k with hjk | hjk
          · exact Hno.out j hjk hl
          · obtain rfl : j = k := by omega
            rw [Hy.out]; exact Hb.out, hx2⟩
        case measure => simp [intOf]; omega
      · have Hb := Lib.hid hb; clear hb
        go_wp2
        go_ret
        exact ⟨ret_int (idxM_some _ _ k hlt (fun i hi hl => Hno.out i hi hl) (by rw [Hy.out]; exact Hb.out)).symm, hx2⟩
    · go_wp2
      go_ret
      exact ⟨ret_int (idxM_none _ _ fun i hi => Hno.out i (by omega) hi).symm, hx⟩
theorem containsAgt_any (l : List Agt) (s : ByteArray) (p q : Addr) (v : Value) (w : World) (h : AgentsAt w v l) (hq : w.cell? q = some nameOfAgt) (hc : w.cell? p = some (.string s)) :
    Calls Try.prog 115 #[v, .func (.func 116) #[] #[.pointer (some q), .pointer (some p)]] w
      fun e w' => e = .returned (.bool (l.any fun y => y.name.toList == s.toList)) ∧ Ext w w' := by
  go_enter Try.func115, Try.ntmps115
  go_wp2_with fail
  refine (indexAgt_any l s p q v _ h hq hc).mono ?_
  rintro e w1 ⟨rfl, hx1⟩
  go_wp2
  go_ret
  exact ⟨ret_bool (idxM_ge _ _), hx1⟩
set_option maxHeartbeats 1000000 in
set_option maxRecDepth 100000 in
theorem namesAgt_any (v u : Value) (l : List Agt) (f : Agt) (w : World) (hl : AgentsAt w v l) (hu : AgentV u f) :
    Calls Try.prog 93 #[v, u, nameOfAgt] w fun e w' => e = .returned (.int .i64 (nameErrM (l.map (·.name)) f.name)) ∧ Ext w w' := by
  have hu0 := hu
  obtain ⟨rfl, hns, -, -⟩ := hu
  have hany : ((l.map (·.name)).any fun y => y.toList == f.name.toList) = l.any fun y => y.name.toList == f.name.toList := by rw [List.any_map]; rfl
  have Hany := Lib.hid hany
  clear hany
  unfold nameOfAgt
  go_enter Try.func93, Try.ntmps93
  go_wp2_with fail
  refine (agtName_any f _ _ hu0).mono ?_
  rintro e w0 ⟨rfl, hx0⟩
  have x0 : Ext w w0 := Ext.trans (by first | (with_reducible exact Ext.refl _) | (with_reducible assumption) | (show Below _ _ _; go_grown; done)) hx0
  have q0 : w0.cell? ⟨w.heap.size + 1, 0, none⟩ = some nameOfAgt := hx0.cell (by simp [go_sem, nameOfAgt])
  have z0 : w.heap.size + 1 < w0.heap.size := cell_lt q0
  go_wp2_with fail
  refine (name_any f.name _ hns).mono ?_
  rintro e w1 ⟨rfl, hx1⟩
  have x1 : Ext w w1 := Ext.trans x0 (Ext.trans (by first | (with_reducible exact Ext.refl _) | (with_reducible assumption) | (show Below _ _ _; go_grown; done)) hx1)
  have q1 : w1.cell? ⟨w.heap.size + 1, 0, none⟩ = some nameOfAgt := hx1.cell ((ext_alloc _ _).cell q0)
  have p1 : w1.cell? ⟨w0.heap.size, 0, none⟩ = some (.string f.name) := hx1.cell (by simp [go_sem])
  clear hx1 q0 z0
  cases hn : nameM f.name
  · have Hn := Lib.hid hn; clear hn
    go_wp2_with fail
    go_ret
    exact ⟨ret_int (by rw [nameErrM, if_pos Hn.out]), x1⟩
  have Hn := Lib.hid hn; clear hn
  go_wp2_with fail
  refine (containsAgt_any l f.name _ _ v w1 (hl.ext x1) q1 p1).mono ?_
  rintro e w2 ⟨rfl, hx2⟩
  have x2 := x1.trans hx2
  cases ha : l.any fun y => y.name.toList == f.name.toList
  · have Ha := Lib.hid ha; clear ha
    go_wp2_with fail
    go_ret
    exact ⟨ret_int (by rw [nameErrM, if_neg (by rw [Hn.out]; decide), Hany.out, if_neg (by rw [Ha.out]; decide)]), x2⟩
  · have Ha := Lib.hid ha; clear ha
    go_wp2_with fail
    go_ret
    exact ⟨ret_int (by rw [nameErrM, if_neg (by rw [Hn.out]; decide), Hany.out, if_pos Ha.out]), x2⟩
end Go.Proofs.Ytdadffmagfknoaa

namespace Go.Proofs.Ytdadffmagfknoaa
set_option linter.unusedSimpArgs false
set_option linter.unusedVariables false
open Go.RowKit

theorem IntsAt.twoA {w : World} {m n : Int} {t : TypeId} {B : Nat} (hB : w.heap.size = B) (h : I64 n) (h' : I64 m) : IntsAt (w.alloc (.cells #[.int .i64 n, .int .i64 m] t)) (.slice (some ⟨B, 0, none⟩) 2 2) [n, m] := by
  subst hB; exact IntsAt.two h h'
/-- the error of a span -/
def spanErrM (lo hi a b : Int) : Int := if inM a lo hi = false ∨ inM b lo hi = false then 7 else if b < a then 2 else 0
set_option maxRecDepth 100000 in
theorem checkSpan_any (lo hi a b : Int) (ha : I64 a) (hb : I64 b) (w : World) :
    Calls Try.prog 91 #[.int .i64 lo, .int .i64 hi, .agg #[.int .i64 a, .int .i64 b]] w fun e w' => e = .returned (.int .i64 (spanErrM lo hi a b)) ∧ Ext w w' := by
  unfold spanErrM
  cases h1 : inM a lo hi
  · rw [if_pos (.inl rfl)]
    go_enter Try.func91, Try.ntmps91
    go_wp2_with fail
    refine (within_any _ _ _ [a, b] _ (IntsAt.twoA (by simp) ha hb)).mono ?_
    rintro e w3 ⟨rfl, rfl⟩
    rw [withinM_two, h1]
    go_wp2
    go_ret
    exact ⟨rfl, (by first | (with_reducible exact Ext.refl _) | (with_reducible assumption) | (show Below _ _ _; go_grown; done))⟩
  cases h2 : inM b lo hi
  · rw [if_pos (.inr rfl)]
    go_enter Try.func91, Try.ntmps91
    go_wp2_with fail
    refine (within_any _ _ _ [a, b] _ (IntsAt.twoA (by simp) ha hb)).mono ?_
    rintro e w3 ⟨rfl, rfl⟩
    rw [withinM_two, h1, h2]
    go_wp2
    go_ret
    exact ⟨rfl, (by first | (with_reducible exact Ext.refl _) | (with_reducible assumption) | (show Below _ _ _; go_grown; done))⟩
  rw [if_neg (by simp)]
  by_cases h3 : b < a
  · rw [if_pos h3]
    go_enter Try.func91, Try.ntmps91
    go_wp2_with fail
    refine (within_any _ _ _ [a, b] _ (IntsAt.twoA (by simp) ha hb)).mono ?_
    rintro e w3 ⟨rfl, rfl⟩
    rw [withinM_two, h1, h2]
    go_wp2
    go_ret
    exact ⟨rfl, (by first | (with_reducible exact Ext.refl _) | (with_reducible assumption) | (show Below _ _ _; go_grown; done))⟩
  · rw [if_neg h3]
    go_enter Try.func91, Try.ntmps91
    go_wp2_with fail
    refine (within_any _ _ _ [a, b] _ (IntsAt.twoA (by simp) ha hb)).mono ?_
    rintro e w3 ⟨rfl, rfl⟩
    rw [withinM_two, h1, h2]
    go_wp2
    go_ret
    exact ⟨rfl, (by first | (with_reducible exact Ext.refl _) | (with_reducible assumption) | (show Below _ _ _; go_grown; done))⟩
end Go.Proofs.Ytdadffmagfknoaa

namespace Go.Proofs.Ytdadffmagfknoaa
set_option linter.unusedSimpArgs false
set_option linter.unusedVariables false
open Go.RowKit
set_option linter.unusedVariables false

/-- what an agent pays for so much at a rate -/
def payM (a : Agt) (near rate : Int) : Int :=
  if a.round = 1 then (max (near - a.fee) 0 * rate + 9) / 10 else if a.round = 2 then (max (near - a.fee) 0 * rate + 5) / 10 else max (near - a.fee) 0 * rate / 10
def noAgt : Agt := ⟨⟨#[]⟩, 0, 0⟩
def noEnt : Ent := ⟨0, 0, 0, 0⟩
def agtAt (h : House) (i : Int) : Agt := h.agents.getD i.toNat noAgt
def entAt (h : House) (i : Nat) : Ent := h.entries.getD i noEnt
def entPay (h : House) (e : Ent) (rate : Int) : Int := payM (agtAt h e.agent) e.near rate
def agreesM (h : House) (e : Ent) (r : List Int) : Bool := entPay h e (r.getD e.day.toNat 0) == e.far
def toldE (e : Ent) : Bool := e.far != -1

def numI (lo hi : Int) : Nat := (hi + 1 - lo).toNat
/-- all integers from one to another one -/
def rangeI (lo hi : Int) : List Int := (List.range (numI lo hi)).map fun k => lo + (k : Nat)
theorem rangeI_len (lo hi : Int) : (rangeI lo hi).length = numI lo hi := by simp [rangeI]
theorem rangeI_take (lo hi : Int) (k : Nat) (hk : k < numI lo hi) : (rangeI lo hi).take (k + 1) = (rangeI lo hi).take k ++ [lo + (k : Nat)] := by
  rw [List.take_succ_eq_append_getElem (by rw [rangeI_len]; exact hk)]
  simp [rangeI]
theorem mem_rangeI {lo hi x : Int} : x ∈ rangeI lo hi ↔ lo ≤ x ∧ x ≤ hi := by
  unfold rangeI numI
  rw [List.mem_map]
  constructor
  · rintro ⟨k, hk, rfl⟩
    rw [List.mem_range] at hk
    omega
  · rintro ⟨h1, h2⟩
    exact ⟨(x - lo).toNat, by rw [List.mem_range]; omega, by omega⟩

def spanAt (h : House) (d : Nat) : Int × Int := h.rates.getD d (0, 0)
def loAt (h : House) (d : Nat) (r : List Int) : Int := if d = 0 then (spanAt h d).1 else max (spanAt h d).1 (r.getD (d - 1) 0 - h.step)
def hiAt (h : House) (d : Nat) (r : List Int) : Int := if d = 0 then (spanAt h d).2 else min (spanAt h d).2 (r.getD (d - 1) 0 + h.step)
/-- all rates that days can have from a day on -/
def ratesTo (h : House) : Nat → Nat → List Int → List (List Int)
  | 0, _, r => [r]
  | n + 1, d, r => (rangeI (loAt h d r) (hiAt h d r)).flatMap fun x => ratesTo h n (d + 1) (r ++ [x])
def ratesL (h : House) : List (List Int) := ratesTo h h.days.toNat 0 []
/-- the entries of a day that are told and not left out -/
def entsOf (h : House) (out : Nat → Bool) (d : Nat) : List Nat := (List.range h.entries.length).filter fun i => toldE (entAt h i) && !out i && decide ((entAt h i).day = (d : Nat))
def okDay (h : House) (out : Nat → Bool) (d : Nat) (r : List Int) : Bool := (entsOf h out d).all fun i => agreesM h (entAt h i) r
def truTo (h : House) (out : Nat → Bool) : Nat → Nat → List Int → List (List Int)
  | 0, _, r => [r]
  | n + 1, d, r => (rangeI (loAt h d r) (hiAt h d r)).flatMap fun x => if okDay h out d (r ++ [x]) then truTo h out n (d + 1) (r ++ [x]) else []
def truL (h : House) (out : Nat → Bool) : List (List Int) := truTo h out h.days.toNat 0 []

/-- what is given for the first so many rates of a day -/
def truPart (h : House) (out : Nat → Bool) (n d : Nat) (r : List Int) (k : Nat) : List (List Int) := ((rangeI (loAt h d r) (hiAt h d r)).take k).flatMap fun x => if okDay h out d (r ++ [x]) then truTo h out n (d + 1) (r ++ [x]) else []
theorem truPart_zero (h : House) (out : Nat → Bool) (n d : Nat) (r : List Int) : truPart h out n d r 0 = [] := by simp [truPart]
theorem truPart_yes (h : House) (out : Nat → Bool) (n d : Nat) (r : List Int) (k : Nat) (hk : k < numI (loAt h d r) (hiAt h d r)) (ho : okDay h out d (r ++ [loAt h d r + (k : Nat)]) = true) :
    truPart h out n d r (k + 1) = truPart h out n d r k ++ truTo h out n (d + 1) (r ++ [loAt h d r + (k : Nat)]) := by
  unfold truPart
  rw [rangeI_take _ _ _ hk, List.flatMap_append]
  simp [ho]
theorem truPart_no (h : House) (out : Nat → Bool) (n d : Nat) (r : List Int) (k : Nat) (hk : k < numI (loAt h d r) (hiAt h d r)) (ho : okDay h out d (r ++ [loAt h d r + (k : Nat)]) = false) :
    truPart h out n d r (k + 1) = truPart h out n d r k := by
  unfold truPart
  rw [rangeI_take _ _ _ hk, List.flatMap_append]
  simp [ho]
theorem truPart_all (h : House) (out : Nat → Bool) (n d : Nat) (r : List Int) : truPart h out n d r (numI (loAt h d r) (hiAt h d r)) = truTo h out (n + 1) d r := by
  unfold truPart
  rw [List.take_of_length_le (by rw [rangeI_len]; exact Nat.le_refl _)]
  rfl
theorem truPart_prefix (h : House) (out : Nat → Bool) (n d : Nat) (r : List Int) (k : Nat) : truPart h out n d r k <+: truTo h out (n + 1) d r := by
  rw [← truPart_all]
  unfold truPart
  obtain ⟨t, ht⟩ := List.take_prefix k (rangeI (loAt h d r) (hiAt h d r))
  rw [List.take_of_length_le (l := rangeI (loAt h d r) (hiAt h d r)) (i := numI (loAt h d r) (hiAt h d r)) (by rw [rangeI_len]; exact Nat.le_refl _)]
  conv => rhs; rw [← ht]
  rw [List.flatMap_append]
  exact List.prefix_append _ _

theorem getD_snoc (r q : List Int) (x : Int) (d : Nat) (hr : r.length = d) : ((r ++ [x]) ++ q).getD d 0 = x := by
  subst hr
  simp [List.getD_eq_getElem?_getD]
theorem ratesTo_ext (h : House) : ∀ (n d : Nat) (r : List Int), ∀ q ∈ ratesTo h n d r, ∃ t, q = r ++ t ∧ t.length = n
  | 0, d, r, q, hq => ⟨[], by simpa [ratesTo] using hq, rfl⟩
  | n + 1, d, r, q, hq => by
    simp only [ratesTo, List.mem_flatMap] at hq
    obtain ⟨x, hx, hq⟩ := hq
    obtain ⟨t, rfl, ht⟩ := ratesTo_ext h n (d + 1) (r ++ [x]) q hq
    exact ⟨x :: t, by simp, by simp [ht]⟩
theorem agrees_day (h : House) (e : Ent) (r q : List Int) (hd : r.getD e.day.toNat 0 = q.getD e.day.toNat 0) : agreesM h e r = agreesM h e q := by
  unfold agreesM; rw [hd]
theorem okDay_same (h : House) (out : Nat → Bool) (d : Nat) (r q : List Int) (hd : r.getD d 0 = q.getD d 0) : okDay h out d r = okDay h out d q := by
  unfold okDay
  rw [Bool.eq_iff_iff, List.all_eq_true, List.all_eq_true]
  have hh : ∀ i ∈ entsOf h out d, agreesM h (entAt h i) r = agreesM h (entAt h i) q := fun i hi => by
    simp only [entsOf, List.mem_filter, Bool.and_eq_true, decide_eq_true_eq] at hi
    refine agrees_day h _ _ _ ?_
    rw [hi.2.2]
    exact hd
  constructor
  · exact fun k i hi => by rw [← hh i hi]; exact k i hi
  · exact fun k i hi => by rw [hh i hi]; exact k i hi
/-- truths are the rates at which all days are right -/
theorem truTo_filter (h : House) (out : Nat → Bool) : ∀ (n d : Nat) (r : List Int), r.length = d → truTo h out n d r = (ratesTo h n d r).filter fun q => (List.range n).all fun j => okDay h out (d + j) q
  | 0, d, r, hr => by simp [truTo, ratesTo]
  | n + 1, d, r, hr => by
    simp only [truTo, ratesTo]
    rw [List.filter_flatMap]
    congr 1
    funext x
    have ih := truTo_filter h out n (d + 1) (r ++ [x]) (by simp [hr])
    have hall : ∀ q ∈ ratesTo h n (d + 1) (r ++ [x]), ((List.range (n + 1)).all fun j => okDay h out (d + j) q) = (okDay h out d (r ++ [x]) && (List.range n).all fun j => okDay h out (d + 1 + j) q) := by
      intro q hq
      obtain ⟨t, rfl, ht⟩ := ratesTo_ext h n (d + 1) (r ++ [x]) q hq
      rw [List.range_succ_eq_map, List.all_cons, List.all_map]
      have e1 : okDay h out (d + 0) (r ++ [x] ++ t) = okDay h out d (r ++ [x]) := by
        rw [Nat.add_zero]
        refine okDay_same h out d _ _ ?_
        rw [getD_snoc r t x d hr]
        have := getD_snoc r [] x d hr
        rw [List.append_nil] at this
        exact this.symm
      have e2 : ((fun j => okDay h out (d + j) (r ++ [x] ++ t)) ∘ Nat.succ) = fun j => okDay h out (d + 1 + j) (r ++ [x] ++ t) := by
        funext j; simp only [Function.comp]; rw [show d + Nat.succ j = d + 1 + j from by omega]
      rw [e1, e2]
    rw [List.filter_congr hall]
    cases ho : okDay h out d (r ++ [x])
    · simp
    · simp [ih]
theorem truL_filter (h : House) (out : Nat → Bool) : truL h out = (ratesL h).filter fun q => (List.range h.days.toNat).all fun d => okDay h out d q := by
  have := truTo_filter h out h.days.toNat 0 [] rfl
  simpa [truL, ratesL] using this
end Go.Proofs.Ytdadffmagfknoaa
