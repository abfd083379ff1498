/-
  WHAT IS READ OF MEMORY: lists of numbers, letters, alphabets, spellings and books as they lie in memory; that they still do in each later world; and what the parts of a book are. Plain definitions and lemmas for the proofs of this seat.
-/
import Derived.Test.YtbodmgilcohfjaaRows
import Derived.WalkKit
import Derived.WalkSpells
import Derived.BigQuiet
import Derived.Deep.QuietTactic
import Derived.Handy
import Derived.WalkLawsBesides
import Derived.WalkSmall
import Derived.Lib.Hide
import Derived.Laws.EntriesVeiled
namespace Go.Proofs.Ytbodmgilcohfjaa
open Go.RowKit

theorem cell_lt {w : World} {p : Addr} {v : Value} (h : w.cell? p = some v) : p.block < w.heap.size := by
  unfold World.cell? at h
  rcases Nat.lt_or_ge p.block w.heap.size with hh | hh
  · exact hh
  · rw [Array.getElem?_eq_none hh] at h; cases h

/-- a later world: what was there is as it was -/
def Ext (w w' : World) : Prop := Below w.heap.size w w'
theorem Ext.refl (w : World) : Ext w w := Below.refl _ _
theorem Ext.trans {a b c : World} (h : Ext a b) (k : Ext b c) : Ext a c := Below.trans h (Below.mono k h.size)
theorem Ext.size {a b : World} (h : Ext a b) : a.heap.size ≤ b.heap.size := Below.size h
theorem Ext.alloc {a w : World} (h : Ext a w) (o : Obj) : Ext a (w.alloc o) := Below.alloc h h.size o
theorem Ext.drew {a w : World} (h : Ext a w) : Ext a w.drew := Below.drew h
theorem Ext.drewN {a w : World} (h : Ext a w) (n : Nat) : Ext a (w.drewN n) := below_drewN h n
theorem Ext.setCell {a w : World} (h : Ext a w) {p : Addr} (hp : a.heap.size ≤ p.block) (u : Value) : Ext a (w.setCell p u) := Below.setCell h hp u
theorem Ext.cell {w w' : World} (h : Ext w w') {p : Addr} {v : Value} (hc : w.cell? p = some v) : w'.cell? p = some v := by
  rw [Below.cell h (cell_lt hc)]; exact hc
theorem Ext.frozen {w w' : World} (h : Ext w w') {p : Addr} (hp : p.block < w.heap.size) : w'.frozen? p = w.frozen? p := Below.frozen h hp
theorem Ext.below {w w' : World} (h : Ext w w') : Below w.heap.size w w' := h
theorem Ext.of_alloc {w w' : World} {o : Obj} (h : Ext (w.alloc o) w') : Ext w w' := ((Ext.refl w).alloc o).trans h
theorem ext_alloc (w : World) (o : Obj) : Ext w (w.alloc o) := (Ext.refl w).alloc o
theorem ext_drew (w : World) : Ext w w.drew := (Ext.refl w).drew
/-- behind a call all old cells, and all old marks, are as they were: two rules for the walk -/
theorem Ext.rules {W w1 : World} (hb : Ext W w1) : (∀ b o, b < W.heap.size → w1.cell? ⟨b, o, none⟩ = W.cell? ⟨b, o, none⟩) ∧ (∀ b o, b < W.heap.size → w1.frozen? ⟨b, o, none⟩ = W.frozen? ⟨b, o, none⟩) :=
  ⟨fun b o h => Below.cell (p := ⟨b, o, none⟩) hb h, fun b o h => Below.frozen (p := ⟨b, o, none⟩) hb h⟩

abbrev big : Nat := 9223372036854775807

/-- a list in memory: each element in sz cells -/
def SliceAt {α : Type} (sz : Nat) (R : World → Nat → Nat → α → Prop) (w : World) (v : Value) (l : List α) : Prop :=
  ∃ a cap, v = .slice a l.length cap ∧ l.length ≤ cap ∧ cap ≤ 9223372036854775807 ∧
    ∀ i (h : i < l.length), ∃ b off, a = some ⟨b, off, none⟩ ∧ R w b (off + i * sz) l[i]

def Keeps {α : Type} (R : World → Nat → Nat → α → Prop) : Prop := ∀ w w' b o x, Ext w w' → R w b o x → R w' b o x

theorem SliceAt.ext {α : Type} {sz : Nat} {R : World → Nat → Nat → α → Prop} (hR : Keeps R) {w w' : World} {v : Value} {l : List α} (h : SliceAt sz R w v l) (hx : Ext w w') : SliceAt sz R w' v l := by
  obtain ⟨a, cap, h1, h2, h3, h4⟩ := h
  exact ⟨a, cap, h1, h2, h3, fun i hi => by obtain ⟨b, off, e, r⟩ := h4 i hi; exact ⟨b, off, e, hR _ _ _ _ _ hx r⟩⟩
theorem SliceAt.shape {α : Type} {sz : Nat} {R : World → Nat → Nat → α → Prop} {w : World} {v : Value} {l : List α} (h : SliceAt sz R w v l) :
    ∃ a cap, v = .slice a l.length cap ∧ l.length ≤ cap ∧ cap ≤ 9223372036854775807 := by
  obtain ⟨a, cap, h1, h2, h3, _⟩ := h; exact ⟨a, cap, h1, h2, h3⟩
theorem SliceAt.nil {α : Type} {sz : Nat} {R : World → Nat → Nat → α → Prop} {w : World} : SliceAt sz R w (.slice none 0 0) ([] : List α) :=
  ⟨none, 0, rfl, Nat.le_refl _, by omega, fun i h => by simp at h⟩
/-- the first elements of a list -/
theorem SliceAt.take {α : Type} {sz : Nat} {R : World → Nat → Nat → α → Prop} {w : World} {a : Option Addr} {n cap : Nat} {l : List α} (h : SliceAt sz R w (.slice a n cap) l) (k : Nat) (hk : k ≤ n) :
    SliceAt sz R w (.slice a k cap) (l.take k) := by
  obtain ⟨a', cap', h1, h2, h3, h4⟩ := h
  cases h1
  have hl : (l.take k).length = k := by simp; omega
  refine ⟨a, cap, by rw [hl], by omega, h3, fun i hi => ?_⟩
  rw [hl] at hi
  obtain ⟨b, off, e, r⟩ := h4 i (by omega)
  exact ⟨b, off, e, by simpa using r⟩

def intR (w : World) (b o : Nat) (x : Int) : Prop := w.cell? ⟨b, o, none⟩ = some (.int .i64 x) ∧ -9223372036854775808 ≤ x ∧ x ≤ 9223372036854775807
theorem intR.keeps : Keeps intR := fun _ _ _ _ _ hx h => ⟨hx.cell h.1, h.2⟩
abbrev IntsAt : World → Value → List Int → Prop := SliceAt 1 intR
theorem IntsAt.ext {w w' : World} {v : Value} {l : List Int} (h : IntsAt w v l) (hx : Ext w w') : IntsAt w' v l := SliceAt.ext intR.keeps h hx
theorem IntsAt.one {w : World} {n : Int} {t : TypeId} (h : -9223372036854775808 ≤ n ∧ n ≤ 9223372036854775807) : IntsAt (w.alloc (.cells #[.int .i64 n] t)) (.slice (some ⟨w.heap.size, 0, none⟩) 1 1) [n] :=
  ⟨_, _, rfl, Nat.le_refl _, by omega, fun i hi => by
    obtain rfl : i = 0 := by simpa using hi
    exact ⟨_, _, rfl, by simp [go_sem], h⟩⟩
theorem IntsAt.oneAt {w : World} {n : Int} {t : TypeId} {B : Nat} (hB : w.heap.size = B) (h : -9223372036854775808 ≤ n ∧ n ≤ 9223372036854775807) : IntsAt (w.alloc (.cells #[.int .i64 n] t)) (.slice (some ⟨B, 0, none⟩) 1 1) [n] := by
  subst hB; exact IntsAt.one h
theorem IntsAt.two {w : World} {m n : Int} {t : TypeId} (h : -9223372036854775808 ≤ n ∧ n ≤ 9223372036854775807) (h' : -9223372036854775808 ≤ m ∧ m ≤ 9223372036854775807) : IntsAt (w.alloc (.cells #[.int .i64 n, .int .i64 m] t)) (.slice (some ⟨w.heap.size, 0, none⟩) 2 2) [n, m] :=
  ⟨_, _, rfl, Nat.le_refl _, by omega, fun i hi => by
    have : i = 0 ∨ i = 1 := by simp at hi; omega
    rcases this with rfl | rfl
    · exact ⟨_, _, rfl, by simp [go_sem], h⟩
    · exact ⟨_, _, rfl, by simp [go_sem], h'⟩⟩

structure Letter where
  c : Int
  sounds : Int
  silent : Bool
  deriving DecidableEq
structure Alphabet where
  name : ByteArray
  letters : List Letter
  deriving DecidableEq
structure Spelling where
  alphabet : Int
  text : ByteArray
  deriving DecidableEq
structure Book where
  sounds : Int
  alphabets : List Alphabet
  spellings : List Spelling
  deriving DecidableEq

def I64 (n : Int) : Prop := -9223372036854775808 ≤ n ∧ n ≤ 9223372036854775807
def U8 (n : Int) : Prop := 0 ≤ n ∧ n ≤ 255
def LetterV (v : Value) (x : Letter) : Prop := v = .agg #[.int .u8 x.c, .int .i64 x.sounds, .bool x.silent] ∧ U8 x.c ∧ I64 x.sounds
def letterR (w : World) (b o : Nat) (x : Letter) : Prop :=
  w.cell? ⟨b, o, none⟩ = some (.int .u8 x.c) ∧ w.cell? ⟨b, o + 1, none⟩ = some (.int .i64 x.sounds) ∧ w.cell? ⟨b, o + 2, none⟩ = some (.bool x.silent) ∧ U8 x.c ∧ I64 x.sounds
theorem letterR.keeps : Keeps letterR := fun _ _ _ _ _ hx h => ⟨hx.cell h.1, hx.cell h.2.1, hx.cell h.2.2.1, h.2.2.2⟩
abbrev LettersAt : World → Value → List Letter → Prop := SliceAt 3 letterR
theorem LettersAt.ext {w w' : World} {v : Value} {l : List Letter} (h : LettersAt w v l) (hx : Ext w w') : LettersAt w' v l := SliceAt.ext letterR.keeps h hx

def AlphabetV (w : World) (v : Value) (x : Alphabet) : Prop := ∃ u, v = .agg #[.string x.name, u] ∧ x.name.size ≤ 9223372036854775807 ∧ LettersAt w u x.letters
def alphabetR (w : World) (b o : Nat) (x : Alphabet) : Prop :=
  w.cell? ⟨b, o, none⟩ = some (.string x.name) ∧ x.name.size ≤ 9223372036854775807 ∧ ∃ u, w.cell? ⟨b, o + 1, none⟩ = some u ∧ LettersAt w u x.letters
theorem alphabetR.keeps : Keeps alphabetR := fun _ _ _ _ _ hx h => ⟨hx.cell h.1, h.2.1, by obtain ⟨u, h1, h2⟩ := h.2.2; exact ⟨u, hx.cell h1, h2.ext hx⟩⟩
abbrev AlphabetsAt : World → Value → List Alphabet → Prop := SliceAt 2 alphabetR
theorem AlphabetsAt.ext {w w' : World} {v : Value} {l : List Alphabet} (h : AlphabetsAt w v l) (hx : Ext w w') : AlphabetsAt w' v l := SliceAt.ext alphabetR.keeps h hx

def spellingR (w : World) (b o : Nat) (x : Spelling) : Prop :=
  w.cell? ⟨b, o, none⟩ = some (.int .i64 x.alphabet) ∧ w.cell? ⟨b, o + 1, none⟩ = some (.string x.text) ∧ I64 x.alphabet ∧ x.text.size ≤ 9223372036854775807
theorem spellingR.keeps : Keeps spellingR := fun _ _ _ _ _ hx h => ⟨hx.cell h.1, hx.cell h.2.1, h.2.2⟩
abbrev SpellingsAt : World → Value → List Spelling → Prop := SliceAt 2 spellingR
theorem SpellingsAt.ext {w w' : World} {v : Value} {l : List Spelling} (h : SpellingsAt w v l) (hx : Ext w w') : SpellingsAt w' v l := SliceAt.ext spellingR.keeps h hx

def BookAt (w : World) (v : Value) (b : Book) : Prop :=
  ∃ av sv, v = .agg #[.int .i64 b.sounds, av, sv] ∧ I64 b.sounds ∧ AlphabetsAt w av b.alphabets ∧ SpellingsAt w sv b.spellings
theorem BookAt.ext {w w' : World} {v : Value} {b : Book} (h : BookAt w v b) (hx : Ext w w') : BookAt w' v b := by
  obtain ⟨av, sv, h1, h2, h3, h4⟩ := h
  exact ⟨av, sv, h1, h2, h3.ext hx, h4.ext hx⟩
/-- a book, down to the two lists' places -/
theorem BookAt.open {w : World} {v : Value} {b : Book} (h : BookAt w v b) : ∃ a c s d, v = .agg #[.int .i64 b.sounds, .slice a b.alphabets.length c, .slice s b.spellings.length d] ∧
    I64 b.sounds ∧ b.alphabets.length ≤ c ∧ c ≤ 9223372036854775807 ∧ b.spellings.length ≤ d ∧ d ≤ 9223372036854775807 ∧ BookAt w v b ∧ AlphabetsAt w (.slice a b.alphabets.length c) b.alphabets ∧ SpellingsAt w (.slice s b.spellings.length d) b.spellings := by
  have hh := h
  obtain ⟨av, sv, rfl, h2, h3, h4⟩ := h
  obtain ⟨a, c, rfl, h5, h6⟩ := h3.shape
  obtain ⟨s, d, rfl, h7, h8⟩ := h4.shape
  exact ⟨a, c, s, d, rfl, h2, h5, h6, h7, h8, hh, h3, h4⟩
theorem set_cell {w : World} {p : Addr} {x : Value} (h : w.cell? p = some x) (v : Value) : (w.setCell p v).cell? p = some v := by
  unfold World.cell? at h
  unfold World.setCell World.cell?
  cases hb : w.heap[p.block]? with
  | none => rw [hb] at h; cases h
  | some o =>
    rw [hb] at h
    cases o <;> simp only at h <;> try (cases h)
    rename_i c e f
    split at h
    · cases h
    · rename_i hs
      have hl : p.off < c.size := (Array.getElem?_eq_some_iff.1 h).1
      obtain ⟨lo, hi⟩ := f
      simp [Array.getElem?_modify, hb, hs, hl]
theorem set_other {w : World} {p q : Addr} {x : Value} (h : w.cell? q = some x) (hne : p.block ≠ q.block ∨ p.off ≠ q.off) (v : Value) : (w.setCell p v).cell? q = some x := by
  unfold World.cell? at h
  unfold World.setCell World.cell?
  simp only [Array.getElem?_modify]
  cases hb : w.heap[q.block]? with
  | none => rw [hb] at h; cases h
  | some o =>
    rw [hb] at h
    by_cases hpq : p.block = q.block
    · have hoff := hne.resolve_left (fun e => e hpq)
      rw [if_pos hpq]
      cases o <;> simp only at h <;> try (cases h)
      rename_i c e f
      obtain ⟨lo, hi⟩ := f
      simp only [Option.map_some]
      split at h
      · cases h
      · rename_i hs
        rw [if_neg hs]
        split
        · exact h
        · rw [Array.getElem?_setIfInBounds_ne hoff]; exact h
    · rw [if_neg hpq]; exact h
theorem three_cells {w : World} {B : Nat} {x y z : Value} (h0 : w.cell? ⟨B, 0, none⟩ = some x) (h1 : w.cell? ⟨B, 1, none⟩ = some y) (h2 : w.cell? ⟨B, 2, none⟩ = some z) (a b c : Value) :
    (((w.setCell ⟨B, 0, none⟩ a).setCell ⟨B, 1, none⟩ b).setCell ⟨B, 2, none⟩ c).cell? ⟨B, 0, none⟩ = some a ∧
    (((w.setCell ⟨B, 0, none⟩ a).setCell ⟨B, 1, none⟩ b).setCell ⟨B, 2, none⟩ c).cell? ⟨B, 1, none⟩ = some b ∧
    (((w.setCell ⟨B, 0, none⟩ a).setCell ⟨B, 1, none⟩ b).setCell ⟨B, 2, none⟩ c).cell? ⟨B, 2, none⟩ = some c :=
  ⟨set_other (set_other (set_cell h0 a) (.inr (by simp)) b) (.inr (by simp)) c, set_other (set_cell (set_other h1 (.inr (by simp)) a) b) (.inr (by simp)) c,
    set_cell (set_other (set_other h2 (.inr (by simp)) a) (.inr (by simp)) b) c⟩
theorem ret_bool {a b : Bool} (h : a = b) : Ending.returned (.bool a) = .returned (.bool b) := by rw [h]
theorem ret_int {k : IntKind} {a b : Int} (h : a = b) : Ending.returned (.int k a) = .returned (.int k b) := by rw [h]
end Go.Proofs.Ytbodmgilcohfjaa
