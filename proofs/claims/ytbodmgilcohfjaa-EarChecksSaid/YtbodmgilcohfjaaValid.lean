/-
  WHAT IS SO OF A BOOK WITHOUT AN ERROR. Plain facts.
-/
import Derived.Test.YtbodmgilcohfjaaShort
namespace Go.Proofs.Ytbodmgilcohfjaa
open Go.RowKit

theorem firstErrFrom_ok {α : Type} (f : List α → α → Int) : ∀ (r pre : List α), (firstErrFrom f pre r).2 = 0 → ∀ k (hk : k < r.length), f (pre ++ r.take k) r[k] = 0
  | [], _, _, k, hk => by simp at hk
  | x :: r, pre, h, k, hk => by
    unfold firstErrFrom at h
    split at h
    · rename_i h0
      cases k with
      | zero => simpa using h0
      | succ k =>
        have := firstErrFrom_ok f r (pre ++ [x]) h k (by simpa using hk)
        simpa using this
    · rename_i h0
      exact absurd h h0
theorem firstErr_ok {α : Type} (f : List α → α → Int) (l : List α) (h : (firstErr f l).2 = 0) : ∀ k (hk : k < l.length), f (l.take k) l[k] = 0 := by
  intro k hk
  have := firstErrFrom_ok f l [] h k hk
  simpa using this

theorem inM_iff (n lo hi : Int) : inM n lo hi = true ↔ lo ≤ n ∧ n ≤ hi := by simp [inM]
theorem inM_true {n lo hi : Int} (h : ¬ inM n lo hi = false) : lo ≤ n ∧ n ≤ hi := by
  rw [← inM_iff]; simpa using h

structure ValidLetter (S : Int) (x : Letter) : Prop where
  c : 97 ≤ x.c ∧ x.c ≤ 122
  s : 0 ≤ x.sounds ∧ x.sounds ≤ maskM S
  g : x.sounds ≠ 0 ∨ x.silent = true
theorem letterErr_ok {S : Int} {l : List Letter} {x : Letter} (h : letterErrM S l x = 0) : ValidLetter S x ∧ (l.any fun y => y.c == x.c) = false := by
  unfold letterErrM at h
  split at h
  · cases h
  rename_i h1
  split at h
  · cases h
  rename_i h2
  split at h
  · cases h
  rename_i h3
  split at h
  · cases h
  rename_i h4
  exact ⟨⟨inM_true h1, inM_true h3, by
    simp only [Bool.and_eq_true, beq_iff_eq, Bool.not_eq_true', not_and, Bool.not_eq_false] at h4
    by_cases e : x.sounds = 0
    · exact .inr (h4 e)
    · exact .inl e⟩, by simpa using h2⟩
structure ValidAlphabet (S : Int) (x : Alphabet) : Prop where
  n : nameM x.name = true
  l : 1 ≤ x.letters.length ∧ x.letters.length ≤ 6
  fine : ∀ k (hk : k < x.letters.length), ValidLetter S x.letters[k] ∧ ((x.letters.take k).any fun y => y.c == (x.letters[k]).c) = false
theorem alphabetErr_ok {S : Int} {l : List Alphabet} {x : Alphabet} (h : alphabetErrM S l x = 0) : ValidAlphabet S x ∧ (l.any fun y => y.name.toList == x.name.toList) = false := by
  unfold alphabetErrM at h
  split at h
  · cases h
  rename_i h1
  split at h
  · cases h
  rename_i h2
  split at h
  · cases h
  rename_i h3
  have h3 := inM_true h3
  exact ⟨⟨by simpa using h1, by omega, fun k hk => letterErr_ok (firstErr_ok _ _ h k hk)⟩, by simpa using h2⟩
structure ValidSpelling (al : List Alphabet) (x : Spelling) : Prop where
  a : 0 ≤ x.alphabet ∧ x.alphabet < al.length
  t : 1 ≤ x.text.size ∧ x.text.size ≤ 5
  k : ∀ j, j < x.text.size → knownB (lettersOf al x.alphabet) x.text j = true
theorem textOk_spec {ls : List Letter} {s : ByteArray} (h : textOk ls s = true) : ∀ j, j < s.size → knownB ls s j = true := by
  unfold textOk at h
  rw [List.all_eq_true] at h
  exact fun j hj => h j (List.mem_range.2 hj)
theorem spellingErr_ok {al : List Alphabet} {x : Spelling} (h : spellingErrM al x = 0) : ValidSpelling al x := by
  unfold spellingErrM at h
  split at h
  · cases h
  rename_i h1
  split at h
  · cases h
  rename_i h2
  split at h
  · cases h
  rename_i h3
  have h1 := inM_true h1
  have h2 := inM_true h2
  exact ⟨by omega, by omega, textOk_spec (by simpa using h3)⟩
structure Valid (b : Book) : Prop where
  s : 1 ≤ b.sounds ∧ b.sounds ≤ 4
  a : 1 ≤ b.alphabets.length ∧ b.alphabets.length ≤ 3
  al : ∀ k (hk : k < b.alphabets.length), ValidAlphabet b.sounds b.alphabets[k] ∧ ((b.alphabets.take k).any fun y => y.name.toList == (b.alphabets[k]).name.toList) = false
  n : b.spellings.length ≤ 5
  sp : ∀ k (hk : k < b.spellings.length), ValidSpelling b.alphabets b.spellings[k]
theorem valid_of {b : Book} (h : errM b = 0) : Valid b := by
  unfold errM checkM at h
  split at h
  · cases h
  rename_i h1
  split at h
  · cases h
  rename_i h2
  split at h
  · rename_i h3; exact absurd h h3
  rename_i h3
  split at h
  · cases h
  rename_i h4
  split at h
  · rename_i h5; exact absurd h h5
  rename_i h5
  have h1 := inM_true h1
  have h2 := inM_true h2
  have h3 : (alphErr b).2 = 0 := by simpa using h3
  have h5 : (spelErr b).2 = 0 := by simpa using h5
  exact ⟨h1, by omega, fun k hk => alphabetErr_ok (firstErr_ok _ _ h3 k hk), by omega, fun k hk => spellingErr_ok (firstErr_ok _ _ h5 k hk)⟩
theorem mask_le {S : Int} (h : 1 ≤ S ∧ S ≤ 4) : maskM S ≤ 15 := by
  have h4 : S = 1 ∨ S = 2 ∨ S = 3 ∨ S = 4 := by omega
  rcases h4 with rfl | rfl | rfl | rfl <;> decide
theorem Valid.fine {b : Book} (h : Valid b) (k : Nat) (hk : k < b.alphabets.length) : ∀ x ∈ (b.alphabets[k]).letters, FineL x := by
  intro x hx
  obtain ⟨j, hj, rfl⟩ := List.getElem_of_mem hx
  have := ((h.al k hk).1.fine j hj).1.s
  have := mask_le h.s
  exact ⟨by omega, by omega⟩
theorem withinM_spec {lo hi : Int} {l : List Int} (h : withinM lo hi l = true) : ∀ x ∈ l, lo ≤ x ∧ x ≤ hi := by
  unfold withinM at h
  rw [List.all_eq_true] at h
  exact fun x hx => (inM_iff _ _ _).1 (h x hx)
end Go.Proofs.Ytbodmgilcohfjaa
