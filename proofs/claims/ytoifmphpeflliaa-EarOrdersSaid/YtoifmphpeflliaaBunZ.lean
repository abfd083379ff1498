/-
  A LETTER THAT CAN STAND FOR MORE: no spelling can be less, none that were alike perhaps become never, no more are odd. Plain facts.
  ROWS OF LETTERS AND OF ALPHABETS that a call makes itself: how they lie in memory, and one of them put in place of another.
  A STATEMENT THAT IS A REGION, TAKEN OUT OF A FUNCTION'S TEXT, so that it can be walked in a declaration of its own. Over any program.
  A REGION THAT DRAWS ITS ORDER, WHOSE LAST OPERATION WAITS FOR ALL OTHERS: the others first, then this one, by a fact of its own. Over any program.
-/
import Derived.Test.YtoifmphpeflliaaBunU
import Derived.Test.YtoifmphpeflliaaBunD
import Derived.Laws.OwnMore
import Derived.Maps.AppendAt
import Derived.Test.YtoifmphpeflliaaBunY
namespace Go.Proofs.Ytoifmphpeflliaa
open Go.RowKit
set_option linter.unusedVariables false

/-- the letter, which can be silent too (s is the number of the sounds), or give one sound more -/
def moreL (S : Int) (s : Nat) (x : Letter) : Letter := if (s : Int) = S then ⟨x.c, x.sounds, true⟩ else if bitM s x.sounds = true then x else ⟨x.c, x.sounds + 2 ^ s, x.silent⟩
theorem moreL_c (S : Int) (s : Nat) (x : Letter) : (moreL S s x).c = x.c := by
  unfold moreL; split
  · rfl
  · split <;> rfl
theorem more_bits : ∀ (S : Fin 5) (v : Fin 16) (s : Fin 4), s.1 < S.1 → v.1 ≤ 2 ^ S.1 - 1 → v.1.testBit s.1 = false → v.1 + 2 ^ s.1 ≤ 2 ^ S.1 - 1 ∧ ∀ i : Fin 4, v.1.testBit i.1 = true → (v.1 + 2 ^ s.1).testBit i.1 = true := by decide +kernel
theorem moreL_fine {S : Int} (hS : 1 ≤ S ∧ S ≤ 4) {s : Nat} (hs : (s : Int) ≤ S) {x : Letter} (h : ValidLetter S x) : ValidLetter S (moreL S s x) ∧ ∀ m ∈ soundsTo (S.toNat + 1), givesM x m = true → givesM (moreL S s x) m = true := by
  have hm := mask_le hS
  have h0 := h.s
  unfold moreL
  split
  · refine ⟨⟨h.c, h.s, .inr rfl⟩, fun m hm hg => ?_⟩
    unfold givesM at hg ⊢
    split
    · rfl
    · rename_i hn
      rw [if_neg hn] at hg
      exact hg
  · rename_i hne
    split
    · exact ⟨h, fun m hm hg => hg⟩
    · rename_i hb
      have hb' : bitM s x.sounds = false := by simpa using hb
      rw [bitM_test _ _ h0.1] at hb'
      have e : maskM S = ((2 ^ S.toNat - 1 : Nat) : Int) := by
        unfold maskM
        have : 0 < 2 ^ S.toNat := Nat.two_pow_pos _
        rw [Int.ofNat_sub this]
        simp
      have hv : x.sounds.toNat ≤ 2 ^ S.toNat - 1 := by have := h0.2; rw [e] at this; omega
      obtain ⟨g1, g2⟩ := more_bits ⟨S.toNat, by omega⟩ ⟨x.sounds.toNat, by omega⟩ ⟨s, by omega⟩ (by show s < S.toNat; omega) hv hb'
      simp only at g1 g2
      have ep : ((2 : Int) ^ s) = ((2 ^ s : Nat) : Int) := by simp
      have e2 : (x.sounds + 2 ^ s).toNat = x.sounds.toNat + 2 ^ s := by
        rw [ep]
        generalize 2 ^ s = z
        omega
      have hpos := Nat.two_pow_pos s
      refine ⟨⟨h.c, ⟨Int.add_nonneg h0.1 (by rw [ep]; exact Int.natCast_nonneg _), ?_⟩, .inl ?_⟩, fun m hmm hg => ?_⟩
      · show x.sounds + 2 ^ s ≤ maskM S
        rw [ep, e]
        generalize 2 ^ s = z at *
        omega
      · show x.sounds + 2 ^ s ≠ 0
        rw [ep]
        generalize 2 ^ s = z at *
        omega
      · unfold givesM at hg ⊢
        split
        · rename_i hn; rw [if_pos hn] at hg; exact hg
        · rename_i hn
          rw [if_neg hn] at hg
          have := mem_soundsTo.1 hmm
          simp only
          rw [e2]
          exact g2 ⟨m.toNat, by omega⟩ hg
theorem set_at {α : Type} (l : List α) (n k : Nat) (v : α) (hk : k < (l.set n v).length) : (n = k ∧ (l.set n v)[k] = v) ∨ (n ≠ k ∧ ∃ h : k < l.length, (l.set n v)[k] = l[k]) := by
  have hk' : k < l.length := by simpa using hk
  by_cases e : n = k
  · left; subst e; exact ⟨rfl, by simp⟩
  · right; exact ⟨e, hk', by rw [List.getElem_set_ne e]⟩
def moreA (S : Int) (s n : Nat) (x : Alphabet) : Alphabet := ⟨x.name, x.letters.set n (moreL S s (x.letters.getD n noLetter))⟩
def moreB (b : Book) (a n s : Nat) : Book := ⟨b.sounds, b.alphabets.set a (moreA b.sounds s n (b.alphabets.getD a ⟨⟨#[]⟩, []⟩)), b.spellings⟩
theorem any_c (l : List Letter) (c : Int) : (l.any fun y => y.c == c) = (l.map (·.c)).any (· == c) := by rw [List.any_map]; rfl
theorem any_name (l : List Alphabet) (c : List UInt8) : (l.any fun y => y.name.toList == c) = (l.map fun y => y.name.toList).any (· == c) := by rw [List.any_map]; rfl
theorem set_c {ls : List Letter} {n : Nat} (hn : n < ls.length) (S : Int) (s : Nat) : (ls.set n (moreL S s (ls.getD n noLetter))).map (·.c) = ls.map (·.c) := by
  apply List.ext_getElem
  · simp
  · intro i h1 h2
    simp only [List.getElem_map, List.getElem_set]
    split
    · rename_i e; subst e
      rw [letD_at ls hn, moreL_c]
    · rfl
theorem moreA_fine {S : Int} (hS : 1 ≤ S ∧ S ≤ 4) {s n : Nat} (hs : (s : Int) ≤ S) {x : Alphabet} (hn : n < x.letters.length) (h : ValidAlphabet S x) : ValidAlphabet S (moreA S s n x) ∧ Pairs (fun x y => ∀ m ∈ soundsTo (S.toNat + 1), givesM x m = true → givesM y m = true) x.letters (moreA S s n x).letters := by
  have hg := letD_at x.letters hn
  constructor
  · refine ⟨h.n, by unfold moreA; simpa using h.l, fun k hk => ?_⟩
    have hk' : k < x.letters.length := by unfold moreA at hk; simpa using hk
    have hf := h.fine k hk'
    constructor
    · show ValidLetter S ((x.letters.set n (moreL S s (x.letters.getD n noLetter)))[k]'hk)
      rcases set_at x.letters n k (moreL S s (x.letters.getD n noLetter)) hk with ⟨e, h1⟩ | ⟨e, h0, h1⟩
      · subst e
        rw [h1, hg]
        exact (moreL_fine hS hs hf.1).1
      · rw [h1]; exact hf.1
    · have e1 := hf.2
      rw [any_c, List.map_take] at e1 ⊢
      have e2 : ((moreA S s n x).letters.map (·.c)) = x.letters.map (·.c) := set_c hn S s
      rw [e2]
      have e3 : ((moreA S s n x).letters[k]).c = (x.letters[k]).c := by
        have := congrArg (fun l => l[k]?) e2
        simp only [List.getElem?_map, List.getElem?_eq_getElem hk, List.getElem?_eq_getElem hk', Option.map_some, Option.some.injEq] at this
        exact this
      rw [e3]; exact e1
  · refine pairs_of_at (by unfold moreA; simp) fun i hi hi' => ?_
    show ((x.letters.set n (moreL S s (x.letters.getD n noLetter)))[i]'hi').c = (x.letters[i]).c ∧ ∀ m ∈ soundsTo (S.toNat + 1), givesM x.letters[i] m = true → givesM ((x.letters.set n (moreL S s (x.letters.getD n noLetter)))[i]'hi') m = true
    rcases set_at x.letters n i (moreL S s (x.letters.getD n noLetter)) hi' with ⟨e, h1⟩ | ⟨e, h0, h1⟩
    · subst e
      rw [h1, hg]
      exact ⟨moreL_c _ _ _, (moreL_fine hS hs (h.fine n hi).1).2⟩
    · rw [h1]
      exact ⟨rfl, fun m _ h => h⟩
def Gives (S : Int) (x y : Letter) : Prop := ∀ m ∈ soundsTo (S.toNat + 1), givesM x m = true → givesM y m = true
theorem more_two {b : Book} (hv : Valid b) {a n s : Nat} (ha : a < b.alphabets.length) (hn : n < (b.alphabets[a]).letters.length) (hs : (s : Int) ≤ b.sounds) : TwoB (Gives b.sounds) b (moreB b a n s) ∧ Valid (moreB b a n s) := by
  have hg : b.alphabets.getD a ⟨⟨#[]⟩, []⟩ = b.alphabets[a] := by rw [List.getD_eq_getElem?_getD, List.getElem?_eq_getElem ha]; rfl
  have hA := moreA_fine hv.s hs hn (hv.al a ha).1
  have hT : TwoB (Gives b.sounds) b (moreB b a n s) := by
    refine ⟨rfl, by unfold moreB; simp, rfl, fun k h h' => ?_⟩
    show Pairs (Gives b.sounds) (b.alphabets[k]).letters ((b.alphabets.set a (moreA b.sounds s n (b.alphabets.getD a ⟨⟨#[]⟩, []⟩)))[k]'h').letters
    rcases set_at b.alphabets a k (moreA b.sounds s n (b.alphabets.getD a ⟨⟨#[]⟩, []⟩)) h' with ⟨e, h1⟩ | ⟨e, h0, h1⟩
    · subst e
      rw [h1, hg]
      exact hA.2
    · rw [h1]
      exact pairs_of_at rfl fun i hi hi' => ⟨rfl, fun m _ h => h⟩
  refine ⟨hT, hT.valid hv fun k hk => ?_⟩
  have hk' : k < b.alphabets.length := by unfold moreB at hk; simpa using hk
  have hf := hv.al k hk'
  have hnm : ((moreB b a n s).alphabets.map fun y => y.name.toList) = b.alphabets.map fun y => y.name.toList := by
    apply List.ext_getElem
    · unfold moreB; simp
    · intro i h1 h2
      rw [List.getElem_map, List.getElem_map]
      have h1' : i < (b.alphabets.set a (moreA b.sounds s n (b.alphabets.getD a ⟨⟨#[]⟩, []⟩))).length := by rw [List.length_map] at h1; exact h1
      show ((b.alphabets.set a (moreA b.sounds s n (b.alphabets.getD a ⟨⟨#[]⟩, []⟩)))[i]'h1').name.toList = _
      rcases set_at b.alphabets a i (moreA b.sounds s n (b.alphabets.getD a ⟨⟨#[]⟩, []⟩)) h1' with ⟨e, h3⟩ | ⟨e, h0, h3⟩
      · subst e
        rw [h3, hg]; rfl
      · rw [h3]
  constructor
  · show ValidAlphabet b.sounds ((b.alphabets.set a (moreA b.sounds s n (b.alphabets.getD a ⟨⟨#[]⟩, []⟩)))[k]'hk)
    rcases set_at b.alphabets a k (moreA b.sounds s n (b.alphabets.getD a ⟨⟨#[]⟩, []⟩)) hk with ⟨e, h1⟩ | ⟨e, h0, h1⟩
    · subst e
      rw [h1, hg]
      exact hA.1
    · rw [h1]; exact hf.1
  · have e1 := hf.2
    rw [any_name, List.map_take] at e1 ⊢
    rw [hnm]
    have e3 : ((moreB b a n s).alphabets[k]).name.toList = (b.alphabets[k]).name.toList := by
      have := congrArg (fun l => l[k]?) hnm
      simp only [List.getElem?_map, List.getElem?_eq_getElem hk, List.getElem?_eq_getElem hk', Option.map_some, Option.some.injEq] at this
      exact this
    rw [e3]; exact e1
theorem more_strings {b : Book} (hv : Valid b) {b' : Book} (h : TwoB (Gives b.sounds) b b') {i : Nat} (hi : i < b.spellings.length) {t : List Int} (ht : t ∈ stringsOf b i) : t ∈ stringsOf b' i := by
  have := strings_pairs h hv (fun x => x) (fun n => Iff.rfl) (fun x y hxy n hn hg => ⟨hn, hxy n hn hg⟩) hi ht
  simpa using this
/-- what the statement says of them -/
theorem more_count {b b' : Book} (hv : Valid b) (h : TwoB (Gives b.sounds) b b') {i : Nat} (hi : i < b.spellings.length) : (canM b [i]).length ≤ (canM b' [i]).length :=
  count_le hv hi (fun t => t) (fun s _ t _ e => e) fun t ht => more_strings hv h hi ht
theorem more_odd {b b' : Book} (hv : Valid b) (hv' : Valid b') (h : TwoB (Gives b.sounds) b b') : (oddL b').length ≤ (oddL b).length :=
  odd_le hv hv' (by rw [h.sp]) fun l hl ⟨k, hk⟩ => ⟨k, fun n hn => more_strings hv h (hl n hn) (hk n hn)⟩
theorem more_never {b b' : Book} (hv : Valid b) (h : TwoB (Gives b.sounds) b b') {i j : Nat} (hi : i < b.spellings.length) (hj : j < b.spellings.length) {p q : Int} (hp : AlikeIs b i j p) (hq : AlikeIs b' i j q) : p = 2 ∨ q ≠ 2 := by
  by_cases h2 : q = 2
  · left
    rw [hp.never]
    rintro ⟨k, h1, h3⟩
    exact hq.never.1 h2 ⟨k, more_strings hv h hi h1, more_strings hv h hj h3⟩
  · exact .inr h2
end Go.Proofs.Ytoifmphpeflliaa

namespace Go.Proofs.Ytoifmphpeflliaa
open Go.RowKit
set_option linter.unusedVariables false
set_option linter.unusedSimpArgs false

theorem own_shape {w : World} {base size n : Nat} {e : TypeId} {v : Value} {xs : List Value} (h : w.ownsRow base e size v n xs) (hn : 0 < n) :
    ∃ g cap, v = .slice (some ⟨g, 0, none⟩) n cap ∧ base ≤ g ∧ g < w.heap.size ∧ n ≤ cap ∧ cap ≤ 9223372036854775807 := by
  have hlt := h.lt
  rcases h.2 with ⟨_, h0⟩ | ⟨g, cap, cur, rfl, hb, hg, hnc, hcm, hcs, htake⟩
  · omega
  · exact ⟨g, cap, rfl, hb, (hlt g rfl).2, hnc, by simpa [maxLen] using hcm⟩
theorem grown_set (w : World) (p : Addr) (u : Value) : w.grownBy (w.setCell p u) (some p.block) :=
  ⟨rfl, rfl, rfl, by simp, fun k _ hk => heap_setCell_other w p k u (fun e => hk (by simp [e]))⟩
theorem set_oneCell (l : List Letter) : ∀ u ∈ cellsL l, u.oneCell' = true := fun u hu => by
  unfold cellsL at hu
  rw [List.mem_flatMap] at hu
  obtain ⟨x, -, hx⟩ := hu
  simp only [List.mem_cons, List.not_mem_nil, or_false] at hx
  rcases hx with rfl | rfl | rfl <;> rfl
theorem letters_new {w : World} {ad : Addr} {n c : Nat} {l : List Letter} (h : LettersAt w (.slice (some ad) n c) l) : ∀ j u, (cellsL l)[j]? = some u → w.cell? (ad.add j) = some u := by
  intro j u hu
  have hj : j < (cellsL l).length := by
    rcases Nat.lt_or_ge j (cellsL l).length with h1 | h1
    · exact h1
    · rw [List.getElem?_eq_none h1] at hu; cases hu
  rw [cellsL_len] at hj
  obtain ⟨a, cap, e, -, -, h4⟩ := h
  obtain ⟨b, o, e2, r0, r1, r2, -⟩ := h4 (j / 3) (by omega)
  have e3 := (Value.slice.inj e).1
  rw [e2] at e3
  obtain rfl := Option.some.inj e3
  have ea : (⟨b, o, none⟩ : Addr).add j = ⟨b, o + j, none⟩ := by unfold Addr.add; split <;> simp_all
  rw [ea]
  obtain ⟨c0, c1, c2⟩ := cellsL_get l (j / 3) (by omega)
  have h3 : j % 3 = 0 ∨ j % 3 = 1 ∨ j % 3 = 2 := by omega
  rcases h3 with h3 | h3 | h3
  · have ej : j = j / 3 * 3 := by omega
    rw [← ej] at c0
    rw [hu] at c0
    rw [show o + j = o + j / 3 * 3 from by omega, r0, Option.some.inj c0]
  · have ej : j = j / 3 * 3 + 1 := by omega
    rw [← ej] at c1
    rw [hu] at c1
    rw [show o + j = o + j / 3 * 3 + 1 from by omega, r1, Option.some.inj c1]
  · have ej : j = j / 3 * 3 + 2 := by omega
    rw [← ej] at c2
    rw [hu] at c2
    rw [show o + j = o + j / 3 * 3 + 2 from by omega, r2, Option.some.inj c2]
theorem cellsL_set : ∀ (l : List Letter) (n : Nat) (x : Letter), n < l.length → cellsL (l.set n x) = (((cellsL l).set (n * 3) (.int .u8 x.c)).set (n * 3 + 1) (.int .i64 x.sounds)).set (n * 3 + 2) (.bool x.silent)
  | [], _, _, h => by simp at h
  | y :: l, 0, x, _ => by simp [cellsL]
  | y :: l, n + 1, x, h => by
    have ih := cellsL_set l n x (by simpa using h)
    have e : (n + 1) * 3 = n * 3 + 3 := by omega
    rw [e]
    have e1 : ∀ (z : Letter) (m : List Letter), cellsL (z :: m) = .int .u8 z.c :: .int .i64 z.sounds :: .bool z.silent :: cellsL m := fun z m => by simp [cellsL]
    rw [List.set_cons_succ, e1, ih, e1]
    simp

abbrev EntA := ByteArray × Value
def cellsA (es : List EntA) : List Value := es.flatMap fun e => [.string e.1, e.2]
theorem cellsA_len (l : List EntA) : (cellsA l).length = l.length * 2 := by
  induction l with
  | nil => rfl
  | cons x l ih => simp only [cellsA, List.flatMap_cons, List.length_append, List.length_cons, List.length_nil] at *; omega
theorem cellsA_get (l : List EntA) (i : Nat) (h : i < l.length) : (cellsA l)[i * 2]? = some (.string l[i].1) ∧ (cellsA l)[i * 2 + 1]? = some l[i].2 := by
  induction l generalizing i with
  | nil => simp at h
  | cons x l ih =>
    cases i with
    | zero => simp [cellsA]
    | succ i =>
      have := ih i (by simpa using h)
      have e : (i + 1) * 2 = i * 2 + 2 := by omega
      rw [e]
      simpa [cellsA] using this
theorem cellsA_snoc (l : List EntA) (s : ByteArray) (v : Value) : cellsA (l ++ [(s, v)]) = cellsA l ++ [.string s, v] := by simp [cellsA]
theorem cellsA_set : ∀ (l : List EntA) (n : Nat) (x : EntA), n < l.length → cellsA (l.set n x) = ((cellsA l).set (n * 2) (.string x.1)).set (n * 2 + 1) x.2
  | [], _, _, h => by simp at h
  | y :: l, 0, x, _ => by simp [cellsA]
  | y :: l, n + 1, x, h => by
    have ih := cellsA_set l n x (by simpa using h)
    have e : (n + 1) * 2 = n * 2 + 2 := by omega
    rw [e]
    have e1 : ∀ (z : EntA) (m : List EntA), cellsA (z :: m) = .string z.1 :: z.2 :: cellsA m := fun z m => by simp [cellsA]
    rw [List.set_cons_succ, e1, ih, e1]
    simp
/-- what a row of alphabets holds -/
def EntsOf (w : World) (es : List EntA) (l : List Alphabet) : Prop := es.length = l.length ∧ ∀ i (h : i < l.length) (h' : i < es.length), es[i].1 = l[i].name ∧ l[i].name.size ≤ 9223372036854775807 ∧ ∃ la lc, es[i].2 = .slice la l[i].letters.length lc ∧ LettersAt w es[i].2 l[i].letters
theorem EntsOf.ext {w w' : World} {es : List EntA} {l : List Alphabet} (h : EntsOf w es l) (hx : Ext w w') : EntsOf w' es l :=
  ⟨h.1, fun i h1 h2 => by obtain ⟨e1, e2, la, lc, e3, e4⟩ := h.2 i h1 h2; exact ⟨e1, e2, la, lc, e3, e4.ext hx⟩⟩
theorem ents_oneCell {w : World} {es : List EntA} {l : List Alphabet} (h : EntsOf w es l) : ∀ u ∈ cellsA es, u.oneCell' = true := fun u hu => by
  unfold cellsA at hu
  rw [List.mem_flatMap] at hu
  obtain ⟨x, hx, hu⟩ := hu
  obtain ⟨i, hi, rfl⟩ := List.getElem_of_mem hx
  obtain ⟨-, -, la, lc, e3, -⟩ := h.2 i (by rw [← h.1]; exact hi) hi
  simp only [List.mem_cons, List.not_mem_nil, or_false] at hu
  rcases hu with rfl | rfl
  · rfl
  · rw [e3]; rfl
theorem ents_of {w : World} {ad : Addr} {n c : Nat} : ∀ {l : List Alphabet}, AlphabetsAt w (.slice (some ad) n c) l → ∃ es, EntsOf w es l ∧ ∀ j u, (cellsA es)[j]? = some u → w.cell? (ad.add j) = some u := by
  intro l h
  obtain ⟨a, cap, e, -, -, h4⟩ := h
  have e3 := (Value.slice.inj e).1
  have key : ∀ i, i < l.length → ∃ u : Value, ∃ b o, a = some ⟨b, o, none⟩ ∧ w.cell? ⟨b, o + i * 2, none⟩ = some (.string (l.getD i ⟨⟨#[]⟩, []⟩).name) ∧ (l.getD i ⟨⟨#[]⟩, []⟩).name.size ≤ 9223372036854775807 ∧ w.cell? ⟨b, o + i * 2 + 1, none⟩ = some u ∧ LettersAt w u (l.getD i ⟨⟨#[]⟩, []⟩).letters := fun i hi => by
    obtain ⟨b, o, e2, r0, r1, u, r2, r3⟩ := h4 i hi
    have eg : l.getD i ⟨⟨#[]⟩, []⟩ = l[i] := by rw [List.getD_eq_getElem?_getD, List.getElem?_eq_getElem hi]; rfl
    rw [eg]
    exact ⟨u, b, o, e2, r0, r1, r2, r3⟩
  have ⟨f, hf⟩ : ∃ f : Nat → Value, ∀ i, i < l.length → ∃ b o, a = some ⟨b, o, none⟩ ∧ w.cell? ⟨b, o + i * 2, none⟩ = some (.string (l.getD i ⟨⟨#[]⟩, []⟩).name) ∧ (l.getD i ⟨⟨#[]⟩, []⟩).name.size ≤ 9223372036854775807 ∧ w.cell? ⟨b, o + i * 2 + 1, none⟩ = some (f i) ∧ LettersAt w (f i) (l.getD i ⟨⟨#[]⟩, []⟩).letters := by
    refine ⟨fun i => if h : i < l.length then Classical.choose (key i h) else .bool false, fun i hi => ?_⟩
    have := Classical.choose_spec (key i hi)
    simp only [dif_pos hi]
    exact this
  refine ⟨(List.range l.length).map fun i => ((l.getD i ⟨⟨#[]⟩, []⟩).name, f i), ⟨by simp, fun i h1 h2 => ?_⟩, fun j u hu => ?_⟩
  · obtain ⟨b, o, e2, r0, r1, r2, r3⟩ := hf i h1
    have eg : l.getD i ⟨⟨#[]⟩, []⟩ = l[i] := by rw [List.getD_eq_getElem?_getD, List.getElem?_eq_getElem h1]; rfl
    rw [eg] at r0 r1 r3
    simp only [List.getElem_map, List.getElem_range, eg]
    obtain ⟨la, lc, e5, -⟩ := r3.shape
    exact ⟨trivial, r1, la, lc, e5, r3⟩
  · have hj : j < l.length * 2 := by
      rcases Nat.lt_or_ge j (l.length * 2) with h1 | h1
      · exact h1
      · rw [List.getElem?_eq_none (by rw [cellsA_len]; simpa using h1)] at hu; cases hu
    obtain ⟨b, o, e2, r0, r1, r2, r3⟩ := hf (j / 2) (by omega)
    rw [e2] at e3
    obtain rfl := Option.some.inj e3
    have ea : (⟨b, o, none⟩ : Addr).add j = ⟨b, o + j, none⟩ := by unfold Addr.add; split <;> simp_all
    rw [ea]
    obtain ⟨c0, c1⟩ := cellsA_get ((List.range l.length).map fun i => ((l.getD i ⟨⟨#[]⟩, []⟩).name, f i)) (j / 2) (by simp; omega)
    simp only [List.getElem_map, List.getElem_range] at c0 c1
    have h3 : j % 2 = 0 ∨ j % 2 = 1 := by omega
    rcases h3 with h3 | h3
    · have ej : j / 2 * 2 = j := by omega
      rw [ej, hu] at c0
      rw [show o + j = o + j / 2 * 2 from by omega, r0, Option.some.inj c0]
    · have ej : j / 2 * 2 + 1 = j := by omega
      rw [ej, hu] at c1
      rw [show o + j = o + j / 2 * 2 + 1 from by omega, r2, Option.some.inj c1]
theorem AlphabetsAt.of_own {w : World} {base : Nat} {e : TypeId} {v : Value} {es : List EntA} {l : List Alphabet} (h : w.ownsRow base e 2 v l.length (cellsA es)) (hE : EntsOf w es l) : AlphabetsAt w v l := by
  have hcells := fun g hg => h.cells (g := g) hg
  rcases h.2 with ⟨rfl, hn⟩ | ⟨g, cap, cur, rfl, hb, hg, hnc, hcm, hcs, htake⟩
  · have : l = [] := List.eq_nil_of_length_eq_zero hn
    subst this; exact SliceAt.nil
  · refine ⟨_, _, rfl, hnc, by simpa [maxLen] using hcm, fun i hi => ⟨g, 0, rfl, ?_⟩⟩
    have hi2 : i < es.length := by rw [hE.1]; exact hi
    obtain ⟨ht, hsz, la, lc, e3, h3⟩ := hE.2 i hi hi2
    obtain ⟨c0, c1⟩ := cellsA_get es i hi2
    have r0 := hcells g rfl _ _ c0
    have r1 := hcells g rfl _ _ c1
    have ea : ∀ j, (⟨g, 0, none⟩ : Addr).add j = ⟨g, 0 + j, none⟩ := fun j => by unfold Addr.add; split <;> simp_all
    rw [ea] at r0 r1
    rw [ht] at r0
    exact ⟨r0, hsz, _, r1, h3⟩
/-- one alphabet put in place of another -/
theorem EntsOf.set {w : World} {es : List EntA} {l : List Alphabet} (h : EntsOf w es l) {a : Nat} (ha : a < l.length) {y : Alphabet} {u : Value} (hn : y.name.size ≤ 9223372036854775807) {la : Option Addr} {lc : Nat} (hu : u = .slice la y.letters.length lc) (hl : LettersAt w u y.letters) : EntsOf w (es.set a (y.name, u)) (l.set a y) := by
  refine ⟨by simp [h.1], fun i h1 h2 => ?_⟩
  have h1' : i < l.length := by simpa using h1
  have h2' : i < es.length := by simpa using h2
  by_cases e : a = i
  · subst e
    simp only [List.getElem_set_self]
    exact ⟨trivial, hn, la, lc, hu, hl⟩
  · rw [List.getElem_set_ne e, List.getElem_set_ne e]
    exact h.2 i h1' h2'
theorem infoAlphabet : (Try.prog.info? 38).map (fun i => (i.zero, i.size, i.bytes)) = some (some (.agg #[.string ByteArray.empty, .slice none 0 0]), 2, 40) := by kernel_rfl
theorem infoEaLetter : (Try.prog.info? 40).map (fun i => (i.zero, i.size, i.bytes)) = some (some (.agg #[.int .u8 0, .int .i64 0, .bool false]), 3, 24) := by kernel_rfl
/-- a book of its own, whose alphabets lie in a row of the call's -/
theorem book_own {w W : World} {ba bs : Option Addr} {bc bd : Nat} {b : Book} (hb : BookAt w (.agg #[.int .i64 b.sounds, .slice ba b.alphabets.length bc, .slice bs b.spellings.length bd]) b) (hx : Ext w W) {b' : Book} (h1 : b'.sounds = b.sounds) (h2 : b'.spellings = b.spellings) {u : Value} (hA : AlphabetsAt W u b'.alphabets) :
    BookAt W (.agg #[.int .i64 b.sounds, u, .slice bs b.spellings.length bd]) b' := by
  obtain ⟨av, sv, e1, g2, g3, g4⟩ := hb
  simp only [Value.agg.injEq, Array.mk.injEq, List.cons.injEq, and_true, true_and] at e1
  obtain ⟨rfl, rfl⟩ := e1
  exact ⟨_, _, by rw [h1], by rw [h1]; exact g2, hA, by rw [h2]; exact g4.ext hx⟩
end Go.Proofs.Ytoifmphpeflliaa

namespace Go.Proofs.Ytoifmphpeflliaa
open Go.RowKit
def findRegion (n : Nat) : Code → Option Code
  | .region i ops d => if i = n then some (.region i ops d) else none
  | .block _ c => findRegion n c
  | .seq a b => match findRegion n a with
    | some c => some c
    | none => findRegion n b
  | .loop c => findRegion n c
  | .scope c => findRegion n c
  | .cond _ a b => match findRegion n a with
    | some c => some c
    | none => findRegion n b
  | _ => none
noncomputable def regionOf (f : Func) (n : Nat) : Code := ((f.body.bind (findRegion n)).getD .skip)
end Go.Proofs.Ytoifmphpeflliaa

namespace Go.Proofs.Ytoifmphpeflliaa
open Go.RowKit
set_option linter.unusedVariables false
set_option linter.unusedSimpArgs false
namespace Facts.Peel
open Facts.Piv (Two anyS opS any_of_anyS opS_of_stepG)
variable {P : Program}

theorem wp_monoQ {o : Oper} {a : Act} {w : World} {K : Act → World → Prop} {Q Q' : Exit → Act → World → Prop} (h : ∀ e a w, e ≠ .normal → Q e a w → Q' e a w) (hh : o.wp P a w K Q) : o.wp P a w K Q' := by
  unfold Oper.wp at *
  generalize (execOp a.eval o).run P w = r at *
  cases r with
  | ok n w' =>
    cases n <;> simp only [Oper.upon] at hh ⊢ <;>
      first
        | exact hh
        | exact h _ _ _ (by simp) hh
        | exact Calls.mono hh (fun e w'' he => by
            cases e
            · exact he
            · exact h _ _ _ (by simp) he
            · obtain ⟨a0, w0, hq⟩ := he
              exact ⟨a0, w0, h _ _ _ (by simp) hq⟩)
  | halt x w' => cases x <;> simp only [Oper.upon] at hh ⊢ <;> first | exact hh | exact h _ _ _ (by simp) hh
def lastB (l : List Oper) (o : Oper) : Bool :=
  (l.all fun x => (match x.guard with | some g => decide (g.1 < l.length) | none => true) && (x.after.toList.all fun e => !Region.binds .any e || decide (e.on < l.length))) && (o.after.toList.all fun e => !Region.binds .any e || decide (e.on < l.length)) &&
    (List.range l.length).all fun i => (depsOf (l ++ [o]).toArray (l.length + 1) l.length).contains i
theorem push_getD (listed : Array Bool) (j : Nat) (d : Bool) (h : j < listed.size) : (listed.push false).getD j d = listed.getD j d := by
  rw [Array.getD_eq_getD_getElem?, Array.getD_eq_getD_getElem?, Array.getElem?_push, if_neg (by omega)]
theorem push_last (listed : Array Bool) (d : Bool) : (listed.push false).getD listed.size d = false := by
  rw [Array.getD_eq_getD_getElem?, Array.getElem?_push, if_pos rfl]; rfl
theorem push_set (listed : Array Bool) (i : Nat) (h : i < listed.size) : (listed.push false).setIfInBounds i true = (listed.setIfInBounds i true).push false := by
  apply Array.ext_getElem?
  intro j
  rw [Array.getElem?_setIfInBounds, Array.getElem?_push, Array.getElem?_push, Array.getElem?_setIfInBounds]
  simp only [Array.size_push, Array.size_setIfInBounds]
  by_cases e : i = j
  · subst e
    rw [if_pos rfl, if_neg (show ¬ i = listed.size by omega), if_pos rfl, if_pos h, if_pos (show i < listed.size + 1 by omega)]
  · rw [if_neg e, if_neg e]
theorem any_peel {l : List Oper} {o : Oper} {Q : Exit → Act → World → Prop} (hlast : lastB l o = true) (hB : okB (l ++ [o]).toArray = true) :
    ∀ (fuel : Nat) (listed : Array Bool) (a : Act) (w : World), listed.size = l.length → listed.toList.count true + fuel = l.length → (∀ j, (listed.push false).getD j false = true → ∀ i ∈ direct (l ++ [o]).toArray j, (listed.push false).getD i false = true) →
      anyS P l.toArray (fun e a w => e = .normal ∧ stepG P (l ++ [o]).toArray o a w (fun u w2 => Q .normal (a.put o.dst u) w2)) fuel listed a w → anyS P (l ++ [o]).toArray Q (fuel + 1) (listed.push false) a w := by
  simp only [lastB, Bool.and_eq_true, List.all_eq_true, List.mem_range, Bool.or_eq_true, decide_eq_true_eq] at hlast
  obtain ⟨⟨hl1, hl2⟩, hl3⟩ := hlast
  have hat : ∀ i, i < l.length → (l ++ [o]).toArray[i]? = l.toArray[i]? := fun i hi => by
    simp only [List.getElem?_toArray]; exact List.getElem?_append_left hi
  have hato : (l ++ [o]).toArray[l.length]? = some o := by simp
  have hsz : (l ++ [o]).toArray.size = l.length + 1 := by simp
  have hb : ∀ x ∈ l, ∀ e ∈ x.after, Region.binds .any e = true → e.on < l.length := fun x hx e he hbd => by
    rcases (hl1 x hx).2 e (by simpa using he) with h | h
    · rw [hbd] at h; cases h
    · exact h
  have hbo : ∀ e ∈ o.after, Region.binds .any e = true → e.on < l.length := fun e he hbd => by
    rcases hl2 e (by simpa using he) with h | h
    · rw [hbd] at h; cases h
    · exact h
  have hmem : ∀ i x, l.toArray[i]? = some x → i < l.length ∧ x ∈ l := fun i x h => by
    rw [List.getElem?_toArray] at h
    exact ⟨(List.getElem?_eq_some_iff.1 h).1, List.mem_of_getElem? h⟩
  -- what is ready
  have ready1 : ∀ (listed : Array Bool), listed.size = l.length → ∀ i, i < l.length → (i ∈ Region.ready .any (l ++ [o]).toArray (listed.push false) ↔ i ∈ Region.ready .any l.toArray listed) := fun listed hs i hi => by
    rw [mem_ready, mem_ready, hat i hi, push_getD _ _ _ (by omega)]
    constructor
    · rintro ⟨h1, x, hx, h2⟩
      exact ⟨h1, x, hx, fun e he hbd => by have := h2 e he hbd; rwa [push_getD _ _ _ (by have := hb x (hmem i x hx).2 e he hbd; omega)] at this⟩
    · rintro ⟨h1, x, hx, h2⟩
      exact ⟨h1, x, hx, fun e he hbd => by rw [push_getD _ _ _ (by have := hb x (hmem i x hx).2 e he hbd; omega)]; exact h2 e he hbd⟩
  have ready2 : ∀ (listed : Array Bool), listed.size = l.length → ∀ i, i ∈ Region.ready .any (l ++ [o]).toArray (listed.push false) → i < l.length ∨ i = l.length := fun listed hs i hi => by
    obtain ⟨-, x, hx, -⟩ := mem_ready.1 hi
    have := (Array.getElem?_eq_some_iff.1 hx).1
    omega
  have ready3 : ∀ (listed : Array Bool), listed.size = l.length → (∀ j, j < l.length → listed.getD j false = true) → l.length ∈ Region.ready .any (l ++ [o]).toArray (listed.push false) := fun listed hs hall => by
    rw [mem_ready]
    refine ⟨by rw [← hs]; exact push_last _ _, o, hato, fun e he hbd => ?_⟩
    have := hbo e he hbd
    rw [push_getD _ _ _ (by omega)]
    exact hall _ this
  have ready4 : ∀ (listed : Array Bool), listed.size = l.length → (∀ j, (listed.push false).getD j false = true → ∀ i ∈ direct (l ++ [o]).toArray j, (listed.push false).getD i false = true) → l.length ∈ Region.ready .any (l ++ [o]).toArray (listed.push false) → ∀ j, j < l.length → listed.getD j false = true := fun listed hs hcl hr j hj => by
    obtain ⟨-, x, hx, h2⟩ := mem_ready.1 hr
    rw [hato] at hx
    obtain rfl := Option.some.inj hx
    have hd := dep_in hcl (l.length + 1) l.length (direct_ready hato h2) j (by simpa using hl3 j hj)
    rwa [push_getD _ _ _ (by omega)] at hd
  have full : ∀ (listed : Array Bool), listed.size = l.length → listed.toList.count true = l.length → ∀ j, j < l.length → listed.getD j false = true := fun listed hs hc j hj => by
    have hlen : listed.toList.count true = listed.toList.length := by simp only [Array.length_toList]; omega
    have := List.count_eq_length.1 hlen (listed[j]'(by omega)) (by simp)
    rw [Array.getD_eq_getD_getElem?, Array.getElem?_eq_getElem (by omega)]
    exact this.symm
  have setfull : ∀ (listed : Array Bool), listed.size = l.length → (∀ j, j < l.length → listed.getD j false = true) → Region.ready .any (l ++ [o]).toArray ((listed.push false).setIfInBounds l.length true) = [] := fun listed hs hall => by
    rw [List.eq_nil_iff_forall_not_mem]
    intro i hi
    obtain ⟨h1, x, hx, -⟩ := mem_ready.1 hi
    have hlt := (Array.getElem?_eq_some_iff.1 hx).1
    rw [hsz] at hlt
    by_cases e : i = l.length
    · subst e
      rw [Array.getD_eq_getD_getElem?, Array.getElem?_setIfInBounds, if_pos rfl] at h1
      simp [hs] at h1
    · rw [getD_set_ne true (Ne.symm e), push_getD _ _ _ (by omega)] at h1
      have := hall i (by omega)
      rw [Array.getD_eq_getD_getElem?, Array.getElem?_eq_getElem (by omega)] at h1 this
      simp only [Option.getD_some] at h1 this
      rw [h1] at this; cases this
  have hlast : ∀ (fuel : Nat) (listed : Array Bool) (a : Act) (w : World), listed.size = l.length → (∀ j, j < l.length → listed.getD j false = true) → stepG P (l ++ [o]).toArray o a w (fun u w2 => Q .normal (a.put o.dst u) w2) →
      opS P (l ++ [o]).toArray Q l.length (anyS P (l ++ [o]).toArray Q fuel ((listed.push false).setIfInBounds l.length true)) a w := fun fuel listed a w hs hall h => by
    refine opS_of_stepG hato h fun v w' hq => ?_
    have hr := setfull listed hs hall
    cases fuel with
    | zero => exact ⟨hr, hq⟩
    | succ fuel => exact ⟨fun _ => hq, fun i hi => by rw [hr] at hi; cases hi⟩
  intro fuel
  induction fuel with
  | zero =>
    intro listed a w hs hc hcl h
    have hall := full listed hs (by omega)
    refine ⟨fun hn => ?_, fun i hi => ?_⟩
    · have := ready3 listed hs hall
      rw [hn] at this; cases this
    · rcases ready2 listed hs i hi with h1 | h1
      · exfalso
        have h2 := (mem_ready.1 hi).1
        rw [push_getD _ _ _ (by omega)] at h2
        have := hall i h1
        rw [Array.getD_eq_getD_getElem?, Array.getElem?_eq_getElem (by omega)] at h2 this
        simp only [Option.getD_some] at h2 this
        rw [h2] at this; cases this
      · subst h1
        exact hlast 0 listed a w hs hall h.2.2
  | succ fuel ih =>
    intro listed a w hs hc hcl h
    refine ⟨fun hn => ?_, fun i hi => ?_⟩
    · exfalso
      have hnr : Region.ready .any l.toArray listed = [] := by
        rw [List.eq_nil_iff_forall_not_mem]
        intro i hi
        have hlt : i < l.length := by obtain ⟨-, x, hx, -⟩ := mem_ready.1 hi; exact (hmem i x hx).1
        have := (ready1 listed hs i hlt).2 hi
        rw [hn] at this; cases this
      -- by the order of the operations all have come up
      have hall : ∀ j, j < l.length → listed.getD j false = true := by
        intro j
        induction j using Nat.strongRecOn with
        | _ j ihj =>
          intro hj
          cases hl : listed.getD j false with
          | true => rfl
          | false =>
            exfalso
            have hr : j ∈ Region.ready .any l.toArray listed := by
              rw [mem_ready]
              refine ⟨?_, l[j], by simp [hj], fun e he hbd => ?_⟩
              · rw [Array.getD_eq_getD_getElem?, Array.getElem?_eq_getElem (by omega)] at hl ⊢
                exact hl
              · have hin : e.on ∈ direct (l ++ [o]).toArray j := by
                  simp only [direct, hat j hj, show l.toArray[j]? = some l[j] by simp [hj], List.mem_map, List.mem_filter]
                  exact ⟨e, ⟨by simpa using he, hbd⟩, rfl⟩
                have := (okB_spec hB j (by rw [hsz]; omega)).1 e.on hin
                exact ihj e.on this (by omega)
            rw [hnr] at hr; cases hr
      have hcount : listed.toList.count true = l.length := by
        have : listed.toList.count true = listed.toList.length := List.count_eq_length.2 fun b hb => by
          obtain ⟨i, hi, rfl⟩ := List.getElem_of_mem hb
          have := hall i (by simpa [hs] using hi)
          rw [Array.getD_eq_getD_getElem?, Array.getElem?_eq_getElem (by simpa using hi)] at this
          simpa using this.symm
        rw [this]; simpa using hs
      omega
    · rcases ready2 listed hs i hi with h1 | h1
      · have hr := (ready1 listed hs i h1).1 hi
        have hstep := h.2 i hr
        obtain ⟨hl0, x, hx, hafter⟩ := mem_ready.1 hi
        rw [hat i h1] at hx
        unfold opS at hstep ⊢
        rw [hat i h1, hx]
        rw [hx] at hstep
        simp only at hstep ⊢
        have hw : Region.wanted x (yielded (l ++ [o]).toArray a.tmps) = Region.wanted x (yielded l.toArray a.tmps) := by
          unfold Region.wanted
          cases hg : x.guard with
          | none => rfl
          | some g =>
            obtain ⟨g, want⟩ := g
            have := (hl1 x (hmem i x hx).2).1
            rw [hg] at this
            have hlt : g < l.length := by simpa using this
            simp only [yielded, hat g hlt]
        have hnot : listed.getD i false = false := by
          rw [push_getD _ _ _ (by omega)] at hl0
          rw [Array.getD_eq_getD_getElem?, Array.getElem?_eq_getElem (by omega)] at hl0 ⊢
          exact hl0
        have hK : ∀ a w, anyS P l.toArray (fun e a w => e = .normal ∧ stepG P (l ++ [o]).toArray o a w (fun u w2 => Q .normal (a.put o.dst u) w2)) fuel (listed.setIfInBounds i true) a w → anyS P (l ++ [o]).toArray Q (fuel + 1) ((listed.push false).setIfInBounds i true) a w := fun a w hh => by
          rw [push_set _ _ (by omega)]
          refine ih _ a w (by simpa using hs) ?_ ?_ hh
          · rw [Array.toList_setIfInBounds, List.count_set (by simpa using (by omega : i < listed.size))]
            have e : (listed.toList[i]'(by simpa using (by omega : i < listed.size))) = false := by
              rw [Array.getD_eq_getD_getElem?, Array.getElem?_eq_getElem (by omega)] at hnot
              simpa using hnot
            have e' : (listed.toList[i]'(by simpa using (by omega : i < listed.size)) == true) = false := by rw [e]; rfl
            rw [e']; simp only [Bool.false_eq_true, if_false, beq_self_eq_true, if_true]; omega
          · rw [← push_set _ _ (by omega)]
            intro j hj k hk
            by_cases e : j = i
            · subst e
              have h2 := direct_ready (ops := (l ++ [o]).toArray) (by rw [hat j h1]; exact hx) hafter k hk
              by_cases e2 : k = j
              · subst e2
                rw [Array.getD_eq_getD_getElem?, Array.getElem?_setIfInBounds, if_pos rfl, if_pos (by simp; omega)]; rfl
              · rw [getD_set_ne false (Ne.symm e2)]; exact h2
            · rw [getD_set_ne false (Ne.symm e)] at hj
              have h2 := hcl j hj k hk
              by_cases e2 : k = i
              · subst e2
                rw [Array.getD_eq_getD_getElem?, Array.getElem?_setIfInBounds, if_pos rfl, if_pos (by simp; omega)]; rfl
              · rw [getD_set_ne false (Ne.symm e2)]; exact h2
        rw [hw]
        split
        · rename_i hww
          rw [if_pos hww] at hstep
          exact Oper.wp_mono hK (wp_monoQ (fun e a w he hq => absurd hq.1 he) hstep)
        · rename_i hww
          rw [if_neg hww] at hstep
          exact hK _ _ hstep
      · subst h1
        have hall := ready4 listed hs hcl hi
        have hr : Region.ready .any l.toArray listed = [] := by
          rw [List.eq_nil_iff_forall_not_mem]
          intro i hi2
          obtain ⟨h2, x, hx, -⟩ := mem_ready.1 hi2
          have hlt := (hmem i x hx).1
          have := hall i hlt
          rw [Array.getD_eq_getD_getElem?, Array.getElem?_eq_getElem (by omega)] at h2 this
          simp only [Option.getD_some] at h2 this
          rw [h2] at this; cases this
        exact hlast (fuel + 1) listed a w hs hall (h.1 hr).2
/-- THE RULE: the others by 'Facts.Dep.Free', the last one by a fact of its own -/
theorem wp_region {E C : World → World → Prop} (T : Two E C) (p : Nat) {id : Nat} {Q : Exit → Act → World → Prop} {a : Act} {w : World} {l : List Oper} {o : Oper} (ss : List Dep.Spec) (hm : P.follows .mixedOrders = true) (hlast : lastB l o = true) (hB' : okB (l ++ [o]).toArray = true) (hB : okB l.toArray = true) (hlb : Dep.locB l.toArray 0 ss = true) (hk : Dep.Free.keepsS E C l.toArray p 0 ss)
    (h : Dep.Free.Walk E C p P l.toArray w (fun e a w => e = .normal ∧ stepG P (l ++ [o]).toArray o a w (fun u w2 => Q .normal (a.put o.dst u) w2)) 0 l ss [] [] a) : (Code.region id (l ++ [o]).toArray true).wp P Q a w := by
  have h1 := Dep.Free.any_region T p ss hB hlb hk h
  have h2 := any_peel (P := P) (Q := Q) hlast hB' l.toArray.size (Array.replicate l.toArray.size false) a { w with drawn := w.drawn + 1 } (by simp) (by simp [List.count_replicate]) (fun j hj => by
    exfalso
    rw [Array.getD_eq_getD_getElem?, Array.getElem?_push] at hj
    split at hj
    · simp at hj
    · rw [← Array.getD_eq_getD_getElem?, getD_rep] at hj; cases hj) h1
  have e : (l ++ [o]).toArray.size = l.toArray.size + 1 := by simp
  refine wp_region_any hm (any_of_anyS _ _ _ _ ?_)
  rw [e, Array.replicate_succ]
  exact h2
/-- the same, told by the number of the last operation -/
theorem wp_regionL {E C : World → World → Prop} (T : Two E C) (n p : Nat) {id : Nat} {Q : Exit → Act → World → Prop} {a : Act} {w : World} {L : List Oper} (ss : List Dep.Spec) (hm : P.follows .mixedOrders = true) (hL : L.length = n + 1) (hlast : lastB (L.take n) (L.getD n default) = true) (hB' : okB L.toArray = true) (hB : okB (L.take n).toArray = true) (hlb : Dep.locB (L.take n).toArray 0 ss = true) (hk : Dep.Free.keepsS E C (L.take n).toArray p 0 ss)
    (h : Dep.Free.Walk E C p P (L.take n).toArray w (fun e a w => e = .normal ∧ stepG P L.toArray (L.getD n default) a w (fun u w2 => Q .normal (a.put (L.getD n default).dst u) w2)) 0 (L.take n) ss [] [] a) : (Code.region id L.toArray true).wp P Q a w := by
  have e : L = L.take n ++ [L.getD n default] := by
    conv => lhs; rw [← List.take_append_drop n L]
    congr 1
    rw [List.drop_eq_getElem_cons (by omega), List.drop_of_length_le (by omega), List.getD_eq_getElem?_getD, List.getElem?_eq_getElem (by omega)]
    rfl
  have := wp_region (P := P) (id := id) (Q := Q) T p (o := L.getD n default) ss hm hlast (by rw [← e]; exact hB') hB hlb hk (by rw [← e]; exact h)
  rwa [← e] at this
end Facts.Peel
end Go.Proofs.Ytoifmphpeflliaa
