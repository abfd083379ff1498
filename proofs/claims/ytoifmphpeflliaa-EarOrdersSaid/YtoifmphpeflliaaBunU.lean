/-
  THE TEXT OF Spell AS A SPELLING: it can be heard so, and no spelling of other letters that comes before it can. Plain facts.
  TWO BOOKS WITH THE SAME SPELLINGS, whose letters go together: what the spellings of the one can be is told by what those of the other can. Plain facts.
-/
import Derived.Test.YtoifmphpeflliaaBunM
namespace Go.Proofs.Ytoifmphpeflliaa
open Go.RowKit
set_option linter.unusedVariables false

theorem apart_of {S : Int} {x : Alphabet} (h : ValidAlphabet S x) : x.letters.Pairwise (fun a b => a.c ≠ b.c) := by
  rw [List.pairwise_iff_getElem]
  intro i j hi hj hij e
  have := (h.fine j hj).2
  rw [List.any_eq_false] at this
  exact this x.letters[i] (by
    rw [List.mem_take_iff_getElem]
    exact ⟨i, by omega, rfl⟩) (by simpa using e)
abbrev noLetter : Letter := ⟨0, 0, true⟩
def placedL (ls : List Letter) (P : List Nat) : List Letter := P.map fun n => ls.getD n noLetter
def placed (ls : List Letter) (P : List Nat) : List Int := (placedL ls P).map (·.c)
theorem placed_len (ls : List Letter) (P : List Nat) : (placed ls P).length = P.length := by simp [placed, placedL]
theorem letD_at (ls : List Letter) {n : Nat} (h : n < ls.length) : ls.getD n noLetter = ls[n] := by rw [List.getD_eq_getElem?_getD, List.getElem?_eq_getElem h]; rfl
theorem strOf_size (l : List Int) : (strOf l).size = l.length := by
  show (strOf l).data.size = _
  simp [strOf]
theorem byteAt_strOf {l : List Int} {k : Nat} (hk : k < l.length) (hU : ∀ n ∈ l, U8 n) : byteAt (strOf l) k = l[k] := by
  have h := hU _ (List.getElem_mem hk)
  unfold byteAt strOf
  rw [List.getD_eq_getElem?_getD]
  simp only [List.getElem?_map, List.getElem?_eq_getElem hk, Option.map_some, Option.getD_some]
  exact byte_back _ h
theorem placed_U8 {ls : List Letter} {P : List Nat} (hU : ∀ x ∈ ls, U8 x.c) (hP : ∀ n ∈ P, n < ls.length) : ∀ c ∈ placed ls P, U8 c := by
  intro c hc
  simp only [placed, placedL, List.mem_map] at hc
  obtain ⟨x, ⟨n, hn, rfl⟩, rfl⟩ := hc
  rw [letD_at ls (hP n hn)]
  exact hU _ (List.getElem_mem _)
theorem letter_at {ls : List Letter} (hp : ls.Pairwise (fun a b => a.c ≠ b.c)) {n : Nat} (hn : n < ls.length) : ls.find? (fun y => y.c == ls[n].c) = some ls[n] := by
  rw [List.find?_eq_some_iff_getElem]
  refine ⟨by simp, n, hn, rfl, fun j hj => ?_⟩
  have := List.pairwise_iff_getElem.1 hp j n (by omega) hn hj
  simpa using this
theorem letterOf_placed {ls : List Letter} (hp : ls.Pairwise (fun a b => a.c ≠ b.c)) (hU : ∀ x ∈ ls, U8 x.c) {P : List Nat} (hP : ∀ n ∈ P, n < ls.length) {k : Nat} (hk : k < P.length) : letterOf ls (strOf (placed ls P)) k = ls.getD P[k] noLetter ∧ knownB ls (strOf (placed ls P)) k = true := by
  have hk' : k < (placed ls P).length := by rw [placed_len]; exact hk
  have hlt := hP _ (List.getElem_mem hk)
  have e : byteAt (strOf (placed ls P)) k = ls[P[k]].c := by
    rw [byteAt_strOf hk' (placed_U8 hU hP)]
    simp only [placed, placedL, List.getElem_map]
    rw [letD_at ls hlt]
  constructor
  · rw [letterOf, e, letter_at hp hlt, letD_at ls hlt]; rfl
  · rw [knownB, e, List.any_eq_true]
    exact ⟨ls[P[k]], List.getElem_mem hlt, by simp⟩
theorem lettersM_placed {ls : List Letter} (hp : ls.Pairwise (fun a b => a.c ≠ b.c)) (hU : ∀ x ∈ ls, U8 x.c) {P : List Nat} (hP : ∀ n ∈ P, n < ls.length) : lettersM ls (strOf (placed ls P)) = placedL ls P := by
  unfold lettersM
  rw [strOf_size, placed_len]
  apply List.ext_getElem
  · rw [lettersTo_len]; simp [placedL]
  · intro k h1 h2
    rw [lettersTo_len] at h1
    simp only [lettersTo, List.getElem_map, List.getElem_range, placedL]
    exact (letterOf_placed hp hU hP h1).1
theorem spelt_err {b : Book} (h : errM b = 0) {a : Nat} (ha : a < b.alphabets.length) {P : List Nat} (hP : ∀ n ∈ P, n < (b.alphabets[a]).letters.length) (h0 : P ≠ []) (h5 : P.length ≤ 5) : errM (oneBook b a (strOf (placed (b.alphabets[a]).letters P))) = 0 := by
  obtain ⟨h1, h2, h3⟩ := errM_parts h
  have hv := valid_of h
  refine errM_make (al := []) (sp := []) h1 h2 h3 (by show 1 ≤ 5; omega) ?_
  have hpos : 0 < P.length := List.length_pos_iff.2 h0
  have hls : lettersOf b.alphabets (a : Int) = (b.alphabets[a]).letters := by unfold lettersOf; rw [Int.toNat_natCast, List.getElem?_eq_getElem ha]
  have hU : ∀ x ∈ (b.alphabets[a]).letters, U8 x.c := fun x hx => by
    obtain ⟨j, hj, rfl⟩ := List.getElem_of_mem hx
    have := ((hv.al a ha).1.fine j hj).1.c
    unfold U8; omega
  have e : spellingErrM b.alphabets ⟨(a : Int), strOf (placed (b.alphabets[a]).letters P)⟩ = 0 := by
    unfold spellingErrM
    rw [if_neg, if_neg, if_neg]
    · rw [Bool.not_eq_false]
      show textOk (lettersOf b.alphabets (a : Int)) _ = true
      rw [hls]
      unfold textOk
      rw [List.all_eq_true]
      intro j hj
      have hj0 := List.mem_range.1 hj
      rw [strOf_size, placed_len] at hj0
      exact (letterOf_placed (apart_of (hv.al a ha).1) hU hP hj0).2
    · rw [Bool.not_eq_false]
      show inM (strOf (placed (b.alphabets[a]).letters P)).size 1 5 = true
      rw [strOf_size, placed_len, inM_iff]
      omega
    · rw [Bool.not_eq_false]
      show inM (a : Int) 0 (b.alphabets.length - 1) = true
      rw [inM_iff]; omega
  show (firstErr _ [_]).2 = 0
  unfold firstErr firstErrFrom
  rw [if_pos (by exact e)]; rfl
theorem spelt_letters {b : Book} (h : errM b = 0) {a : Nat} (ha : a < b.alphabets.length) {P : List Nat} (hP : ∀ n ∈ P, n < (b.alphabets[a]).letters.length) : lettersAt (oneBook b a (strOf (placed (b.alphabets[a]).letters P))) 0 = placedL (b.alphabets[a]).letters P := by
  have hv := valid_of h
  have hU : ∀ x ∈ (b.alphabets[a]).letters, U8 x.c := fun x hx => by
    obtain ⟨j, hj, rfl⟩ := List.getElem_of_mem hx
    have := ((hv.al a ha).1.fine j hj).1.c
    unfold U8; omega
  have hls : lettersOf b.alphabets (a : Int) = (b.alphabets[a]).letters := by unfold lettersOf; rw [Int.toNat_natCast, List.getElem?_eq_getElem ha]
  show lettersM (lettersOf b.alphabets (a : Int)) _ = _
  rw [hls]
  exact lettersM_placed (apart_of (hv.al a ha).1) hU hP

theorem can_parts {K : Nat} {ys : List Letter} {s t : List Int} (h : Can K ys s t) : ∃ r, t = s ++ r ∧ r.length ≤ ys.length ∧ (∀ x ∈ r, ∃ y ∈ ys, givesM y x = true) ∧
    (r.length = ys.length → ∀ i (h : i < r.length) (h' : i < ys.length), givesM ys[i] r[i] = true) ∧ (r = [] → ∀ y ∈ ys, givesM y (-1) = true) := by
  induction h with
  | nil s => exact ⟨[], by simp, Nat.le_refl _, fun x hx => (by cases hx), fun _ i h => absurd h (Nat.not_lt_zero _), fun _ y hy => (by cases hy)⟩
  | cons y ys s t n hn hg h ih =>
    obtain ⟨r, e, h1, h2, h3, h4⟩ := ih
    by_cases hs : n = -1
    · subst hs
      rw [withS, if_pos rfl] at e
      refine ⟨r, e, by simp; omega, fun x hx => ?_, fun he => by simp at he; omega, fun he z hz => ?_⟩
      · obtain ⟨z, hz, hz2⟩ := h2 x hx
        exact ⟨z, List.mem_cons_of_mem _ hz, hz2⟩
      · rcases List.mem_cons.1 hz with rfl | hz
        · exact hg
        · exact h4 he z hz
    · rw [withS, if_neg hs] at e
      refine ⟨n :: r, by rw [e, List.append_assoc]; rfl, by simp; omega, fun x hx => ?_, fun he i hi hi' => ?_, fun he => by cases he⟩
      · rcases List.mem_cons.1 hx with rfl | hx
        · exact ⟨y, List.mem_cons_self, hg⟩
        · obtain ⟨z, hz, hz2⟩ := h2 x hx
          exact ⟨z, List.mem_cons_of_mem _ hz, hz2⟩
      · cases i with
        | zero => exact hg
        | succ i => exact h3 (by simpa using he) i (by simpa using hi) (by simpa using hi')
theorem can_all {K : Nat} : ∀ (ys : List Letter) (r s : List Int), ys.length = r.length → (∀ i (h : i < r.length) (h' : i < ys.length), r[i] ∈ soundsTo K ∧ r[i] ≠ -1 ∧ givesM ys[i] r[i] = true) → Can K ys s (s ++ r)
  | [], [], s, _, _ => by rw [List.append_nil]; exact .nil _
  | [], x :: r, s, h, _ => by simp at h
  | y :: ys, [], s, h, _ => by simp at h
  | y :: ys, x :: r, s, h, hh => by
    obtain ⟨h1, h2, h3⟩ := hh 0 (by simp) (by simp)
    refine .cons y ys s _ x h1 h3 ?_
    have h1' : x ≠ -1 := h2
    have := can_all (K := K) ys r (s ++ [x]) (by simpa using h) fun i hi hi' => hh (i + 1) (by simpa using hi) (by simpa using hi')
    rw [withS, if_neg h1']
    rw [List.append_assoc] at this
    exact this

def idxG (ls : List Letter) (s : Int) : Nat := ls.findIdx fun x => givesM x s
theorem idxG_at {ls : List Letter} {s : Int} {x : Letter} (h : giver ls s = some x) : ∃ hlt : idxG ls s < ls.length, ls[idxG ls s] = x ∧ givesM x s = true ∧ ∀ p (hp : p < ls.length), givesM ls[p] s = true → idxG ls s ≤ p := by
  have h' := h
  rw [giver, List.find?_eq_some_iff_getElem] at h'
  obtain ⟨hg, i, hi, rfl, hno⟩ := h'
  have e : idxG ls s = i := by
    unfold idxG
    rw [List.findIdx_eq hi]
    exact ⟨hg, fun j hj => by simpa using hno j hj⟩
  refine ⟨by omega, by simp only [e], hg, fun p hp hgp => ?_⟩
  rw [e]
  rcases Nat.lt_or_ge p i with h1 | h1
  · have := hno p h1
    simp [hgp] at this
  · exact h1
/-- the places of the letters of a text -/
def atTo (ls : List Letter) (c : Int) (k : Nat) : List Nat := (List.range k).filter fun j => (ls.getD j noLetter).c == c
def ownTo (ls : List Letter) (T : List Int) (i : Nat) : List Nat := (T.take i).flatMap fun c => atTo ls c ls.length
theorem atTo_yes (ls : List Letter) (c : Int) (k : Nat) (hk : k < ls.length) (h : (ls[k].c == c) = true) : atTo ls c (k + 1) = atTo ls c k ++ [k] := by
  unfold atTo
  rw [List.range_succ, List.filter_append, List.filter_cons, letD_at ls hk, h]
  simp
theorem atTo_no (ls : List Letter) (c : Int) (k : Nat) (hk : k < ls.length) (h : (ls[k].c == c) = false) : atTo ls c (k + 1) = atTo ls c k := by
  unfold atTo
  rw [List.range_succ, List.filter_append, List.filter_cons, letD_at ls hk, h]
  simp
theorem atTo_len (ls : List Letter) (c : Int) (k : Nat) : (atTo ls c k).length ≤ k := by
  have := List.length_filter_le (fun j => (ls.getD j noLetter).c == c) (List.range k)
  simpa [atTo] using this
theorem ownTo_succ (ls : List Letter) (T : List Int) (i : Nat) (h : i < T.length) : ownTo ls T (i + 1) = ownTo ls T i ++ atTo ls T[i] ls.length := by
  unfold ownTo
  rw [List.take_succ_eq_append_getElem h, List.flatMap_append]
  simp
theorem ownTo_len (ls : List Letter) (T : List Int) (i : Nat) : (ownTo ls T i).length ≤ i * ls.length := by
  have h : ∀ L : List Int, (L.flatMap fun c => atTo ls c ls.length).length ≤ L.length * ls.length := fun L => by
    induction L with
    | nil => simp
    | cons c L ih =>
      have := atTo_len ls c ls.length
      rw [List.flatMap_cons, List.length_append, List.length_cons, Nat.succ_mul]; omega
  have h1 := h (T.take i)
  have h2 := List.length_take_le i T
  exact Nat.le_trans h1 (Nat.mul_le_mul_right _ h2)
theorem atTo_one {ls : List Letter} (hp : ls.Pairwise (fun a b => a.c ≠ b.c)) {p : Nat} (h : p < ls.length) : atTo ls ls[p].c ls.length = [p] := by
  have h1 : ∀ k, k ≤ ls.length → atTo ls ls[p].c k = if p < k then [p] else [] := by
    intro k
    induction k with
    | zero => intro _; rfl
    | succ k ih =>
      intro hk
      have ih := ih (by omega)
      by_cases e : k = p
      · subst e
        rw [atTo_yes ls _ k (by omega) (by simp), ih, if_neg (by omega), if_pos (by omega)]; rfl
      · rw [atTo_no ls _ k (by omega) ?_, ih]
        · by_cases h2 : p < k
          · rw [if_pos h2, if_pos (by omega)]
          · rw [if_neg h2, if_neg (by omega)]
        · rw [beq_eq_false_iff_ne]
          rcases Nat.lt_or_ge k p with h2 | h2
          · exact List.pairwise_iff_getElem.1 hp k p (by omega) h h2
          · exact fun e2 => List.pairwise_iff_getElem.1 hp p k h (by omega) (by omega) e2.symm
  rw [h1 _ (Nat.le_refl _), if_pos h]
theorem ownTo_placed {ls : List Letter} (hp : ls.Pairwise (fun a b => a.c ≠ b.c)) {P : List Nat} (hP : ∀ n ∈ P, n < ls.length) : ownTo ls (placed ls P) (placed ls P).length = P := by
  unfold ownTo
  rw [List.take_length]
  induction P with
  | nil => rfl
  | cons n P ih =>
    have hn := hP n (by simp)
    have e : placed ls (n :: P) = ls[n].c :: placed ls P := by
      show (ls.getD n noLetter).c :: _ = _
      rw [letD_at ls hn]; rfl
    rw [e, List.flatMap_cons, atTo_one hp hn, ih fun m hm => hP m (by simp [hm])]
    rfl
theorem shortE_cases (ls : List Letter) (l : List Int) : (shortE ls l = 0 ∧ ∀ s ∈ l, (giver ls s).isSome = true) ∨ (shortE ls l = 9 ∧ shortS ls l = []) := by
  cases h : l.all fun s => (giver ls s).isSome
  · right; simp [shortE, shortS, h]
  · left; exact ⟨by simp [shortE, h], List.all_eq_true.1 h⟩
/-- the text of Spell, by places -/
theorem short_placed {ls : List Letter} {l : List Int} (h : ∀ s ∈ l, (giver ls s).isSome = true) : shortS ls l = placed ls (l.map (idxG ls)) ∧ ∀ n ∈ l.map (idxG ls), n < ls.length := by
  have hall : (l.all fun s => (giver ls s).isSome) = true := List.all_eq_true.2 h
  constructor
  · rw [shortS, if_pos hall, textTo, List.take_length, placed, placedL, List.map_map, List.map_map]
    clear hall
    induction l with
    | nil => rfl
    | cons s l ih =>
      obtain ⟨x, hx⟩ := Option.isSome_iff_exists.1 (h s (by simp))
      obtain ⟨h1, h2, -⟩ := idxG_at hx
      rw [List.filterMap_cons, hx]
      simp only [Option.map_some, List.map_cons]
      rw [ih fun s hs => h s (by simp [hs])]
      congr 1
      show x.c = (ls.getD (idxG ls s) noLetter).c
      rw [letD_at ls h1, h2]
  · intro n hn
    rw [List.mem_map] at hn
    obtain ⟨s, hs, rfl⟩ := hn
    obtain ⟨x, hx⟩ := Option.isSome_iff_exists.1 (h s hs)
    exact (idxG_at hx).1
theorem giver_some {ls : List Letter} {s : Int} (h : ∃ y ∈ ls, givesM y s = true) : (giver ls s).isSome = true := by
  obtain ⟨y, hy, hg⟩ := h
  rw [giver, List.find?_isSome]
  exact ⟨y, hy, hg⟩
theorem placedL_mem {ls : List Letter} {P : List Nat} (hP : ∀ n ∈ P, n < ls.length) : ∀ y ∈ placedL ls P, y ∈ ls := by
  intro y hy
  simp only [placedL, List.mem_map] at hy
  obtain ⟨n, hn, rfl⟩ := hy
  rw [letD_at ls (hP n hn)]
  exact List.getElem_mem _
theorem less_ge : ∀ (l m : List Nat), l.length = m.length → (∀ i (h : i < l.length) (h' : i < m.length), m[i] ≤ l[i]) → lessM (ints l) (ints m) = false
  | [], [], _, _ => rfl
  | [], _ :: _, h, _ => by simp at h
  | _ :: _, [], h, _ => by simp at h
  | x :: l, y :: m, h, hh => by
    have h0 : y ≤ x := hh 0 (by simp) (by simp)
    have ih := less_ge l m (by simpa using h) fun i hi hi' => hh (i + 1) (by simpa using hi) (by simpa using hi')
    show lessM ((x : Int) :: ints l) ((y : Int) :: ints m) = false
    unfold lessM
    split
    · exact ih
    · exact decide_eq_false (by omega)
/-- whatever letters can be heard so: Spell finds a text, which does not come behind them -/
theorem spelt_least {K : Nat} {ls : List Letter} {P : List Nat} {S : List Int} (hP : ∀ n ∈ P, n < ls.length) (h0 : P ≠ []) (hc : Can K (placedL ls P) [] S) :
    (∀ s ∈ wantedM S, (giver ls s).isSome = true) ∧ fewerM (ints P) (ints ((wantedM S).map (idxG ls))) = false := by
  obtain ⟨r, e, h1, h2, h3, h4⟩ := can_parts hc
  rw [List.nil_append] at e
  subst e
  have hlen : (placedL ls P).length = P.length := by simp [placedL]
  have hpos : 0 < P.length := List.length_pos_iff.2 h0
  have hmem := placedL_mem hP
  have hat : ∀ i (hi : i < P.length) (hi' : i < (placedL ls P).length), ∃ hlt : P[i] < ls.length, (placedL ls P)[i] = ls[P[i]] := fun i hi hi' => by
    have := hP _ (List.getElem_mem hi)
    refine ⟨this, ?_⟩
    simp only [placedL, List.getElem_map]
    exact letD_at ls this
  by_cases hS : S = []
  · subst hS
    have h4 := h4 rfl
    have hg := h4 (placedL ls P)[0] (List.getElem_mem (by omega))
    have hsome : (giver ls (-1)).isSome = true := giver_some ⟨_, hmem _ (List.getElem_mem (show 0 < (placedL ls P).length by omega)), hg⟩
    have hw : wantedM [] = [-1] := rfl
    rw [hw]
    refine ⟨fun s hs => by rw [List.mem_singleton] at hs; subst hs; exact hsome, ?_⟩
    unfold fewerM
    split
    · refine less_ge _ _ (by simpa [ints] using ‹(ints P).length = _›) fun i hi hi' => ?_
      have hi0 : i < 1 := by simpa using hi'
      obtain rfl : i = 0 := by omega
      obtain ⟨hlt, e2⟩ := hat 0 hi (by omega)
      rw [e2] at hg
      obtain ⟨x, hx⟩ := Option.isSome_iff_exists.1 hsome
      obtain ⟨-, -, -, h5⟩ := idxG_at hx
      simpa using h5 _ hlt hg
    · have : (ints P).length = P.length := by simp [ints]
      rw [decide_eq_false_iff_not, this]
      show ¬ P.length < 1
      omega
  · have hw : wantedM S = S := by rw [wantedM, if_neg hS]
    rw [hw]
    have hsome : ∀ s ∈ S, (giver ls s).isSome = true := fun s hs => by
      obtain ⟨y, hy, hg⟩ := h2 s hs
      exact giver_some ⟨y, hmem y hy, hg⟩
    refine ⟨hsome, ?_⟩
    unfold fewerM
    have l1 : (ints P).length = P.length := by simp [ints]
    have l2 : (ints (S.map (idxG ls))).length = S.length := by simp [ints]
    rw [l1, l2]
    split
    · rename_i hle
      refine less_ge _ _ (by simpa using hle) fun i hi hi' => ?_
      have hi2 : i < S.length := by simpa using hi'
      obtain ⟨hlt, e2⟩ := hat i hi (by omega)
      have hg := h3 (by omega) i hi2 (by omega)
      rw [e2] at hg
      obtain ⟨x, hx⟩ := Option.isSome_iff_exists.1 (hsome _ (List.getElem_mem hi2))
      obtain ⟨-, -, -, h5⟩ := idxG_at hx
      rw [List.getElem_map]
      exact h5 _ hlt hg
    · rw [decide_eq_false_iff_not]; omega
/-- the text of Spell can be heard so -/
theorem spelt_can {K : Nat} {ls : List Letter} {S : List Int} (hd : ∀ s ∈ S, 0 ≤ s ∧ s < (K : Int) - 1) (h : ∀ s ∈ wantedM S, (giver ls s).isSome = true) (hK : 0 < K) : Can K (placedL ls ((wantedM S).map (idxG ls))) [] S := by
  by_cases hS : S = []
  · subst hS
    have hw : wantedM [] = [-1] := rfl
    rw [hw] at h ⊢
    obtain ⟨x, hx⟩ := Option.isSome_iff_exists.1 (h (-1) (by simp))
    obtain ⟨h1, h2, h3, -⟩ := idxG_at hx
    have e : placedL ls ([-1].map (idxG ls)) = [x] := by
      show [ls.getD (idxG ls (-1)) noLetter] = [x]
      rw [letD_at ls h1, h2]
    rw [e]
    exact .cons x [] [] [] (-1) (mem_soundsTo.2 (by omega)) h3 (.nil _)
  · have hw : wantedM S = S := by rw [wantedM, if_neg hS]
    rw [hw] at h ⊢
    have := can_all (K := K) (placedL ls (S.map (idxG ls))) S [] (by simp [placedL]) fun i hi hi' => by
      have hs := hd _ (List.getElem_mem hi)
      obtain ⟨x, hx⟩ := Option.isSome_iff_exists.1 (h _ (List.getElem_mem hi))
      obtain ⟨h1, h2, h3, -⟩ := idxG_at hx
      refine ⟨mem_soundsTo.2 (by omega), by omega, ?_⟩
      simp only [placedL, List.getElem_map]
      rw [letD_at ls h1, h2]
      exact h3
    rwa [List.nil_append] at this
end Go.Proofs.Ytoifmphpeflliaa

namespace Go.Proofs.Ytoifmphpeflliaa
open Go.RowKit
set_option linter.unusedVariables false

/-! ### a book that is as the document says has no error -/
theorem firstErrFrom_all {α : Type} (f : List α → α → Int) : ∀ (r pre : List α), (∀ k (hk : k < r.length), f (pre ++ r.take k) r[k] = 0) → (firstErrFrom f pre r).2 = 0
  | [], _, _ => rfl
  | x :: r, pre, h => by
    have h0 := h 0 (by simp)
    simp only [List.take_zero, List.append_nil, List.getElem_cons_zero] at h0
    unfold firstErrFrom
    rw [if_pos h0]
    refine firstErrFrom_all f r (pre ++ [x]) fun k hk => ?_
    have := h (k + 1) (by simpa using hk)
    simpa using this
theorem firstErr_all {α : Type} (f : List α → α → Int) (l : List α) (h : ∀ k (hk : k < l.length), f (l.take k) l[k] = 0) : (firstErr f l).2 = 0 :=
  firstErrFrom_all f l [] fun k hk => by simpa using h k hk
theorem letterErr_make {S : Int} {l : List Letter} {x : Letter} (h : ValidLetter S x) (hn : (l.any fun y => y.c == x.c) = false) : letterErrM S l x = 0 := by
  unfold letterErrM
  rw [if_neg, if_neg, if_neg, if_neg]
  · intro e
    simp only [Bool.and_eq_true, beq_iff_eq, Bool.not_eq_true'] at e
    rcases h.g with h1 | h1
    · exact h1 e.1
    · rw [h1] at e; simp at e
  · rw [Bool.not_eq_false, inM_iff]; exact h.s
  · rw [hn]; decide
  · rw [Bool.not_eq_false, inM_iff]; exact h.c
theorem alphabetErr_make {S : Int} {l : List Alphabet} {x : Alphabet} (h : ValidAlphabet S x) (hn : (l.any fun y => y.name.toList == x.name.toList) = false) : alphabetErrM S l x = 0 := by
  unfold alphabetErrM
  rw [if_neg, if_neg, if_neg]
  · exact firstErr_all _ _ fun k hk => letterErr_make (h.fine k hk).1 (h.fine k hk).2
  · rw [Bool.not_eq_false, inM_iff]; have := h.l; omega
  · rw [hn]; decide
  · rw [h.n]; decide
theorem spellingErr_make {al : List Alphabet} {x : Spelling} (h : ValidSpelling al x) : spellingErrM al x = 0 := by
  unfold spellingErrM
  rw [if_neg, if_neg, if_neg]
  · rw [Bool.not_eq_false]
    unfold textOk
    rw [List.all_eq_true]
    exact fun j hj => h.k j (List.mem_range.1 hj)
  · rw [Bool.not_eq_false, inM_iff]; have := h.t; omega
  · rw [Bool.not_eq_false, inM_iff]; have := h.a; omega
theorem err_valid {b : Book} (h : Valid b) : errM b = 0 := by
  refine errM_make (al := []) (sp := []) ((inM_iff _ _ _).2 h.s) ((inM_iff _ _ _).2 (by have := h.a; omega)) ?_ h.n ?_
  · exact firstErr_all _ _ fun k hk => alphabetErr_make (h.al k hk).1 (h.al k hk).2
  · exact firstErr_all _ _ fun k hk => spellingErr_make (h.sp k hk)

/-! ### letters that go together -/
/-- two alphabets have the same letters, those of one byte go together -/
def Pairs (G : Letter → Letter → Prop) (ls ls' : List Letter) : Prop :=
  ∀ c, (ls.find? (fun y => y.c == c) = none ∧ ls'.find? (fun y => y.c == c) = none) ∨ ∃ x y, ls.find? (fun y => y.c == c) = some x ∧ ls'.find? (fun y => y.c == c) = some y ∧ G x y
theorem pairs_of_at {G : Letter → Letter → Prop} : ∀ {ls ls' : List Letter}, ls.length = ls'.length → (∀ i (h : i < ls.length) (h' : i < ls'.length), ls'[i].c = ls[i].c ∧ G ls[i] ls'[i]) → Pairs G ls ls'
  | [], [], _, _ => fun c => .inl ⟨rfl, rfl⟩
  | [], _ :: _, h, _ => by simp at h
  | _ :: _, [], h, _ => by simp at h
  | x :: ls, y :: ls', h, hh => fun c => by
    have h0 := hh 0 (by simp) (by simp)
    simp only [List.getElem_cons_zero] at h0
    have ih := pairs_of_at (G := G) (ls := ls) (ls' := ls') (by simpa using h) (fun i hi hi' => hh (i + 1) (by simpa using hi) (by simpa using hi')) c
    rw [List.find?_cons, List.find?_cons, h0.1]
    cases hc : x.c == c
    · simpa only [hc] using ih
    · exact .inr ⟨x, y, rfl, rfl, h0.2⟩
theorem find_mem {ls : List Letter} (hp : ls.Pairwise (fun a b => a.c ≠ b.c)) {c : Int} {x : Letter} : ls.find? (fun y => y.c == c) = some x ↔ x ∈ ls ∧ x.c = c := by
  constructor
  · intro h
    exact ⟨List.mem_of_find?_eq_some h, by have := List.find?_some h; simpa using this⟩
  · rintro ⟨h, rfl⟩
    obtain ⟨i, hi, rfl⟩ := List.getElem_of_mem h
    exact letter_at hp hi
theorem pairs_reverse {ls : List Letter} (hp : ls.Pairwise (fun a b => a.c ≠ b.c)) (hp' : ls.reverse.Pairwise (fun a b => a.c ≠ b.c)) : Pairs (fun x y => x = y) ls ls.reverse := fun c => by
  cases h : ls.find? (fun y => y.c == c) with
  | none =>
    refine .inl ⟨rfl, ?_⟩
    rw [List.find?_eq_none] at h ⊢
    exact fun x hx => h x (List.mem_reverse.1 hx)
  | some x =>
    obtain ⟨h1, h2⟩ := (find_mem hp).1 h
    exact .inr ⟨x, x, rfl, (find_mem hp').2 ⟨List.mem_reverse.2 h1, h2⟩, rfl⟩
/-- two books that go together -/
structure TwoB (G : Letter → Letter → Prop) (b b' : Book) : Prop where
  s : b'.sounds = b.sounds
  l : b'.alphabets.length = b.alphabets.length
  sp : b'.spellings = b.spellings
  p : ∀ a (h : a < b.alphabets.length) (h' : a < b'.alphabets.length), Pairs G (b.alphabets[a]).letters (b'.alphabets[a]).letters
theorem TwoB.letters {G : Letter → Letter → Prop} {b b' : Book} (h : TwoB G b b') (a : Int) (ha : 0 ≤ a ∧ a < b.alphabets.length) : Pairs G (lettersOf b.alphabets a) (lettersOf b'.alphabets a) := by
  have h1 : a.toNat < b.alphabets.length := by omega
  have h2 : a.toNat < b'.alphabets.length := by rw [h.l]; exact h1
  unfold lettersOf
  rw [List.getElem?_eq_getElem h1, List.getElem?_eq_getElem h2]
  exact h.p _ h1 h2
theorem known_pairs {G : Letter → Letter → Prop} {ls ls' : List Letter} (h : Pairs G ls ls') {s : ByteArray} {k : Nat} (hk : knownB ls s k = true) : knownB ls' s k = true ∧ G (letterOf ls s k) (letterOf ls' s k) := by
  unfold knownB at hk
  rw [List.any_eq_true] at hk
  obtain ⟨y, hy, hyc⟩ := hk
  rcases h (byteAt s k) with ⟨h1, -⟩ | ⟨x, z, h1, h2, h3⟩
  · rw [List.find?_eq_none] at h1
    exact absurd hyc (h1 y hy)
  · refine ⟨?_, ?_⟩
    · unfold knownB
      rw [List.any_eq_true]
      exact ⟨z, List.mem_of_find?_eq_some h2, by have := List.find?_some h2; simpa using this⟩
    · unfold letterOf
      rw [h1, h2]; exact h3
theorem TwoB.spelling {G : Letter → Letter → Prop} {b b' : Book} (h : TwoB G b b') {x : Spelling} (hx : ValidSpelling b.alphabets x) : ValidSpelling b'.alphabets x :=
  ⟨by rw [h.l]; exact hx.a, hx.t, fun j hj => (known_pairs (h.letters _ hx.a) (hx.k j hj)).1⟩
/-- a book that goes together with one without an error, if its alphabets are fine -/
theorem TwoB.valid {G : Letter → Letter → Prop} {b b' : Book} (h : TwoB G b b') (hv : Valid b) (hal : ∀ k (hk : k < b'.alphabets.length), ValidAlphabet b.sounds b'.alphabets[k] ∧ ((b'.alphabets.take k).any fun y => y.name.toList == (b'.alphabets[k]).name.toList) = false) : Valid b' :=
  ⟨by rw [h.s]; exact hv.s, by rw [h.l]; exact hv.a, fun k hk => by rw [h.s]; exact hal k hk, by rw [h.sp]; exact hv.n, fun k hk => by
    have hk' : k < b.spellings.length := by rw [← h.sp]; exact hk
    have e : b'.spellings[k] = b.spellings[k] := by simp only [h.sp]
    rw [e]
    exact h.spelling (hv.sp k hk')⟩
theorem TwoB.at_ {G : Letter → Letter → Prop} {b b' : Book} (h : TwoB G b b') (hv : Valid b) {n : Nat} (hn : n < b.spellings.length) : (lettersAt b' n).length = (lettersAt b n).length ∧ ∀ i (hi : i < (lettersAt b n).length) (hi' : i < (lettersAt b' n).length), G (lettersAt b n)[i] (lettersAt b' n)[i] := by
  have hn' : n < b'.spellings.length := by rw [h.sp]; exact hn
  have e : b'.spellings[n] = b.spellings[n] := by simp only [h.sp]
  have hs := hv.sp n hn
  have e1 := lettersAt_eq b n hn
  have e2 := lettersAt_eq b' n hn'
  rw [e] at e2
  generalize b.spellings[n] = x at *
  have hp := h.letters _ hs.a
  simp only [e1, e2]
  unfold lettersM
  refine ⟨by rw [lettersTo_len, lettersTo_len], fun i hi hi' => ?_⟩
  rw [lettersTo_len] at hi
  simp only [lettersTo, List.getElem_map, List.getElem_range]
  exact (known_pairs hp (hs.k i hi)).2
/-! ### what they can be -/
theorem can_pairs {K : Nat} (m : Int → Int) (hm1 : ∀ n, n = -1 ↔ m n = -1) : ∀ {ys ys' : List Letter} {s t : List Int}, ys'.length = ys.length → (∀ i (h : i < ys.length) (h' : i < ys'.length), ∀ n ∈ soundsTo K, givesM ys[i] n = true → m n ∈ soundsTo K ∧ givesM ys'[i] (m n) = true) → Can K ys s t → Can K ys' (s.map m) (t.map m)
  | [], ys', s, t, hl, hh, h => by
    obtain rfl : ys' = [] := List.eq_nil_of_length_eq_zero hl
    cases h; exact .nil _
  | y :: ys, [], s, t, hl, hh, h => by simp at hl
  | y :: ys, z :: ys', s, t, hl, hh, h => by
    cases h with
    | cons _ _ _ _ n hn hg h =>
      obtain ⟨h1, h2⟩ := hh 0 (by simp) (by simp) n hn hg
      refine .cons z ys' _ _ (m n) h1 h2 ?_
      have e : withS (s.map m) (m n) = (withS s n).map m := by
        unfold withS
        by_cases e : n = -1
        · rw [if_pos e, if_pos ((hm1 n).1 e)]
        · rw [if_neg e, if_neg fun e2 => e ((hm1 n).2 e2), List.map_append]; rfl
      rw [e]
      exact can_pairs m hm1 (by simpa using hl) (fun i hi hi' => hh (i + 1) (by simpa using hi) (by simpa using hi')) h
theorem strings_pairs {b b' : Book} {G : Letter → Letter → Prop} (h : TwoB G b b') (hv : Valid b) (m : Int → Int) (hm1 : ∀ n, n = -1 ↔ m n = -1) (hG : ∀ x y, G x y → ∀ n ∈ soundsTo (b.sounds.toNat + 1), givesM x n = true → m n ∈ soundsTo (b.sounds.toNat + 1) ∧ givesM y (m n) = true)
    {n : Nat} (hn : n < b.spellings.length) {t : List Int} (ht : t ∈ stringsOf b n) : t.map m ∈ stringsOf b' n := by
  obtain ⟨h1, h2⟩ := h.at_ hv hn
  unfold stringsOf at ht ⊢
  rw [h.s]
  have := can_pairs (K := b.sounds.toNat + 1) m hm1 h1 (fun i hi hi' => hG _ _ (h2 i hi hi')) (mem_yields.1 ht)
  exact mem_yields.2 this
theorem keys_one {b : Book} {n : Nat} {t : List Int} : t ∈ (canM b [n]).map (·.1) ↔ t ∈ stringsOf b n := by rw [canM_keys]; simp
theorem nodup_le {α : Type} [DecidableEq α] : ∀ {l m : List α}, l.Nodup → (∀ x ∈ l, x ∈ m) → l.length ≤ m.length
  | [], _, _, _ => Nat.zero_le _
  | x :: l, m, h, hh => by
    rw [List.nodup_cons] at h
    have hx := hh x (by simp)
    have := nodup_le (l := l) (m := m.erase x) h.2 fun y hy => (List.mem_erase_of_ne (fun e => h.1 (by rw [← e]; exact hy))).2 (hh y (by simp [hy]))
    rw [List.length_erase_of_mem hx] at this
    have := List.length_pos_of_mem hx
    simp; omega
/-- as many strings at least, if each string goes to one of the other's, no two to the same -/
theorem count_le {b b' : Book} (hv : Valid b) {n : Nat} (hn : n < b.spellings.length) (f : List Int → List Int) (hf : ∀ s ∈ stringsOf b n, ∀ t ∈ stringsOf b n, f s = f t → s = t) (h : ∀ t ∈ stringsOf b n, f t ∈ stringsOf b' n) : (canM b [n]).length ≤ (canM b' [n]).length := by
  have hnd := canM_nodup hv (l := [n]) (by simp [hn])
  have h1 : (((canM b [n]).map (·.1)).map f).Nodup := by
    rw [List.nodup_iff_pairwise_ne, List.pairwise_map]
    rw [List.nodup_iff_pairwise_ne] at hnd
    exact hnd.imp_of_mem fun {s t} hs ht hne e => hne (hf s (keys_one.1 hs) t (keys_one.1 ht) e)
  have h2 := nodup_le (m := (canM b' [n]).map (·.1)) h1 fun x hx => by
    rw [List.mem_map] at hx
    obtain ⟨t, ht, rfl⟩ := hx
    exact keys_one.2 (h t (keys_one.1 ht))
  simpa using h2
theorem odd_none {b : Book} (h : b.spellings.length = 0) : oddL b = [] := by
  have := (oddL_fine b).2
  rw [h] at this
  match hL : oddL b, this with
  | [], _ => rfl
  | x :: l, h2 => have := h2 x (by simp); omega
/-- no more are odd, if all that is common to some is told of something common -/
theorem odd_le {b b' : Book} (hv : Valid b) (hv' : Valid b') (hsp : b'.spellings.length = b.spellings.length) (h : ∀ l : List Nat, (∀ n ∈ l, n < b.spellings.length) → (∃ k, All b l k) → ∃ k, All b' l k) : (oddL b').length ≤ (oddL b).length := by
  by_cases h0 : b.spellings.length = 0
  · rw [odd_none (by rw [hsp]; exact h0)]; exact Nat.zero_le _
  · obtain ⟨h1, h2⟩ := odd_common hv (by omega)
    have h3 := h _ (fun n hn => (mem_others.1 hn).1) h2
    obtain ⟨g1, g2⟩ := oddL_fine b
    have := odd_least hv' (l := oddL b) (by rw [hsp]; exact g2) g1 (by rw [hsp]; exact h3)
    have h4 := len_le_of_not (l := oddL b) (m := oddL b') fun hc => by
      have := (fewerM_cmp (ints (oddL b)) (ints (oddL b'))).2 hc
      simp_all
    exact h4
theorem fewer_asymm : ∀ {l m : List Nat}, l.length = m.length → lessM (ints l) (ints m) = false → lessM (ints m) (ints l) = false → l = m
  | [], [], _, _, _ => rfl
  | [], _ :: _, h, _, _ => by simp at h
  | _ :: _, [], h, _, _ => by simp at h
  | x :: l, y :: m, h, h1, h2 => by
    have := lessM_total (ints (x :: l)) (ints (y :: m)) h1 h2
    have e : (ints (x :: l)).map Int.toNat = (ints (y :: m)).map Int.toNat := by rw [this]
    have back : ∀ l : List Nat, (ints l).map Int.toNat = l := fun l => by
      unfold ints; rw [List.map_map]
      conv => rhs; rw [← List.map_id l]
      apply List.map_congr_left
      intro x _; simp
    rwa [back, back] at e
/-- as many, and the same, are odd, if what is common goes both ways -/
theorem odd_same {b b' : Book} (hv : Valid b) (hv' : Valid b') (hsp : b'.spellings.length = b.spellings.length) (h : ∀ l : List Nat, (∀ n ∈ l, n < b.spellings.length) → ((∃ k, All b l k) ↔ ∃ k, All b' l k)) : oddL b' = oddL b := by
  have h1 := odd_le hv hv' hsp fun l hl hh => (h l hl).1 hh
  have h2 := odd_le hv' hv hsp.symm fun l hl hh => (h l (by rw [← hsp]; exact hl)).2 hh
  by_cases h0 : b.spellings.length = 0
  · rw [odd_none h0, odd_none (by rw [hsp]; exact h0)]
  · have hlen : (oddL b').length = (oddL b).length := by omega
    obtain ⟨-, c1⟩ := odd_common hv (by omega)
    obtain ⟨-, c2⟩ := odd_common hv' (by omega)
    rw [hsp] at c2
    obtain ⟨g1, g2⟩ := oddL_fine b
    obtain ⟨g3, g4⟩ := oddL_fine b'
    rw [hsp] at g4
    have f1 := odd_least hv' (l := oddL b) (by rw [hsp]; exact g2) g1 (by rw [hsp]; exact (h _ (fun n hn => (mem_others.1 hn).1)).1 c1)
    have f2 := odd_least hv (l := oddL b') g4 g3 ((h _ (fun n hn => (mem_others.1 hn).1)).2 c2)
    have e1 : (ints (oddL b')).length = (ints (oddL b)).length := by simp [ints, hlen]
    unfold fewerM at f1 f2
    rw [if_pos e1.symm] at f1
    rw [if_pos e1] at f2
    exact fewer_asymm hlen f2 f1
end Go.Proofs.Ytoifmphpeflliaa
