/-
  WHAT Said OF THE STATEMENTS RETURNS: one of the strings that a spelling can be. The plain facts, and the walk.
  THE TEXTS OF Spell OF THE REFERENCE, letter by letter, and that the first of them that can be heard so is what the program's Spell finds: plain facts.
  A BOOK WITH ONE SPELLING OF ONE LETTER: it has no error, and its spelling can be as many strings as the letter can give things. Plain facts.
  THE TEXT OF Spell AS A SPELLING: it can be heard so, and no spelling of other letters that comes before it can. Plain facts.
  A BOOK THAT IS HANDED IN, opened: lists of letters, alphabets and spellings as they lie in memory.
  ARRAYS OF NUMBERS THAT ARE HANDED IN, opened; and lists of numbers.
  A BOOK WITH A NUMBER AND TWO LISTS OF NUMBERS, handed in as one struct, opened.
  A CALL THAT LETS ALL BE AS IT WAS, AND ANSWERS AS IT SHOULD, KEEPS A LAW's WORD.
  What TopSpelt goes by.
  sounds: what is heard, for TopSpelt.
  Two notes that differ in their name: plain facts for TopSpelt.
  A name that is spelt is a word, and can be heard: plain facts for TopSpelt.
-/
import Derived.Test.YtnfbhicoknpojaaGreatBunAP
import Derived.Test.YtnfbhicoknpojaaGreatBunAO
import Derived.Test.YtnfbhicoknpojaaGreatBunAA
import Derived.Deep.Slices
import Derived.Deep.Strs
import Derived.WideKeyArgs
import Derived.OpenShut
import Derived.Lib.SmallJoins
import Derived.ProofKit
import Derived.Test.YtnfbhicoknpojaaGreatBunAL
import Derived.Test.YtnfbhicoknpojaaGreatBunAI
import Derived.Test.YtnfbhicoknpojaaGreatBunAM
import Derived.Test.YtnfbhicoknpojaaGreatBunAK
import Derived.Test.YtnfbhicoknpojaaGreatBunAJ
namespace Go.Proofs.YtnfbhicoknpojaaGreat
set_option linter.unusedSimpArgs false
set_option linter.unusedVariables false
set_option linter.unnecessarySimpa false
open Go.RowKit
set_option linter.unusedVariables false

theorem bitM_test : ∀ (n : Nat) (c : Int), 0 ≤ c → bitM n c = c.toNat.testBit n
  | 0, c, h => by
    rw [bitM, Int.tmod_eq_emod_of_nonneg h, Nat.testBit_zero]
    have e : (c % 2 == 1) = decide (c.toNat % 2 = 1) := by
      rw [Bool.eq_iff_iff]; simp; omega
    rw [e]
  | n + 1, c, h => by
    rw [bitM, Int.tdiv_eq_ediv_of_nonneg h, bitM_test n (c / 2) (by omega), Nat.testBit_succ]
    congr 1
    omega
/-- what a letter can give: its sounds, then silence -/
def canY (S : Nat) (y : Letter) : List Int := ints (pickTo y.sounds S) ++ if y.silent = true then [-1] else []
/-- what the letters with a byte can give -/
def canTo (S : Nat) (ls : List Letter) (c : Int) (k : Nat) : List Int := (ls.take k).flatMap fun y => if (y.c == c) = true then canY S y else []
theorem canTo_no (S : Nat) (ls : List Letter) (c : Int) (k : Nat) (hk : k < ls.length) (h : (ls[k].c == c) = false) : canTo S ls c (k + 1) = canTo S ls c k := by
  unfold canTo; rw [List.take_succ_eq_append_getElem hk, List.flatMap_append, List.flatMap_cons, List.flatMap_nil, if_neg (by rw [h]; decide)]; simp
theorem canTo_yes (S : Nat) (ls : List Letter) (c : Int) (k : Nat) (hk : k < ls.length) (h : (ls[k].c == c) = true) : canTo S ls c (k + 1) = canTo S ls c k ++ canY S ls[k] := by
  unfold canTo; rw [List.take_succ_eq_append_getElem hk, List.flatMap_append, List.flatMap_cons, List.flatMap_nil, if_pos h]; simp
theorem canY_len (S : Nat) (y : Letter) : (canY S y).length ≤ S + 1 := by
  unfold canY
  have := pickTo_len y.sounds S
  rw [List.length_append]
  have e : (ints (pickTo y.sounds S)).length = (pickTo y.sounds S).length := by simp [ints]
  split <;> simp [e] <;> omega
theorem canTo_len (S : Nat) (ls : List Letter) (c : Int) : ∀ k, (canTo S ls c k).length ≤ k * (S + 1)
  | 0 => by simp [canTo]
  | k + 1 => by
    have ih := canTo_len S ls c k
    by_cases hk : k < ls.length
    · cases h : ls[k].c == c
      · rw [canTo_no S ls c k hk h, Nat.succ_mul]; omega
      · rw [canTo_yes S ls c k hk h, List.length_append, Nat.succ_mul]
        have := canY_len S ls[k]; omega
    · have e : canTo S ls c (k + 1) = canTo S ls c k := by unfold canTo; rw [List.take_of_length_le (by omega), List.take_of_length_le (by omega)]
      rw [e, Nat.succ_mul]; omega
theorem mem_canY {S : Nat} {y : Letter} (hy : 0 ≤ y.sounds) {n : Int} : n ∈ canY S y → n ∈ soundsTo (S + 1) ∧ givesM y n = true := by
  unfold canY
  intro h
  rcases List.mem_append.1 h with h | h
  · simp only [ints, List.mem_map] at h
    obtain ⟨m, hm, rfl⟩ := h
    have hlt := pickTo_lt hm
    simp only [pickTo, List.mem_filter, List.mem_range] at hm
    refine ⟨mem_soundsTo.2 (by omega), ?_⟩
    rw [givesM, if_neg (by omega)]
    have := hm.2
    rw [bitM_test _ _ hy] at this
    simpa using this
  · split at h
    · rename_i hs
      obtain rfl : n = -1 := by simpa using h
      exact ⟨mem_soundsTo.2 (by omega), by rw [givesM, if_pos rfl]; exact hs⟩
    · simp at h
theorem canY_some {S : Nat} {y : Letter} (hy : 0 ≤ y.sounds) (h : ∃ n ∈ soundsTo (S + 1), givesM y n = true) : canY S y ≠ [] := by
  obtain ⟨n, hn, hg⟩ := h
  have hn := mem_soundsTo.1 hn
  unfold canY
  by_cases h1 : n = -1
  · subst h1
    rw [givesM, if_pos rfl] at hg
    simp [hg]
  · rw [givesM, if_neg h1] at hg
    have hm : n.toNat ∈ pickTo y.sounds S := by
      simp only [pickTo, List.mem_filter, List.mem_range]
      exact ⟨by omega, by rw [bitM_test _ _ hy]; exact hg⟩
    intro e
    have h2 := (List.append_eq_nil_iff.1 e).1
    simp only [ints, List.map_eq_nil_iff] at h2
    rw [h2] at hm; simp at hm
/-- what is said at a place, by turns -/
def pickM (S : Nat) (ls : List Letter) (s : ByteArray) (x : List Int) (j : Nat) : Int :=
  (canTo S ls (byteAt s j) ls.length).getD ((turnM x j).toNat % (canTo S ls (byteAt s j) ls.length).length) 0
def saidTo (S : Nat) (ls : List Letter) (s : ByteArray) (x : List Int) : Nat → List Int
  | 0 => []
  | j + 1 => withS (saidTo S ls s x j) (pickM S ls s x j)
theorem saidTo_len (S : Nat) (ls : List Letter) (s : ByteArray) (x : List Int) : ∀ j, (saidTo S ls s x j).length ≤ j
  | 0 => Nat.le_refl _
  | j + 1 => by
    have ih := saidTo_len S ls s x j
    rw [saidTo]; unfold withS; split
    · omega
    · rw [List.length_append]; simp; omega
/-- of letters that are told apart by their bytes, what those with a byte can give is what the first one can -/
theorem canTo_letter (S : Nat) (c : Int) : ∀ (ls : List Letter), ls.Pairwise (fun a b => a.c ≠ b.c) → (∃ y ∈ ls, y.c = c) → canTo S ls c ls.length = canY S ((ls.find? fun y => y.c == c).getD ⟨0, 0, true⟩)
  | [], _, h => by obtain ⟨y, hy, -⟩ := h; simp at hy
  | y :: ls, hp, h => by
    rw [List.pairwise_cons] at hp
    unfold canTo
    rw [List.take_length, List.flatMap_cons]
    by_cases hc : y.c = c
    · have hb : (y.c == c) = true := by simpa using hc
      rw [if_pos hb]
      have e : (ls.flatMap fun y => if (y.c == c) = true then canY S y else []) = [] := by
        rw [List.flatMap_eq_nil_iff]
        intro z hz
        rw [if_neg]
        have := hp.1 z hz
        simp only [beq_iff_eq]
        intro e; exact this (by rw [e, hc])
      rw [e, List.append_nil, List.find?_cons]; simp only [hb]; rfl
    · have hb : ¬ ((y.c == c) = true) := by simpa using hc
      have hb' : (y.c == c) = false := by simpa using hc
      rw [if_neg hb, List.nil_append, List.find?_cons]
      simp only [hb']
      have ih := canTo_letter S c ls hp.2 (by
        obtain ⟨z, hz, e⟩ := h
        rcases List.mem_cons.1 hz with rfl | hz
        · exact absurd e hc
        · exact ⟨z, hz, e⟩)
      unfold canTo at ih
      rw [List.take_length] at ih
      exact ih
/-- WHAT IS SAID CAN BE READ -/
theorem said_can {S : Nat} {ls : List Letter} {s : ByteArray} {x : List Int} (hp : ls.Pairwise (fun a b => a.c ≠ b.c)) (hk : ∀ j, j < s.size → knownB ls s j = true) (hf : ∀ y ∈ ls, 0 ≤ y.sounds) (hg : ∀ y ∈ ls, ∃ n ∈ soundsTo (S + 1), givesM y n = true) :
    Can (S + 1) (lettersM ls s) [] (saidTo S ls s x s.size) := by
  have hone : ∀ j, j < s.size → pickM S ls s x j ∈ soundsTo (S + 1) ∧ givesM (letterOf ls s j) (pickM S ls s x j) = true := by
    intro j hj
    have hkj := hk j hj
    unfold knownB at hkj
    rw [List.any_eq_true] at hkj
    obtain ⟨y, hy, hyc⟩ := hkj
    have e := canTo_letter S (byteAt s j) ls hp ⟨y, hy, by simpa using hyc⟩
    have hin : letterOf ls s j ∈ ls := by
      unfold letterOf
      cases hfd : ls.find? fun y => y.c == byteAt s j with
      | none => rw [List.find?_eq_none] at hfd; exact absurd hyc (by simpa using hfd y hy)
      | some z => exact List.mem_of_find?_eq_some hfd
    have e' : canTo S ls (byteAt s j) ls.length = canY S (letterOf ls s j) := e
    have hne := canY_some (hf _ hin) (hg _ hin)
    unfold pickM
    rw [e']
    have hpos : 0 < (canY S (letterOf ls s j)).length := List.length_pos_iff.2 hne
    have hlt := Nat.mod_lt (turnM x j).toNat hpos
    rw [List.getD_eq_getElem?_getD, List.getElem?_eq_getElem hlt]
    exact mem_canY (hf _ hin) (List.getElem_mem hlt)
  have key : ∀ d j, j + d = s.size → Can (S + 1) ((lettersM ls s).drop j) (saidTo S ls s x j) (saidTo S ls s x s.size) := by
    intro d
    induction d with
    | zero =>
      intro j hj
      obtain rfl : j = s.size := by omega
      rw [List.drop_eq_nil_of_le (by rw [lettersM, lettersTo_len]; omega)]
      exact .nil _
    | succ d ih =>
      intro j hj
      have hjl : j < (lettersM ls s).length := by rw [lettersM, lettersTo_len]; omega
      rw [List.drop_eq_getElem_cons hjl]
      have e : (lettersM ls s)[j] = letterOf ls s j := by simp [lettersM, lettersTo]
      rw [e]
      obtain ⟨h1, h2⟩ := hone j (by omega)
      exact .cons _ _ _ _ _ h1 h2 (ih (j + 1) (by omega))
  have := key s.size 0 (by omega)
  simpa [saidTo] using this
end Go.Proofs.YtnfbhicoknpojaaGreat

namespace Go.Proofs.YtnfbhicoknpojaaGreat
set_option linter.unusedSimpArgs false
set_option linter.unusedVariables false
set_option linter.unnecessarySimpa false
open Go.RowKit
set_option linter.unusedVariables false

theorem mem_furA (x : Letter) (out : List Int) (n j : Int) : j ∈ furA x out n ↔ j ∈ out ∨ (x.silent = true ∧ j = n) := by
  unfold furA
  split
  · rename_i h; simp [h.1]
  · rename_i h
    constructor
    · exact .inl
    · rintro (h1 | ⟨h1, rfl⟩)
      · exact h1
      · by_cases h2 : j ∈ out
        · exact h2
        · exact absurd ⟨h1, decide_eq_false h2⟩ h
theorem mem_furB (x : Letter) (heard out : List Int) (n j : Int) : j ∈ furB x heard out n ↔ j ∈ out ∨ ((n < heard.length ∧ bitM (heard.getD n.toNat 0).toNat x.sounds = true) ∧ j = n + 1) := by
  unfold furB
  split
  · rename_i h; simp only [h.1, h.2.1, List.mem_append, List.mem_singleton, true_and]
  · rename_i h
    constructor
    · exact .inl
    · rintro (h1 | ⟨⟨h1, h2⟩, rfl⟩)
      · exact h1
      · by_cases h3 : n + 1 ∈ out
        · exact h3
        · exact absurd ⟨h1, h2, decide_eq_false h3⟩ h
theorem mem_fold (x : Letter) (heard : List Int) (j : Int) : ∀ (D o : List Int), j ∈ D.foldl (fun o n => furB x heard (furA x o n) n) o ↔
    j ∈ o ∨ ∃ n ∈ D, (x.silent = true ∧ j = n) ∨ ((n < heard.length ∧ bitM (heard.getD n.toNat 0).toNat x.sounds = true) ∧ j = n + 1)
  | [], o => by simp
  | n :: D, o => by
    rw [List.foldl_cons, mem_fold x heard j D, mem_furB, mem_furA]
    simp only [List.mem_cons, exists_eq_or_imp, or_assoc]
/-- what is done behind one more letter -/
def furs (x : Letter) (done heard : List Int) : List Int := furTo x done heard done.length
theorem mem_fur (x : Letter) (done heard : List Int) (j : Int) : j ∈ furs x done heard ↔ ∃ n ∈ done, (x.silent = true ∧ j = n) ∨ ((n < heard.length ∧ bitM (heard.getD n.toNat 0).toNat x.sounds = true) ∧ j = n + 1) := by
  rw [furs, furTo, List.take_length, mem_fold]
  simp only [List.not_mem_nil, false_or]
theorem fold_len (x : Letter) (heard : List Int) : ∀ (D o : List Int), (D.foldl (fun o n => furB x heard (furA x o n) n) o).length ≤ o.length + 2 * D.length
  | [], o => by simp
  | n :: D, o => by
    rw [List.foldl_cons]
    have h1 := fold_len x heard D (furB x heard (furA x o n) n)
    have h2 : (furA x o n).length ≤ o.length + 1 := by unfold furA; split <;> simp
    have h3 : (furB x heard (furA x o n) n).length ≤ (furA x o n).length + 1 := by unfold furB; split <;> simp
    rw [List.length_cons]
    omega
theorem furs_len (x : Letter) (done heard : List Int) : (furs x done heard).length ≤ 2 * done.length := by
  have := fold_len x heard (done.take done.length) []
  rw [furs, furTo]
  rw [List.take_length] at this ⊢
  simpa using this

abbrev Spl := List Int × List Int
def splOne (heard : List Int) (r : Spl) (x : Letter) : Option Spl := if furs x r.2 heard = [] then none else some (r.1 ++ [x.c], furs x r.2 heard)
def splStep (ls : List Letter) (heard : List Int) (r : Spl) : List Spl := ls.filterMap (splOne heard r)
def splTo (ls : List Letter) (heard : List Int) : Nat → List Spl
  | 0 => [([], [0])]
  | m + 1 => (splTo ls heard m).flatMap (splStep ls heard)
theorem mem_step {ls : List Letter} {heard : List Int} {q r : Spl} (h : r ∈ splStep ls heard q) : ∃ x ∈ ls, furs x q.2 heard ≠ [] ∧ r = (q.1 ++ [x.c], furs x q.2 heard) := by
  rw [splStep, List.mem_filterMap] at h
  obtain ⟨x, hx, h⟩ := h
  unfold splOne at h
  split at h
  · cases h
  · rename_i hne
    exact ⟨x, hx, hne, (Option.some.inj h).symm⟩
structure SplFine (ls : List Letter) (heard : List Int) (m : Nat) (r : Spl) : Prop where
  len : r.1.length = m
  few : r.2.length ≤ 2 ^ m
  low : ∀ j ∈ r.2, 0 ≤ j ∧ j ≤ heard.length ∧ j ≤ m
  by_ : ∀ j ∈ r.2, ∀ i : Nat, (i : Int) < j → ∃ x ∈ ls, bitM (heard.getD i 0).toNat x.sounds = true
  own : ∀ c ∈ r.1, ∃ x ∈ ls, x.c = c
theorem spl_fine (ls : List Letter) (heard : List Int) : ∀ (m : Nat) (r : Spl), r ∈ splTo ls heard m → SplFine ls heard m r
  | 0, r, h => by
    rw [splTo, List.mem_singleton] at h
    subst h
    exact ⟨rfl, Nat.le_refl _, fun j hj => by rw [List.mem_singleton] at hj; omega, fun j hj i hi => by rw [List.mem_singleton] at hj; omega, fun c hc => by cases hc⟩
  | m + 1, r, h => by
    rw [splTo, List.mem_flatMap] at h
    obtain ⟨q, hq, h⟩ := h
    obtain ⟨x, hx, -, rfl⟩ := mem_step h
    have f := spl_fine ls heard m q hq
    have hl := furs_len x q.2 heard
    refine ⟨by simp [f.len], ?_, fun j hj => ?_, fun j hj i hi => ?_, fun c hc => ?_⟩
    · have := f.few
      show (furs x q.2 heard).length ≤ 2 ^ (m + 1)
      rw [Nat.pow_succ]; omega
    · obtain ⟨n, hn, h1⟩ := (mem_fur x q.2 heard j).1 hj
      have h2 := f.low n hn
      rcases h1 with ⟨-, rfl⟩ | ⟨⟨h1, -⟩, rfl⟩ <;> omega
    · obtain ⟨n, hn, h1⟩ := (mem_fur x q.2 heard j).1 hj
      have h2 := f.low n hn
      rcases h1 with ⟨-, rfl⟩ | ⟨⟨h1, h3⟩, rfl⟩
      · exact f.by_ _ hn i hi
      · rcases (show (i : Int) < n ∨ n ≤ (i : Int) from by omega) with h4 | h4
        · exact f.by_ _ hn i h4
        · have e : n.toNat = i := by omega
          rw [e] at h3
          exact ⟨x, hx, h3⟩
    · rcases List.mem_append.1 hc with hc | hc
      · exact f.own c hc
      · rw [List.mem_singleton] at hc
        exact ⟨x, hx, hc.symm⟩
theorem spl_few (ls : List Letter) (heard : List Int) : ∀ m, (splTo ls heard m).length ≤ ls.length ^ m
  | 0 => by simp [splTo]
  | m + 1 => by
    have h1 := spl_few ls heard m
    have h2 : ∀ L : List Spl, (L.flatMap (splStep ls heard)).length ≤ L.length * ls.length := fun L => by
      induction L with
      | nil => simp
      | cons r L ih =>
        rw [List.flatMap_cons, List.length_append, List.length_cons, Nat.succ_mul]
        have : (splStep ls heard r).length ≤ ls.length := List.length_filterMap_le _ _
        omega
    rw [splTo, Nat.pow_succ]
    exact Nat.le_trans (h2 _) (Nat.mul_le_mul_right _ h1)
def hitP (n : Nat) (r : Spl) : Bool := decide ((n : Int) ∈ r.2)
/-- what has m sounds done behind m letters -/
theorem one_hit {ls : List Letter} {heard : List Int} {m : Nat} {r : Spl} (f : SplFine ls heard m r) (hm : m < heard.length) (x : Letter) : ((m + 1 : Nat) : Int) ∈ furs x r.2 heard ↔ (m : Int) ∈ r.2 ∧ bitM (heard.getD m 0).toNat x.sounds = true := by
  rw [mem_fur]
  constructor
  · rintro ⟨n, hn, h1⟩
    have h2 := f.low n hn
    rcases h1 with ⟨-, h3⟩ | ⟨⟨h3, h4⟩, h5⟩
    · omega
    · have e : n = (m : Int) := by omega
      subst e
      rw [Int.toNat_natCast] at h4
      exact ⟨hn, h4⟩
  · rintro ⟨h1, h2⟩
    exact ⟨m, h1, .inr ⟨⟨by omega, by rw [Int.toNat_natCast]; exact h2⟩, by omega⟩⟩
theorem bit_gives {x : Letter} {heard : List Int} {m : Nat} (hm : m < heard.length) (h0 : 0 ≤ heard[m]) (hx : 0 ≤ x.sounds) : bitM (heard.getD m 0).toNat x.sounds = givesM x heard[m] := by
  have e : heard.getD m 0 = heard[m] := by rw [List.getD_eq_getElem?_getD, List.getElem?_eq_getElem hm]; rfl
  rw [e, bitM_test _ _ hx, givesM, if_neg (by omega)]
/-- the first of the texts that are done with as many sounds as they have letters -/
theorem spl_hit {ls : List Letter} {heard : List Int} (hx : ∀ x ∈ ls, 0 ≤ x.sounds) (hd : ∀ s ∈ heard, 0 ≤ s) (hall : ∀ j (hj : j < heard.length), (giver ls heard[j]).isSome = true) :
    ∀ m, m ≤ heard.length → ∃ d, (splTo ls heard m).find? (hitP m) = some (textTo ls heard m, d)
  | 0, _ => ⟨[0], by simp [splTo, hitP, textTo]⟩
  | m + 1, hm => by
    obtain ⟨d, h⟩ := spl_hit hx hd hall m (by omega)
    rw [List.find?_eq_some_iff_append] at h
    obtain ⟨hp, fr, bs, hsp, hno⟩ := h
    have hf := spl_fine ls heard m
    obtain ⟨x, hgx⟩ := Option.isSome_iff_exists.1 (hall m (by omega))
    have hxm := List.mem_of_find?_eq_some hgx
    have hg2 := hgx
    rw [giver, List.find?_eq_some_iff_append] at hg2
    obtain ⟨hgv, la, lb, hls, hgn⟩ := hg2
    have h0 := hd _ (List.getElem_mem (show m < heard.length by omega))
    have hbit := fun y (hy : y ∈ ls) => bit_gives (x := y) (show m < heard.length by omega) h0 (hx y hy)
    have hpm : (m : Int) ∈ d := by simpa [hitP] using hp
    have hfb := hf (textTo ls heard m, d) (by rw [hsp]; simp)
    refine ⟨furs x d heard, ?_⟩
    rw [splTo, hsp, List.flatMap_append, List.flatMap_cons, List.find?_append]
    have e1 : (fr.flatMap (splStep ls heard)).find? (hitP (m + 1)) = none := by
      rw [List.find?_eq_none]
      intro r hr
      rw [List.mem_flatMap] at hr
      obtain ⟨q, hq, hr⟩ := hr
      obtain ⟨y, hy, -, rfl⟩ := mem_step hr
      have hfq := hf q (by rw [hsp]; simp [hq])
      have := hno q hq
      simp only [hitP, decide_eq_true_eq]
      intro h
      have h := ((one_hit hfq (by omega) y).1 h).1
      simp [hitP, h] at this
    rw [e1, Option.none_or, List.find?_append]
    have e2 : (splStep ls heard (textTo ls heard m, d)).find? (hitP (m + 1)) = some (textTo ls heard (m + 1), furs x d heard) := by
      rw [textTo_succ ls heard m (by omega) x hgx]
      have hin : ((m + 1 : Nat) : Int) ∈ furs x d heard := (one_hit hfb (by omega) x).2 ⟨hpm, by rw [hbit x hxm]; exact hgv⟩
      rw [splStep]
      rw [hls, List.filterMap_append, List.filterMap_cons, List.find?_append]
      have e3 : (la.filterMap (splOne heard (textTo ls heard m, d))).find? (hitP (m + 1)) = none := by
        rw [List.find?_eq_none]
        intro r hr
        rw [List.mem_filterMap] at hr
        obtain ⟨y, hy, hr⟩ := hr
        unfold splOne at hr
        split at hr
        · cases hr
        · obtain rfl := Option.some.inj hr
          simp only [hitP, decide_eq_true_eq]
          intro h
          have hyl : y ∈ ls := by rw [hls]; simp [hy]
          have h := ((one_hit hfb (by omega) y).1 h).2
          rw [hbit y hyl] at h
          have := hgn y hy
          simp [h] at this
      have e4 : splOne heard (textTo ls heard m, d) x = some (textTo ls heard m ++ [x.c], furs x d heard) := by
        unfold splOne
        rw [if_neg]
        intro e
        change furs x d heard = [] at e
        rw [e] at hin
        cases hin
      rw [← hls, e3, Option.none_or, e4]
      simp only
      rw [List.find?_cons]
      have e5 : hitP (m + 1) (textTo ls heard m ++ [x.c], furs x d heard) = true := decide_eq_true hin
      rw [e5]
    rw [e2, Option.some_or]
/-- nothing heard: the letters that can be silent -/
theorem spl_silent (ls : List Letter) : (splTo ls [] 1).find? (hitP 0) = (giver ls (-1)).map (fun x => ([x.c], furs x [0] [])) ∧ (giver ls (-1) = none → ∀ m, splTo ls [] (m + 1) = []) := by
  have hs : ∀ x : Letter, (0 : Int) ∈ furs x [0] [] ↔ x.silent = true := fun x => by rw [mem_fur]; simp
  have hn : ∀ x : Letter, x.silent = false → furs x [0] [] = [] := fun x hx => by
    rw [List.eq_nil_iff_forall_not_mem]
    intro j hj
    rw [mem_fur] at hj
    simp [hx] at hj
  have h1 : splTo ls [] 1 = ls.filterMap (splOne [] ([], [0])) := by simp [splTo, splStep]
  have hone : ∀ x : Letter, splOne [] ([], [0]) x = if x.silent = true then some ([x.c], furs x [0] []) else none := fun x => by
    unfold splOne
    cases hx : x.silent
    · simp [hn x hx]
    · have := (hs x).2 hx
      rw [if_neg (fun e => by change furs x [0] [] = [] at e; rw [e] at this; cases this)]
      simp
  constructor
  · rw [h1, giver]
    induction ls with
    | nil => rfl
    | cons x l ih =>
      rw [List.filterMap_cons, hone, List.find?_cons]
      cases hx : x.silent
      · simp only [Bool.false_eq_true, if_false, givesM, if_true, hx]
        refine Eq.trans (ih ?_) rfl
        simp [splTo, splStep]
      · simp only [if_true, givesM, hx]
        rw [List.find?_cons]
        have : hitP 0 ([x.c], furs x [0] []) = true := decide_eq_true ((hs x).2 hx)
        rw [this]; rfl
  · intro hg
    have h0 : splTo ls [] 1 = [] := by
      rw [h1, List.filterMap_eq_nil_iff]
      intro x hx
      rw [giver, List.find?_eq_none] at hg
      have := hg x hx
      rw [hone, if_neg]
      simpa [givesM] using this
    intro m
    induction m with
    | zero => exact h0
    | succ m ih => rw [splTo, ih]; rfl

theorem giver_wanted {ls : List Letter} {l : List Int} (h : (l.all fun s => (giver ls s).isSome) = false) : ∃ j, ∃ hj : j < l.length, giver ls l[j] = none := by
  rw [List.all_eq_false] at h
  obtain ⟨s, hs, hn⟩ := h
  obtain ⟨j, hj, rfl⟩ := List.getElem_of_mem hs
  exact ⟨j, hj, by simpa using hn⟩
/-- there is a first text, or none -/
theorem spl_all {ls : List Letter} {heard : List Int} (hx : ∀ x ∈ ls, 0 ≤ x.sounds) (hd : ∀ s ∈ heard, 0 ≤ s) (h5 : heard.length ≤ 5) :
    (∃ n r, 1 ≤ n ∧ n ≤ 5 ∧ (splTo ls heard n).find? (hitP heard.length) = some r ∧ (∀ m, 1 ≤ m → m < n → (splTo ls heard m).find? (hitP heard.length) = none) ∧ shortS ls (wantedM heard) = r.1 ∧ shortE ls (wantedM heard) = 0) ∨
    ((∀ m, 1 ≤ m → (splTo ls heard m).find? (hitP heard.length) = none) ∧ shortS ls (wantedM heard) = [] ∧ shortE ls (wantedM heard) = 9) := by
  by_cases h0 : heard = []
  · subst h0
    have hw : wantedM [] = [-1] := rfl
    rw [hw]
    obtain ⟨h1, h2⟩ := spl_silent ls
    cases hg : giver ls (-1) with
    | none =>
      obtain ⟨e1, e2⟩ := shortE_no ls [-1] 0 (by simp) hg
      refine .inr ⟨fun m hm => ?_, e2, e1⟩
      obtain ⟨k, rfl⟩ : ∃ k, m = k + 1 := ⟨m - 1, by omega⟩
      rw [h2 hg k]; rfl
    | some x =>
      rw [hg] at h1
      have hall : ∀ j (hj : j < [(-1 : Int)].length), (giver ls [(-1 : Int)][j]).isSome = true := fun j hj => by
        have hj' : j < 1 := hj
        obtain rfl : j = 0 := by omega
        show (giver ls (-1)).isSome = true
        rw [hg]; rfl
      obtain ⟨e1, e2⟩ := shortE_yes ls [-1] hall
      refine .inl ⟨1, _, Nat.le_refl _, by omega, h1, fun m h3 h4 => by omega, ?_, e1⟩
      rw [e2]
      have := textTo_succ ls [-1] 0 (by simp) x hg
      show textTo ls [-1] (0 + 1) = _
      rw [this]; rfl
  · have hw : wantedM heard = heard := by rw [wantedM, if_neg h0]
    rw [hw]
    have hpos : 0 < heard.length := List.length_pos_iff.2 h0
    cases hall : heard.all fun s => (giver ls s).isSome
    · obtain ⟨j, hj, hg⟩ := giver_wanted hall
      obtain ⟨e1, e2⟩ := shortE_no ls heard j hj hg
      refine .inr ⟨fun m hm => ?_, e2, e1⟩
      rw [List.find?_eq_none]
      intro r hr h
      have hr' : (heard.length : Int) ∈ r.2 := by simpa [hitP] using h
      obtain ⟨x, hxl, hb⟩ := (spl_fine ls heard m r hr).by_ _ hr' j (by omega)
      rw [bit_gives hj (hd _ (List.getElem_mem hj)) (hx x hxl)] at hb
      rw [giver, List.find?_eq_none] at hg
      exact hg x hxl hb
    · have hall' : ∀ j (hj : j < heard.length), (giver ls heard[j]).isSome = true := fun j hj => List.all_eq_true.1 hall _ (List.getElem_mem hj)
      obtain ⟨e1, e2⟩ := shortE_yes ls heard hall'
      obtain ⟨d, h⟩ := spl_hit hx hd hall' heard.length (Nat.le_refl _)
      refine .inl ⟨heard.length, _, by omega, h5, h, fun m h1 h2 => ?_, e2, e1⟩
      rw [List.find?_eq_none]
      intro r hr h
      have hr' : (heard.length : Int) ∈ r.2 := by simpa [hitP] using h
      have := (spl_fine ls heard m r hr).low _ hr'
      omega
end Go.Proofs.YtnfbhicoknpojaaGreat

namespace Go.Proofs.YtnfbhicoknpojaaGreat
set_option linter.unusedSimpArgs false
set_option linter.unusedVariables false
set_option linter.unnecessarySimpa false
set_option linter.unusedVariables false

/-- the byte at a place, as a text -/
def oneText (s : ByteArray) (k : Nat) : ByteArray := ⟨#[s.data.toList.getD k 0]⟩
def oneBook (b : Book) (a : Int) (t : ByteArray) : Book := ⟨b.sounds, b.alphabets, [⟨a, t⟩]⟩
theorem errM_parts {b : Book} (h : errM b = 0) : inM b.sounds 1 4 = true ∧ inM b.alphabets.length 1 3 = true ∧ (alphErr b).2 = 0 := by
  unfold errM checkM at h
  split at h
  · cases h
  rename_i h1
  split at h
  · cases h
  rename_i h2
  split at h
  · rename_i h3; exact absurd h h3
  rename_i h3
  exact ⟨by simpa using h1, by simpa using h2, by simpa using h3⟩
theorem errM_make {b : Book} {al : List Alphabet} {sp : List Spelling} (h1 : inM b.sounds 1 4 = true) (h2 : inM b.alphabets.length 1 3 = true) (h3 : (alphErr b).2 = 0) (h4 : b.spellings.length ≤ 5) (h5 : (spelErr b).2 = 0) : errM b = 0 := by
  unfold errM checkM
  rw [if_neg (by rw [h1]; decide), if_neg (by rw [h2]; decide), if_neg (by rw [h3]; decide), if_neg (by omega), if_neg (by rw [h5]; decide)]
theorem byteAt_one (s : ByteArray) (k : Nat) : byteAt (oneText s k) 0 = byteAt s k := rfl
theorem one_err {b : Book} (h : errM b = 0) {n : Nat} (hn : n < b.spellings.length) {k : Nat} (hk : k < (b.spellings[n]).text.size) : errM (oneBook b (b.spellings[n]).alphabet (oneText (b.spellings[n]).text k)) = 0 := by
  obtain ⟨h1, h2, h3⟩ := errM_parts h
  have hv := valid_of h
  have hs := hv.sp n hn
  refine errM_make (al := []) (sp := []) h1 h2 h3 (by show 1 ≤ 5; omega) ?_
  have e : spellingErrM b.alphabets ⟨(b.spellings[n]).alphabet, oneText (b.spellings[n]).text k⟩ = 0 := by
    unfold spellingErrM
    rw [if_neg, if_neg, if_neg]
    · rw [Bool.not_eq_false]
      show textOk (lettersOf b.alphabets (b.spellings[n]).alphabet) (oneText (b.spellings[n]).text k) = true
      unfold textOk
      rw [List.all_eq_true]
      intro j hj
      have hj0 : j = 0 := by have := List.mem_range.1 hj; have e1 : (oneText (b.spellings[n]).text k).size = 1 := rfl; omega
      subst hj0
      have := hs.k k hk
      unfold knownB at this ⊢
      rw [byteAt_one]; exact this
    · rw [Bool.not_eq_false]; rfl
    · rw [Bool.not_eq_false]
      have := hs.a
      simp [inM]; omega
  show (firstErr _ [_]).2 = 0
  unfold firstErr firstErrFrom
  rw [if_pos (by exact e)]; rfl
theorem one_letters {b : Book} {a : Int} {s : ByteArray} {k : Nat} : lettersAt (oneBook b a (oneText s k)) 0 = [letterOf (lettersOf b.alphabets a) s k] := rfl
theorem one_count {b : Book} {a : Int} {s : ByteArray} {k : Nat} : (canM (oneBook b a (oneText s k)) [0]).length = waysM (b.sounds.toNat + 1) (letterOf (lettersOf b.alphabets a) s k) := by
  rw [canM_one]
  have e : stringsOf (oneBook b a (oneText s k)) 0 = yields (b.sounds.toNat + 1) [letterOf (lettersOf b.alphabets a) s k] [] := rfl
  rw [e, foldl_mark_new _ _ _ (yields_one_nodup _ _) (by simp), yields_one_len]
  simp
/-- in how many ways the first letters can give things -/
def prodTo (K : Nat) (ls : List Letter) (k : Nat) : Nat := ((ls.take k).map (waysM K)).foldr (· * ·) 1
theorem foldr_mul_snoc (l : List Nat) (x : Nat) : (l ++ [x]).foldr (· * ·) 1 = l.foldr (· * ·) 1 * x := by
  induction l with
  | nil => simp
  | cons y l ih => rw [List.cons_append, List.foldr_cons, List.foldr_cons, ih, Nat.mul_assoc]
theorem prodTo_succ (K : Nat) (ls : List Letter) (k : Nat) (hk : k < ls.length) : prodTo K ls (k + 1) = prodTo K ls k * waysM K ls[k] := by
  unfold prodTo
  rw [List.take_succ_eq_append_getElem hk, List.map_append, List.map_cons, List.map_nil, foldr_mul_snoc]
theorem prodTo_le (K : Nat) (ls : List Letter) : ∀ k, prodTo K ls k ≤ K ^ k ∨ ls.length < k
  | 0 => .inl (by simp [prodTo])
  | k + 1 => by
    by_cases hk : k < ls.length
    · left
      rw [prodTo_succ K ls k hk, Nat.pow_succ]
      rcases prodTo_le K ls k with h | h
      · exact Nat.mul_le_mul h (waysM_le K _)
      · omega
    · right; omega
theorem canM_prod (b : Book) (n : Nat) : (canM b [n]).length ≤ prodTo (b.sounds.toNat + 1) (lettersAt b n) (lettersAt b n).length := by
  have h := canM_le b n
  unfold stringsOf at h
  rw [yields_len] at h
  unfold prodTo
  rw [List.take_length]; exact h
end Go.Proofs.YtnfbhicoknpojaaGreat

namespace Go.Proofs.YtnfbhicoknpojaaGreat
set_option linter.unusedSimpArgs false
set_option linter.unusedVariables false
set_option linter.unnecessarySimpa false
open Go.RowKit
set_option linter.unusedVariables false

theorem apart_of {S : Int} {x : Alphabet} (h : ValidAlphabet S x) : x.letters.Pairwise (fun a b => a.c ≠ b.c) := by
  rw [List.pairwise_iff_getElem]
  intro i j hi hj hij e
  have := (h.fine j hj).2
  rw [List.any_eq_false] at this
  exact this x.letters[i] (by
    rw [List.mem_take_iff_getElem]
    exact ⟨i, by omega, rfl⟩) (by simpa using e)
abbrev noLetter : Letter := ⟨0, 0, true⟩
def placedL (ls : List Letter) (P : List Nat) : List Letter := P.map fun n => ls.getD n noLetter
def placed (ls : List Letter) (P : List Nat) : List Int := (placedL ls P).map (·.c)
theorem placed_len (ls : List Letter) (P : List Nat) : (placed ls P).length = P.length := by simp [placed, placedL]
theorem letD_at (ls : List Letter) {n : Nat} (h : n < ls.length) : ls.getD n noLetter = ls[n] := by rw [List.getD_eq_getElem?_getD, List.getElem?_eq_getElem h]; rfl
theorem strOf_size (l : List Int) : (strOf l).size = l.length := by
  show (strOf l).data.size = _
  simp [strOf]
theorem byteAt_strOf {l : List Int} {k : Nat} (hk : k < l.length) (hU : ∀ n ∈ l, U8 n) : byteAt (strOf l) k = l[k] := by
  have h := hU _ (List.getElem_mem hk)
  unfold byteAt strOf
  rw [List.getD_eq_getElem?_getD]
  simp only [List.getElem?_map, List.getElem?_eq_getElem hk, Option.map_some, Option.getD_some]
  exact byte_back _ h
theorem placed_U8 {ls : List Letter} {P : List Nat} (hU : ∀ x ∈ ls, U8 x.c) (hP : ∀ n ∈ P, n < ls.length) : ∀ c ∈ placed ls P, U8 c := by
  intro c hc
  simp only [placed, placedL, List.mem_map] at hc
  obtain ⟨x, ⟨n, hn, rfl⟩, rfl⟩ := hc
  rw [letD_at ls (hP n hn)]
  exact hU _ (List.getElem_mem _)
theorem letter_at {ls : List Letter} (hp : ls.Pairwise (fun a b => a.c ≠ b.c)) {n : Nat} (hn : n < ls.length) : ls.find? (fun y => y.c == ls[n].c) = some ls[n] := by
  rw [List.find?_eq_some_iff_getElem]
  refine ⟨by simp, n, hn, rfl, fun j hj => ?_⟩
  have := List.pairwise_iff_getElem.1 hp j n (by omega) hn hj
  simpa using this
theorem letterOf_placed {ls : List Letter} (hp : ls.Pairwise (fun a b => a.c ≠ b.c)) (hU : ∀ x ∈ ls, U8 x.c) {P : List Nat} (hP : ∀ n ∈ P, n < ls.length) {k : Nat} (hk : k < P.length) : letterOf ls (strOf (placed ls P)) k = ls.getD P[k] noLetter ∧ knownB ls (strOf (placed ls P)) k = true := by
  have hk' : k < (placed ls P).length := by rw [placed_len]; exact hk
  have hlt := hP _ (List.getElem_mem hk)
  have e : byteAt (strOf (placed ls P)) k = ls[P[k]].c := by
    rw [byteAt_strOf hk' (placed_U8 hU hP)]
    simp only [placed, placedL, List.getElem_map]
    rw [letD_at ls hlt]
  constructor
  · rw [letterOf, e, letter_at hp hlt, letD_at ls hlt]; rfl
  · rw [knownB, e, List.any_eq_true]
    exact ⟨ls[P[k]], List.getElem_mem hlt, by simp⟩
theorem lettersM_placed {ls : List Letter} (hp : ls.Pairwise (fun a b => a.c ≠ b.c)) (hU : ∀ x ∈ ls, U8 x.c) {P : List Nat} (hP : ∀ n ∈ P, n < ls.length) : lettersM ls (strOf (placed ls P)) = placedL ls P := by
  unfold lettersM
  rw [strOf_size, placed_len]
  apply List.ext_getElem
  · rw [lettersTo_len]; simp [placedL]
  · intro k h1 h2
    rw [lettersTo_len] at h1
    simp only [lettersTo, List.getElem_map, List.getElem_range, placedL]
    exact (letterOf_placed hp hU hP h1).1
theorem spelt_err {b : Book} (h : errM b = 0) {a : Nat} (ha : a < b.alphabets.length) {P : List Nat} (hP : ∀ n ∈ P, n < (b.alphabets[a]).letters.length) (h0 : P ≠ []) (h5 : P.length ≤ 5) : errM (oneBook b a (strOf (placed (b.alphabets[a]).letters P))) = 0 := by
  obtain ⟨h1, h2, h3⟩ := errM_parts h
  have hv := valid_of h
  refine errM_make (al := []) (sp := []) h1 h2 h3 (by show 1 ≤ 5; omega) ?_
  have hpos : 0 < P.length := List.length_pos_iff.2 h0
  have hls : lettersOf b.alphabets (a : Int) = (b.alphabets[a]).letters := by unfold lettersOf; rw [Int.toNat_natCast, List.getElem?_eq_getElem ha]
  have hU : ∀ x ∈ (b.alphabets[a]).letters, U8 x.c := fun x hx => by
    obtain ⟨j, hj, rfl⟩ := List.getElem_of_mem hx
    have := ((hv.al a ha).1.fine j hj).1.c
    unfold U8; omega
  have e : spellingErrM b.alphabets ⟨(a : Int), strOf (placed (b.alphabets[a]).letters P)⟩ = 0 := by
    unfold spellingErrM
    rw [if_neg, if_neg, if_neg]
    · rw [Bool.not_eq_false]
      show textOk (lettersOf b.alphabets (a : Int)) _ = true
      rw [hls]
      unfold textOk
      rw [List.all_eq_true]
      intro j hj
      have hj0 := List.mem_range.1 hj
      rw [strOf_size, placed_len] at hj0
      exact (letterOf_placed (apart_of (hv.al a ha).1) hU hP hj0).2
    · rw [Bool.not_eq_false]
      show inM (strOf (placed (b.alphabets[a]).letters P)).size 1 5 = true
      rw [strOf_size, placed_len, inM_iff]
      omega
    · rw [Bool.not_eq_false]
      show inM (a : Int) 0 (b.alphabets.length - 1) = true
      rw [inM_iff]; omega
  show (firstErr _ [_]).2 = 0
  unfold firstErr firstErrFrom
  rw [if_pos (by exact e)]; rfl
theorem spelt_letters {b : Book} (h : errM b = 0) {a : Nat} (ha : a < b.alphabets.length) {P : List Nat} (hP : ∀ n ∈ P, n < (b.alphabets[a]).letters.length) : lettersAt (oneBook b a (strOf (placed (b.alphabets[a]).letters P))) 0 = placedL (b.alphabets[a]).letters P := by
  have hv := valid_of h
  have hU : ∀ x ∈ (b.alphabets[a]).letters, U8 x.c := fun x hx => by
    obtain ⟨j, hj, rfl⟩ := List.getElem_of_mem hx
    have := ((hv.al a ha).1.fine j hj).1.c
    unfold U8; omega
  have hls : lettersOf b.alphabets (a : Int) = (b.alphabets[a]).letters := by unfold lettersOf; rw [Int.toNat_natCast, List.getElem?_eq_getElem ha]
  show lettersM (lettersOf b.alphabets (a : Int)) _ = _
  rw [hls]
  exact lettersM_placed (apart_of (hv.al a ha).1) hU hP

theorem can_parts {K : Nat} {ys : List Letter} {s t : List Int} (h : Can K ys s t) : ∃ r, t = s ++ r ∧ r.length ≤ ys.length ∧ (∀ x ∈ r, ∃ y ∈ ys, givesM y x = true) ∧
    (r.length = ys.length → ∀ i (h : i < r.length) (h' : i < ys.length), givesM ys[i] r[i] = true) ∧ (r = [] → ∀ y ∈ ys, givesM y (-1) = true) := by
  induction h with
  | nil s => exact ⟨[], by simp, Nat.le_refl _, fun x hx => (by cases hx), fun _ i h => absurd h (Nat.not_lt_zero _), fun _ y hy => (by cases hy)⟩
  | cons y ys s t n hn hg h ih =>
    obtain ⟨r, e, h1, h2, h3, h4⟩ := ih
    by_cases hs : n = -1
    · subst hs
      rw [withS, if_pos rfl] at e
      refine ⟨r, e, by simp; omega, fun x hx => ?_, fun he => by simp at he; omega, fun he z hz => ?_⟩
      · obtain ⟨z, hz, hz2⟩ := h2 x hx
        exact ⟨z, List.mem_cons_of_mem _ hz, hz2⟩
      · rcases List.mem_cons.1 hz with rfl | hz
        · exact hg
        · exact h4 he z hz
    · rw [withS, if_neg hs] at e
      refine ⟨n :: r, by rw [e, List.append_assoc]; rfl, by simp; omega, fun x hx => ?_, fun he i hi hi' => ?_, fun he => by cases he⟩
      · rcases List.mem_cons.1 hx with rfl | hx
        · exact ⟨y, List.mem_cons_self, hg⟩
        · obtain ⟨z, hz, hz2⟩ := h2 x hx
          exact ⟨z, List.mem_cons_of_mem _ hz, hz2⟩
      · cases i with
        | zero => exact hg
        | succ i => exact h3 (by simpa using he) i (by simpa using hi) (by simpa using hi')
theorem can_all {K : Nat} : ∀ (ys : List Letter) (r s : List Int), ys.length = r.length → (∀ i (h : i < r.length) (h' : i < ys.length), r[i] ∈ soundsTo K ∧ r[i] ≠ -1 ∧ givesM ys[i] r[i] = true) → Can K ys s (s ++ r)
  | [], [], s, _, _ => by rw [List.append_nil]; exact .nil _
  | [], x :: r, s, h, _ => by simp at h
  | y :: ys, [], s, h, _ => by simp at h
  | y :: ys, x :: r, s, h, hh => by
    obtain ⟨h1, h2, h3⟩ := hh 0 (by simp) (by simp)
    refine .cons y ys s _ x h1 h3 ?_
    have h1' : x ≠ -1 := h2
    have := can_all (K := K) ys r (s ++ [x]) (by simpa using h) fun i hi hi' => hh (i + 1) (by simpa using hi) (by simpa using hi')
    rw [withS, if_neg h1']
    rw [List.append_assoc] at this
    exact this

def idxG (ls : List Letter) (s : Int) : Nat := ls.findIdx fun x => givesM x s
theorem idxG_at {ls : List Letter} {s : Int} {x : Letter} (h : giver ls s = some x) : ∃ hlt : idxG ls s < ls.length, ls[idxG ls s] = x ∧ givesM x s = true ∧ ∀ p (hp : p < ls.length), givesM ls[p] s = true → idxG ls s ≤ p := by
  have h' := h
  rw [giver, List.find?_eq_some_iff_getElem] at h'
  obtain ⟨hg, i, hi, rfl, hno⟩ := h'
  have e : idxG ls s = i := by
    unfold idxG
    rw [List.findIdx_eq hi]
    exact ⟨hg, fun j hj => by simpa using hno j hj⟩
  refine ⟨by omega, by simp only [e], hg, fun p hp hgp => ?_⟩
  rw [e]
  rcases Nat.lt_or_ge p i with h1 | h1
  · have := hno p h1
    simp [hgp] at this
  · exact h1
/-- the places of the letters of a text -/
def atTo (ls : List Letter) (c : Int) (k : Nat) : List Nat := (List.range k).filter fun j => (ls.getD j noLetter).c == c
def ownTo (ls : List Letter) (T : List Int) (i : Nat) : List Nat := (T.take i).flatMap fun c => atTo ls c ls.length
theorem atTo_yes (ls : List Letter) (c : Int) (k : Nat) (hk : k < ls.length) (h : (ls[k].c == c) = true) : atTo ls c (k + 1) = atTo ls c k ++ [k] := by
  unfold atTo
  rw [List.range_succ, List.filter_append, List.filter_cons, letD_at ls hk, h]
  simp
theorem atTo_no (ls : List Letter) (c : Int) (k : Nat) (hk : k < ls.length) (h : (ls[k].c == c) = false) : atTo ls c (k + 1) = atTo ls c k := by
  unfold atTo
  rw [List.range_succ, List.filter_append, List.filter_cons, letD_at ls hk, h]
  simp
theorem atTo_len (ls : List Letter) (c : Int) (k : Nat) : (atTo ls c k).length ≤ k := by
  have := List.length_filter_le (fun j => (ls.getD j noLetter).c == c) (List.range k)
  simpa [atTo] using this
theorem ownTo_succ (ls : List Letter) (T : List Int) (i : Nat) (h : i < T.length) : ownTo ls T (i + 1) = ownTo ls T i ++ atTo ls T[i] ls.length := by
  unfold ownTo
  rw [List.take_succ_eq_append_getElem h, List.flatMap_append]
  simp
theorem ownTo_len (ls : List Letter) (T : List Int) (i : Nat) : (ownTo ls T i).length ≤ i * ls.length := by
  have h : ∀ L : List Int, (L.flatMap fun c => atTo ls c ls.length).length ≤ L.length * ls.length := fun L => by
    induction L with
    | nil => simp
    | cons c L ih =>
      have := atTo_len ls c ls.length
      rw [List.flatMap_cons, List.length_append, List.length_cons, Nat.succ_mul]; omega
  have h1 := h (T.take i)
  have h2 := List.length_take_le i T
  exact Nat.le_trans h1 (Nat.mul_le_mul_right _ h2)
theorem atTo_one {ls : List Letter} (hp : ls.Pairwise (fun a b => a.c ≠ b.c)) {p : Nat} (h : p < ls.length) : atTo ls ls[p].c ls.length = [p] := by
  have h1 : ∀ k, k ≤ ls.length → atTo ls ls[p].c k = if p < k then [p] else [] := by
    intro k
    induction k with
    | zero => intro _; rfl
    | succ k ih =>
      intro hk
      have ih := ih (by omega)
      by_cases e : k = p
      · subst e
        rw [atTo_yes ls _ k (by omega) (by simp), ih, if_neg (by omega), if_pos (by omega)]; rfl
      · rw [atTo_no ls _ k (by omega) ?_, ih]
        · by_cases h2 : p < k
          · rw [if_pos h2, if_pos (by omega)]
          · rw [if_neg h2, if_neg (by omega)]
        · rw [beq_eq_false_iff_ne]
          rcases Nat.lt_or_ge k p with h2 | h2
          · exact List.pairwise_iff_getElem.1 hp k p (by omega) h h2
          · exact fun e2 => List.pairwise_iff_getElem.1 hp p k h (by omega) (by omega) e2.symm
  rw [h1 _ (Nat.le_refl _), if_pos h]
theorem ownTo_placed {ls : List Letter} (hp : ls.Pairwise (fun a b => a.c ≠ b.c)) {P : List Nat} (hP : ∀ n ∈ P, n < ls.length) : ownTo ls (placed ls P) (placed ls P).length = P := by
  unfold ownTo
  rw [List.take_length]
  induction P with
  | nil => rfl
  | cons n P ih =>
    have hn := hP n (by simp)
    have e : placed ls (n :: P) = ls[n].c :: placed ls P := by
      show (ls.getD n noLetter).c :: _ = _
      rw [letD_at ls hn]; rfl
    rw [e, List.flatMap_cons, atTo_one hp hn, ih fun m hm => hP m (by simp [hm])]
    rfl
theorem shortE_cases (ls : List Letter) (l : List Int) : (shortE ls l = 0 ∧ ∀ s ∈ l, (giver ls s).isSome = true) ∨ (shortE ls l = 9 ∧ shortS ls l = []) := by
  cases h : l.all fun s => (giver ls s).isSome
  · right; simp [shortE, shortS, h]
  · left; exact ⟨by simp [shortE, h], List.all_eq_true.1 h⟩
/-- the text of Spell, by places -/
theorem short_placed {ls : List Letter} {l : List Int} (h : ∀ s ∈ l, (giver ls s).isSome = true) : shortS ls l = placed ls (l.map (idxG ls)) ∧ ∀ n ∈ l.map (idxG ls), n < ls.length := by
  have hall : (l.all fun s => (giver ls s).isSome) = true := List.all_eq_true.2 h
  constructor
  · rw [shortS, if_pos hall, textTo, List.take_length, placed, placedL, List.map_map, List.map_map]
    clear hall
    induction l with
    | nil => rfl
    | cons s l ih =>
      obtain ⟨x, hx⟩ := Option.isSome_iff_exists.1 (h s (by simp))
      obtain ⟨h1, h2, -⟩ := idxG_at hx
      rw [List.filterMap_cons, hx]
      simp only [Option.map_some, List.map_cons]
      rw [ih fun s hs => h s (by simp [hs])]
      congr 1
      show x.c = (ls.getD (idxG ls s) noLetter).c
      rw [letD_at ls h1, h2]
  · intro n hn
    rw [List.mem_map] at hn
    obtain ⟨s, hs, rfl⟩ := hn
    obtain ⟨x, hx⟩ := Option.isSome_iff_exists.1 (h s hs)
    exact (idxG_at hx).1
theorem giver_some {ls : List Letter} {s : Int} (h : ∃ y ∈ ls, givesM y s = true) : (giver ls s).isSome = true := by
  obtain ⟨y, hy, hg⟩ := h
  rw [giver, List.find?_isSome]
  exact ⟨y, hy, hg⟩
theorem placedL_mem {ls : List Letter} {P : List Nat} (hP : ∀ n ∈ P, n < ls.length) : ∀ y ∈ placedL ls P, y ∈ ls := by
  intro y hy
  simp only [placedL, List.mem_map] at hy
  obtain ⟨n, hn, rfl⟩ := hy
  rw [letD_at ls (hP n hn)]
  exact List.getElem_mem _
theorem less_ge : ∀ (l m : List Nat), l.length = m.length → (∀ i (h : i < l.length) (h' : i < m.length), m[i] ≤ l[i]) → lessM (ints l) (ints m) = false
  | [], [], _, _ => rfl
  | [], _ :: _, h, _ => by simp at h
  | _ :: _, [], h, _ => by simp at h
  | x :: l, y :: m, h, hh => by
    have h0 : y ≤ x := hh 0 (by simp) (by simp)
    have ih := less_ge l m (by simpa using h) fun i hi hi' => hh (i + 1) (by simpa using hi) (by simpa using hi')
    show lessM ((x : Int) :: ints l) ((y : Int) :: ints m) = false
    unfold lessM
    split
    · exact ih
    · exact decide_eq_false (by omega)
/-- whatever letters can be heard so: Spell finds a text, which does not come behind them -/
theorem spelt_least {K : Nat} {ls : List Letter} {P : List Nat} {S : List Int} (hP : ∀ n ∈ P, n < ls.length) (h0 : P ≠ []) (hc : Can K (placedL ls P) [] S) :
    (∀ s ∈ wantedM S, (giver ls s).isSome = true) ∧ fewerM (ints P) (ints ((wantedM S).map (idxG ls))) = false := by
  obtain ⟨r, e, h1, h2, h3, h4⟩ := can_parts hc
  rw [List.nil_append] at e
  subst e
  have hlen : (placedL ls P).length = P.length := by simp [placedL]
  have hpos : 0 < P.length := List.length_pos_iff.2 h0
  have hmem := placedL_mem hP
  have hat : ∀ i (hi : i < P.length) (hi' : i < (placedL ls P).length), ∃ hlt : P[i] < ls.length, (placedL ls P)[i] = ls[P[i]] := fun i hi hi' => by
    have := hP _ (List.getElem_mem hi)
    refine ⟨this, ?_⟩
    simp only [placedL, List.getElem_map]
    exact letD_at ls this
  by_cases hS : S = []
  · subst hS
    have h4 := h4 rfl
    have hg := h4 (placedL ls P)[0] (List.getElem_mem (by omega))
    have hsome : (giver ls (-1)).isSome = true := giver_some ⟨_, hmem _ (List.getElem_mem (show 0 < (placedL ls P).length by omega)), hg⟩
    have hw : wantedM [] = [-1] := rfl
    rw [hw]
    refine ⟨fun s hs => by rw [List.mem_singleton] at hs; subst hs; exact hsome, ?_⟩
    unfold fewerM
    split
    · refine less_ge _ _ (by simpa [ints] using ‹(ints P).length = _›) fun i hi hi' => ?_
      have hi0 : i < 1 := by simpa using hi'
      obtain rfl : i = 0 := by omega
      obtain ⟨hlt, e2⟩ := hat 0 hi (by omega)
      rw [e2] at hg
      obtain ⟨x, hx⟩ := Option.isSome_iff_exists.1 hsome
      obtain ⟨-, -, -, h5⟩ := idxG_at hx
      simpa using h5 _ hlt hg
    · have : (ints P).length = P.length := by simp [ints]
      rw [decide_eq_false_iff_not, this]
      show ¬ P.length < 1
      omega
  · have hw : wantedM S = S := by rw [wantedM, if_neg hS]
    rw [hw]
    have hsome : ∀ s ∈ S, (giver ls s).isSome = true := fun s hs => by
      obtain ⟨y, hy, hg⟩ := h2 s hs
      exact giver_some ⟨y, hmem y hy, hg⟩
    refine ⟨hsome, ?_⟩
    unfold fewerM
    have l1 : (ints P).length = P.length := by simp [ints]
    have l2 : (ints (S.map (idxG ls))).length = S.length := by simp [ints]
    rw [l1, l2]
    split
    · rename_i hle
      refine less_ge _ _ (by simpa using hle) fun i hi hi' => ?_
      have hi2 : i < S.length := by simpa using hi'
      obtain ⟨hlt, e2⟩ := hat i hi (by omega)
      have hg := h3 (by omega) i hi2 (by omega)
      rw [e2] at hg
      obtain ⟨x, hx⟩ := Option.isSome_iff_exists.1 (hsome _ (List.getElem_mem hi2))
      obtain ⟨-, -, -, h5⟩ := idxG_at hx
      rw [List.getElem_map]
      exact h5 _ hlt hg
    · rw [decide_eq_false_iff_not]; omega
/-- the text of Spell can be heard so -/
theorem spelt_can {K : Nat} {ls : List Letter} {S : List Int} (hd : ∀ s ∈ S, 0 ≤ s ∧ s < (K : Int) - 1) (h : ∀ s ∈ wantedM S, (giver ls s).isSome = true) (hK : 0 < K) : Can K (placedL ls ((wantedM S).map (idxG ls))) [] S := by
  by_cases hS : S = []
  · subst hS
    have hw : wantedM [] = [-1] := rfl
    rw [hw] at h ⊢
    obtain ⟨x, hx⟩ := Option.isSome_iff_exists.1 (h (-1) (by simp))
    obtain ⟨h1, h2, h3, -⟩ := idxG_at hx
    have e : placedL ls ([-1].map (idxG ls)) = [x] := by
      show [ls.getD (idxG ls (-1)) noLetter] = [x]
      rw [letD_at ls h1, h2]
    rw [e]
    exact .cons x [] [] [] (-1) (mem_soundsTo.2 (by omega)) h3 (.nil _)
  · have hw : wantedM S = S := by rw [wantedM, if_neg hS]
    rw [hw] at h ⊢
    have := can_all (K := K) (placedL ls (S.map (idxG ls))) S [] (by simp [placedL]) fun i hi hi' => by
      have hs := hd _ (List.getElem_mem hi)
      obtain ⟨x, hx⟩ := Option.isSome_iff_exists.1 (h _ (List.getElem_mem hi))
      obtain ⟨h1, h2, h3, -⟩ := idxG_at hx
      refine ⟨mem_soundsTo.2 (by omega), by omega, ?_⟩
      simp only [placedL, List.getElem_map]
      rw [letD_at ls h1, h2]
      exact h3
    rwa [List.nil_append] at this
end Go.Proofs.YtnfbhicoknpojaaGreat

namespace Go.Proofs.YtnfbhicoknpojaaGreat
set_option linter.unusedSimpArgs false
set_option linter.unusedVariables false
set_option linter.unnecessarySimpa false
open Go.ChangeShapes Go.WideShapes Go.RowKit

theorem add_none (b o n : Nat) : (⟨b, o, none⟩ : Addr).add n = ⟨b, o + n, none⟩ := by
  unfold Addr.add
  by_cases h : n = 0
  · subst h; simp
  · simp [h]
theorem three_of {cs : List Value} (h : cs.length = 3) : ∃ a b c, cs = [a, b, c] := by
  match cs, h with
  | [a, b, c], _ => exact ⟨a, b, c, rfl⟩
theorem two_of {cs : List Value} (h : cs.length = 2) : ∃ a b, cs = [a, b] := by
  match cs, h with
  | [a, b], _ => exact ⟨a, b, rfl⟩
theorem spot_none {w : World} {a : Addr} {v : Value} (h : w.cell? a = some v) : a.spot = none := by
  unfold World.cell? at h
  cases hs : a.spot with
  | none => rfl
  | some x => split at h <;> simp [hs] at h
section
variable {H : Type} {enc : TypeId × Value → H} {w : World} {base : Nat} {sp : Nat → Bool} {held : Bool}
theorem slice_of {α : Type} [Inhabited α] {sz : Nat} {R : World → Nat → Nat → α → Prop} {t e : TypeId} (ht : Tryz.prog.underlying t = some (.slice e)) (hc : Tryz.prog.cellsOf e = sz) (hsz : 0 < sz)
    (hel : ∀ n cs y, DataW.trod enc Tryz.prog w base sp held n e cs = some y → ∃ x : α, ∀ b o, (∀ j, j < sz → w.cell? ⟨b, o + j, none⟩ = cs[j]?) → R w b o x)
    {fuel : Nat} {v : Value} {x : DataW H × List MemPlace} (h : DataW.trod enc Tryz.prog w base sp held fuel t [v] = some x) : ∃ l : List α, SliceAt sz R w v l := by
  rcases Deep.open_slice ht h with ⟨h1, _⟩ | ⟨a, len, cap, m, n, D, Pl, hcs, _, hl, hm, hmm, _, hx⟩
  · obtain rfl : v = .slice none 0 0 := by simpa using h1
    exact ⟨[], SliceAt.nil⟩
  · obtain rfl : v = .slice (some a) len cap := by simpa using hcs
    have hlm : len ≤ m := by rw [hmm]; split <;> omega
    rw [hc] at hx
    obtain ⟨f, hf⟩ := Deep.choose_lt (α := α) (n := len) (p := fun i x => ∃ cs', w.cells? base (a.add (i * sz)) sz = some cs' ∧ ∀ b o, (∀ j, j < sz → w.cell? ⟨b, o + j, none⟩ = cs'[j]?) → R w b o x) (fun i hi => by
      obtain ⟨cs', h1, h2⟩ := hx i (by omega)
      obtain ⟨x, hR⟩ := hel _ _ _ h2
      exact ⟨x, cs', h1, hR⟩)
    refine ⟨(List.range len).map f, some a, cap, by simp, by simpa using hl, by simpa [maxLen] using hm, fun i hi => ?_⟩
    have hi' : i < len := by simpa using hi
    obtain ⟨b, o, s⟩ := a
    have hs : s = none := by
      obtain ⟨cs0, h1, _⟩ := hf 0 (by omega)
      obtain ⟨_, hl0, h2⟩ := World.cells?_some h1
      have h3 := h2 0 hsz
      rw [Nat.zero_mul] at h3
      have h4 : w.cell? ⟨b, o, s⟩ = cs0[0]? := by simpa [Addr.add] using h3
      rw [List.getElem?_eq_getElem (by omega)] at h4
      exact spot_none h4
    subst hs
    obtain ⟨cs', h1, hR⟩ := hf i hi'
    refine ⟨b, o, rfl, ?_⟩
    have e1 : ((List.range len).map f)[i] = f i := by simp
    rw [e1]
    refine hR b (o + i * sz) fun j hj => ?_
    have h2 := (World.cells?_some h1).2.2 j hj
    rw [add_none, add_none] at h2
    exact h2
instance : Inhabited Letter := ⟨⟨0, 0, true⟩⟩
instance : Inhabited Alphabet := ⟨⟨⟨#[]⟩, []⟩⟩
instance : Inhabited Spelling := ⟨⟨0, ⟨#[]⟩⟩⟩
theorem cellsInt : Tryz.prog.cellsOf 3 = 1 := by kernel_rfl
theorem cellsU8 : Tryz.prog.cellsOf 5 = 1 := by kernel_rfl
theorem cellsBool : Tryz.prog.cellsOf 4 = 1 := by kernel_rfl
theorem cellsString : Tryz.prog.cellsOf 9 = 1 := by kernel_rfl
theorem cellsLetter : Tryz.prog.cellsOf 133 = 3 := by kernel_rfl
theorem cellsAlphabet : Tryz.prog.cellsOf 66 = 2 := by kernel_rfl
theorem cellsSpelling : Tryz.prog.cellsOf 58 = 2 := by kernel_rfl
theorem cellsBook : Tryz.prog.cellsOf 25 = 3 := by kernel_rfl
theorem cellsLetters : Tryz.prog.cellsOf 64 = 1 := by kernel_rfl
theorem cellsAlphabets : Tryz.prog.cellsOf 22 = 1 := by kernel_rfl
theorem cellsSpellings : Tryz.prog.cellsOf 23 = 1 := by kernel_rfl
theorem wf_i64 {n : Int} (h : (Lit.int .i64 n).wf = true) : I64 n := by
  simpa [Lit.wf, IntKind.min, IntKind.max, IntKind.signed, IntKind.bits, I64] using h
theorem wf_u8 {n : Int} (h : (Lit.int .u8 n).wf = true) : U8 n := by
  simpa [Lit.wf, IntKind.min, IntKind.max, IntKind.signed, IntKind.bits, U8] using h
theorem letter_of {n : Nat} {cs : List Value} {y : DataW H × List MemPlace} (h : DataW.trod enc Tryz.prog w base sp held n 133 cs = some y) :
    ∃ x : Letter, cs = [.int .u8 x.c, .int .i64 x.sounds, .bool x.silent] ∧ U8 x.c ∧ I64 x.sounds := by
  obtain ⟨y0, y1, y2, m, -, hl, h0, h1, h2⟩ := Deep.trod_struct3 Tryz.underlying133 h
  rw [cellsLetter] at hl
  obtain ⟨c0, c1, c2, rfl⟩ := three_of hl
  simp only [cellsU8, cellsInt, cellsBool, List.drop_zero, List.drop_succ_cons, List.take_succ_cons, List.take_zero] at h0 h1 h2
  obtain ⟨a, ea, -, wa⟩ := DataW.trod_int Tryz.underlying5 h0
  obtain ⟨b, eb, -, wb⟩ := DataW.trod_int Tryz.underlying3 h1
  obtain ⟨c, ec, -⟩ := DataW.trod_bool Tryz.underlying4 h2
  simp only [List.cons.injEq, and_true] at ea eb ec
  subst ea eb ec
  exact ⟨⟨a, b, c⟩, rfl, wf_u8 wa, wf_i64 wb⟩
theorem letters_of {fuel : Nat} {v : Value} {x : DataW H × List MemPlace} (h : DataW.trod enc Tryz.prog w base sp held fuel 64 [v] = some x) : ∃ l, LettersAt w v l :=
  slice_of Tryz.underlying64 cellsLetter (by decide) (fun n cs y hy => by
    obtain ⟨x, rfl, hu, hi⟩ := letter_of hy
    refine ⟨x, fun b o hc => ⟨?_, ?_, ?_, hu, hi⟩⟩
    · exact hc 0 (by decide)
    · exact hc 1 (by decide)
    · exact hc 2 (by decide)) h
theorem alphabet_of {n : Nat} {cs : List Value} {y : DataW H × List MemPlace} (h : DataW.trod enc Tryz.prog w base sp held n 66 cs = some y) :
    ∃ (x : Alphabet) (u : Value), cs = [.string x.name, u] ∧ x.name.size ≤ 9223372036854775807 ∧ LettersAt w u x.letters := by
  obtain ⟨y0, y1, m, -, hl, h0, h1⟩ := trod_struct2 Tryz.underlying66 h
  rw [cellsAlphabet] at hl
  obtain ⟨c0, c1, rfl⟩ := two_of hl
  simp only [cellsString, cellsLetters, List.drop_zero, List.drop_succ_cons, List.take_succ_cons, List.take_zero] at h0 h1
  obtain ⟨s, es, -, hs⟩ := DataW.trod_string Tryz.underlying9 h0
  obtain ⟨l, hll⟩ := letters_of h1
  simp only [List.cons.injEq, and_true] at es
  subst es
  exact ⟨⟨s, l⟩, c1, rfl, by simpa [maxLen] using hs, hll⟩
theorem alphabets_of {fuel : Nat} {v : Value} {x : DataW H × List MemPlace} (h : DataW.trod enc Tryz.prog w base sp held fuel 22 [v] = some x) : ∃ l, AlphabetsAt w v l :=
  slice_of Tryz.underlying22 cellsAlphabet (by decide) (fun n cs y hy => by
    obtain ⟨x, u, rfl, hs, hl⟩ := alphabet_of hy
    refine ⟨x, fun b o hc => ⟨?_, hs, u, ?_, hl⟩⟩
    · exact hc 0 (by decide)
    · exact hc 1 (by decide)) h
theorem spelling_of {n : Nat} {cs : List Value} {y : DataW H × List MemPlace} (h : DataW.trod enc Tryz.prog w base sp held n 58 cs = some y) :
    ∃ x : Spelling, cs = [.int .i64 x.alphabet, .string x.text] ∧ I64 x.alphabet ∧ x.text.size ≤ 9223372036854775807 := by
  obtain ⟨y0, y1, m, -, hl, h0, h1⟩ := trod_struct2 Tryz.underlying58 h
  rw [cellsSpelling] at hl
  obtain ⟨c0, c1, rfl⟩ := two_of hl
  simp only [cellsString, cellsInt, List.drop_zero, List.drop_succ_cons, List.take_succ_cons, List.take_zero] at h0 h1
  obtain ⟨a, ea, -, wa⟩ := DataW.trod_int Tryz.underlying3 h0
  obtain ⟨s, es, -, hs⟩ := DataW.trod_string Tryz.underlying9 h1
  simp only [List.cons.injEq, and_true] at ea es
  subst ea es
  exact ⟨⟨a, s⟩, rfl, wf_i64 wa, by simpa [maxLen] using hs⟩
theorem spellings_of {fuel : Nat} {v : Value} {x : DataW H × List MemPlace} (h : DataW.trod enc Tryz.prog w base sp held fuel 23 [v] = some x) : ∃ l, SpellingsAt w v l :=
  slice_of Tryz.underlying23 cellsSpelling (by decide) (fun n cs y hy => by
    obtain ⟨x, rfl, hi, hs⟩ := spelling_of hy
    refine ⟨x, fun b o hc => ⟨?_, ?_, hi, hs⟩⟩
    · exact hc 0 (by decide)
    · exact hc 1 (by decide)) h
set_option maxRecDepth 100000 in
/-- A BOOK -/
theorem book_of {r : Reach} {b0 : Nat} {v : Value} {d : DataW H} {ps : List MemPlace} (hval : Value.okWide Tryz.prog w r b0 25 v) (hd : DataW.Trod enc Tryz.prog w base sp held 25 v d ps) : ∃ b, BookAt w v b := by
  simp only [Value.okWide, Tryz.underlying25] at hval
  obtain ⟨cs, rfl, -, -⟩ := hval
  obtain ⟨fuel, h⟩ := hd
  simp only [Value.cells] at h
  obtain ⟨y0, y1, y2, m, -, hl, h0, h1, h2⟩ := Deep.trod_struct3 Tryz.underlying25 h
  rw [cellsBook] at hl
  obtain ⟨cs⟩ := cs
  obtain ⟨c0, c1, c2, rfl⟩ := three_of hl
  simp only [cellsInt, cellsAlphabets, cellsSpellings, List.drop_zero, List.drop_succ_cons, List.take_succ_cons, List.take_zero] at h0 h1 h2
  obtain ⟨a, ea, -, wa⟩ := DataW.trod_int Tryz.underlying3 h0
  obtain ⟨al, hal⟩ := alphabets_of h1
  obtain ⟨sl, hsl⟩ := spellings_of h2
  simp only [List.cons.injEq, and_true] at ea
  subst ea
  exact ⟨⟨a, al, sl⟩, c1, c2, rfl, wf_i64 wa, hal, hsl⟩
/-- a place that was there is as it was -/
theorem same_of_ext {W W' : World} (h : Ext W W') {p : MemPlace} (hp : p.block < W.heap.size) : W.sameAt W' p := by
  cases p with
  | cell b off =>
    show W'.cell? ⟨b, off, none⟩ = W.cell? ⟨b, off, none⟩
    exact Below.cell (p := ⟨b, off, none⟩) h hp
  | map b =>
    show W'.heap[b]? = W.heap[b]?
    exact Below.block h b hp
end
end Go.Proofs.YtnfbhicoknpojaaGreat

namespace Go.Proofs.YtnfbhicoknpojaaGreat
set_option linter.unusedSimpArgs false
set_option linter.unusedVariables false
set_option linter.unnecessarySimpa false
open Go.ChangeShapes Go.WideShapes Go.RowKit
set_option maxRecDepth 100000
section
variable {H : Type} {enc : TypeId × Value → H} {w : World} {base : Nat} {sp : Nat → Bool} {held : Bool}
theorem array_of {t e : TypeId} {k : IntKind} {n : Nat} (ht : Tryz.prog.underlying t = some (.array n e)) (he : Tryz.prog.underlying e = some (.int k)) (hce : Tryz.prog.cellsOf e = 1) (hct : Tryz.prog.cellsOf t = n)
    {r : Reach} {b0 : Nat} {v : Value} {d : DataW H} {ps : List MemPlace} (hval : Value.okWide Tryz.prog w r b0 t v) (hd : DataW.Trod enc Tryz.prog w base sp held t v d ps) :
    ∃ l : List Int, v = .agg (l.map (Value.int k)).toArray ∧ l.length = n ∧ ∀ x ∈ l, (Lit.int k x).wf = true := by
  simp only [Value.okWide, ht] at hval
  obtain ⟨cs, rfl, -, -⟩ := hval
  obtain ⟨fuel, h⟩ := hd
  simp only [Value.cells] at h
  obtain ⟨xs, m, -, -, hl, hxl, hel⟩ := DataW.trod_array ht h
  rw [hct] at hl
  rw [hce] at hel
  have hone : ∀ i (hi : i < n), ∃ a : Int, cs.toList[i]'(by omega) = .int k a ∧ (Lit.int k a).wf = true := by
    intro i hi
    have h1 := hel i hi
    rw [Nat.mul_one, List.getElem?_eq_getElem (by omega)] at h1
    have e1 : (cs.toList.drop i).take 1 = [cs.toList[i]'(by omega)] := by
      rw [List.drop_eq_getElem_cons (by omega)]; rfl
    rw [e1] at h1
    obtain ⟨a, ea, -, wa⟩ := DataW.trod_int he h1
    simp only [List.cons.injEq, and_true] at ea
    exact ⟨a, ea, wa⟩
  have key : ∀ l : List Value, (∀ i (hi : i < l.length), ∃ a : Int, l[i] = .int k a ∧ (Lit.int k a).wf = true) → ∃ q : List Int, l = q.map (Value.int k) ∧ ∀ x ∈ q, (Lit.int k x).wf = true := by
    intro l
    induction l with
    | nil => exact fun _ => ⟨[], rfl, by simp⟩
    | cons c l ih =>
      intro hc
      obtain ⟨a, ea, wa⟩ := hc 0 (by simp)
      obtain ⟨q, eq, wq⟩ := ih fun i hi => by
        have := hc (i + 1) (by simpa using hi)
        simpa using this
      refine ⟨a :: q, ?_, ?_⟩
      · simp only [List.getElem_cons_zero] at ea
        rw [ea, eq]; rfl
      · intro x hx
        rcases List.mem_cons.1 hx with rfl | hx
        · exact wa
        · exact wq x hx
  obtain ⟨q, eq, wq⟩ := key cs.toList fun i hi => hone i (by omega)
  refine ⟨q, ?_, by rw [← hl, eq]; simp, wq⟩
  congr 1
  rw [← eq]
/-- an array of two bytes -/
theorem bytes2_of {r : Reach} {b0 : Nat} {v : Value} {d : DataW H} {ps : List MemPlace} (hval : Value.okWide Tryz.prog w r b0 27 v) (hd : DataW.Trod enc Tryz.prog w base sp held 27 v d ps) :
    ∃ x y : Nat, v = .agg #[.int .u8 x, .int .u8 y] ∧ x ≤ 255 ∧ y ≤ 255 := by
  obtain ⟨l, rfl, hl, hw⟩ := array_of Tryz.underlying27 Tryz.underlying5 cellsU8 (by kernel_rfl) hval hd
  match l, hl with
  | [a, b], _ =>
    have ha := wf_u8 (hw a (by simp))
    have hb := wf_u8 (hw b (by simp))
    unfold U8 at ha hb
    refine ⟨a.toNat, b.toNat, ?_, by omega, by omega⟩
    rw [show ((a.toNat : Nat) : Int) = a from by omega, show ((b.toNat : Nat) : Int) = b from by omega]
    rfl
/-- one byte -/
theorem byte_of {r : Reach} {b0 : Nat} {v : Value} {d : DataW H} {ps : List MemPlace} (hval : Value.okWide Tryz.prog w r b0 5 v) (hd : DataW.Trod enc Tryz.prog w base sp held 5 v d ps) : ∃ x : Nat, v = .int .u8 x ∧ x ≤ 255 := by
  obtain ⟨a, rfl, -, -, wa⟩ := Go.ChangeShapes.open_int Tryz.underlying5 hval hd
  have ha := wf_u8 wa
  unfold U8 at ha
  exact ⟨a.toNat, by rw [show ((a.toNat : Nat) : Int) = a from by omega], by omega⟩
/-- one number -/
theorem int_of {r : Reach} {b0 : Nat} {v : Value} {d : DataW H} {ps : List MemPlace} (hval : Value.okWide Tryz.prog w r b0 3 v) (hd : DataW.Trod enc Tryz.prog w base sp held 3 v d ps) : ∃ x : Int, v = .int .i64 x ∧ I64 x := by
  obtain ⟨a, rfl, -, -, wa⟩ := Go.ChangeShapes.open_int Tryz.underlying3 hval hd
  exact ⟨a, rfl, wf_i64 wa⟩
theorem cellsInts : Tryz.prog.cellsOf 45 = 1 := by kernel_rfl
theorem cellsBytes : Tryz.prog.cellsOf 26 = 1 := by kernel_rfl
/-- a list of numbers -/
theorem intsArg_of {r : Reach} {b0 : Nat} {v : Value} {d : DataW H} {ps : List MemPlace} (hval : Value.okWide Tryz.prog w r b0 45 v) (hd : DataW.Trod enc Tryz.prog w base sp held 45 v d ps) : ∃ l, IntsAt w v l := by
  obtain ⟨a0, len, cap, rfl⟩ := okWide_slice Tryz.underlying45 hval
  obtain ⟨fuel, h⟩ := hd
  exact slice_of Tryz.underlying45 cellsInt (by decide) (fun n cs y hy => by
    obtain ⟨x, rfl, -, wx⟩ := DataW.trod_int Tryz.underlying3 hy
    exact ⟨x, fun b o hc => ⟨by simpa using hc 0 (by decide), wf_i64 wx⟩⟩) h
/-- a list of bytes -/
theorem bytesArg_of {r : Reach} {b0 : Nat} {v : Value} {d : DataW H} {ps : List MemPlace} (hval : Value.okWide Tryz.prog w r b0 26 v) (hd : DataW.Trod enc Tryz.prog w base sp held 26 v d ps) : ∃ l, BytesAt w v l := by
  obtain ⟨a0, len, cap, rfl⟩ := okWide_slice Tryz.underlying26 hval
  obtain ⟨fuel, h⟩ := hd
  exact slice_of Tryz.underlying26 cellsU8 (by decide) (fun n cs y hy => by
    obtain ⟨x, rfl, -, wx⟩ := DataW.trod_int Tryz.underlying5 hy
    exact ⟨x, fun b o hc => ⟨by simpa using hc 0 (by decide), wf_u8 wx⟩⟩) h
end
end Go.Proofs.YtnfbhicoknpojaaGreat

namespace Go.Proofs.YtnfbhicoknpojaaGreat
set_option linter.unusedSimpArgs false
set_option linter.unusedVariables false
set_option linter.unnecessarySimpa false
open Go.ChangeShapes Go.WideShapes Go.RowKit
set_option maxRecDepth 100000
section
variable {H : Type} {enc : TypeId × Value → H} {w : World} {base : Nat} {sp : Nat → Bool} {held : Bool}
theorem six_of {cs : List Value} (h : cs.length = 6) : ∃ a b c d e f, cs = [a, b, c, d, e, f] := by
  match cs, h with
  | [a, b, c, d, e, f], _ => exact ⟨a, b, c, d, e, f, rfl⟩
theorem bytes_in {fuel : Nat} {v : Value} {x : DataW H × List MemPlace} (h : DataW.trod enc Tryz.prog w base sp held fuel 26 [v] = some x) : ∃ l, BytesAt w v l :=
  slice_of Tryz.underlying26 cellsU8 (by decide) (fun n cs y hy => by
    obtain ⟨x, rfl, -, wx⟩ := DataW.trod_int Tryz.underlying5 hy
    exact ⟨x, fun b o hc => ⟨by simpa using hc 0 (by decide), wf_u8 wx⟩⟩) h
end
end Go.Proofs.YtnfbhicoknpojaaGreat

namespace Go.Proofs.YtnfbhicoknpojaaGreat
set_option linter.unusedSimpArgs false
set_option linter.unusedVariables false
set_option linter.unnecessarySimpa false
open Go.ChangeShapes Go.WideShapes Go.ChangeAt Go.RowKit
section
variable {H : Type} {enc : TypeId × Value → H} {P : Program}
/-- a call that lets all that was there be, and answers as it should, keeps a law's word -/
theorem post_ext {f : Func} {s : ChangeSpec} {apart fresh handsOn again : Bool} {W W' : World} {args : Array Value} {v : Value} {ds gs : List (DataW H)} {before pa pv : List MemPlace}
    (hW : DataW.Whole enc P f.params.toList s.vars apart W args.toList ds gs before)
    (hres : ∀ (b : Nat) (sp : Nat → Bool) (hd : Bool), DataW.TrodAll enc P W' b sp hd f.resultTypes.toList (v.resultList f.resultTypes.size) (s.fn H (ds ++ gs)).results [])
    (hargs : ∀ sp : Nat → Bool, (∀ p ∈ before, sp p.block = true) → DataW.TrodAll enc P W' 0 sp true f.params.toList args.toList (s.fn H (ds ++ gs)).args pa)
    (hvars : ∀ sp : Nat → Bool, (∀ p ∈ before, sp p.block = true) → DataW.TrodVars enc P W' sp s.vars (s.fn H (ds ++ gs)).vars pv)
    (hps : before = pa ++ pv) (hx : Ext W W')
    (hok : ∀ (j : Nat) (t : TypeId) (r : Value), f.resultTypes[j]? = some t → (v.resultList f.resultTypes.size)[j]? = some r → Value.okWide P W' .any 0 t r) :
    s.post enc P f apart fresh handsOn again W args v W' := by
  have hlt := hW.lt
  have hold : ∀ p ∈ before, (fun b => decide (b < W.heap.size)) p.block = true := fun p hp => decide_eq_true (hlt p hp)
  have hin : ∀ p ∈ before, p ∈ pa ∨ p ∈ pv := fun p hp => List.mem_append.1 (hps ▸ hp)
  refine ⟨ds, gs, before, [], pa, pv, hW, hres _ _ _, hargs _ hold, hvars _ hold, World.keptBut_mono (fun p (hp : p ∈ before) => ⟨hp, .inr (hin p hp)⟩) (Below.frame hx _), fun _ => ⟨hok, ?_⟩⟩
  obtain ⟨_, _, _, _, _, hz, hn⟩ := hW
  refine ⟨_, _, pa ++ pv, ⟨[] ++ pa, pv, trodAll_append (hargs _ (fun _ _ => rfl)) (hres _ _ _), hvars _ (fun _ _ => rfl), by simp, fun b off hp => ?_, fun ha => by rw [← hps]; exact hn ha⟩, fun p hp _ => by rw [hps]; exact hp⟩
  rw [← hps] at hp
  rw [hx.frozen (p := ⟨b, off, none⟩) (hlt _ hp)]
  exact hz b off hp
end
end Go.Proofs.YtnfbhicoknpojaaGreat

namespace Go.Proofs.YtnfbhicoknpojaaGreat
set_option linter.unusedSimpArgs false
set_option linter.unusedVariables false
set_option linter.unnecessarySimpa false
end Go.Proofs.YtnfbhicoknpojaaGreat

namespace Go.Proofs.YtnfbhicoknpojaaGreat
set_option linter.unusedSimpArgs false
set_option linter.unusedVariables false
set_option linter.unnecessarySimpa false
open Go.RowKit
set_option linter.unusedVariables false
set_option linter.unusedSimpArgs false

/-- one number, in a block of its own -/
def NewT (own : Option Nat) (a : Value) (u : Value) (w : World) : Prop := ∃ B, u = .slice (some ⟨B, 0, none⟩) 1 1 ∧ w.cell? ⟨B, 0, none⟩ = some a ∧ some B ≠ own
noncomputable def NewT.B {own : Option Nat} {a u : Value} {w : World} (h : NewT own a u w) : Nat := Exists.choose h
theorem NewT.spec {own : Option Nat} {a u : Value} {w : World} (h : NewT own a u w) : u = .slice (some ⟨h.B, 0, none⟩) 1 1 ∧ w.cell? ⟨h.B, 0, none⟩ = some a ∧ some h.B ≠ own := Exists.choose_spec h
theorem NewT.ext {own : Option Nat} {a u : Value} {w w' : World} (h : NewT own a u w) (hx : Ext w w') : NewT own a u w' := by
  obtain ⟨B, h1, h2, h3⟩ := h; exact ⟨B, h1, hx.cell h2, h3⟩
theorem NewT.but {own : Option Nat} {a u : Value} {w w' : World} (h : NewT own a u w) (hx : Facts.App.But own w w') : NewT own a u w' := by
  obtain ⟨B, h1, h2, h3⟩ := h; exact ⟨B, h1, World.grownBy.cell hx h2 h3, h3⟩

theorem one_cellsT {a : Value} {w : World} {B : Nat} (h2 : w.cell? ⟨B, 0, none⟩ = some a) : ∀ j v, [a][j]? = some v → w.cell? ((⟨B, 0, none⟩ : Addr).add j) = some v := by
  intro j v hj
  match j, hj with
  | 0, hj => simp at hj; subst hj; simpa [Addr.add] using h2
/-- a row of numbers -/
def RowT (base : Nat) (l : List Int) (u : Value) (w : World) : Prop := w.ownsRow base 3 1 u l.length (l.map (Value.int .i64))
theorem RowT.ext {base : Nat} {l : List Int} {u : Value} {w w' : World} (h : RowT base l u w) (hx : Ext w w') : RowT base l u w' := Ext.owns h hx
/-- what is heard, and which letters there are, by turns -/
def sndT (S : Int) (hd : List Int) (i : Nat) : List Int := (hd.take i).map fun y => Int.tmod y S
theorem sndT_succ (S : Int) (hd : List Int) (i : Nat) (h : i < hd.length) : sndT S hd (i + 1) = sndT S hd i ++ [Int.tmod hd[i] S] := by
  unfold sndT; rw [List.take_succ_eq_append_getElem h, List.map_append]; rfl
theorem sndT_len (S : Int) (hd : List Int) (i : Nat) : (sndT S hd i).length ≤ i := by
  unfold sndT; rw [List.length_map]; exact List.length_take_le _ _
/-- the first five, at most -/
def soundsT (S : Int) (hd : List Int) : List Int := sndT S hd (min 5 hd.length)
theorem soundsT_ok {S : Int} (hS : 1 ≤ S ∧ S ≤ 4) {hd : List Int} (hU : ∀ y ∈ hd, U8 y) : heardErrM S (soundsT S hd) = 0 ∧ ∀ s ∈ soundsT S hd, 0 ≤ s ∧ s ≤ S - 1 := by
  have hsd : ∀ s ∈ soundsT S hd, 0 ≤ s ∧ s ≤ S - 1 := fun s hs => by
    unfold soundsT sndT at hs
    rw [List.mem_map] at hs
    obtain ⟨y, hy, rfl⟩ := hs
    have dU := hU y (List.mem_of_mem_take hy)
    unfold U8 at dU
    rw [Int.tmod_eq_emod_of_nonneg dU.1]
    have g1 := Int.emod_nonneg y (show S ≠ 0 by omega)
    have g2 := Int.emod_lt_of_pos y (show 0 < S by omega)
    omega
  refine ⟨?_, hsd⟩
  have := sndT_len S hd (min 5 hd.length)
  unfold heardErrM
  rw [if_neg (by unfold soundsT; omega), if_neg]
  rw [Bool.not_eq_false]
  unfold withinM
  rw [List.all_eq_true]
  exact fun s hs => (inM_iff _ _ _).2 (hsd s hs)
set_option maxRecDepth 100000 in
set_option maxHeartbeats 4000000 in
theorem sounds_any (bv v : Value) (b : Book) (hd : List Int) (R : World) (hS : 1 ≤ b.sounds ∧ b.sounds ≤ 4) (hb : BookAt R bv b) (hh : BytesAt R v hd) :
    Calls Tryz.prog 10 #[bv, v] R fun e w' => ∃ u, e = .returned u ∧ IntsAt w' u (soundsT b.sounds hd) ∧ Ext R w' := by
  obtain ⟨ba, bc, bs, bd, rfl, -⟩ := hb.open
  obtain ⟨ha, hc, rfl, -⟩ := hh.shape
  obtain ⟨W, hW⟩ : ∃ W, W = R.alloc (.cells #[.int .i64 b.sounds, .slice ba b.alphabets.length bc, .slice bs b.spellings.length bd] 25) := ⟨_, rfl⟩
  have q0 : W.cell? ⟨R.heap.size, 0, none⟩ = some (.int .i64 b.sounds) := by rw [hW]; simp [go_sem]
  have xW : Ext R W := by rw [hW]; exact ext_alloc _ _
  have z1 := cell_lt q0
  replace hh := hh.ext xW
  obtain ⟨i0, hi, hz0, hz1, hz2⟩ := info_parts infoInt
  obtain ⟨O, hO⟩ : ∃ O, O = R.heap.size := ⟨_, rfl⟩
  rw [← hO] at q0 z1
  have HW := Lib.hid hW
  have HO := Lib.hid hO
  clear hW hO hb
  go_enter Tryz.func10, Tryz.ntmps10
  go_wp2_with fail
  rw [← HW.out, ← HO.out]
  clear HW HO
  go_loopw [5, 6] (fun v i wr => ∃ k : Nat, k ≤ hd.length ∧ k ≤ 5 ∧ i = .int .i64 k ∧ Ext W wr ∧ RowT W.heap.size (sndT b.sounds hd k) v wr) (fun _ i _ => hd.length - (intOf i).toNat)
  case atStart => exact ⟨0, Nat.zero_le _, Nat.zero_le _, rfl, Ext.refl _, World.ownsRow_nil _ _ _ _⟩
  case round =>
    obtain ⟨k, hk, hk5, rfl, hxr, hown⟩ := hrel
    by_cases hlt : k < hd.length ∧ k < 5
    · have k2 : (k : Int) < (hd.length : Int) := by omega
      have k3 : (k : Int) < 5 := by omega
      have hst := sndT_succ b.sounds hd k hlt.1
      have hhr := (hh.ext hxr)
      obtain ⟨_, _, hea, -, -, hq⟩ := hhr
      obtain ⟨hb', ho', rfl, d0, dU⟩ := hq k hlt.1
      have hea1 := (Value.slice.inj hea).1
      subst hea1
      simp only [Nat.mul_one] at d0
      clear hea hq
      generalize hd[k] = y at *
      have wy : IntKind.i64.wrap y = y := IntWalk.i64_in _ (by unfold U8 at dU; omega)
      have hs0 : 0 ≤ Int.tmod y b.sounds ∧ Int.tmod y b.sounds ≤ 255 := by
        unfold U8 at dU
        rw [Int.tmod_eq_emod_of_nonneg dU.1]
        have g1 := Int.emod_nonneg y (show b.sounds ≠ 0 by omega)
        have g2 := Int.emod_lt_of_pos y (show 0 < b.sounds by omega)
        omega
      obtain ⟨s, hs⟩ : ∃ s, s = Int.tmod y b.sounds := ⟨_, rfl⟩
      rw [← hs] at hst hs0
      have hs' : Int.tmod y b.sounds = s := hs.symm
      have ws : IntKind.i64.wrap s = s := IntWalk.i64_in _ (by omega)
      have nzS : (b.sounds == 0) = false := by rw [beq_eq_false_iff_ne]; omega
      have nz0 : ¬ b.sounds = 0 := by omega
      have hcl := sndT_len b.sounds hd k
      generalize sndT b.sounds hd k = cur at *
      have Hst := Lib.hid hst
      have d1 := hxr.cell q0
      have dlt := hown.lt
      have hszr := hxr.size
      clear hst hs hs0 hlt dU
      go_wp2_with fail
      apply Facts.wp_frame
      intro A hA
      have f3 : ∀ h, A.tmps[2]'h = .pointer (some ⟨O, 0, none⟩) := by rw [hA]; exact fun _ => rfl
      have f1 : ∀ h, A.tmps[1]'h = .slice (some ⟨hb', ho', none⟩) hd.length hc := by rw [hA]; exact fun _ => rfl
      have f5 : ∀ h, A.tmps[5]'h = u5 := by rw [hA]; exact fun _ => rfl
      have f6 : ∀ h, A.tmps[6]'h = .int .i64 k := by rw [hA]; exact fun _ => rfl
      have fsz : A.tmps.size = 29 := by rw [hA]; rfl
      have HA := Lib.hid hA
      clear hA
      apply Facts.Dep.wp_region (Facts.App.two_but u5.ownBlock) 10 [.val _, .val _, .val _, .val _, .val _, .val _, .val _, .val _, .val (.int .i64 s), .fact (NewT u5.ownBlock (.int .i64 s)), .fact (RowT W.heap.size (cur ++ [s])), .fact (RowT W.heap.size (cur ++ [s]))] (by kernel_rfl) (by kernel_rfl) (.inl (by kernel_rfl)) (by kernel_rfl) ?keep ?main
      case keep => exact ⟨fun u a c hx h => h.ext hx, fun _ u a c hx h => h.but hx, fun u a c hx h => h.ext hx, fun h => absurd h (Bool.eq_false_iff.1 (by kernel_rfl)), fun u a c hx h => h.ext hx, fun h => absurd h (Bool.eq_false_iff.1 (by kernel_rfl)), trivial⟩
      case main =>
        iterate 9 (refine ⟨fun w1 hE hC hh => ?_, ?_⟩; focus (have hx := hE (by kernel_rfl); clear hh hE hC; have e0 := hx.cell d0; have e1 := hx.cell d1; go_simp; first | exact ⟨Ext.refl _, rfl⟩ | exact Ext.refl _))
        refine ⟨fun w1 hE hC hh => ?_, ?_⟩
        · have hx := hE (by kernel_rfl)
          clear hh hE hC
          have hsz1 := hx.size
          go_simp
          exact ⟨ext_alloc _ _, w1.heap.size, rfl, by simp [go_sem], fun e => by have := (dlt _ e.symm).2; omega⟩
        intro u9
        refine ⟨fun w1 hE hC hh => ?_, ?_⟩
        · have hx := hE (by kernel_rfl)
          have h9 : NewT u5.ownBlock (.int .i64 s) u9 w1 := hh 9 _ List.mem_cons_self (by kernel_rfl)
          clear hh hE hC
          have s9 := h9.spec
          generalize h9.B = B at *
          have e9 := s9.1
          have c9 := s9.2.1
          clear s9 h9
          subst e9
          have hsz1 := hx.size
          refine Facts.App.stepG_append rfl (.tmp 17) (.tmp 26) 45 rfl W.heap.size 3 i0 (.int .i64 0) 1 8 Tryz.underlying45 hi hz0 hz1 hz2 rfl (by decide) u5 cur.length (cur.map (Value.int .i64)) (by go_simp) (Ext.owns hown hx) ⟨B, 0, none⟩ 1 1 [.int .i64 s] (by go_simp) rfl (one_cellsT c9) (by simp [Value.oneCell']) (by unfold maxLen; omega) (by omega) (by omega) ?_
          intro v' w' ho hg hbk
          exact ⟨hg, by unfold RowT; rw [List.length_append, List.map_append]; exact ho⟩
        intro u10
        refine ⟨fun w1 hE hC hh => ?_, ?_⟩
        · have h10 : RowT W.heap.size (cur ++ [s]) u10 w1 := hh 10 _ List.mem_cons_self (by kernel_rfl)
          clear hh hE hC
          go_simp
          first | exact ⟨Ext.refl _, h10⟩ | exact Ext.refl _
        intro u5' w5 hC hh
        have h11 : RowT W.heap.size (cur ++ [s]) u5' w5 := hh 11 _ List.mem_cons_self
        clear hh
        have x6 : Ext W w5 := Ext.grown hxr hC fun k hk => (hown.lt k hk).1
        clear hC hown d0 d1 f3 f1 f5 f6 fsz
        have hA := HA.out
        subst hA
        go_simp
        go_wp2
        go_roundw
        case rel => exact ⟨k + 1, by omega, by omega, by go_num, x6, by rw [Hst.out]; exact h11⟩
        case measure => simp [intOf]; omega
    · have hU : ∀ y ∈ hd, U8 y := fun y hy => by
        obtain ⟨j, hj, rfl⟩ := List.getElem_of_mem hy
        obtain ⟨_, _, hea, -, -, hq⟩ := hh
        obtain ⟨-, -, -, -, dU⟩ := hq j hj
        exact dU
      have hk' : k = min 5 hd.length := by omega
      have hsd := (soundsT_ok hS hU).2
      have hown' : IntsAt wr u5 (soundsT b.sounds hd) := by
        unfold soundsT at hsd ⊢
        rw [← hk'] at hsd ⊢
        exact IntsAt.of_own hown fun s hs => by have := hsd s hs; unfold I64; omega
      have hcase : ¬ (k : Int) < (hd.length : Int) ∨ ((k : Int) < (hd.length : Int) ∧ ¬ (k : Int) < 5) := by omega
      have hsh := hown'.shape
      obtain ⟨va, vc, rfl, -⟩ := hsh
      clear hown hlt hk' hsd hU
      rcases hcase with k2 | ⟨k2, k3⟩
      all_goals
        go_wp2
        go_ret
        exact ⟨_, rfl, hown', xW.trans hxr⟩
end Go.Proofs.YtnfbhicoknpojaaGreat

namespace Go.Proofs.YtnfbhicoknpojaaGreat
set_option linter.unusedSimpArgs false
set_option linter.unusedVariables false
set_option linter.unnecessarySimpa false
set_option linter.unusedVariables false
set_option linter.unusedSimpArgs false

theorem firstErr_noneT {α : Type} (f : List α → α → Int) : ∀ (r pre : List α), (∀ k (hk : k < r.length), f (pre ++ r.take k) r[k] = 0) → (firstErrFrom f pre r).2 = 0
  | [], _, _ => rfl
  | x :: r, pre, h => by
    have h0 := h 0 (by simp)
    simp only [List.take_zero, List.append_nil, List.getElem_cons_zero] at h0
    unfold firstErrFrom
    rw [if_pos h0]
    refine firstErr_noneT f r (pre ++ [x]) fun k hk => ?_
    have := h (k + 1) (by simpa using hk)
    simpa using this
theorem fillsErr_noneT {ps : List Part} {fs : List (List ByteArray)} (hp : PutOk (roomsM ps) fs) (hn : fs.length = (roomsM ps).length) : fillsErrM ps fs = 0 := by
  unfold fillsErrM
  rw [if_neg (by simpa using hn)]
  refine firstErr_noneT _ fs [] fun k hk => ?_
  rw [List.nil_append]
  unfold fillErrM
  have hlr : k < (roomsM ps).length := by omega
  have hlk : (fs.take k).length = k := by rw [List.length_take]; omega
  rw [hlk, show (roomsM ps).getD k ⟨[], 0, 0⟩ = (roomsM ps)[k] from by simp [hlr]]
  obtain ⟨h1, h2⟩ := hp.at_ k hk hlr
  rw [if_neg, if_neg]
  · rw [Bool.not_eq_false]
    unfold wordsM
    rw [List.all_eq_true]
    exact hp.w _ (List.getElem_mem hk)
  · rw [Bool.not_eq_false]
    unfold inM
    rw [Bool.and_eq_true]
    exact ⟨decide_eq_true h1, decide_eq_true h2⟩
/-- the note of a name and what else is in it -/
def noteM (T : ByteArray) (R : List ByteArray) : List ByteArray := T :: wI :: wAsk :: R
theorem note_built (T : ByteArray) (R : List ByteArray) : builtM (formOf shelfE 1).parts [[T], R] = noteM T R := by
  show builtM [roomP 1 2, givenP [wI, wAsk], roomP 0 2] [[T], R] = _
  have r0 : roomyM (roomP 1 2) = true := by kernel_rfl
  have r1 : roomyM (givenP [wI, wAsk]) = false := by kernel_rfl
  have r2 : roomyM (roomP 0 2) = true := by kernel_rfl
  have w1 : (givenP [wI, wAsk]).words = [wI, wAsk] := rfl
  unfold builtM builtTo builtTo builtTo builtTo stepB
  simp [r0, r1, r2, w1, noteM, stepB, builtTo]
theorem note_rooms : roomsM (formOf shelfE 1).parts = [roomP 1 2, roomP 0 2] := by kernel_rfl
theorem word_I : wordM wI = true := by kernel_rfl
theorem word_Ask : wordM wAsk = true := by kernel_rfl
theorem note_words {T : ByteArray} {R : List ByteArray} (hT : wordM T = true) (hR : ∀ s ∈ R, wordM s = true) : ∀ s ∈ noteM T R, wordM s = true := by
  intro s hs
  unfold noteM at hs
  rcases List.mem_cons.1 hs with rfl | hs
  · exact hT
  · rcases List.mem_cons.1 hs with rfl | hs
    · exact word_I
    · rcases List.mem_cons.1 hs with rfl | hs
      · exact word_Ask
      · exact hR s hs
theorem note_letter {T : ByteArray} {R : List ByteArray} (hT : wordM T = true) (hR : ∀ s ∈ R, wordM s = true) (h2 : R.length ≤ 2) : letterErrL (noteM T R) = 0 := by
  unfold letterErrL
  rw [if_neg (by simp only [noteM, List.length_cons]; omega), if_neg]
  rw [Bool.not_eq_false]
  unfold wordsM
  rw [List.all_eq_true]
  exact note_words hT hR
theorem note_open : openErrM shelfE 1 = 0 := by kernel_rfl
theorem note_make {T : ByteArray} {R : List ByteArray} (hT : wordM T = true) (hR : ∀ s ∈ R, wordM s = true) (h2 : R.length ≤ 2) : makeErrM shelfE 1 [[T], R] = 0 := by
  unfold makeErrM
  rw [if_neg (by rw [note_open]; simp)]
  refine fillsErr_noneT ⟨by rw [note_rooms]; simp, fun i h1 h3 => ?_, fun l hl s hs => ?_⟩ (by rw [note_rooms]; rfl)
  · have hi : i = 0 ∨ i = 1 := by simp at h1; omega
    have e : ∀ k (hk : k < (roomsM (formOf shelfE 1).parts).length), (roomsM (formOf shelfE 1).parts)[k] = [roomP 1 2, roomP 0 2].getD k ⟨[], 0, 0⟩ := fun k hk => by
      have : ∀ (L M : List Part), L = M → ∀ h : k < L.length, L[k] = M.getD k ⟨[], 0, 0⟩ := by
        intro L M e h; subst e; simp [h]
      exact this _ _ note_rooms hk
    rw [e i h3]
    rcases hi with rfl | rfl
    · simp [roomP]
    · simp [roomP]; omega
  · rcases List.mem_cons.1 hl with rfl | hl
    · obtain rfl : s = T := by simpa using hs
      exact hT
    · obtain rfl : l = R := by simpa using hl
      exact hR s hs
theorem ed_self : ∀ l : List ByteArray, Ed l l 0
  | [] => .nil
  | x :: r => .keep x (ed_self r)
theorem ed_zero : ∀ {a b : List ByteArray} {n : Nat}, Ed a b n → n = 0 → a = b := by
  intro a b n h
  induction h with
  | nil => intro _; rfl
  | keep x h ih => intro e; rw [ih e]
  | turn x y h ih => intro e; omega
  | drop x h ih => intro e; omega
  | put y h ih => intro e; omega
theorem takes_self {x : ByteArray} : takesM ⟨x, false⟩ x = true := by
  unfold takesM
  simp
theorem edS_of_ed : ∀ {a b : List ByteArray} {n : Nat}, Ed a b n → EdS a (givenM b) n := by
  intro a b n h
  induction h with
  | nil => exact .nil
  | keep x h ih => exact .keep x _ takes_self ih
  | turn x y h ih => exact .turn x _ ih
  | drop x h ih => exact .drop x ih
  | put y h ih => exact .put _ ih
/-- one correction, or none -/
theorem note_far {T U : ByteArray} {R : List ByteArray} (hT : wordM T = true) (hU : wordM U = true) (hR : ∀ s ∈ R, wordM s = true) (h2 : R.length ≤ 2) :
    fewErrM (noteM T R) (noteM U R) = 0 ∧ fewManyM (noteM T R) (noteM U R) ≤ 1 ∧ (fewManyM (noteM T R) (noteM U R) = 0 ↔ T = U) := by
  have he : fewErrM (noteM T R) (noteM U R) = 0 := by
    unfold fewErrM
    rw [if_neg (by rw [note_letter hT hR h2]; simp)]
    exact note_letter hU hR h2
  have hm : fewManyM (noteM T R) (noteM U R) = (costM (noteM T R) (givenM (noteM U R))).2 := by
    unfold fewManyM
    rw [if_pos he]
  rw [hm]
  have hw := note_words hU hR
  refine ⟨he, cost_le (edS_of_ed (.turn T U (ed_self _))), fun h0 => ?_, fun e => ?_⟩
  · have := ed_zero (ed_cost (a := noteM T R) hw) h0
    unfold noteM at this
    exact (List.cons.inj this).1
  · subst e
    have := cost_le (edS_of_ed (ed_self (noteM T R)))
    omega
end Go.Proofs.YtnfbhicoknpojaaGreat

namespace Go.Proofs.YtnfbhicoknpojaaGreat
set_option linter.unusedSimpArgs false
set_option linter.unusedVariables false
set_option linter.unnecessarySimpa false
set_option linter.unusedVariables false

theorem wanted_len {S : List Int} (h5 : S.length ≤ 5) : 1 ≤ (wantedM S).length ∧ (wantedM S).length ≤ 5 := by
  unfold wantedM
  split
  · simp
  · rename_i h
    have := List.length_pos_iff.2 h
    omega
theorem heard_ok {n : Int} {S : List Int} (h : heardErrM n S = 0) : S.length ≤ 5 := by
  unfold heardErrM at h
  split at h
  · cases h
  · omega
/-- what Spell gives, right book and sounds: nothing, or a word that, as a spelling, is a right one and can be heard so -/
theorem top_spell {b : Book} (he : errM b = 0) {a : Nat} (ha : a < b.alphabets.length) {S : List Int} (hh : heardErrM b.sounds S = 0) (hd : ∀ s ∈ S, 0 ≤ s ∧ s ≤ b.sounds - 1) :
    (spellM b a S).2 = 9 ∨ ((spellM b a S).2 = 0 ∧ wordM (spellM b a S).1 = true ∧ errM (oneBook b a (spellM b a S).1) = 0 ∧ Can (b.sounds.toNat + 1) (lettersAt (oneBook b a (spellM b a S).1) 0) [] S) := by
  have hs : spellM b a S = (strOf (shortS (b.alphabets[a]).letters (wantedM S)), shortE (b.alphabets[a]).letters (wantedM S)) := by
    unfold spellM
    rw [if_neg (by simpa using he), Int.toNat_natCast, List.getElem?_eq_getElem ha]
    simp only
    rw [if_neg (by omega), if_neg (by simpa using hh)]
  rw [hs]
  have hv := valid_of he
  have hal := hv.al a ha
  have hlet : ∀ x ∈ (b.alphabets[a]).letters, 97 ≤ x.c ∧ x.c ≤ 122 := fun x hx => by
    obtain ⟨j, hj, rfl⟩ := List.getElem_of_mem hx
    have g1 := (hal.1.fine j hj).1.c
    omega
  have hU : ∀ x ∈ (b.alphabets[a]).letters, U8 x.c := fun x hx => by have := hlet x hx; unfold U8; omega
  rcases shortE_cases (b.alphabets[a]).letters (wantedM S) with ⟨h1, h2⟩ | ⟨h1, -⟩
  · right
    obtain ⟨h3, h4⟩ := short_placed h2
    obtain ⟨w1, w2⟩ := wanted_len (heard_ok hh)
    have hP0 : (wantedM S).map (idxG (b.alphabets[a]).letters) ≠ [] := by
      intro e
      have : ((wantedM S).map (idxG (b.alphabets[a]).letters)).length = 0 := by rw [e]; rfl
      rw [List.length_map] at this; omega
    have hP5 : ((wantedM S).map (idxG (b.alphabets[a]).letters)).length ≤ 5 := by rw [List.length_map]; exact w2
    refine ⟨h1, ?_, ?_, ?_⟩
    · show wordM (strOf (shortS (b.alphabets[a]).letters (wantedM S))) = true
      rw [h3]
      refine wordM_yes _ ?_ fun j hj => ?_
      · rw [strOf_size, placed_len, List.length_map]
        unfold inM
        rw [decide_eq_true (by omega), decide_eq_true (by omega)]; rfl
      · rw [strOf_size] at hj
        rw [byteAt_strOf hj (placed_U8 hU h4)]
        have hm : (placed (b.alphabets[a]).letters ((wantedM S).map (idxG (b.alphabets[a]).letters)))[j] ∈ placed (b.alphabets[a]).letters ((wantedM S).map (idxG (b.alphabets[a]).letters)) := List.getElem_mem hj
        unfold placed at hm
        obtain ⟨y, hy, e⟩ := List.mem_map.1 hm
        have := hlet y (placedL_mem h4 y hy)
        unfold inM
        change y.c = (placed (b.alphabets[a]).letters ((wantedM S).map (idxG (b.alphabets[a]).letters)))[j] at e
        rw [← e, decide_eq_true (by omega), decide_eq_true (by omega)]; rfl
    · show errM (oneBook b a (strOf (shortS (b.alphabets[a]).letters (wantedM S)))) = 0
      rw [h3]
      exact spelt_err he ha h4 hP0 hP5
    · show Can (b.sounds.toNat + 1) (lettersAt (oneBook b a (strOf (shortS (b.alphabets[a]).letters (wantedM S)))) 0) [] S
      rw [h3, spelt_letters he ha h4]
      refine spelt_can (fun s hs => ?_) h2 (by omega)
      have := hd s hs
      have := hv.s
      omega
  · left; exact h1
end Go.Proofs.YtnfbhicoknpojaaGreat
