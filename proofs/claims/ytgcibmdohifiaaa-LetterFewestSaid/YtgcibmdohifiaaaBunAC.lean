/-
  WHAT shortest RETURNS: for each sound the first letter that gives it.
  WHAT IS SO OF A BOOK WITHOUT AN ERROR. Plain facts.
  WHAT IS SO OF A SHELF WITHOUT AN ERROR. Plain facts.
  A LETTER THAT IS MADE: Make of the program.
  WHERE THE WORDS OF A LETTER CAN STAND: given and part.slots of the program.
  WHERE THE WORDS OF A PART CAN STAND: part.slots of the program.
  WHERE THE WORDS OF A LETTER OF A FORM CAN STAND: form.slots of the program.
  WHETHER A WORD CAN STAND IN A SLOT: slot.takes of the program.
  WHICH FILLS COME FIRST: counts.before of the program.
  WHAT IS DONE BY EACH KIND OF MARKS: kinds of the program.
  THE WAYS IN WHICH A LETTER IS OF A FORM, plain: how many words are in each part, one list of counts for each way, in their order.
  HOW THE WORDS OF A LETTER COME TO STAND IN SLOTS, plain: for what is left of the letter and of the slots, the first kind of mark with the fewest corrections from there on, and how many these are; and the marks.
  WHAT THE FUNCTIONS IN THE TABLE OF KINDS RETURN.
  A RANGE OVER A FUNCTION whose iterator has cells of its own, which it writes between two rounds: the list that it yields is known; the caller's invariant speaks of what was there when the loop began. No round leaves the loop.
-/
import Derived.Test.YtgcibmdohifiaaaBunAB
import Derived.Laws.IdiomStrings
import Derived.Test.YtgcibmdohifiaaaBunAA
import Derived.RangeFuncNested
import Derived.RangeFuncBound
import Derived.RangeFuncLeaves
import Derived.TacticsInMore
import Derived.LoopIn
namespace Go.Proofs.Ytgcibmdohifiaaa
set_option linter.unusedSimpArgs false
set_option linter.unusedVariables false
open Go.RowKit
set_option linter.unusedSimpArgs false

def wantedM (heard : List Int) : List Int := if heard = [] then [-1] else heard
def giver (ls : List Letter) (s : Int) : Option Letter := ls.find? fun x => givesM x s
def shortM (ls : List Letter) : List Int → Option (List Int)
  | [] => some []
  | s :: r => match giver ls s, shortM ls r with
    | some x, some l => some (x.c :: l)
    | _, _ => none
/-- the text of the first sounds -/
def textTo (ls : List Letter) (l : List Int) (k : Nat) : List Int := (l.take k).filterMap fun s => (giver ls s).map (·.c)

theorem infoByte : (Try.prog.info? 5).map (fun i => (i.zero, i.size, i.bytes)) = some (some (.int .u8 0), 1, 1) := by kernel_rfl
def bytesOf (l : List Int) : List Value := l.map (Value.int .u8)

theorem textTo_succ (ls : List Letter) (l : List Int) (k : Nat) (hk : k < l.length) (x : Letter) (h : giver ls l[k] = some x) : textTo ls l (k + 1) = textTo ls l k ++ [x.c] := by
  unfold textTo
  rw [List.take_succ_eq_append_getElem hk, List.filterMap_append]
  simp [h]
theorem textTo_len (ls : List Letter) (l : List Int) (k : Nat) : (textTo ls l k).length ≤ k := by
  unfold textTo
  have h1 := List.length_filterMap_le (fun s => (giver ls s).map (·.c)) (l.take k)
  have h2 := List.length_take_le k l
  omega
theorem giver_at (ls : List Letter) (s : Int) (m : Nat) (hm : m < ls.length) (h : ∀ j (_ : j < m) (hj : j < ls.length), givesM ls[j] s = false) (hy : givesM ls[m] s = true) : giver ls s = some ls[m] := by
  rw [giver, List.find?_eq_some_iff_getElem]
  exact ⟨hy, m, hm, rfl, fun j hj => by simpa using h j hj (by omega)⟩
theorem giver_none (ls : List Letter) (s : Int) (h : ∀ j (hj : j < ls.length), givesM ls[j] s = false) : giver ls s = none := by
  rw [giver, List.find?_eq_none]
  intro x hx
  obtain ⟨j, hj, rfl⟩ := List.getElem_of_mem hx
  simp [h j hj]
def shortE (ls : List Letter) (l : List Int) : Int := if l.all fun s => (giver ls s).isSome then 0 else 9
def shortS (ls : List Letter) (l : List Int) : List Int := if l.all fun s => (giver ls s).isSome then textTo ls l l.length else []
theorem shortE_no (ls : List Letter) (l : List Int) (k : Nat) (hk : k < l.length) (h : giver ls l[k] = none) : shortE ls l = 9 ∧ shortS ls l = [] := by
  have : (l.all fun s => (giver ls s).isSome) = false := by
    rw [List.all_eq_false]
    exact ⟨l[k], List.getElem_mem hk, by simp [h]⟩
  simp [shortE, shortS, this]
theorem shortE_yes (ls : List Letter) (l : List Int) (h : ∀ j (hj : j < l.length), (giver ls l[j]).isSome = true) : shortE ls l = 0 ∧ shortS ls l = textTo ls l l.length := by
  have : (l.all fun s => (giver ls s).isSome) = true := by
    rw [List.all_eq_true]
    intro x hx
    obtain ⟨j, hj, rfl⟩ := List.getElem_of_mem hx
    exact h j hj
  simp [shortE, shortS, this]
def strOf (l : List Int) : ByteArray := ⟨(l.map fun n => UInt8.ofNat n.toNat).toArray⟩
theorem textTo_full (ls : List Letter) (l : List Int) (k : Nat) (hk : k ≤ l.length) (h : ∀ j (_ : j < k) (hj : j < l.length), (giver ls l[j]).isSome = true) : (textTo ls l k).length = k := by
  induction k with
  | zero => simp [textTo]
  | succ k ih =>
    obtain ⟨x, hx⟩ := Option.isSome_iff_exists.1 (h k (by omega) (by omega))
    rw [textTo_succ ls l k (by omega) x hx, List.length_append, ih (by omega) fun j hj hl => h j (by omega) hl]; rfl
theorem textTo_U8 (ls : List Letter) (l : List Int) (k : Nat) (h : ∀ x ∈ ls, U8 x.c) : ∀ n ∈ textTo ls l k, U8 n := by
  intro n hn
  simp only [textTo, List.mem_filterMap, Option.map_eq_some_iff] at hn
  obtain ⟨s, -, x, hx, rfl⟩ := hn
  exact h x (List.mem_of_find?_eq_some hx)
theorem byte_back (n : Int) (h : U8 n) : ((UInt8.ofNat n.toNat).toNat : Int) = n := by
  obtain ⟨h0, h1⟩ := h
  rw [UInt8.toNat_ofNat', Nat.mod_eq_of_lt (by omega)]; omega
/-- bytes that are owned, as a string -/
theorem convert_own {w : World} {B : Nat} {v : Value} {l : List Int} (hl : l ≠ []) (hU : ∀ n ∈ l, U8 n) (h : w.ownsRow B 5 1 v l.length (bytesOf l)) :
    (convert 40 9 v).run Try.prog w = .ok (.string (strOf l)) w := by
  rcases h.2 with ⟨rfl, hn⟩ | ⟨g, cap, cur, rfl, hb, hg, hnc, hcm, hcs, htake⟩
  · exact absurd (List.eq_nil_of_length_eq_zero hn) hl
  · have := run_convert_bytes_back (P := Try.prog) w 40 9 5 ⟨g, 0, none⟩ cap (l.map fun n => UInt8.ofNat n.toNat) Try.underlying40 Try.underlying5 Try.underlying9 (fun j hj => by
      have hj' : j < l.length := by simpa using hj
      rw [h.cells (g := g) rfl j (.int .u8 l[j]) (by simp [bytesOf, hj'])]
      rw [List.getElem_map, byte_back _ (hU _ (List.getElem_mem hj'))])
    rw [List.length_map] at this
    exact this
theorem ret_strInt {a b : ByteArray} {c d : Int} (h : a = b) (h2 : c = d) : Ending.returned (.tuple #[.string a, .int .i64 c]) = .returned (.tuple #[.string b, .int .i64 d]) := by rw [h, h2]
theorem snoc_bytes {w : World} {B : Nat} {e : TypeId} {v : Value} {l l' : List Int} {x : Int} (hb : l' = l ++ [x]) (h : w.ownsRow B e 1 v (l.length + 1) (bytesOf l ++ [.int .u8 x])) :
    w.ownsRow B e 1 v l'.length (bytesOf l') := by
  subst hb
  simpa [bytesOf] using h

end Go.Proofs.Ytgcibmdohifiaaa

namespace Go.Proofs.Ytgcibmdohifiaaa
set_option linter.unusedSimpArgs false
set_option linter.unusedVariables false
open Go.RowKit

theorem firstErrFrom_ok {α : Type} (f : List α → α → Int) : ∀ (r pre : List α), (firstErrFrom f pre r).2 = 0 → ∀ k (hk : k < r.length), f (pre ++ r.take k) r[k] = 0
  | [], _, _, k, hk => by simp at hk
  | x :: r, pre, h, k, hk => by
    unfold firstErrFrom at h
    split at h
    · rename_i h0
      cases k with
      | zero => simpa using h0
      | succ k =>
        have := firstErrFrom_ok f r (pre ++ [x]) h k (by simpa using hk)
        simpa using this
    · rename_i h0
      exact absurd h h0
theorem firstErr_ok {α : Type} (f : List α → α → Int) (l : List α) (h : (firstErr f l).2 = 0) : ∀ k (hk : k < l.length), f (l.take k) l[k] = 0 := by
  intro k hk
  have := firstErrFrom_ok f l [] h k hk
  simpa using this

theorem inM_iff (n lo hi : Int) : inM n lo hi = true ↔ lo ≤ n ∧ n ≤ hi := by simp [inM]
theorem inM_true {n lo hi : Int} (h : ¬ inM n lo hi = false) : lo ≤ n ∧ n ≤ hi := by
  rw [← inM_iff]; simpa using h

structure ValidLetter (S : Int) (x : Letter) : Prop where
  c : 97 ≤ x.c ∧ x.c ≤ 122
  s : 0 ≤ x.sounds ∧ x.sounds ≤ maskM S
  g : x.sounds ≠ 0 ∨ x.silent = true
theorem letterErr_ok {S : Int} {l : List Letter} {x : Letter} (h : letterErrM S l x = 0) : ValidLetter S x ∧ (l.any fun y => y.c == x.c) = false := by
  unfold letterErrM at h
  split at h
  · cases h
  rename_i h1
  split at h
  · cases h
  rename_i h2
  split at h
  · cases h
  rename_i h3
  split at h
  · cases h
  rename_i h4
  exact ⟨⟨inM_true h1, inM_true h3, by
    simp only [Bool.and_eq_true, beq_iff_eq, Bool.not_eq_true', not_and, Bool.not_eq_false] at h4
    by_cases e : x.sounds = 0
    · exact .inr (h4 e)
    · exact .inl e⟩, by simpa using h2⟩
structure ValidAlphabet (S : Int) (x : Alphabet) : Prop where
  n : nameM x.name = true
  l : 1 ≤ x.letters.length ∧ x.letters.length ≤ 6
  fine : ∀ k (hk : k < x.letters.length), ValidLetter S x.letters[k] ∧ ((x.letters.take k).any fun y => y.c == (x.letters[k]).c) = false
theorem alphabetErr_ok {S : Int} {l : List Alphabet} {x : Alphabet} (h : alphabetErrM S l x = 0) : ValidAlphabet S x ∧ (l.any fun y => y.name.toList == x.name.toList) = false := by
  unfold alphabetErrM at h
  split at h
  · cases h
  rename_i h1
  split at h
  · cases h
  rename_i h2
  split at h
  · cases h
  rename_i h3
  have h3 := inM_true h3
  exact ⟨⟨by simpa using h1, by omega, fun k hk => letterErr_ok (firstErr_ok _ _ h k hk)⟩, by simpa using h2⟩
structure ValidSpelling (al : List Alphabet) (x : Spelling) : Prop where
  a : 0 ≤ x.alphabet ∧ x.alphabet < al.length
  t : 1 ≤ x.text.size ∧ x.text.size ≤ 5
  k : ∀ j, j < x.text.size → knownB (lettersOf al x.alphabet) x.text j = true
theorem textOk_spec {ls : List Letter} {s : ByteArray} (h : textOk ls s = true) : ∀ j, j < s.size → knownB ls s j = true := by
  unfold textOk at h
  rw [List.all_eq_true] at h
  exact fun j hj => h j (List.mem_range.2 hj)
theorem spellingErr_ok {al : List Alphabet} {x : Spelling} (h : spellingErrM al x = 0) : ValidSpelling al x := by
  unfold spellingErrM at h
  split at h
  · cases h
  rename_i h1
  split at h
  · cases h
  rename_i h2
  split at h
  · cases h
  rename_i h3
  have h1 := inM_true h1
  have h2 := inM_true h2
  exact ⟨by omega, by omega, textOk_spec (by simpa using h3)⟩
structure Valid (b : Book) : Prop where
  s : 1 ≤ b.sounds ∧ b.sounds ≤ 4
  a : 1 ≤ b.alphabets.length ∧ b.alphabets.length ≤ 3
  al : ∀ k (hk : k < b.alphabets.length), ValidAlphabet b.sounds b.alphabets[k] ∧ ((b.alphabets.take k).any fun y => y.name.toList == (b.alphabets[k]).name.toList) = false
  n : b.spellings.length ≤ 5
  sp : ∀ k (hk : k < b.spellings.length), ValidSpelling b.alphabets b.spellings[k]
theorem valid_of {b : Book} (h : errM b = 0) : Valid b := by
  unfold errM checkM at h
  split at h
  · cases h
  rename_i h1
  split at h
  · cases h
  rename_i h2
  split at h
  · rename_i h3; exact absurd h h3
  rename_i h3
  split at h
  · cases h
  rename_i h4
  split at h
  · rename_i h5; exact absurd h h5
  rename_i h5
  have h1 := inM_true h1
  have h2 := inM_true h2
  have h3 : (alphErr b).2 = 0 := by simpa using h3
  have h5 : (spelErr b).2 = 0 := by simpa using h5
  exact ⟨h1, by omega, fun k hk => alphabetErr_ok (firstErr_ok _ _ h3 k hk), by omega, fun k hk => spellingErr_ok (firstErr_ok _ _ h5 k hk)⟩
theorem mask_le {S : Int} (h : 1 ≤ S ∧ S ≤ 4) : maskM S ≤ 15 := by
  have h4 : S = 1 ∨ S = 2 ∨ S = 3 ∨ S = 4 := by omega
  rcases h4 with rfl | rfl | rfl | rfl <;> decide
theorem Valid.fine {b : Book} (h : Valid b) (k : Nat) (hk : k < b.alphabets.length) : ∀ x ∈ (b.alphabets[k]).letters, FineL x := by
  intro x hx
  obtain ⟨j, hj, rfl⟩ := List.getElem_of_mem hx
  have := ((h.al k hk).1.fine j hj).1.s
  have := mask_le h.s
  exact ⟨by omega, by omega⟩
theorem withinM_spec {lo hi : Int} {l : List Int} (h : withinM lo hi l = true) : ∀ x ∈ l, lo ≤ x ∧ x ≤ hi := by
  unfold withinM at h
  rw [List.all_eq_true] at h
  exact fun x hx => (inM_iff _ _ _).1 (h x hx)
end Go.Proofs.Ytgcibmdohifiaaa

namespace Go.Proofs.Ytgcibmdohifiaaa
set_option linter.unusedSimpArgs false
set_option linter.unusedVariables false
open Go.RowKit

structure ValidPart (p : Part) : Prop where
  n : p.words.length ≤ 3
  w : wordsM p.words = true
  z : p.words ≠ [] → p.lo = 0 ∧ p.hi = 0
  r : p.words = [] → 0 ≤ p.lo ∧ p.lo ≤ p.hi ∧ 1 ≤ p.hi ∧ p.hi ≤ 3
theorem partErr_ok {p : Part} (h : partErrM p = 0) : ValidPart p := by
  unfold partErrM at h
  split at h
  · cases h
  rename_i h1
  split at h
  · cases h
  rename_i h2
  have hw : wordsM p.words = true := by simpa using h2
  split at h
  · rename_i h3
    split at h
    · rename_i h4
      exact ⟨by omega, hw, fun _ => h4, fun e => absurd (by rw [e]; rfl) h3⟩
    · cases h
  · rename_i h3
    split at h
    · cases h
    rename_i h4
    split at h
    · cases h
    rename_i h5
    have a := inM_true (fun e => h4 (.inl e))
    have b := inM_true (fun e => h4 (.inr (.inl e)))
    have c : p.hi ≠ 0 := fun e => h4 (.inr (.inr e))
    exact ⟨by omega, hw, fun e => absurd (List.eq_nil_of_length_eq_zero (by omega)) e, fun _ => ⟨a.1, by omega, by omega, b.2⟩⟩
theorem ValidPart.room {p : Part} (h : ValidPart p) (hr : roomyM p = true) : 0 ≤ p.lo ∧ p.lo ≤ p.hi ∧ 1 ≤ p.hi ∧ p.hi ≤ 3 :=
  h.r (List.eq_nil_of_length_eq_zero (by simpa [roomyM] using hr))

structure ValidForm (f : Form) : Prop where
  name : nameM f.name = true
  n : f.parts.length ≤ 5
  parts : ∀ p ∈ f.parts, ValidPart p
theorem formErr_ok {l : List Form} {f : Form} (h : formErrM l f = 0) : ValidForm f ∧ (l.any fun y => y.name.toList == f.name.toList) = false := by
  unfold formErrM at h
  split at h
  · cases h
  rename_i h1
  split at h
  · cases h
  rename_i h2
  split at h
  · cases h
  rename_i h3
  refine ⟨⟨by simpa using h1, by omega, fun p hp => ?_⟩, by simpa using h2⟩
  obtain ⟨k, hk, rfl⟩ := List.getElem_of_mem hp
  exact partErr_ok (firstErr_ok _ _ h k hk)

structure ValidShelf (s : Shelf) : Prop where
  w : 8 ≤ s.width ∧ s.width ≤ 30
  n : s.forms.length ≤ 4
  forms : ∀ f ∈ s.forms, ValidForm f
theorem errS_ok {s : Shelf} (h : errS s = 0) : ValidShelf s := by
  unfold errS checkS at h
  split at h
  · cases h
  rename_i h1
  split at h
  · cases h
  rename_i h2
  split at h
  · rename_i h3
    exact absurd h h3
  rename_i h3
  refine ⟨inM_true h1, by omega, fun f hf => ?_⟩
  obtain ⟨k, hk, rfl⟩ := List.getElem_of_mem hf
  exact (formErr_ok (firstErr_ok _ _ (by simpa using h3) k hk)).1
theorem openErr_ok {s : Shelf} {n : Int} (h : openErrM s n = 0) : ValidShelf s ∧ 0 ≤ n ∧ n < s.forms.length := by
  unfold openErrM at h
  split at h
  · rename_i h1; exact absurd h h1
  rename_i h1
  split at h
  · cases h
  rename_i h2
  have := inM_true h2
  exact ⟨errS_ok (by simpa using h1), by omega, by omega⟩
theorem fillsErr_ok {ps : List Part} {fs : List (List ByteArray)} (hv : ∀ p ∈ ps, ValidPart p) (h : fillsErrM ps fs = 0) : fs.length = (roomsM ps).length ∧ ∀ l ∈ fs, l.length ≤ 3 ∧ wordsM l = true := by
  unfold fillsErrM at h
  split at h
  · cases h
  rename_i h1
  have hl : fs.length = (roomsM ps).length := by simpa using h1
  refine ⟨hl, fun l hm => ?_⟩
  obtain ⟨k, hk, rfl⟩ := List.getElem_of_mem hm
  have h2 := firstErr_ok _ _ h k hk
  have hk2 : k < (roomsM ps).length := by omega
  have e : (fs.take k).length = k := by rw [List.length_take]; omega
  unfold fillErrM at h2
  rw [e, show (roomsM ps).getD k ⟨[], 0, 0⟩ = (roomsM ps)[k] by simp [hk2]] at h2
  split at h2
  · cases h2
  rename_i h3
  split at h2
  · cases h2
  rename_i h4
  have hin := inM_true h3
  have hmem := List.getElem_mem hk2
  have hmf := List.mem_filter.mp (show (roomsM ps)[k] ∈ ps.filter roomyM from hmem)
  have hr := (hv _ hmf.1).room hmf.2
  exact ⟨by omega, by simpa using h4⟩
end Go.Proofs.Ytgcibmdohifiaaa

namespace Go.Proofs.Ytgcibmdohifiaaa
set_option linter.unusedSimpArgs false
set_option linter.unusedVariables false
open Go.RowKit
set_option linter.unusedVariables false

def formOf (s : Shelf) (n : Int) : Form := s.forms.getD n.toNat ⟨⟨#[]⟩, []⟩
/-- the error of a shelf, a form and fills -/
def makeErrM (s : Shelf) (n : Int) (fs : List (List ByteArray)) : Int := if openErrM s n ≠ 0 then openErrM s n else fillsErrM (formOf s n).parts fs
/-- a letter, if there is no error -/
def MadeL (w : World) (l : List ByteArray) (e : Int) (v : Value) : Prop := ∃ u, v = .tuple #[u, .int .i64 e] ∧ (e = 0 → StrsAt w u l) ∧ (e ≠ 0 → u = .slice none 0 0)
set_option maxHeartbeats 1000000 in
set_option maxRecDepth 100000 in
theorem make_any (sv v : Value) (s : Shelf) (n : Int) (hn : I64 n) (fs : List (List ByteArray)) (w : World) (hs : ShelfAt w sv s) (hfs : FillsAt w v fs) :
    Calls Try.prog 31 #[sv, .int .i64 n, v] w fun e w' => ∃ u, e = .returned u ∧ MadeL w' (builtM (formOf s n).parts fs) (makeErrM s n fs) u ∧ Ext w w' := by
  have hsW := hs
  obtain ⟨a, c, rfl, hw, hc1, hc2, hf⟩ := hs.open
  obtain ⟨fa, fc, rfl, hfc, hfm⟩ := hfs.shape
  clear hf hs
  go_enter Try.func31, Try.ntmps31
  go_wp2_with fail
  refine (openF_any _ s n hn w _ (by first | (with_reducible exact Ext.refl _) | (with_reducible assumption) | (show Below _ _ _; go_grown; done)) hsW).mono ?_
  rintro e w1 ⟨uu, rfl, ⟨u, rfl, h1, h2⟩, hx1⟩
  have x1 : Ext w w1 := Ext.trans (by first | (with_reducible exact Ext.refl _) | (with_reducible assumption) | (show Below _ _ _; go_grown; done)) hx1
  clear hx1
  obtain ⟨nm, pa, pn, pc, rfl⟩ : ∃ nm pa pn pc, u = .agg #[.string nm, .slice pa pn pc] := by
    by_cases h : openErrM s n = 0
    · obtain ⟨i, hi, -, uu, rfl, -, hp⟩ := h1 h
      obtain ⟨pa, pc, rfl, -⟩ := hp.shape
      exact ⟨_, _, _, _, rfl⟩
    · exact ⟨_, _, _, _, h2 h⟩
  clear h2
  by_cases h0 : openErrM s n = 0
  · have ho : makeErrM s n fs = fillsErrM (formOf s n).parts fs := by rw [makeErrM, if_neg (by simpa using h0)]
    obtain ⟨hV, -, -⟩ := openErr_ok h0
    obtain ⟨i, hi, rfl, hfv⟩ := h1 h0
    have hfo : formOf s (i : Int) = s.forms[i] := by unfold formOf; simp [hi]
    have hv := hV.forms _ (List.getElem_mem hi)
    rw [hfo] at ho
    rw [h0]
    have Ho := Lib.hid ho
    clear ho hV h0 h1
    generalize s.forms[i] = f at *
    have Hfo := Lib.hid hfo
    clear hfo
    have Hv := Lib.hid hv
    clear hv
    go_wp2_with fail
    refine (fillsError_any _ _ f fs Hv.out.n _ ((hfv.ext x1).ext (by first | (with_reducible exact Ext.refl _) | (with_reducible assumption) | (show Below _ _ _; go_grown; done))) (hfs.ext (Ext.trans x1 (by first | (with_reducible exact Ext.refl _) | (with_reducible assumption) | (show Below _ _ _; go_grown; done))))).mono ?_
    rintro e w2 ⟨rfl, hx2⟩
    have x2 : Ext w1 w2 := Ext.trans (by first | (with_reducible exact Ext.refl _) | (with_reducible assumption) | (show Below _ _ _; go_grown; done)) hx2
    have b0 : w2.cell? ⟨w1.heap.size, 0, none⟩ = some (.string nm) := hx2.cell (by simp [go_sem])
    have b1 : w2.cell? ⟨w1.heap.size, 1, none⟩ = some (.slice pa pn pc) := hx2.cell (by simp [go_sem])
    clear hx2
    by_cases h3 : fillsErrM f.parts fs = 0
    · have hm : makeErrM s i fs = 0 := Ho.out.trans h3
      obtain ⟨g1, g2⟩ := fillsErr_ok Hv.out.parts h3
      have G1 := Lib.hid g1
      have G2 := Lib.hid g2
      have Hm := Lib.hid hm
      rw [h3]
      clear h3 hm g1 g2 Ho
      go_wp2_with fail
      refine (filled_any _ _ f fs Hv.out.n (fun p hp => (Hv.out.parts p hp).n) (fun l hl => (G2.out l hl).1) G1.out.symm w2 (hfv.ext (Ext.trans x1 x2)) (hfs.ext (Ext.trans x1 x2))).mono ?_
      rintro e w3 ⟨u, rfl, hu, hx3⟩
      obtain ⟨ua, uc, rfl, -⟩ := hu.shape
      go_wp2
      go_ret2
      exact ⟨_, rfl, ⟨.slice ua (builtM f.parts fs).length uc, by rw [Hm.out]; rfl, fun _ => by rw [Hfo.out]; exact hu, fun h => absurd Hm.out h⟩, Ext.trans x1 (Ext.trans x2 hx3)⟩
    · have hm : makeErrM s i fs = fillsErrM f.parts fs := Ho.out
      have h3' : (fillsErrM f.parts fs != 0) = true := by simpa using h3
      have Hm := Lib.hid hm
      have H3 := Lib.hid h3
      clear h3 hm Ho
      go_wp2_with fail
      go_ret2
      exact ⟨_, rfl, ⟨.slice none 0 0, by rw [Hm.out]; rfl, fun h => absurd (Hm.out.symm.trans h) H3.out, fun _ => rfl⟩, Ext.trans x1 x2⟩
  · have ho : makeErrM s n fs = openErrM s n := by rw [makeErrM, if_pos h0]
    have h0' : (openErrM s n != 0) = true := by simpa using h0
    have Ho := Lib.hid ho
    have H0 := Lib.hid h0
    clear h0 ho h1
    go_wp2_with fail
    go_ret2
    exact ⟨_, rfl, ⟨.slice none 0 0, by rw [Ho.out]; rfl, fun h => absurd (Ho.out.symm.trans h) H0.out, fun _ => rfl⟩, Ext.trans x1 (by first | (with_reducible exact Ext.refl _) | (with_reducible assumption) | (show Below _ _ _; go_grown; done))⟩
end Go.Proofs.Ytgcibmdohifiaaa

namespace Go.Proofs.Ytgcibmdohifiaaa
set_option linter.unusedSimpArgs false
set_option linter.unusedVariables false
open Go.RowKit
set_option linter.unusedVariables false

structure Slot where
  word : ByteArray
  free : Bool
def slotR (w : World) (b o : Nat) (s : Slot) : Prop := w.cell? ⟨b, o, none⟩ = some (.string s.word) ∧ w.cell? ⟨b, o + 1, none⟩ = some (.bool s.free) ∧ s.word.size ≤ 9223372036854775807
theorem slotR.keeps : Keeps slotR := fun _ _ _ _ _ hx h => ⟨hx.cell h.1, hx.cell h.2.1, h.2.2⟩
abbrev SlotsAt : World → Value → List Slot → Prop := SliceAt 2 slotR
theorem SlotsAt.ext {w w' : World} {v : Value} {l : List Slot} (h : SlotsAt w v l) (hx : Ext w w') : SlotsAt w' v l := SliceAt.ext slotR.keeps h hx
def cellsS (l : List Slot) : List Value := l.flatMap fun s => [.string s.word, .bool s.free]
theorem cellsS_len (l : List Slot) : (cellsS l).length = l.length * 2 := by
  induction l with
  | nil => rfl
  | cons x l ih => simp only [cellsS, List.flatMap_cons, List.length_append, List.length_cons, List.length_nil] at *; omega
theorem cellsS_get (l : List Slot) (i : Nat) (h : i < l.length) : (cellsS l)[i * 2]? = some (.string l[i].word) ∧ (cellsS l)[i * 2 + 1]? = some (.bool l[i].free) := by
  induction l generalizing i with
  | nil => simp at h
  | cons x l ih =>
    cases i with
    | zero => simp [cellsS]
    | succ i =>
      have := ih i (by simpa using h)
      have e : (i + 1) * 2 = i * 2 + 2 := by omega
      rw [e]
      simpa [cellsS] using this
theorem cellsS_app (l r : List Slot) : cellsS (l ++ r) = cellsS l ++ cellsS r := by simp [cellsS]
/-- a row of slots of the call's own -/
def RowS (base : Nat) (l : List Slot) (u : Value) (w : World) : Prop := w.ownsRow base 127 2 u l.length (cellsS l)
theorem RowS.ext {base : Nat} {l : List Slot} {u : Value} {w w' : World} (h : RowS base l u w) (hx : Ext w w') : RowS base l u w' := Ext.owns h hx
theorem RowS.nil {base : Nat} {w : World} : RowS base [] (.slice none 0 0) w := World.ownsRow_nil _ _ _ _
theorem RowS.snoc {base : Nat} {l : List Slot} {a : ByteArray} {b : Bool} {u : Value} {w : World} (h : w.ownsRow base 127 2 u (l.length + 1) (cellsS l ++ [.string a, .bool b])) : RowS base (l ++ [⟨a, b⟩]) u w := by
  unfold RowS
  rw [cellsS_app, List.length_append]
  exact h
theorem RowS.lower {base base' : Nat} {l : List Slot} {u : Value} {w : World} (h : RowS base l u w) (hb : base' ≤ base) : RowS base' l u w := by
  refine ⟨h.1, ?_⟩
  rcases h.2 with h | ⟨g, cap, cur, e, h1, h2⟩
  · exact .inl h
  · exact .inr ⟨g, cap, cur, e, Nat.le_trans hb h1, h2⟩
theorem RowS.at_ {base : Nat} {l : List Slot} {u : Value} {w : World} (h : RowS base l u w) (hI : ∀ s ∈ l, s.word.size ≤ 9223372036854775807) : SlotsAt w u l := by
  have hcells := fun g hg => h.cells (g := g) hg
  rcases h.2 with ⟨rfl, hn⟩ | ⟨g, cap, cur, rfl, hb, hg, hnc, hcm, hcs, htake⟩
  · have : l = [] := List.eq_nil_of_length_eq_zero hn
    subst this; exact SliceAt.nil
  · refine ⟨_, _, rfl, hnc, by simpa [maxLen] using hcm, fun i hi => ⟨g, 0, rfl, ?_⟩⟩
    obtain ⟨c0, c1⟩ := cellsS_get l i hi
    have r0 := hcells g rfl _ _ c0
    have r1 := hcells g rfl _ _ c1
    have ea : ∀ j, (⟨g, 0, none⟩ : Addr).add j = ⟨g, 0 + j, none⟩ := fun j => by unfold Addr.add; split <;> simp_all
    rw [ea] at r0 r1
    exact ⟨r0, r1, hI _ (List.getElem_mem hi)⟩
theorem cell_two_newS (w : World) (a b : Value) (t : TypeId) : ∀ j u, [a, b][j]? = some u → (w.alloc (.cells #[a, b] t)).cell? ((⟨w.heap.size, 0, none⟩ : Addr).add j) = some u := by
  intro j u h
  match j, h with
  | 0, h => simp at h; subst h; simp [go_sem]
  | 1, h => simp at h; subst h; simp [go_sem]
  | j + 2, h => simp at h
theorem infoSlot : (Try.prog.info? 127).map (fun i => (i.zero, i.size, i.bytes)) = some (some (.agg #[.string ByteArray.empty, .bool false]), 2, 24) := by kernel_rfl
/-- the slots of words that are given -/
def givenM (l : List ByteArray) : List Slot := l.map fun s => ⟨s, false⟩

set_option maxRecDepth 100000 in
set_option maxHeartbeats 2000000 in
theorem given_any (v : Value) (l : List ByteArray) (h5 : l.length ≤ 1000) (w : World) (hl : StrsAt w v l) :
    Calls Try.prog 38 #[v] w fun e w' => ∃ u, e = .returned u ∧ RowS w.heap.size (givenM l) u w' ∧ Ext w w' := by
  obtain ⟨a, cap, rfl, hlc, hcm⟩ := hl.shape
  obtain ⟨i0, hi, hz0, hz1, hz2⟩ := info_parts infoSlot
  go_enter Try.func38, Try.ntmps38
  go_wp2_with fail
  go_loopw [3, 8] (fun v i wr => ∃ k : Nat, k ≤ l.length ∧ i = .int .i64 k ∧ Ext w wr ∧ RowS w.heap.size (givenM (l.take k)) v wr) (fun _ i _ => l.length - (intOf i).toNat)
  case atStart => exact ⟨0, Nat.zero_le _, rfl, Ext.refl _, RowS.nil⟩
  case round =>
    obtain ⟨k, hk, rfl, hxr, hown⟩ := hrel
    by_cases hlt : k < l.length
    · have k1 : (k : Int) < (l.length : Int) := by omega
      obtain ⟨b, o, rfl, h1, -⟩ := hl.get hlt
      replace h1 := hxr.cell h1
      rw [Nat.mul_one] at h1
      have hst : givenM (l.take (k + 1)) = givenM (l.take k) ++ [⟨l[k], false⟩] := by rw [List.take_succ_eq_append_getElem hlt]; unfold givenM; rw [List.map_append]; rfl
      have hlen : (givenM (l.take k)).length = k := by simp [givenM]; omega
      generalize l[k] = y at *
      have Hst := Lib.hid hst
      have Hlen := Lib.hid hlen
      have Hown := Lib.hid hown
      have hszr := hxr.size
      clear hst hlen hown
      have hc2 := cellsS_len (givenM (l.take k))
      generalize hG : givenM (l.take k) = G at *
      have HG := Lib.hid hG
      clear hG
      have hGk : G.length ≤ 1000 := by have := Hlen.out; omega
      go_wp2_with (at_builtin; go_loud (refine wpList_append_own_at _ rfl _ _ 73 rfl w.heap.size 127 i0 (.agg #[.string ByteArray.empty, .bool false]) 2 24 Try.underlying73 hi hz0 hz1 hz2 rfl (by decide) u3 G.length (cellsS G) rfl (World.ownsRow.alloc Hown.out _) ⟨wr.heap.size, 0, none⟩ 1 1 [.string y, .bool false] rfl rfl (cell_two_newS _ _ _ _) (by simp [Value.oneCell']) (by unfold maxLen; omega) (by omega) (by simp; omega) ?_; intro v' w2 hown' hgrow _ _))
      have hx3 : Ext w w2 := Ext.grown (hxr.alloc _) hgrow fun k hk => (Hown.out.lt k hk).1
      go_roundw
      case rel => exact ⟨k + 1, by omega, by go_num, hx3, by rw [Hst.out]; exact RowS.snoc hown'⟩
      case measure => simp [intOf]; omega
    · have hke : k = l.length := by omega
      subst hke
      rw [List.take_length] at hown
      go_wp2
      go_ret
      exact ⟨_, rfl, hown, hxr⟩
end Go.Proofs.Ytgcibmdohifiaaa

namespace Go.Proofs.Ytgcibmdohifiaaa
set_option linter.unusedSimpArgs false
set_option linter.unusedVariables false
open Go.RowKit
set_option linter.unusedVariables false

/-- the slots of a room -/
def roomSlotsM (lo : Int) (n : Nat) : List Slot := (List.range n).map fun (k : Nat) => ⟨ByteArray.empty, decide (lo ≤ (k : Int))⟩
/-- the slots of a part -/
def partSlotsM (p : Part) : List Slot := givenM p.words ++ roomSlotsM p.lo p.hi.toNat
theorem roomSlots_step (lo : Int) (n : Nat) : roomSlotsM lo (n + 1) = roomSlotsM lo n ++ [⟨ByteArray.empty, decide (lo ≤ (n : Int))⟩] := by
  unfold roomSlotsM
  rw [List.range_succ, List.map_append]; rfl

set_option maxRecDepth 100000 in
set_option maxHeartbeats 2000000 in
theorem partSlots_any (pv : Value) (p : Part) (hn : p.words.length ≤ 3) (h3 : p.hi ≤ 3) (w : World) (hp : PartV w pv p) :
    Calls Try.prog 55 #[pv] w fun e w' => ∃ u, e = .returned u ∧ RowS w.heap.size (partSlotsM p) u w' ∧ Ext w w' := by
  obtain ⟨u, rfl, hs, hlo, hhi⟩ := hp
  obtain ⟨a, cap, rfl, hlc, hcm⟩ := hs.shape
  obtain ⟨i0, hi, hz0, hz1, hz2⟩ := info_parts infoSlot
  have hlo' : -9223372036854775808 ≤ p.lo ∧ p.lo ≤ 9223372036854775807 := hlo
  go_enter Try.func55, Try.ntmps55
  go_wp2_with fail
  refine (given_any _ p.words (by omega) _ (hs.ext (by first | (with_reducible exact Ext.refl _) | (with_reducible assumption) | (show Below _ _ _; go_grown; done)))).mono ?_
  rintro e w1 ⟨gv, rfl, hg, hx1⟩
  have x1 : Ext ((w.alloc (.cells #[.slice a p.words.length cap, .int .i64 p.lo, .int .i64 p.hi] 105))) w1 := hx1
  have b2 : w1.cell? ⟨w.heap.size, 2, none⟩ = some (.int .i64 p.hi) := hx1.cell (by simp [go_sem])
  have hg' : RowS (w.heap.size + 1) (givenM p.words) gv w1 := hg.lower (by simp)
  clear hx1 hg
  have hz0' : ((w.alloc (.cells #[.slice a p.words.length cap, .int .i64 p.lo, .int .i64 p.hi] 105))).heap.size = w.heap.size + 1 := by simp [go_sem]
  have Hg := Lib.hid hg'
  clear hg'
  go_wp2_with fail
  go_loopw [3, 13] (fun v i wr => ∃ k : Nat, k ≤ p.hi.toNat ∧ i = .int .i64 k ∧ Ext ((w.alloc (.cells #[.slice a p.words.length cap, .int .i64 p.lo, .int .i64 p.hi] 105))) wr ∧ RowS (w.heap.size + 1) (givenM p.words ++ roomSlotsM p.lo k) v wr) (fun _ i _ => p.hi.toNat - (intOf i).toNat)
  case atStart => exact ⟨0, Nat.zero_le _, rfl, x1, by simpa [roomSlotsM] using Hg.out⟩
  case round =>
    obtain ⟨k, hk, rfl, hxr, hown⟩ := hrel
    have b1 : wr.cell? ⟨w.heap.size, 1, none⟩ = some (.int .i64 p.lo) := hxr.cell (by simp [go_sem])
    by_cases hlt : k < p.hi.toNat
    · have k1 : (k : Int) < p.hi := by omega
      have hst : givenM p.words ++ roomSlotsM p.lo (k + 1) = (givenM p.words ++ roomSlotsM p.lo k) ++ [⟨ByteArray.empty, decide (p.lo ≤ (k : Int))⟩] := by rw [roomSlots_step, List.append_assoc]
      have hlen : (givenM p.words ++ roomSlotsM p.lo k).length ≤ 6 := by simp [givenM, roomSlotsM]; omega
      have hszr := hxr.size
      have hc2 := cellsS_len (givenM p.words ++ roomSlotsM p.lo k)
      generalize hG : givenM p.words ++ roomSlotsM p.lo k = G at *
      have Hst := Lib.hid hst
      have Hown := Lib.hid hown
      clear hG hst hown Hg
      generalize hbd : decide (p.lo ≤ (k : Int)) = bd at *
      go_wp2_with (at_builtin; go_loud (refine wpList_append_own_at _ rfl _ _ 73 rfl (w.heap.size + 1) 127 i0 (.agg #[.string ByteArray.empty, .bool false]) 2 24 Try.underlying73 hi hz0 hz1 hz2 rfl (by decide) u3 G.length (cellsS G) rfl (World.ownsRow.alloc Hown.out _) ⟨wr.heap.size, 0, none⟩ 1 1 [.string ByteArray.empty, .bool _] rfl rfl (cell_two_newS _ _ _ _) (by simp [Value.oneCell']) (by unfold maxLen; omega) (by omega) (by simp; omega) ?_; intro v' w2 hown' hgrow _ _))
      have hx3 : Ext ((w.alloc (.cells #[.slice a p.words.length cap, .int .i64 p.lo, .int .i64 p.hi] 105))) w2 := Ext.grown (hxr.alloc _) hgrow fun k hk => by rw [hz0']; exact (Hown.out.lt k hk).1
      go_roundw
      case rel => exact ⟨k + 1, by omega, by go_num, hx3, by rw [Hst.out]; exact RowS.snoc hown'⟩
      case measure => simp [intOf]; omega
    · have hke : k = p.hi.toNat := by omega
      subst hke
      have k1 : ¬ ((p.hi.toNat : Int) < p.hi) := by omega
      go_wp2
      go_ret
      exact ⟨_, rfl, hown.lower (by omega), hxr.of_alloc⟩
end Go.Proofs.Ytgcibmdohifiaaa

namespace Go.Proofs.Ytgcibmdohifiaaa
set_option linter.unusedSimpArgs false
set_option linter.unusedVariables false
open Go.RowKit
set_option linter.unusedVariables false

/-- the slots of a form -/
def formSlotsM (ps : List Part) : List Slot := ps.flatMap partSlotsM
theorem partSlots_len {p : Part} (h : ValidPart p) : 1 ≤ (partSlotsM p).length ∧ (partSlotsM p).length ≤ 3 := by
  have e : (partSlotsM p).length = p.words.length + p.hi.toNat := by simp [partSlotsM, givenM, roomSlotsM]
  have hn := h.n
  rw [e]
  by_cases hw : p.words = []
  · have := h.r hw
    rw [hw]
    simp
    omega
  · have := h.z hw
    have hp : 0 < p.words.length := List.length_pos_iff.mpr hw
    rw [this.2]
    simp
    omega
theorem formSlots_step (ps : List Part) (k : Nat) (h : k < ps.length) : formSlotsM (ps.take (k + 1)) = formSlotsM (ps.take k) ++ partSlotsM ps[k] := by
  unfold formSlotsM
  rw [List.take_succ_eq_append_getElem h, List.flatMap_append]
  simp
theorem formSlots_len {ps : List Part} (h : ∀ p ∈ ps, ValidPart p) : (formSlotsM ps).length ≤ 3 * ps.length := by
  induction ps with
  | nil => simp [formSlotsM]
  | cons p r ih =>
    have h1 := ih fun q hq => h q (List.mem_cons_of_mem _ hq)
    have h2 := (partSlots_len (h p List.mem_cons_self)).2
    simp only [formSlotsM, List.flatMap_cons, List.length_append, List.length_cons] at *
    omega
theorem cellsS_one (l : List Slot) : ∀ u ∈ cellsS l, u.oneCell' = true := by
  intro u hu
  obtain ⟨s, -, hs⟩ := List.mem_flatMap.1 hu
  simp only [List.mem_cons, List.not_mem_nil, or_false] at hs
  rcases hs with rfl | rfl <;> rfl
/-- the block of a row that holds something -/
theorem RowS.some {base : Nat} {l : List Slot} {u : Value} {w : World} (h : RowS base l u w) (hn : 1 ≤ l.length) : ∃ g c, u = .slice (some ⟨g, 0, none⟩) l.length c ∧ ∀ j x, (cellsS l)[j]? = some x → w.cell? ((⟨g, 0, none⟩ : Addr).add j) = some x := by
  have hcells := fun g hg => h.cells (g := g) hg
  rcases h.2 with ⟨rfl, h0⟩ | ⟨g, cap, cur, rfl, -⟩
  · omega
  · exact ⟨g, cap, rfl, fun j x hx => hcells g rfl j x hx⟩

set_option maxRecDepth 100000 in
set_option maxHeartbeats 2000000 in
theorem formSlots_any (fv : Value) (f : Form) (hV : ValidForm f) (w : World) (hf : FormV w fv f) :
    Calls Try.prog 28 #[fv] w fun e w' => ∃ u, e = .returned u ∧ RowS w.heap.size (formSlotsM f.parts) u w' ∧ Ext w w' := by
  obtain ⟨pv, rfl, hns, hp⟩ := hf
  obtain ⟨a, cap, rfl, hlc, hcm⟩ := hp.shape
  obtain ⟨i0, hi, hz0, hz1, hz2⟩ := info_parts infoSlot
  have h5 := hV.n
  go_enter Try.func28, Try.ntmps28
  go_wp2_with fail
  go_loopw [3, 10] (fun v i wr => ∃ k : Nat, k ≤ f.parts.length ∧ i = .int .i64 k ∧ Ext w wr ∧ RowS w.heap.size (formSlotsM (f.parts.take k)) v wr) (fun _ i _ => f.parts.length - (intOf i).toNat)
  case atStart => exact ⟨0, Nat.zero_le _, rfl, ext_alloc _ _, RowS.nil⟩
  case round =>
    obtain ⟨k, hk, rfl, hxr, hown⟩ := hrel
    by_cases hlt : k < f.parts.length
    · have k1 : (k : Int) < (f.parts.length : Int) := by omega
      obtain ⟨b, o, rfl, ⟨u, h1, hs⟩, h2, h3, hlo, hhi⟩ := hp.get hlt
      replace h1 := hxr.cell h1
      replace h2 := hxr.cell h2
      replace h3 := hxr.cell h3
      have hst := formSlots_step f.parts k hlt
      have hvp := hV.parts _ (List.getElem_mem hlt)
      have hgl : (formSlotsM (f.parts.take k)).length ≤ 15 := by
        have := formSlots_len (ps := f.parts.take k) fun p hp => hV.parts p (List.mem_of_mem_take hp)
        rw [List.length_take] at this
        omega
      generalize f.parts[k] = y at *
      obtain ⟨ua, uc, rfl, -⟩ := hs.shape
      have hc2 := cellsS_len (formSlotsM (f.parts.take k))
      generalize hG : formSlotsM (f.parts.take k) = G at *
      have Hst := Lib.hid hst
      have Hown := Lib.hid hown
      have Hvp := Lib.hid hvp
      have hszr := hxr.size
      clear hG hst hown hvp
      go_wp2_with fail
      refine (partSlots_any _ y Hvp.out.n (by
        by_cases hw : y.words = []
        · exact (Hvp.out.r hw).2.2.2
        · rw [(Hvp.out.z hw).2]; decide) _ ⟨_, rfl, (hs.ext hxr).ext (by first | (with_reducible exact Ext.refl _) | (with_reducible assumption) | (show Below _ _ _; go_grown; done)), hlo, hhi⟩).mono ?_
      rintro e w1 ⟨sv, rfl, hsv, hx1⟩
      have hx2 : Ext wr w1 := Ext.trans (by first | (with_reducible exact Ext.refl _) | (with_reducible assumption) | (show Below _ _ _; go_grown; done)) hx1
      have own1 := Hown.out.ext hx2
      obtain ⟨hl1, hl2⟩ := partSlots_len Hvp.out
      obtain ⟨g, c, rfl, hcs⟩ := hsv.some hl1
      have hcl := cellsS_len (partSlotsM y)
      have hz := hx2.size
      have Hcs := Lib.hid hcs
      have Own1 := Lib.hid own1
      generalize hP : partSlotsM y = P at *
      clear hcs own1 hsv hx1 hP h1 h2 h3
      go_wp2_with (at_builtin; go_loud (refine wpList_append_own_at _ rfl _ _ 73 rfl w.heap.size 127 i0 (.agg #[.string ByteArray.empty, .bool false]) 2 24 Try.underlying73 hi hz0 hz1 hz2 rfl (by decide) u3 G.length (cellsS G) rfl Own1.out ⟨g, 0, none⟩ P.length c (cellsS P) rfl hcl Hcs.out (cellsS_one _) (by unfold maxLen; omega) (by omega) (by omega) ?_; intro v' w2 hown' hgrow _ _))
      have hx3 : Ext w w2 := Ext.grown (hxr.trans hx2) hgrow fun k hk => (Own1.out.lt k hk).1
      go_roundw
      case rel => exact ⟨k + 1, by omega, by go_num, hx3, by rw [Hst.out]; unfold RowS; rw [List.length_append, cellsS_app]; exact hown'⟩
      case measure => simp [intOf]; omega
    · have hke : k = f.parts.length := by omega
      subst hke
      rw [List.take_length] at hown
      go_wp2
      go_ret
      exact ⟨_, rfl, hown, hxr⟩
end Go.Proofs.Ytgcibmdohifiaaa

namespace Go.Proofs.Ytgcibmdohifiaaa
set_option linter.unusedSimpArgs false
set_option linter.unusedVariables false
open Go.RowKit
set_option linter.unusedVariables false

def takesM (s : Slot) (x : ByteArray) : Bool := s.word.toList.isEmpty || s.word.toList == x.toList
/-- a slot, handed in -/
def slotV (s : Slot) : Value := .agg #[.string s.word, .bool s.free]
set_option maxRecDepth 100000 in
theorem takes_any (s : Slot) (x : ByteArray) (w : World) :
    Calls Try.prog 72 #[slotV s, .string x] w fun e w' => e = .returned (.bool (takesM s x)) ∧ Ext w w' := by
  unfold slotV
  go_enter Try.func72, Try.ntmps72
  go_wp2_with fail
  · go_ret
    rename_i h
    exact ⟨ret_bool (by rw [takesM, h]; rfl), (by first | (with_reducible exact Ext.refl _) | (with_reducible assumption) | (show Below _ _ _; go_grown; done))⟩
  · go_ret
    exact ⟨rfl, (by first | (with_reducible exact Ext.refl _) | (with_reducible assumption) | (show Below _ _ _; go_grown; done))⟩
end Go.Proofs.Ytgcibmdohifiaaa

namespace Go.Proofs.Ytgcibmdohifiaaa
set_option linter.unusedSimpArgs false
set_option linter.unusedVariables false
open Go.RowKit
set_option linter.unusedVariables false

set_option maxHeartbeats 1000000 in
theorem eq_counts (a b c d e a' b' c' d' e' : Int) (k : Nat) (w : World) :
    (Op.equalIn (k + 2) 65 (.agg #[.int .i64 a, .int .i64 b, .int .i64 c, .int .i64 d, .int .i64 e]) (.agg #[.int .i64 a', .int .i64 b', .int .i64 c', .int .i64 d', .int .i64 e'])).run Try.prog w =
      .ok (a == a' && (b == b' && (c == c' && (d == d' && e == e')))) w := by
  have ha : ∀ w, (isAgg 3).run Try.prog w = .ok false w := fun _ => by kernel_rfl
  rw [Op.equalIn]
  simp only [go_sem]
  simp [List.range', go_sem]
  by_cases h1 : a = a' <;> by_cases h2 : b = b' <;> by_cases h3 : c = c' <;> by_cases h4 : d = d' <;> by_cases h5 : e = e' <;> simp [h1, h2, h3, h4, h5]
/-- how many words are in each part -/
def countsV (c : Nat → Int) : Value := .agg #[.int .i64 (c 0), .int .i64 (c 1), .int .i64 (c 2), .int .i64 (c 3), .int .i64 (c 4)]
def lexL : List Int → List Int → Bool
  | x :: xs, y :: ys => if x = y then lexL xs ys else decide (x < y)
  | _, _ => false
def beforeM (c o : Nat → Int) : Bool := lexL [c 0, c 1, c 2, c 3, c 4] [o 0, o 1, o 2, o 3, o 4]
def sameC (c o : Nat → Int) : Bool := c 0 == o 0 && (c 1 == o 1 && (c 2 == o 2 && (c 3 == o 3 && c 4 == o 4)))
theorem before_same {c o : Nat → Int} (h : sameC c o = true) : beforeM c o = false := by
  simp [sameC] at h
  simp [beforeM, lexL, h]
theorem before_hit {c o : Nat → Int} {k : Nat} (hk : k < 5) (h : ∀ j, j < k → c j = o j) (hne : c k ≠ o k) : beforeM c o = decide (c k < o k) := by
  unfold beforeM
  match k, hk with
  | 0, _ => simp [lexL, hne]
  | 1, _ => simp [lexL, h 0 (by omega), hne]
  | 2, _ => simp [lexL, h 0 (by omega), h 1 (by omega), hne]
  | 3, _ => simp [lexL, h 0 (by omega), h 1 (by omega), h 2 (by omega), hne]
  | 4, _ => simp [lexL, h 0 (by omega), h 1 (by omega), h 2 (by omega), h 3 (by omega), hne]
  | n + 5, h => omega
theorem before_stop {c o : Nat → Int} (h : sameC c o = false) (k : Nat) (hk : k < 5) (h1 : ∀ j, j < k → c j = o j) (he : c k = o k) : k + 1 < 5 := by
  rcases Nat.lt_or_ge (k + 1) 5 with h2 | h2
  · exact h2
  · obtain rfl : k = 4 := by omega
    simp [sameC, h1 0 (by omega), h1 1 (by omega), h1 2 (by omega), h1 3 (by omega), he] at h
theorem cells_five {w : World} {B : Nat} {c : Nat → Int} (h0 : w.cell? ⟨B, 0, none⟩ = some (.int .i64 (c 0))) (h1 : w.cell? ⟨B, 1, none⟩ = some (.int .i64 (c 1))) (h2 : w.cell? ⟨B, 2, none⟩ = some (.int .i64 (c 2))) (h3 : w.cell? ⟨B, 3, none⟩ = some (.int .i64 (c 3))) (h4 : w.cell? ⟨B, 4, none⟩ = some (.int .i64 (c 4))) (k : Nat) (hk : k < 5) : w.cell? ⟨B, k, none⟩ = some (.int .i64 (c k)) := by
  match k, hk with
  | 0, _ => exact h0
  | 1, _ => exact h1
  | 2, _ => exact h2
  | 3, _ => exact h3
  | 4, _ => exact h4
  | n + 5, h => omega
set_option maxHeartbeats 1000000 in
set_option maxRecDepth 100000 in
theorem before_any (c o : Nat → Int) (w : World) :
    Calls Try.prog 48 #[countsV c, countsV o] w fun e w' => e = .returned (.bool (beforeM c o)) ∧ Ext w w' := by
  unfold countsV
  go_enter Try.func48, Try.ntmps48
  go_wp2_with fail
  rw [eq_counts]
  change Oper.upon _ _ _ _ _ ((Result.ok (sameC c o) _).andThen _ |>.andThen _)
  cases hs : sameC c o
  · go_simp
    go_wp2_with fail
    have g0 := cells_five (w := (w.alloc (.cells #[.int .i64 (c 0), .int .i64 (c 1), .int .i64 (c 2), .int .i64 (c 3), .int .i64 (c 4)] 65)).alloc (.cells #[.int .i64 (o 0), .int .i64 (o 1), .int .i64 (o 2), .int .i64 (o 3), .int .i64 (o 4)] 65)) (B := w.heap.size) (c := c) (by simp [go_sem]) (by simp [go_sem]) (by simp [go_sem]) (by simp [go_sem]) (by simp [go_sem])
    have g1 := cells_five (w := (w.alloc (.cells #[.int .i64 (c 0), .int .i64 (c 1), .int .i64 (c 2), .int .i64 (c 3), .int .i64 (c 4)] 65)).alloc (.cells #[.int .i64 (o 0), .int .i64 (o 1), .int .i64 (o 2), .int .i64 (o 3), .int .i64 (o 4)] 65)) (B := w.heap.size + 1) (c := o) (by simp [go_sem]) (by simp [go_sem]) (by simp [go_sem]) (by simp [go_sem]) (by simp [go_sem])
    have Hs := Lib.hid hs
    clear hs
    go_loopw [5] (fun i wr => ∃ k : Nat, k < 5 ∧ i = .int .i64 k ∧ (∀ j, j < k → c j = o j) ∧ (∀ j, j < 5 → wr.cell? ⟨w.heap.size, j, none⟩ = some (.int .i64 (c j))) ∧ (∀ j, j < 5 → wr.cell? ⟨w.heap.size + 1, j, none⟩ = some (.int .i64 (o j))) ∧ Ext w wr) (fun i _ => 5 - (intOf i).toNat)
    case atStart => exact ⟨0, by omega, rfl, fun j h => by omega, g0, g1, (by first | (with_reducible exact Ext.refl _) | (with_reducible assumption) | (show Below _ _ _; go_grown; done))⟩
    case round =>
      obtain ⟨k, hk, rfl, hj, e0, e1, hx⟩ := hrel
      have k0 := e0 k hk
      have k1 := e1 k hk
      have k5 : (k : Int) < 5 := by omega
      have Hj := Lib.hid hj
      have E0 := Lib.hid e0
      have E1 := Lib.hid e1
      clear hj e0 e1 g0 g1
      go_wp2_with fail
      apply Facts.wp_region [.val _, .val _, .val _, .val _, .val _, .val _, .val _] (by kernel_rfl) (by kernel_rfl) trivial ?main
      case main =>
        iterate 7 (refine ⟨fun w1 hx hh => ?_, ?_⟩; focus (clear hh; have a0 := hx.cell k0; have a1 := hx.cell k1; go_simp; exact ⟨Ext.refl _, rfl⟩))
        intro w1 hx1 hh
        clear hh
        go_simp
        by_cases he : c k = o k
        · have hb : (c k == o k) = true := by simpa using he
          have hn := before_stop Hs.out k hk Hj.out he
          have He := Lib.hid he
          clear he
          rw [hb]
          go_wp2
          go_roundw
          case rel => exact ⟨k + 1, hn, by go_num, fun j h => by
            rcases Nat.lt_or_ge j k with h1 | h1
            · exact Hj.out j h1
            · obtain rfl : j = k := by omega
              exact He.out, fun j h => hx1.cell (E0.out j h), fun j h => hx1.cell (E1.out j h), hx.trans hx1⟩
          case measure => simp [intOf]; omega
        · have hb : (c k == o k) = false := by simpa using he
          have ho := before_hit hk Hj.out he
          have Ho := Lib.hid ho
          clear he ho
          replace k0 := hx1.cell k0
          replace k1 := hx1.cell k1
          rw [hb]
          go_wp2_with fail
          apply Facts.wp_region [.val _, .val _, .val _, .val _, .val _, .val _, .val _, .val _] (by kernel_rfl) (by kernel_rfl) trivial ?main
          case main =>
            iterate 8 (refine ⟨fun w1 hx hh => ?_, ?_⟩; focus (clear hh; have a0 := hx.cell k0; have a1 := hx.cell k1; go_simp; exact ⟨Ext.refl _, rfl⟩))
            intro w2 hx2 hh
            clear hh
            go_simp
            go_wp2
            go_ret
            exact ⟨ret_bool Ho.out.symm, hx.trans (hx1.trans hx2)⟩
  · go_simp
    go_wp2_with fail
    go_ret
    exact ⟨ret_bool (before_same hs).symm, (by first | (with_reducible exact Ext.refl _) | (with_reducible assumption) | (show Below _ _ _; go_grown; done))⟩
end Go.Proofs.Ytgcibmdohifiaaa

namespace Go.Proofs.Ytgcibmdohifiaaa
set_option linter.unusedSimpArgs false
set_option linter.unusedVariables false
open Go.RowKit
set_option linter.unusedVariables false

/-- what lies in the table for each kind: keep, turn, drop, put, pass -/
def kindV : Nat → List Value
  | 0 => [.int .i64 1, .int .i64 1, .int .i64 0, .bool false, .func (.func 77) #[] #[], .func (.func 74) #[] #[]]
  | 1 => [.int .i64 1, .int .i64 1, .int .i64 1, .bool true, .func (.func 78) #[] #[], .func (.func 76) #[] #[]]
  | 2 => [.int .i64 1, .int .i64 0, .int .i64 1, .bool false, .func (.func 73) #[] #[], .func (.func 75) #[] #[]]
  | 3 => [.int .i64 0, .int .i64 1, .int .i64 1, .bool true, .func (.func 73) #[] #[], .func (.func 76) #[] #[]]
  | _ => [.int .i64 0, .int .i64 1, .int .i64 0, .bool false, .func (.func 79) #[] #[], .func (.func 75) #[] #[]]
def KindsAt (w : World) (B : Nat) : Prop := ∀ k j u, k < 5 → (kindV k)[j]? = some u → w.cell? ⟨B, k * 6 + j, none⟩ = some u
theorem KindsAt.ext {w w' : World} {B : Nat} (h : KindsAt w B) (hx : Ext w w') : KindsAt w' B := fun k j u hk hu => hx.cell (h k j u hk hu)
theorem kinds_laid {w : World} {B : Nat} (h : ∀ i u, (kindV 0 ++ kindV 1 ++ kindV 2 ++ kindV 3 ++ kindV 4)[i]? = some u → w.cell? ⟨B, i, none⟩ = some u) : KindsAt w B := by
  intro k j u hk hu
  refine h _ _ ?_
  have hj : j < 6 := by
    rcases Nat.lt_or_ge j 6 with h | h
    · exact h
    · rw [List.getElem?_eq_none (by match k, hk with
        | 0, _ => exact h
        | 1, _ => exact h
        | 2, _ => exact h
        | 3, _ => exact h
        | 4, _ => exact h)] at hu; cases hu
  rw [← hu]
  have : ∀ k : Fin 5, ∀ j : Fin 6, (kindV 0 ++ kindV 1 ++ kindV 2 ++ kindV 3 ++ kindV 4)[k.1 * 6 + j.1]? = (kindV k.1)[j.1]? := by
    intro k j
    match k, j with
    | ⟨0, _⟩, ⟨0, _⟩ | ⟨0, _⟩, ⟨1, _⟩ | ⟨0, _⟩, ⟨2, _⟩ | ⟨0, _⟩, ⟨3, _⟩ | ⟨0, _⟩, ⟨4, _⟩ | ⟨0, _⟩, ⟨5, _⟩ => rfl
    | ⟨1, _⟩, ⟨0, _⟩ | ⟨1, _⟩, ⟨1, _⟩ | ⟨1, _⟩, ⟨2, _⟩ | ⟨1, _⟩, ⟨3, _⟩ | ⟨1, _⟩, ⟨4, _⟩ | ⟨1, _⟩, ⟨5, _⟩ => rfl
    | ⟨2, _⟩, ⟨0, _⟩ | ⟨2, _⟩, ⟨1, _⟩ | ⟨2, _⟩, ⟨2, _⟩ | ⟨2, _⟩, ⟨3, _⟩ | ⟨2, _⟩, ⟨4, _⟩ | ⟨2, _⟩, ⟨5, _⟩ => rfl
    | ⟨3, _⟩, ⟨0, _⟩ | ⟨3, _⟩, ⟨1, _⟩ | ⟨3, _⟩, ⟨2, _⟩ | ⟨3, _⟩, ⟨3, _⟩ | ⟨3, _⟩, ⟨4, _⟩ | ⟨3, _⟩, ⟨5, _⟩ => rfl
    | ⟨4, _⟩, ⟨0, _⟩ | ⟨4, _⟩, ⟨1, _⟩ | ⟨4, _⟩, ⟨2, _⟩ | ⟨4, _⟩, ⟨3, _⟩ | ⟨4, _⟩, ⟨4, _⟩ | ⟨4, _⟩, ⟨5, _⟩ => rfl
  exact this ⟨k, hk⟩ ⟨j, hj⟩

set_option maxHeartbeats 1000000 in
set_option maxRecDepth 100000 in
theorem kinds_any (w : World) :
    Calls Try.prog 51 #[] w fun e w' => (∃ B, e = .returned (.slice (some ⟨B, 0, none⟩) 5 5) ∧ KindsAt w' B) ∧ Ext w w' := by
  go_enter Try.func51, Try.ntmps51
  go_wp2_with fail
  go_ret
  refine ⟨⟨_, rfl, kinds_laid fun i u hu => ?_⟩, (by first | (with_reducible exact Ext.refl _) | (with_reducible assumption) | (show Below _ _ _; go_grown; done))⟩
  rw [← hu]
  exact (World.cell?_alloc_new w _ _ _).trans (by first | (rw [List.getElem?_toArray]; rfl) | simp [kindV])
end Go.Proofs.Ytgcibmdohifiaaa

namespace Go.Proofs.Ytgcibmdohifiaaa
set_option linter.unusedSimpArgs false
set_option linter.unusedVariables false
set_option linter.unusedVariables false

def noSlot : Slot := ⟨ByteArray.empty, false⟩
/-- whether the first n words of a letter can be those of a part -/
def sizeOk (sl : List Slot) (left : List ByteArray) (n : Nat) : Bool :=
  decide (n ≤ left.length) && (decide (sl.length ≤ n) || (sl.getD n noSlot).free) && (List.range n).all fun i => takesM (sl.getD i noSlot) (left.getD i ByteArray.empty)
def updC (c : Nat → Int) (k : Nat) (v : Int) : Nat → Int := fun j => if j = k then v else c j
/-- what comes of the first k sizes of a part -/
def waysTo (step : Nat → List (Nat → Int)) (sl : List Slot) (left : List ByteArray) : Nat → List (Nat → Int)
  | 0 => []
  | k + 1 => waysTo step sl left k ++ if sizeOk sl left k then step k else []
def waysF : List (List Slot) → Nat → List ByteArray → (Nat → Int) → List (Nat → Int)
  | [], _, left, c => if left.length = 0 then [c] else []
  | sl :: r, k, left, c => waysTo (fun n => waysF r (k + 1) (left.drop n) (updC c k n)) sl left (sl.length + 1)
theorem waysTo_mono (step : Nat → List (Nat → Int)) (sl : List Slot) (left : List ByteArray) {k m : Nat} (h : k ≤ m) : waysTo step sl left k <+: waysTo step sl left m := by
  obtain ⟨d, rfl⟩ := Nat.exists_eq_add_of_le h
  clear h
  induction d with
  | zero => exact List.prefix_rfl
  | succ d ih => exact ih.trans ⟨_, rfl⟩
theorem waysTo_hit (step : Nat → List (Nat → Int)) (sl : List Slot) (left : List ByteArray) (k : Nat) (h : sizeOk sl left k = true) : waysTo step sl left (k + 1) = waysTo step sl left k ++ step k := by
  rw [waysTo, if_pos h]
theorem waysTo_miss (step : Nat → List (Nat → Int)) (sl : List Slot) (left : List ByteArray) (k : Nat) (h : sizeOk sl left k = false) : waysTo step sl left (k + 1) = waysTo step sl left k := by
  rw [waysTo, if_neg (by rw [h]; decide), List.append_nil]
theorem waysTo_mem {step : Nat → List (Nat → Int)} {sl : List Slot} {left : List ByteArray} {c : Nat → Int} : ∀ {k : Nat}, c ∈ waysTo step sl left k → ∃ n, n < k ∧ sizeOk sl left n = true ∧ c ∈ step n
  | 0, h => by simp [waysTo] at h
  | k + 1, h => by
    rw [waysTo] at h
    rcases List.mem_append.1 h with h | h
    · obtain ⟨n, h1, h2⟩ := waysTo_mem h
      exact ⟨n, by omega, h2⟩
    · by_cases hs : sizeOk sl left k = true
      · rw [if_pos hs] at h; exact ⟨k, by omega, hs, h⟩
      · rw [if_neg hs] at h; cases h
theorem sizeOk_le {sl : List Slot} {left : List ByteArray} {n : Nat} (h : sizeOk sl left n = true) : n ≤ left.length := by
  simp [sizeOk] at h; exact h.1.1
/-- what is counted is what there is -/
theorem waysF_fine : ∀ (ss : List (List Slot)) (k : Nat) (left : List ByteArray) (c d : Nat → Int), d ∈ waysF ss k left c → (∀ j, j < k → d j = c j) ∧ (∀ j, k + ss.length ≤ j → d j = c j) ∧ (∀ j, k ≤ j → j < k + ss.length → 0 ≤ d j ∧ d j ≤ left.length)
  | [], k, left, c, d, h => by
    unfold waysF at h
    split at h
    · simp only [List.mem_singleton] at h; subst h; exact ⟨fun _ _ => rfl, fun _ _ => rfl, fun j h1 h2 => by simp at h2; omega⟩
    · cases h
  | sl :: r, k, left, c, d, h => by
    unfold waysF at h
    obtain ⟨n, hn, hs, hd⟩ := waysTo_mem h
    obtain ⟨h1, h2, h3⟩ := waysF_fine r (k + 1) _ _ d hd
    have hle := sizeOk_le hs
    refine ⟨fun j hj => (h1 j (by omega)).trans (by simp [updC]; omega), fun j hj => (h2 j (by simp at hj; omega)).trans (by simp at hj; simp [updC]; omega), fun j hj hj2 => ?_⟩
    simp only [List.length_cons] at hj2
    by_cases e : j = k
    · subst e
      rw [h1 j (by omega)]
      simp only [updC, if_true]
      omega
    · have := h3 j (by omega) (by omega)
      simp only [List.length_drop] at this
      omega
theorem waysTo_len {step : Nat → List (Nat → Int)} {sl : List Slot} {left : List ByteArray} {N : Nat} (h : ∀ n, (step n).length ≤ N) : ∀ k, (waysTo step sl left k).length ≤ k * N
  | 0 => by simp [waysTo]
  | k + 1 => by
    have ih := waysTo_len (sl := sl) (left := left) h k
    have hk := h k
    rw [waysTo, List.length_append, Nat.succ_mul]
    split
    · omega
    · simp; omega
theorem waysF_len : ∀ (ss : List (List Slot)) (k : Nat) (left : List ByteArray) (c : Nat → Int), (∀ sl ∈ ss, sl.length ≤ 3) → (waysF ss k left c).length ≤ 4 ^ ss.length
  | [], k, left, c, _ => by unfold waysF; split <;> simp
  | sl :: r, k, left, c, h => by
    have h3 := h sl List.mem_cons_self
    have := waysTo_len (sl := sl) (left := left) (N := 4 ^ r.length) (step := fun n => waysF r (k + 1) (left.drop n) (updC c k n)) (fun n => waysF_len r (k + 1) _ _ fun s hs => h s (List.mem_cons_of_mem _ hs)) (sl.length + 1)
    rw [waysF, List.length_cons, Nat.pow_succ]
    refine Nat.le_trans this ?_
    rw [Nat.mul_comm]
    exact Nat.mul_le_mul_left _ (by omega)
/-- the ways of a form -/
def formWays (ps : List Part) (l : List ByteArray) : List (Nat → Int) := waysF (ps.map partSlotsM) 0 l (fun _ => 0)
/-- the first of some things that none comes before, and how many there are -/
def pickB {α : Type} (bf : α → α → Bool) (z : α) (xs : List α) : α × Nat := xs.foldl (fun s x => (if s.2 = 0 ∨ bf x s.1 = true then x else s.1, s.2 + 1)) (z, 0)
theorem pickB_snoc {α : Type} (bf : α → α → Bool) (z : α) (xs : List α) (x : α) : pickB bf z (xs ++ [x]) = (if (pickB bf z xs).2 = 0 ∨ bf x (pickB bf z xs).1 = true then x else (pickB bf z xs).1, (pickB bf z xs).2 + 1) := by
  unfold pickB
  rw [List.foldl_append]
  rfl
theorem snoc_ind {α : Type} {p : List α → Prop} (h0 : p []) (h1 : ∀ xs x, p xs → p (xs ++ [x])) (xs : List α) : p xs := by
  have h : ∀ ys : List α, p ys.reverse := by
    intro ys
    induction ys with
    | nil => exact h0
    | cons y ys ih => rw [List.reverse_cons]; exact h1 _ _ ih
  have := h xs.reverse
  rwa [List.reverse_reverse] at this
theorem pickB_many {α : Type} (bf : α → α → Bool) (z : α) (xs : List α) : (pickB bf z xs).2 = xs.length := by
  refine snoc_ind (p := fun xs => (pickB bf z xs).2 = xs.length) rfl (fun xs x ih => ?_) xs
  show (pickB bf z (xs ++ [x])).2 = (xs ++ [x]).length
  rw [pickB_snoc, List.length_append]; simp [ih]
theorem pickB_mem {α : Type} (bf : α → α → Bool) (z : α) (xs : List α) : (pickB bf z xs).1 = z ∧ xs = [] ∨ (pickB bf z xs).1 ∈ xs := by
  refine snoc_ind (p := fun xs => (pickB bf z xs).1 = z ∧ xs = [] ∨ (pickB bf z xs).1 ∈ xs) (.inl ⟨rfl, rfl⟩) (fun xs x ih => .inr ?_) xs
  rw [pickB_snoc]
  by_cases h : (pickB bf z xs).2 = 0 ∨ bf x (pickB bf z xs).1 = true
  · rw [if_pos h]; simp
  · rw [if_neg h]
    rcases ih with ⟨-, rfl⟩ | ih
    · exact absurd (.inl rfl) h
    · exact List.mem_append_left _ ih
end Go.Proofs.Ytgcibmdohifiaaa

namespace Go.Proofs.Ytgcibmdohifiaaa
set_option linter.unusedSimpArgs false
set_option linter.unusedVariables false
set_option linter.unusedVariables false

/-- a choice: which kind, and how many corrections -/
abbrev Ch := Nat × Nat
def fewCh (a b : Ch) : Bool := decide (a.2 < b.2)
def pickC (l : List Ch) : Ch := (pickB fewCh (0, 0) l).1
def lastRow : List Slot → List Ch
  | [] => [(0, 0)]
  | s :: ss => pickC ([(3, 1 + ((lastRow ss).headD (0, 0)).2)] ++ if s.free then [(4, ((lastRow ss).headD (0, 0)).2)] else []) :: lastRow ss
def nextRow (x : ByteArray) : List Slot → List Ch → List Ch
  | [], below => [pickC [(2, 1 + (below.headD (0, 0)).2)]]
  | s :: ss, below => pickC ([if takesM s x then (0, (below.tail.headD (0, 0)).2) else (1, 1 + (below.tail.headD (0, 0)).2), (2, 1 + (below.headD (0, 0)).2), (3, 1 + ((nextRow x ss below.tail).headD (0, 0)).2)] ++ if s.free then [(4, ((nextRow x ss below.tail).headD (0, 0)).2)] else []) :: nextRow x ss below.tail
def rowM : List ByteArray → List Slot → List Ch
  | [], ss => lastRow ss
  | x :: ws, ss => nextRow x ss (rowM ws ss)
/-- the choice for what is left -/
def costM (ws : List ByteArray) (ss : List Slot) : Ch := (rowM ws ss).headD (0, 0)
theorem rowM_ne (ws : List ByteArray) (ss : List Slot) : rowM ws ss ≠ [] := by
  cases ws with
  | nil => cases ss <;> simp [rowM, lastRow]
  | cons x ws => cases ss <;> simp [rowM, nextRow]
theorem rowM_tail (ws : List ByteArray) (s : Slot) (ss : List Slot) : (rowM ws (s :: ss)).tail = rowM ws ss := by
  induction ws with
  | nil => rfl
  | cons x ws ih => show nextRow x ss (rowM ws (s :: ss)).tail = _; rw [ih]; rfl
theorem costM_end : costM [] [] = (0, 0) := rfl
theorem costM_put (s : Slot) (ss : List Slot) : costM [] (s :: ss) = pickC ([(3, 1 + (costM [] ss).2)] ++ if s.free then [(4, (costM [] ss).2)] else []) := rfl
theorem costM_drop (x : ByteArray) (ws : List ByteArray) : costM (x :: ws) [] = pickC [(2, 1 + (costM ws []).2)] := rfl
theorem costM_all (x : ByteArray) (ws : List ByteArray) (s : Slot) (ss : List Slot) :
    costM (x :: ws) (s :: ss) = pickC ([if takesM s x then (0, (costM ws ss).2) else (1, 1 + (costM ws ss).2), (2, 1 + (costM ws (s :: ss)).2), (3, 1 + (costM (x :: ws) ss).2)] ++ if s.free then [(4, (costM (x :: ws) ss).2)] else []) := by
  show (nextRow x (s :: ss) (rowM ws (s :: ss))).headD (0, 0) = _
  rw [nextRow, rowM_tail]
  rfl
/-- how many words, slots and corrections each kind takes, and whether it writes -/
def kW : Nat → Nat
  | 0 | 1 | 2 => 1
  | _ => 0
def kS : Nat → Nat
  | 2 => 0
  | _ => 1
def kC : Nat → Nat
  | 1 | 2 | 3 => 1
  | _ => 0
def kWr : Nat → Bool
  | 1 | 3 => true
  | _ => false
/-- whether it can be done, so that these words come to these slots -/
def canM' : Nat → List ByteArray → List Slot → Bool
  | 0, ws, ss => takesM (ss.headD noSlot) (ws.headD ByteArray.empty)
  | 1, ws, ss => !takesM (ss.headD noSlot) (ws.headD ByteArray.empty)
  | 4, _, ss => (ss.headD noSlot).free
  | _, _, _ => true
/-- what can be done by one kind at a place, if what is found is F -/
def choiceK (F : Nat → Nat → Option Ch) (ws : List ByteArray) (ss : List Slot) (i j k : Nat) : List Ch :=
  match F (i + kW k) (j + kS k) with
  | none => []
  | some b => if canM' k (ws.drop i) (ss.drop j) then [(k, kC k + b.2)] else []
def choicesTo (F : Nat → Nat → Option Ch) (ws : List ByteArray) (ss : List Slot) (i j : Nat) : Nat → List Ch
  | 0 => []
  | k + 1 => choicesTo F ws ss i j k ++ choiceK F ws ss i j k
def choicesM (F : Nat → Nat → Option Ch) (ws : List ByteArray) (ss : List Slot) (i j : Nat) : List Ch := choicesTo F ws ss i j 5
/-- the choice at a place -/
def valM (ws : List ByteArray) (ss : List Slot) (i j : Nat) : Ch := costM (ws.drop i) (ss.drop j)
/-- a place at which all that can be done is found gets what is due -/
theorem choices_val (F : Nat → Nat → Option Ch) (ws : List ByteArray) (ss : List Slot) (i j : Nat) (hi : i ≤ ws.length) (hj : j ≤ ss.length)
    (hF : ∀ a b, (i < a ∧ j ≤ b ∨ i ≤ a ∧ j < b) → F a b = if a ≤ ws.length ∧ b ≤ ss.length then some (valM ws ss a b) else none) : pickC (choicesM F ws ss i j) = valM ws ss i j := by
  have e1 := hF (i + 1) (j + 1) (by omega)
  have e2 := hF (i + 1) j (by omega)
  have e3 := hF i (j + 1) (by omega)
  have hd : choicesM F ws ss i j = choiceK F ws ss i j 0 ++ choiceK F ws ss i j 1 ++ choiceK F ws ss i j 2 ++ choiceK F ws ss i j 3 ++ choiceK F ws ss i j 4 := by simp [choicesM, choicesTo]
  rw [hd]
  unfold choiceK
  simp only [kW, kS, Nat.add_zero, e1, e2, e3]
  unfold valM
  by_cases h1 : i < ws.length
  · have d1 : ws.drop i = ws[i] :: ws.drop (i + 1) := List.drop_eq_getElem_cons h1
    by_cases h2 : j < ss.length
    · have d2 : ss.drop j = ss[j] :: ss.drop (j + 1) := List.drop_eq_getElem_cons h2
      rw [if_pos (by omega), if_pos (by omega), if_pos (by omega)]
      simp only [d1, d2, costM_all, canM', List.headD_cons, kC]
      congr 1
      cases takesM ss[j] ws[i] <;> cases (ss[j]).free <;> simp
    · have d2 : ss.drop j = [] := List.drop_eq_nil_of_le (by omega)
      have d3 : ss.drop (j + 1) = [] := List.drop_eq_nil_of_le (by omega)
      rw [if_neg (by omega), if_pos (by omega), if_neg (by omega)]
      simp only [d1, d2, d3, costM_drop, canM', kC]
      congr 1
  · have d1 : ws.drop i = [] := List.drop_eq_nil_of_le (by omega)
    by_cases h2 : j < ss.length
    · have d2 : ss.drop j = ss[j] :: ss.drop (j + 1) := List.drop_eq_getElem_cons h2
      rw [if_neg (by omega), if_neg (by omega), if_pos (by omega)]
      simp only [d1, d2, costM_put, canM', List.headD_cons, kC]
      congr 1
      cases (ss[j]).free <;> simp
    · have d2 : ss.drop j = [] := List.drop_eq_nil_of_le (by omega)
      rw [if_neg (by omega), if_neg (by omega), if_neg (by omega)]
      simp only [d1, d2, costM_end]
      rfl
/-- the fewest corrections are no more than all that is left -/
theorem pickC_le (l : List Ch) (x : Ch) (h : x ∈ l) : (pickC l).2 ≤ x.2 := by
  unfold pickC
  revert h
  refine snoc_ind (p := fun l => x ∈ l → (pickB fewCh (0, 0) l).1.2 ≤ x.2) (by simp) (fun l y ih h => ?_) l
  rw [pickB_snoc, pickB_many]
  by_cases hc : l.length = 0 ∨ fewCh y (pickB fewCh (0, 0) l).1 = true
  · rw [if_pos hc]
    rcases List.mem_append.1 h with h | h
    · rcases hc with hc | hc
      · rw [List.eq_nil_of_length_eq_zero hc] at h; cases h
      · have := ih h
        simp [fewCh] at hc
        show y.2 ≤ x.2
        omega
    · simp at h; subst h; exact Nat.le_refl _
  · rw [if_neg hc]
    rcases List.mem_append.1 h with h | h
    · exact ih h
    · simp at h; subst h
      simp [fewCh] at hc
      exact hc.2
theorem pickC_mem (l : List Ch) (h : l ≠ []) : pickC l ∈ l := by
  rcases pickB_mem fewCh (0, 0) l with ⟨-, e⟩ | e
  · exact absurd e h
  · exact e
theorem costM_le : ∀ (ws : List ByteArray) (ss : List Slot), (costM ws ss).2 ≤ ws.length + ss.length
  | [], [] => by rw [costM_end]; exact Nat.zero_le _
  | [], s :: ss => by
    have ih := costM_le [] ss
    have := pickC_le ([(3, 1 + (costM [] ss).2)] ++ if s.free then [(4, (costM [] ss).2)] else []) (3, 1 + (costM [] ss).2) (by simp)
    rw [costM_put]
    simp only [List.length_nil, List.length_cons] at *
    omega
  | x :: ws, [] => by
    have ih := costM_le ws []
    have := pickC_le [(2, 1 + (costM ws []).2)] (2, 1 + (costM ws []).2) (by simp)
    rw [costM_drop]
    simp only [List.length_nil, List.length_cons] at *
    omega
  | x :: ws, s :: ss => by
    have ih := costM_le ws (s :: ss)
    have := pickC_le ([if takesM s x then (0, (costM ws ss).2) else (1, 1 + (costM ws ss).2), (2, 1 + (costM ws (s :: ss)).2), (3, 1 + (costM (x :: ws) ss).2)] ++ if s.free then [(4, (costM (x :: ws) ss).2)] else []) (2, 1 + (costM ws (s :: ss)).2) (by simp)
    rw [costM_all]
    simp only [List.length_cons] at *
    omega
/-- what is done first can be done -/
theorem costM_which (ws : List ByteArray) (ss : List Slot) (h : 0 < ws.length + ss.length) : (costM ws ss).1 ≤ 4 ∧ kW (costM ws ss).1 ≤ ws.length ∧ kS (costM ws ss).1 ≤ ss.length ∧ 0 < kW (costM ws ss).1 + kS (costM ws ss).1 ∧ canM' (costM ws ss).1 ws ss = true ∧ (costM ws ss).2 = kC (costM ws ss).1 + (costM (ws.drop (kW (costM ws ss).1)) (ss.drop (kS (costM ws ss).1))).2 := by
  have key : ∀ l : List Ch, l ≠ [] → pickC l = costM ws ss → (∀ c ∈ l, c.1 ≤ 4 ∧ kW c.1 ≤ ws.length ∧ kS c.1 ≤ ss.length ∧ 0 < kW c.1 + kS c.1 ∧ canM' c.1 ws ss = true ∧ c.2 = kC c.1 + (costM (ws.drop (kW c.1)) (ss.drop (kS c.1))).2) → _ := fun l hl e hc => by
    have := hc _ (pickC_mem l hl)
    rwa [e] at this
  cases ws with
  | nil =>
    cases ss with
    | nil => simp at h
    | cons s ss =>
      refine key _ (by simp) (costM_put s ss).symm ?_
      intro c hc
      cases hf : s.free <;> simp [hf] at hc
      · subst hc; simp [kW, kS, kC, canM']
      · rcases hc with rfl | rfl <;> simp [kW, kS, kC, canM', hf]
  | cons x ws =>
    cases ss with
    | nil =>
      refine key _ (by simp) (costM_drop x ws).symm ?_
      intro c hc
      simp at hc
      subst hc; simp [kW, kS, kC, canM']
    | cons s ss =>
      refine key _ (by simp) (costM_all x ws s ss).symm ?_
      intro c hc
      cases ht : takesM s x <;> cases hf : s.free <;> simp [hf, ht] at hc
      · rcases hc with rfl | rfl | rfl <;> simp [kW, kS, kC, canM', ht]
      · rcases hc with rfl | rfl | rfl | rfl <;> simp [kW, kS, kC, canM', hf, ht]
      · rcases hc with rfl | rfl | rfl <;> simp [kW, kS, kC, canM', ht]
      · rcases hc with rfl | rfl | rfl | rfl <;> simp [kW, kS, kC, canM', hf, ht]
/-- the first marks with the fewest corrections -/
def marksF : Nat → List ByteArray → List Slot → List Mark
  | 0, _, _ => []
  | n + 1, ws, ss => if ws.length + ss.length = 0 then [] else
    ⟨((costM ws ss).1 : Nat), if kWr (costM ws ss).1 then (ss.headD noSlot).word else ByteArray.empty⟩ :: marksF n (ws.drop (kW (costM ws ss).1)) (ss.drop (kS (costM ws ss).1))
def marksM (ws : List ByteArray) (ss : List Slot) : List Mark := marksF (ws.length + ss.length) ws ss
end Go.Proofs.Ytgcibmdohifiaaa

namespace Go.Proofs.Ytgcibmdohifiaaa
set_option linter.unusedSimpArgs false
set_option linter.unusedVariables false
open Go.RowKit
set_option linter.unusedVariables false

theorem always_any (u v : Value) (w : World) : Calls Try.prog 73 #[u, v] w fun e w' => e = .returned (.bool true) ∧ Ext w w' := by
  go_enter Try.func73, Try.ntmps73
  go_wp2
  go_ret
  exact ⟨rfl, (by first | (with_reducible exact Ext.refl _) | (with_reducible assumption) | (show Below _ _ _; go_grown; done))⟩
theorem stays_any (a : Option Addr) (n c : Nat) (v : Value) (w : World) : Calls Try.prog 74 #[.slice a n c, v] w fun e w' => e = .returned (.slice a n c) ∧ Ext w w' := by
  go_enter Try.func74, Try.ntmps74
  go_wp2
  go_ret
  exact ⟨rfl, (by first | (with_reducible exact Ext.refl _) | (with_reducible assumption) | (show Below _ _ _; go_grown; done))⟩
theorem goes_any (u v : Value) (w : World) : Calls Try.prog 75 #[u, v] w fun e w' => e = .returned (.slice none 0 0) ∧ Ext w w' := by
  go_enter Try.func75, Try.ntmps75
  go_wp2
  go_ret
  exact ⟨rfl, (by first | (with_reducible exact Ext.refl _) | (with_reducible assumption) | (show Below _ _ _; go_grown; done))⟩
theorem comes_any (u : Value) (s : ByteArray) (hs : s.size ≤ 9223372036854775807) (w : World) : Calls Try.prog 76 #[u, .string s] w fun e w' => (∃ g, e = .returned (.slice (some ⟨g, 0, none⟩) 1 1) ∧ StrsAt w' (.slice (some ⟨g, 0, none⟩) 1 1) [s]) ∧ Ext w w' := by
  go_enter Try.func76, Try.ntmps76
  go_wp2
  go_ret
  refine ⟨⟨_, rfl, _, _, rfl, by simp, by decide, fun i hi => ⟨_, _, rfl, ?_⟩⟩, (by first | (with_reducible exact Ext.refl _) | (with_reducible assumption) | (show Below _ _ _; go_grown; done))⟩
  obtain rfl : i = 0 := by simp at hi; omega
  exact ⟨by simp [go_sem], hs⟩
theorem slot_head {w : World} {v : Value} {ss : List Slot} (h : SlotsAt w v ss) (h0 : 0 < ss.length) : ∃ b o c, v = .slice (some ⟨b, o, none⟩) ss.length c ∧ ss.length ≤ c ∧ w.cell? ⟨b, o, none⟩ = some (.string (ss.headD noSlot).word) ∧ w.cell? ⟨b, o + 1, none⟩ = some (.bool (ss.headD noSlot).free) := by
  obtain ⟨a, c, rfl, hc, -⟩ := h.shape
  obtain ⟨b, o, rfl, h1, h2, -⟩ := h.get h0
  cases ss with
  | nil => simp at h0
  | cons s ss => exact ⟨b, o, c, rfl, hc, by simpa using h1, by simpa using h2⟩
theorem word_head {w : World} {v : Value} {ws : List ByteArray} (h : StrsAt w v ws) (h0 : 0 < ws.length) : ∃ b o c, v = .slice (some ⟨b, o, none⟩) ws.length c ∧ ws.length ≤ c ∧ w.cell? ⟨b, o, none⟩ = some (.string (ws.headD ByteArray.empty)) := by
  obtain ⟨a, c, rfl, hc, -⟩ := h.shape
  obtain ⟨b, o, rfl, h1, -⟩ := h.get h0
  cases ws with
  | nil => simp at h0
  | cons s ws => exact ⟨b, o, c, rfl, hc, by simpa using h1⟩
set_option maxHeartbeats 1000000 in
set_option maxRecDepth 100000 in
theorem keepCan_any (u v : Value) (ws : List ByteArray) (ss : List Slot) (w : World) (hu : StrsAt w u ws) (hv : SlotsAt w v ss) (h1 : 0 < ws.length) (h2 : 0 < ss.length) :
    Calls Try.prog 77 #[u, v] w fun e w' => e = .returned (.bool (canM' 0 ws ss)) ∧ Ext w w' := by
  obtain ⟨b, o, c, rfl, hc, c0, c1⟩ := slot_head hv h2
  obtain ⟨b', o', c', rfl, hc', c2⟩ := word_head hu h1
  have k1 : (0 : Int) < (ws.length : Int) := by omega
  have k2 : (0 : Int) < (ss.length : Int) := by omega
  have hcan : canM' 0 ws ss = takesM (ss.headD noSlot) (ws.headD ByteArray.empty) := rfl
  rw [hcan]
  generalize ss.headD noSlot = s at *
  generalize ws.headD ByteArray.empty = x at *
  have ht := fun w => takes_any s x w
  unfold slotV at ht
  go_enter Try.func77, Try.ntmps77
  go_wp2_with fail
  apply Facts.wp_region [.val _, .val _, .val _, .val _, .val _, .val _, .val (.bool (takesM s x)), .val _] (by kernel_rfl) (by kernel_rfl) trivial ?main
  case main =>
    iterate 6 (refine ⟨fun w1 hx hh => ?_, ?_⟩; focus (clear hh; have e0 := hx.cell c0; have e1 := hx.cell c1; have e2 := hx.cell c2; go_simp; first | exact ⟨Ext.refl _, rfl⟩ | exact Ext.refl _))
    refine ⟨fun w1 hx hh => ?_, ?_⟩
    · clear hh
      go_simp
      refine (ht _).mono ?_
      rintro e w' ⟨rfl, hx2⟩
      exact ⟨_, rfl, hx2, rfl⟩
    iterate 1 (refine ⟨fun w1 hx hh => ?_, ?_⟩; focus (clear hh; skip; go_simp; first | exact ⟨Ext.refl _, rfl⟩ | exact Ext.refl _))
    intro w1 hx1 hh
    clear hh
    go_simp
    go_wp2
    go_ret
    exact ⟨rfl, hx1⟩
set_option maxHeartbeats 1000000 in
set_option maxRecDepth 100000 in
theorem turnCan_any (u v : Value) (ws : List ByteArray) (ss : List Slot) (w : World) (hu : StrsAt w u ws) (hv : SlotsAt w v ss) (h1 : 0 < ws.length) (h2 : 0 < ss.length) :
    Calls Try.prog 78 #[u, v] w fun e w' => e = .returned (.bool (canM' 1 ws ss)) ∧ Ext w w' := by
  obtain ⟨b, o, c, rfl, hc, c0, c1⟩ := slot_head hv h2
  obtain ⟨b', o', c', rfl, hc', c2⟩ := word_head hu h1
  have k1 : (0 : Int) < (ws.length : Int) := by omega
  have k2 : (0 : Int) < (ss.length : Int) := by omega
  have hcan : canM' 1 ws ss = !takesM (ss.headD noSlot) (ws.headD ByteArray.empty) := rfl
  rw [hcan]
  generalize ss.headD noSlot = s at *
  generalize ws.headD ByteArray.empty = x at *
  have ht := fun w => takes_any s x w
  unfold slotV at ht
  go_enter Try.func78, Try.ntmps78
  go_wp2_with fail
  apply Facts.wp_region [.val _, .val _, .val _, .val _, .val _, .val _, .val (.bool (takesM s x)), .val (.bool !takesM s x), .val _] (by kernel_rfl) (by kernel_rfl) trivial ?main
  case main =>
    iterate 6 (refine ⟨fun w1 hx hh => ?_, ?_⟩; focus (clear hh; have e0 := hx.cell c0; have e1 := hx.cell c1; have e2 := hx.cell c2; go_simp; first | exact ⟨Ext.refl _, rfl⟩ | exact Ext.refl _))
    refine ⟨fun w1 hx hh => ?_, ?_⟩
    · clear hh
      go_simp
      refine (ht _).mono ?_
      rintro e w' ⟨rfl, hx2⟩
      exact ⟨_, rfl, hx2, rfl⟩
    iterate 2 (refine ⟨fun w1 hx hh => ?_, ?_⟩; focus (clear hh; skip; go_simp; first | exact ⟨Ext.refl _, rfl⟩ | exact Ext.refl _))
    intro w1 hx1 hh
    clear hh
    go_simp
    go_wp2
    go_ret
    exact ⟨rfl, hx1⟩
set_option maxRecDepth 100000 in
theorem passCan_any (u v : Value) (ss : List Slot) (w : World) (hv : SlotsAt w v ss) (h2 : 0 < ss.length) :
    Calls Try.prog 79 #[u, v] w fun e w' => e = .returned (.bool (ss.headD noSlot).free) ∧ Ext w w' := by
  obtain ⟨b, o, c, rfl, hc, c0, c1⟩ := slot_head hv h2
  have k2 : (0 : Int) < (ss.length : Int) := by omega
  generalize ss.headD noSlot = s at *
  go_enter Try.func79, Try.ntmps79
  go_wp2
  go_ret
  exact ⟨rfl, (by first | (with_reducible exact Ext.refl _) | (with_reducible assumption) | (show Below _ _ _; go_grown; done))⟩
end Go.Proofs.Ytgcibmdohifiaaa

namespace Go.Proofs.Ytgcibmdohifiaaa
set_option linter.unusedSimpArgs false
set_option linter.unusedVariables false
open Go.RowKit
set_option linter.unusedVariables false

/-- AN ITERATOR THAT YIELDS JUST THESE, and may turn whatever has been laid since its call began; a round keeps what Kp says. -/
def SeqOwn {α : Type} (n : Nat) (P : Program) (g : Nat) (lb : Array Value) (encs : α → Array Value) (Kp : World → World → Prop) (xs : List α) (w : World) : Prop :=
  ∀ (l : Nat) (J : List α → World → Prop) (W : World), Below w.heap.size w W → (∀ s X Y, Below W.heap.size X Y → J s X → J s Y) →
    (∀ pre x W1, J pre W1 → pre ++ [x] <+: xs → YieldAt Fence.wide (n - 1) P l (encs x) W1 fun e W' => e = .returned (.bool true) ∧ J (pre ++ [x]) W' ∧ Kp W1 W') →
    J [] W → CallsIn Fence.wide n P g (#[.func (.yield l) #[] #[]] ++ lb) W fun e W' => (∃ v, e = .returned v) ∧ J xs W'

/-- how a round ends: it goes on -/
def goesOn {α : Type} (B : Nat) (Kp : World → World → Prop) (I : List α → World → Prop) (s : List α) (W : World) : Exit → Act → World → Prop
  | .normal, _, W' => KeepsFrom B W W' ∧ Kp W W' ∧ I s W'
  | _, _, _ => False

theorem below_put {B : Nat} {A : World} {l : Nat} {o : Obj} (h : B ≤ l) : Below B A (A.putObj l o) :=
  ⟨rfl, rfl, rfl, by simp [World.putObj], fun k hk => World.putObj_heap_other (by omega)⟩

theorem wpIn_seqOwn {P : Program} {α : Type} {n : Nat} {w : World} {g : Operand} {ps : Array Tmp} {assign body : Code} {Q : Exit → Act → World → Prop} {a : Act} (h1 : 1 ≤ n)
    {gf : Nat} {lb : Array Value} (hg : a.eval g = .func (.func gf) #[] lb) (eg : ∀ args w, (callFunc gf args).run P w = .ok (.enter gf args) w)
    {encs : α → Array Value} {Kp : World → World → Prop} {xs : List α} {w0 : World} (hseq : SeqOwn (n - 1) P gf lb encs Kp xs w0)
    (hKt : ∀ {A B C : World}, Kp A B → Kp B C → Kp A C) (hKb : ∀ (W : World) (l : Nat) (o o' : Obj), w.heap.size ≤ l → W.heap[l]? = some o → o.isCells = false → o.isWalk = false → Kp W (W.putObj l o')) (hb0 : Below w0.heap.size w0 w) (hps : ∀ x, (encs x).size = ps.size)
    (I : List α → World → Prop) (hI : ∀ s A B, Below w.heap.size A B → I s A → I s B) (h0 : I [] w) (Ax : α → Act → World → Prop) (hAx : ∀ x a' (A : World) l o', w.heap.size ≤ l → (∃ o, A.heap[l]? = some o ∧ o.isCells = false) → Ax x a' A → Ax x a' (A.putObj l o'))
    (hassign : ∀ (l : Nat) (pre : List α) (x : α) (W : World) (K : Act → World → Prop), I pre W → (∀ a' W', KeepsFrom w.heap.size W W' → Kp W W' → I pre W' → Ax x a' W' → K a' W') →
      assign.wpIn (Fence.wide.inRound l) (n - 1 - 1) P (Exit.then K (fun _ _ _ => False)) { tmps := (ps.zip (encs x)).foldl (fun t (p, v) => t.setIfInBounds p v) a.tmps, defers := [] } W)
    (hbody : ∀ (l : Nat) (pre : List α) (x : α) (a' : Act) (W : World), I pre W → Ax x a' W → pre ++ [x] <+: xs → body.wpIn (Fence.wide.inRound l) (n - 1 - 1) P (goesOn w.heap.size Kp I (pre ++ [x]) W) a' W)
    (hdone : ∀ (D : Nat) (W : World), w.heap.size ≤ D → I xs W → W.heap[D]? = some (.deferred (some [])) → Q .normal { a with defers := { target := .collected D, args := #[] } :: a.defers } W) :
    (Code.rangeFunc g ps assign body).wpIn Fence.wide n P Q a w := by
  refine wpIn_rangeFunc fun fn hfn => ?_
  let rec_ : LoopState → Option Code → Loop := fun st pe => { state := st, pending := pe, fn, tmps := a.tmps, params := ps, assign, body, defers := w.heap.size }
  have hrec : rec_ = fun st pe => { state := st, pending := pe, fn, tmps := a.tmps, params := ps, assign, body, defers := w.heap.size } := rfl
  clear_value rec_
  obtain ⟨W1, hW1⟩ : ∃ W1, (w.alloc (.deferred (some []))).alloc (.loop (rec_ .ready none)) = W1 := ⟨_, rfl⟩
  have z1 : W1.heap.size = w.heap.size + 1 + 1 := by rw [← hW1]; simp
  have hB1 : Below w.heap.size w W1 := by rw [← hW1]; exact ((Below.refl _ w).alloc (Nat.le_refl _) _).alloc (by simp) _
  have hL1 : W1.heap[w.heap.size + 1]? = some (.loop (rec_ .ready none)) := by
    have := World.alloc_heap_new (w.alloc (.deferred (some []))) (.loop (rec_ .ready none))
    rw [World.size_alloc, hW1] at this; exact this
  have hK1 : W1.heap[w.heap.size]? = some (.deferred (some [])) := by
    rw [← hW1]; exact (Below.heap_alloc _ _ _ (by simp)).trans (World.alloc_heap_new w _)
  -- what the law itself knows between two rounds
  let J : List α → World → Prop := fun pre W => I pre W ∧ W.heap[w.heap.size + 1]? = some (.loop (rec_ .ready none)) ∧ W.heap[w.heap.size]? = some (.deferred (some []))
  have hJ : ∀ s X Y, Below W1.heap.size X Y → J s X → J s Y := fun s X Y hx h =>
    ⟨hI s X Y (hx.mono (by omega)) h.1, (hx.block _ (by omega)).trans h.2.1, (hx.block _ (by omega)).trans h.2.2⟩
  refine ⟨w.heap.size + 1, [{ target := .collected w.heap.size, args := #[] }], W1, { target := .fn (.func gf) lb, args := #[.func (.yield (w.heap.size + 1)) #[] #[]] }, W1, gf,
    #[.func (.yield (w.heap.size + 1)) #[] #[]] ++ lb, W1, ?_, ?_, ?_, ?_, fun _ => h1, ?_⟩
  · rw [← hW1, hrec]; exact run_enterLoop_outer _ _ _ _ _
  · simp only [resolve, hg]; simp [go_sem]
  · exact fun f' hf' => trivial
  · simp [invoke, go_sem, eg]
  refine (hseq (w.heap.size + 1) J W1 (hb0.trans (hB1.mono hb0.size)) hJ ?round ⟨hI _ _ _ hB1 h0, hL1, hK1⟩).mono ?_
  case round =>
    rintro pre x W ⟨hi, hl, hk⟩ hpre
    have hy := run_yield (P := P) (args := encs x) hl (by rw [hrec]; exact hps x)
    rw [hrec] at hy
    refine ⟨fn, _, assign, body, hy, roundIn_of_wpIn hfn (hassign _ pre x W _ hi fun a' Wa hkf hkp hia hax => ?_)⟩
    clear hy
    have hla := hkf.same _ _ (by omega) hl rfl
    have hka := hkf.same _ _ (Nat.le_refl _) hk rfl
    have hlt : w.heap.size + 1 < Wa.heap.size := (Array.getElem?_eq_some_iff.1 hla).1
    refine ⟨_, run_beginRound hla (by rw [hrec]), ?_⟩
    obtain ⟨Wb, hWb⟩ : ∃ Wb, Wa.putObj (w.heap.size + 1) (.loop { rec_ .ready none with state := .busy }) = Wb := ⟨_, rfl⟩
    have hlb : Wb.heap[w.heap.size + 1]? = some (.loop { rec_ .ready none with state := .busy }) := by rw [← hWb]; exact World.putObj_heap_same hlt
    have hkb : Wb.heap[w.heap.size]? = some (.deferred (some [])) := by rw [← hWb]; exact (World.putObj_heap_other (by omega)).trans hka
    have hab : Kp Wa Wb := by rw [← hWb]; exact hKb _ _ _ _ (by omega) hla rfl rfl
    have hib : I pre Wb := by rw [← hWb]; exact hI _ _ _ (below_put (by omega)) hia
    have haxb : Ax x a' Wb := by rw [← hWb]; exact hAx _ _ _ _ _ (by omega) ⟨_, hla, rfl⟩ hax
    rw [hWb]
    refine wpIn_mono (hbody _ pre x a' Wb hib haxb hpre) ?_
    rintro e a3 W3 hp
    cases e with
    | normal =>
      obtain ⟨hk3, hkp3, hi3⟩ := hp
      have hl3 := hk3.same _ _ (by omega) hlb rfl
      have hd3 := hk3.same _ _ (Nat.le_refl _) hkb rfl
      have hr := run_endRound (P := P) none hl3
      refine ⟨_, _, hr, rfl, ⟨hI _ _ _ (below_put (by omega)) hi3, ?_, (World.putObj_heap_other (by omega)).trans hd3⟩, hKt hkp (hKt hab (hKt hkp3 (hKb _ _ _ _ (by omega) hl3 rfl rfl)))⟩
      rw [World.putObj_heap_same (Array.getElem?_eq_some_iff.1 hl3).1, hrec]
      rfl
    | _ => exact hp.elim
  rintro e W2 ⟨⟨v, rfl⟩, hi, hl, hk⟩
  refine ⟨none, _, by have := run_endLoop (P := P) hl (by rw [hrec]; simp); rw [hrec] at this; exact this, hdone _ _ (Nat.le_refl _) (hI _ _ _ (below_put (by omega)) hi) ((World.putObj_heap_other (by omega)).trans hk)⟩
end Go.Proofs.Ytgcibmdohifiaaa
