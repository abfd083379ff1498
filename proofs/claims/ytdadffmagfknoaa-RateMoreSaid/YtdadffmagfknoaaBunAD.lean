/-
  THE MAP OF WHAT AGENTS PAY: what is looked up in it, and how it is written.
  WHAT THE SMALL FUNCTIONS ON LISTS OF NUMBERS RETURN: the error of something heard, whether numbers are ascending, the bits of some indices, the indices of some bits.
  WHAT bits AND members RETURN: the bits of some indices below 5, the indices of bits below 32.
  WHAT members RETURNS: the indices of bits below 32, ascending.
  WHAT THE FUNCTIONS ON A SOUND STRING RETURN: with one more sound; whether a letter gives a sound.
  WHAT slices.Compare, compare, heardAs AND list RETURN: how sound strings are compared, made and handed out.
  HOW TWO ARRAYS OF FIVE NUMBERS, AND TWO SOUND STRINGS, ARE COMPARED.
  WHAT compare RETURNS: shorter sound strings first, then sound by sound.
  WHAT compare, heardAs AND list RETURN, said of lists.
  WHAT list RETURNS: the sounds of a sound string, in new memory.
  WHAT letters RETURNS: the letters of a spelling, one behind the other. In a book without an error.
  AN append AT THE END OF A REGION THAT DRAWS ITS ORDER, onto a row of the call's own: the step, and the two relations. Over any program.
  WORDS: what isWord, areWords and letterError of the program, and Word, words and Letter of the reference, return. For any strings.
  PARTS: the error of a part, of the program and of the reference.
  THE FIRST ERROR of parts, and of forms: check.First, formError, and what they call. Of the program.
  THE ERROR OF A SHELF, of a shelf and a letter, and a form that is opened: Check, shelfError, open and openFor of the program.
  A FORM THAT IS OPENED: open and openFor of the program.
  THE ROOMS OF A FORM: rooms of the program.
  A LIST OF WORDS APPENDED to a row of words of the call's own; and the letter of a form and fills: filled of the program.
  THE LETTER OF A FORM AND FILLS: filled of the program.
  THE ERROR OF WHAT IS PUT INTO THE ROOMS OF A FORM: fillsError of the program.
  WHAT shortest RETURNS: for each sound the first letter that gives it.
  WHAT IS SO OF A BOOK WITHOUT AN ERROR. Plain facts.
  WHAT IS SO OF A SHELF WITHOUT AN ERROR. Plain facts.
  A LETTER THAT IS MADE: Make of the program.
  WHERE THE WORDS OF A LETTER CAN STAND: given and part.slots of the program.
  WHERE THE WORDS OF A PART CAN STAND: part.slots of the program.
  WHERE THE WORDS OF A LETTER OF A FORM CAN STAND: form.slots of the program.
  WHETHER A WORD CAN STAND IN A SLOT: slot.takes of the program.
  WHICH FILLS COME FIRST: counts.before of the program.
  WHAT IS DONE BY EACH KIND OF MARKS: kinds of the program.
  THE WAYS IN WHICH A LETTER IS OF A FORM, plain: how many words are in each part, one list of counts for each way, in their order.
-/
import Derived.Test.YtdadffmagfknoaaBunAB
import Derived.Maps.RangeRun
import Derived.MapKept
import Derived.RangeFuncBox
import Derived.Maps.AppendAt
import Derived.Test.YtdadffmagfknoaaBunAC
import Derived.Test.YtdadffmagfknoaaBunAA
import Derived.Outline
import Derived.Laws.OwnMore
import Derived.Laws.IdiomStrings
namespace Go.Proofs.Ytdadffmagfknoaa
set_option linter.unusedSimpArgs false
set_option linter.unusedVariables false
set_option linter.unusedVariables false
set_option linter.unusedSimpArgs false
open Go.RowKit
open Go.ChangeMaps (setBlock)

def sumV (p : Int × Int) : Value := .agg #[.int .i64 p.1, .int .i64 p.2]
abbrev Sums := List ((Int × Int) × Int)
def findS (k : Int × Int) : Sums → Nat → Option (Nat × Int)
  | [], _ => none
  | p :: M, i => if p.1 = k then some (i, p.2) else findS k M (i + 1)
def getS (k : Int × Int) : Sums → Option Int
  | [] => none
  | p :: M => if p.1 = k then some p.2 else getS k M
theorem findS_get (k : Int × Int) : ∀ (M : Sums) (i : Nat), (findS k M i).map (·.2) = getS k M
  | [], _ => rfl
  | p :: M, i => by
    simp only [findS, getS]
    split
    · rfl
    · exact findS_get k M (i + 1)
theorem getS_snoc (k q : Int × Int) (c : Int) : ∀ M : Sums, getS k (M ++ [(q, c)]) = (getS k M).or (if q = k then some c else none)
  | [] => by simp [getS]
  | p :: M => by
    simp only [List.cons_append, getS]
    split
    · rfl
    · exact getS_snoc k q c M
def entsS (M : Sums) : List (Value × Value) := M.map fun p => (sumV p.1, .int .i64 p.2)
/-- the map in block B is this one -/
def MapS (w : World) (B : Nat) (M : Sums) : Prop := ∃ es n, w.heap[B]? = some (.map es n) ∧ es.toList.map (fun e => (e.key, e.val)) = entsS M
theorem MapS.kept {w w' : World} {B : Nat} {M : Sums} (h : MapS w B M) (e : w'.heap[B]? = w.heap[B]?) : MapS w' B M := by
  obtain ⟨es, n, hb, h1⟩ := h; exact ⟨es, n, e.trans hb, h1⟩
theorem MapS.lt {w : World} {B : Nat} {M : Sums} (h : MapS w B M) : B < w.heap.size := by
  obtain ⟨es, n, hb, -⟩ := h; exact (Array.getElem?_eq_some_iff.1 hb).1
theorem sum_fields : ∃ f g, (Try.prog.fieldsOf 155).toList = [f, g] ∧ f.type = 3 ∧ f.offset = 0 ∧ g.type = 3 ∧ g.offset = 1 ∧ f.name = "entry" ∧ g.name = "rate" := by
  have hf : ((Try.prog.fieldsOf 155).toList.map fun f => (f.name, f.type, f.offset)) = [("entry", 3, 0), ("rate", 3, 1)] := by kernel_rfl
  generalize (Try.prog.fieldsOf 155).toList = fs at *
  obtain ⟨f, g, rfl⟩ : ∃ f g, fs = [f, g] := by
    rcases fs with _ | ⟨f, _ | ⟨g, _ | ⟨h, r⟩⟩⟩
    · simp at hf
    · simp at hf
    · exact ⟨f, g, rfl⟩
    · simp at hf
  simp only [List.map_cons, List.map_nil, List.cons.injEq, Prod.mk.injEq, and_true] at hf
  obtain ⟨⟨h1, h2, h3⟩, h4, h5, h6⟩ := hf
  exact ⟨f, g, rfl, h2, h3, h5, h6, h1, h4⟩
theorem equal_sum (k m : Int × Int) (w : World) : (Op.equal 155 (sumV k) (sumV m)).run Try.prog w = .ok (decide (k = m)) w := by
  have hop : ∀ x y : Value, Op.equal 155 x y = Op.equalIn Op.maxDepth 155 x y := fun _ _ => rfl
  obtain ⟨m0, hd⟩ : ∃ m0, Op.maxDepth = m0 + 2 := ⟨9998, by decide⟩
  have ha : ∀ w, (isAgg 3).run Try.prog w = .ok false w := fun _ => by kernel_rfl
  rw [hop, hd]
  unfold sumV
  rw [run_equalIn_struct _ _ _ _ _ (by kernel_rfl) (by kernel_rfl)]
  obtain ⟨f, g, hfs, h2, h3, h5, h6, n1, n2⟩ := sum_fields
  rw [hfs]
  obtain ⟨a, b⟩ := k
  obtain ⟨c, d⟩ := m
  simp [Op.eqFields, h2, h3, h5, h6, n1, n2, part, ha, go_sem]
  by_cases e1 : a = c <;> by_cases e2 : b = d <;> simp [e1, e2] <;> omega
theorem run_findAsking_s (k : Int × Int) (w : World) : ∀ (es : List MapEntry) (M : Sums) (i : Nat), es.map (fun e => (e.key, e.val)) = entsS M →
    (Instr.findAsking 155 (sumV k) es i).run Try.prog w = .ok ((findS k M i).map fun q => (q.1, .int .i64 q.2)) w
  | [], M, i, h => by
    cases M with
    | nil => simp [Instr.findAsking, findS]
    | cons p M => simp [entsS] at h
  | e :: es, M, i, h => by
    cases M with
    | nil => simp [entsS] at h
    | cons p M =>
      simp only [entsS, List.map_cons, List.cons.injEq, Prod.mk.injEq] at h
      obtain ⟨⟨h1, h2⟩, h3⟩ := h
      have ih := run_findAsking_s k w es M (i + 1) h3
      unfold Instr.findAsking
      simp only [Sem.run_bind, h1, equal_sum k p.1, Result.andThen, findS]
      by_cases hp : p.1 = k
      · rw [if_pos hp, decide_eq_true hp.symm]
        simp [h2, Sem.run]
      · rw [if_neg hp, decide_eq_false (fun x => hp x.symm)]
        simpa using ih
theorem run_findKey_s (k : Int × Int) (w : World) (es : List MapEntry) (M : Sums) (h : es.map (fun e => (e.key, e.val)) = entsS M) :
    (Instr.findKey 155 (sumV k) es).run Try.prog w = .ok ((findS k M 0).map fun q => (q.1, .int .i64 q.2)) w := by
  have hask := run_findAsking_s k w es M 0 h
  obtain ⟨fs, hu⟩ : ∃ fs, Try.prog.underlying 155 = some (.struct fs) := ⟨_, Try.underlying155⟩
  unfold Instr.findKey
  simp only [Sem.run_bind, run_underlying hu, Result.andThen]
  cases es with
  | nil =>
    cases M with
    | nil => simp [Instr.findNow, findS, Sem.run]
    | cons p M => simp [entsS] at h
  | cons e es => simpa [Instr.findNow, Instr.sameNow] using hask
theorem run_check_s (k : Int × Int) (em : Bool) (w : World) : (Instr.checkKey em 10000 155 (sumV k)).run Try.prog w = .ok () w := by
  have ha : ∀ w, (isAgg 3).run Try.prog w = .ok false w := fun _ => by kernel_rfl
  have hs1 : ∀ w, (sizeOf 3).run Try.prog w = .ok 1 w := fun _ => by kernel_rfl
  have hi : Try.prog.underlying 3 = some (.int .i64) := Try.underlying3
  have hint : ∀ (m : Nat) (x : Int) (w : World), (Instr.checkKey em (m + 1) 3 (.int .i64 x)).run Try.prog w = .ok () w := fun m x w => by
    simp [Instr.checkKey, run_underlying hi]
  obtain ⟨fs, hu⟩ : ∃ fs, Try.prog.underlying 155 = some (.struct fs) := ⟨_, Try.underlying155⟩
  have hfs : Try.prog.fieldsOf 155 = fs := by simp [Program.fieldsOf, hu]
  obtain ⟨f, g, hf, h2, h3, h5, h6, n1, n2⟩ := sum_fields
  rw [hfs] at hf
  obtain ⟨fl⟩ := fs
  simp only at hf
  subst hf
  rw [Instr.checkKey]
  have hint' := hint 9998
  unfold sumV
  simp [run_underlying hu, Result.andThen, h2, h3, h5, h6, part, ha, go_sem, hint', hs1]
/-- WHAT IS LOOKED UP -/
theorem run_lookup_s {w : World} {B : Nat} {M : Sums} (k : Int × Int) (h : MapS w B M) (ok : Bool) :
    (Instr.lookup 83 (.map (some B)) (sumV k) ok).run Try.prog w = .ok (if ok then .tuple #[.int .i64 ((getS k M).getD 0), .bool (getS k M).isSome] else .int .i64 ((getS k M).getD 0)) w := by
  obtain ⟨es, n, hb, hE⟩ := h
  have hu : Try.prog.underlying 83 = some (.map 155 3) := Try.underlying83
  have hz : (zeroValue 3).run Try.prog w = .ok (.int .i64 0) w := Try.zeroValue3 w
  have hf := run_findKey_s k w es.toList M hE
  have hg := findS_get k M 0
  unfold Instr.lookup
  simp only [Sem.run_bind, run_underlying hu, MapKept.run_getObj_map hb, run_check_s, hf, Result.andThen, Sem.run_pure]
  cases hq : findS k M 0 with
  | none =>
    rw [hq] at hg
    cases ok <;> simp [hz, ← hg, Sem.run, Result.andThen]
  | some q =>
    rw [hq] at hg
    cases ok <;> simp [← hg, Sem.run, Result.andThen]
/-- WHAT IS WRITTEN, at a place that is not there yet -/
theorem run_update_s {w : World} {B : Nat} {M : Sums} (k : Int × Int) (c : Int) (h : MapS w B M) (hn : getS k M = none) :
    ∃ w', (Instr.mapUpdate 83 (.map (some B)) (sumV k) (.int .i64 c)).run Try.prog w = .ok () w' ∧ MapS w' B (M ++ [(k, c)]) ∧ w.grownBy w' (some B) ∧ w'.heap.size = w.heap.size := by
  obtain ⟨es, n, hb, hE⟩ := h
  have hlt := (Array.getElem?_eq_some_iff.1 hb).1
  have hu : Try.prog.underlying 83 = some (.map 155 3) := Try.underlying83
  have hf := run_findKey_s k w es.toList M hE
  have hg := findS_get k M 0
  rw [hn] at hg
  have hq : findS k M 0 = none := by
    cases hq : findS k M 0 with
    | none => rfl
    | some q => rw [hq] at hg; cases hg
  rw [hq] at hf
  refine ⟨setBlock w B (.map (es.push { key := sumV k, val := .int .i64 c, born := n }) (n + 1)), ?_, ⟨_, _, by simp [setBlock, hlt]; exact ⟨rfl, rfl⟩, by simp [hE, entsS]⟩, grownBy_putObj' w B _, by simp [setBlock]⟩
  unfold Instr.mapUpdate
  simp [run_underlying hu, MapKept.run_getObj_map hb, run_check_s, hf, Result.andThen, MapKept.run_setObj_map _ hb, setBlock]
end Go.Proofs.Ytdadffmagfknoaa

namespace Go.Proofs.Ytdadffmagfknoaa
set_option linter.unusedSimpArgs false
set_option linter.unusedVariables false
open Go.RowKit

def heardErrM (S : Int) (l : List Int) : Int := if 5 < l.length then 3 else if withinM 0 (S - 1) l = false then 7 else 0
def ascM (l : List Int) : Bool := (List.range l.length).all fun k => k == 0 || decide (l.getD (k - 1) 0 < l.getD k 0)
theorem ascM_no (l : List Int) (k : Nat) (h0 : 0 < k) (hk : k < l.length) (x y : Int) (hx : l[k] = x) (hy : l[k - 1]'(by omega) = y) (h : x ≤ y) : ascM l = false := by
  unfold ascM
  rw [List.all_eq_false]
  refine ⟨k, List.mem_range.2 hk, ?_⟩
  rw [List.getD_eq_getElem?_getD, List.getD_eq_getElem?_getD, List.getElem?_eq_getElem hk, List.getElem?_eq_getElem (show k - 1 < l.length by omega)]
  simp only [Option.getD_some, hx, hy]
  simp; omega
theorem ascM_yes (l : List Int) (h : ∀ k (_ : 0 < k) (hk : k < l.length), l[k - 1]'(by omega) < l[k]) : ascM l = true := by
  unfold ascM
  rw [List.all_eq_true]
  intro k hk
  have hk := List.mem_range.1 hk
  by_cases h0 : k = 0
  · subst h0; rfl
  · rw [List.getD_eq_getElem?_getD, List.getD_eq_getElem?_getD, List.getElem?_eq_getElem hk, List.getElem?_eq_getElem (show k - 1 < l.length by omega)]
    simp only [Option.getD_some]
    have := h k (by omega) hk
    simp [this]
end Go.Proofs.Ytdadffmagfknoaa

namespace Go.Proofs.Ytdadffmagfknoaa
set_option linter.unusedSimpArgs false
set_option linter.unusedVariables false
open Go.RowKit

def bitsM (l : List Nat) : Nat := l.foldl (fun s i => s ||| 2 ^ i) 0
def ints (l : List Nat) : List Int := l.map (fun n : Nat => (n : Int))
theorem bitsM_snoc (l : List Nat) (x : Nat) : bitsM (l ++ [x]) = bitsM l ||| 2 ^ x := by simp [bitsM]
theorem foldl_lt : ∀ (l : List Nat) (s : Nat), s < 32 → (∀ x ∈ l, x < 5) → l.foldl (fun s i => s ||| 2 ^ i) s < 32
  | [], _, hs, _ => hs
  | x :: l, s, hs, h => foldl_lt l _ (Nat.or_lt_two_pow (n := 5) hs (Nat.pow_lt_pow_right (m := x) (n := 5) (by decide) (h x (by simp)))) fun y hy => h y (by simp [hy])
theorem bitsM_lt (l : List Nat) (h : ∀ x ∈ l, x < 5) : bitsM l < 32 := foldl_lt l 0 (by decide) h
theorem or_small : ∀ (s : Fin 32) (x : Fin 5), bits BinOp.or IntKind.i64 ((s.1 : Nat) : Int) ((2 ^ x.1 : Nat) : Int) = ((s.1 ||| 2 ^ x.1 : Nat) : Int) := by decide +kernel

theorem bits_any (v : Value) (l : List Nat) (h5 : ∀ x ∈ l, x < 5) (w : World) (hl : IntsAt w v (ints l)) :
    Calls Try.prog 81 #[v] w fun e w' => e = .returned (.int .i64 (bitsM l)) ∧ w = w' := by
  obtain ⟨a, cap, rfl, hlc, hcm, hc⟩ := hl
  have hlen : (ints l).length = l.length := by simp [ints]
  have hc' : ∀ i, i < l.length → ∃ b off, a = some ⟨b, off, none⟩ ∧ w.cell? ⟨b, off + i, none⟩ = some (.int .i64 ((l.getD i 0 : Nat) : Int)) := fun i hi => by
    obtain ⟨b, off, e, r, -⟩ := hc i (by omega)
    refine ⟨b, off, e, ?_⟩
    rw [Nat.mul_one] at r
    rw [r, List.getD_eq_getElem?_getD, List.getElem?_eq_getElem hi]
    simp [ints]
  rw [hlen] at hlc ⊢
  clear hc hlen
  have H5 := Lib.hid h5
  clear h5
  go_enter Try.func81, Try.ntmps81
  go_wp2
  go_loop [3, 8] (fun s i => ∃ k : Nat, k ≤ l.length ∧ i = .int .i64 k ∧ s = .int .i64 (bitsM (l.take k))) (fun _ i => l.length - (intOf i).toNat)
  case atStart => exact ⟨0, Nat.zero_le _, rfl, rfl⟩
  case round =>
    obtain ⟨k, hk, rfl, rfl⟩ := hrel
    by_cases hlt : k < l.length
    · obtain ⟨b, off, rfl, hck⟩ := hc' k hlt
      clear hc'
      have hx5 : l[k] < 5 := H5.out _ (List.getElem_mem hlt)
      have hb := bitsM_lt (l.take k) fun x hx => H5.out x (List.mem_of_mem_take hx)
      have hst : bitsM (l.take (k + 1)) = bitsM (l.take k) ||| 2 ^ l[k] := by rw [List.take_succ_eq_append_getElem hlt, bitsM_snoc]
      rw [List.getD_eq_getElem?_getD, List.getElem?_eq_getElem hlt, Option.getD_some] at hck
      generalize hs : bitsM (l.take k) = s at *
      generalize hx : l[k] = x at *
      have Hst := Lib.hid hst
      clear hst hs hx
      have hx6 : x = 0 ∨ x = 1 ∨ x = 2 ∨ x = 3 ∨ x = 4 := by omega
      rcases hx6 with rfl | rfl | rfl | rfl | rfl
      · have hor : bits BinOp.or IntKind.i64 (s : Int) 1 = ((s ||| 2 ^ 0 : Nat) : Int) := or_small ⟨s, hb⟩ ⟨0, hx5⟩
        go_wp2
        go_round
        case rel => exact ⟨k + 1, by omega, by go_num, by rw [Hst.out]⟩
        case measure => simp [intOf]; omega
      · have hor : bits BinOp.or IntKind.i64 (s : Int) 2 = ((s ||| 2 ^ 1 : Nat) : Int) := or_small ⟨s, hb⟩ ⟨1, hx5⟩
        go_wp2
        go_round
        case rel => exact ⟨k + 1, by omega, by go_num, by rw [Hst.out]⟩
        case measure => simp [intOf]; omega
      · have hor : bits BinOp.or IntKind.i64 (s : Int) 4 = ((s ||| 2 ^ 2 : Nat) : Int) := or_small ⟨s, hb⟩ ⟨2, hx5⟩
        go_wp2
        go_round
        case rel => exact ⟨k + 1, by omega, by go_num, by rw [Hst.out]⟩
        case measure => simp [intOf]; omega
      · have hor : bits BinOp.or IntKind.i64 (s : Int) 8 = ((s ||| 2 ^ 3 : Nat) : Int) := or_small ⟨s, hb⟩ ⟨3, hx5⟩
        go_wp2
        go_round
        case rel => exact ⟨k + 1, by omega, by go_num, by rw [Hst.out]⟩
        case measure => simp [intOf]; omega
      · have hor : bits BinOp.or IntKind.i64 (s : Int) 16 = ((s ||| 2 ^ 4 : Nat) : Int) := or_small ⟨s, hb⟩ ⟨4, hx5⟩
        go_wp2
        go_round
        case rel => exact ⟨k + 1, by omega, by go_num, by rw [Hst.out]⟩
        case measure => simp [intOf]; omega
    · go_wp2
      go_ret
      exact ⟨ret_int (by rw [List.take_of_length_le (by omega)]), rfl⟩
end Go.Proofs.Ytdadffmagfknoaa

namespace Go.Proofs.Ytdadffmagfknoaa
set_option linter.unusedSimpArgs false
set_option linter.unusedVariables false
open Go.RowKit

/-- an owned row of numbers is a list in memory -/
theorem IntsAt.of_own {w : World} {B : Nat} {e : TypeId} {v : Value} {l : List Int} (h : w.ownsRow B e 1 v l.length (l.map (Value.int .i64))) (hI : ∀ x ∈ l, I64 x) : IntsAt w v l := by
  rcases h.2 with ⟨rfl, hn⟩ | ⟨g, cap, cur, rfl, hb, hg, hnc, hcm, hcs, htake⟩
  · have : l = [] := List.eq_nil_of_length_eq_zero hn
    subst this; exact SliceAt.nil
  · refine ⟨_, _, rfl, hnc, by simpa [maxLen] using hcm, fun i hi => ⟨g, 0, rfl, ?_, hI _ (List.getElem_mem hi)⟩⟩
    have := h.cells (g := g) rfl i (.int .i64 l[i]) (by simp [hi])
    have e : (⟨g, 0, none⟩ : Addr).add i = ⟨g, 0 + i * 1, none⟩ := by unfold Addr.add; split <;> simp_all
    rw [e] at this; exact this
theorem Ext.grown {a w w' : World} {row : Option Nat} (h : Ext a w) (hg : w.grownBy w' row) (hr : ∀ k, row = some k → a.heap.size ≤ k) : Ext a w' := Below.grown h hg h.size hr

def membersTo (n k : Nat) : List Nat := (List.range k).filter fun i => n.testBit i
def membersM (n : Nat) : List Nat := membersTo n 5
theorem membersTo_succ (n k : Nat) : membersTo n (k + 1) = membersTo n k ++ (if n.testBit k then [k] else []) := by
  unfold membersTo
  rw [List.range_succ, List.filter_append]
  cases h : n.testBit k <;> simp [h]
theorem membersTo_len (n k : Nat) : (membersTo n k).length ≤ k := by
  have := List.length_filter_le (fun i => n.testBit i) (List.range k)
  simpa [membersTo] using this
theorem members_end : ∀ (n : Fin 32) (k : Fin 6), n.1 < 2 ^ k.1 → membersTo n.1 k.1 = membersM n.1 := by decide +kernel
theorem and_yes : ∀ (n : Fin 32) (k : Fin 5), n.1.testBit k.1 = true → bits BinOp.and IntKind.i64 ((n.1 : Nat) : Int) ((2 ^ k.1 : Nat) : Int) = ((2 ^ k.1 : Nat) : Int) := by decide +kernel
theorem and_no : ∀ (n : Fin 32) (k : Fin 5), n.1.testBit k.1 = false → bits BinOp.and IntKind.i64 ((n.1 : Nat) : Int) ((2 ^ k.1 : Nat) : Int) = 0 := by decide +kernel

theorem infoInt : (Try.prog.info? 3).map (fun i => (i.zero, i.size, i.bytes)) = some (some (.int .i64 0), 1, 8) := by kernel_rfl

theorem members_I64 (n : Nat) : ∀ x ∈ ints (membersM n), I64 x := by
  intro x hx
  simp only [ints, membersM, membersTo, List.mem_map, List.mem_filter, List.mem_range] at hx
  obtain ⟨y, ⟨hy, -⟩, rfl⟩ := hx
  unfold I64; omega
theorem own_snoc {w : World} {B : Nat} {e : TypeId} {v : Value} {n k : Nat} {m : Nat} (hm : m = (ints (membersTo n k)).length + 1) (hb : membersTo n (k + 1) = membersTo n k ++ [k])
    (h : w.ownsRow B e 1 v m ((ints (membersTo n k)).map (Value.int .i64) ++ [.int .i64 (k : Int)])) : w.ownsRow B e 1 v (ints (membersTo n (k + 1))).length ((ints (membersTo n (k + 1))).map (Value.int .i64)) := by
  subst hm
  rw [hb]
  simpa [ints] using h
set_option maxRecDepth 100000 in
set_option maxHeartbeats 1000000 in
theorem members_any (n : Nat) (hn : n < 32) (w : World) :
    Calls Try.prog 125 #[.int .i64 n] w fun e w' => ∃ v, e = .returned v ∧ IntsAt w' v (ints (membersM n)) ∧ Ext w w' := by
  obtain ⟨i0, hi, hz0, hz1, hz2⟩ := info_parts infoInt
  go_enter Try.func125, Try.ntmps125
  go_wp2
  go_loopw [3, 4] (fun v i wr => ∃ k : Nat, k ≤ 5 ∧ i = .int .i64 k ∧ Ext w wr ∧ wr.ownsRow w.heap.size 3 1 v (ints (membersTo n k)).length ((ints (membersTo n k)).map (Value.int .i64))) (fun _ i _ => 5 - (intOf i).toNat)
  case atStart => exact ⟨0, by omega, rfl, Ext.refl _, World.ownsRow_nil _ _ _ _⟩
  case round =>
    obtain ⟨k, hk, rfl, hx, hown⟩ := hrel
    have hsz := hx.size
    have hst := membersTo_succ n k
    have hk6 : k = 0 ∨ k = 1 ∨ k = 2 ∨ k = 3 ∨ k = 4 ∨ k = 5 := by omega
    rcases hk6 with rfl | rfl | rfl | rfl | rfl | rfl
    · by_cases hle : (1 : Int) ≤ n
      · cases hb : n.testBit 0
        · have hand : bits BinOp.and IntKind.i64 (n : Int) 1 = 0 := and_no ⟨n, hn⟩ ⟨0, by omega⟩ hb
          rw [hb] at hst
          have Hst := Lib.hid hst
          clear hb hst
          go_wp2
          go_roundw
          case rel => exact ⟨1, by omega, rfl, hx, by have := Hst.out; simp only [Bool.false_eq_true, if_false, List.append_nil] at this; rw [this]; exact hown⟩
          case measure => simp [intOf]
        · have hand : bits BinOp.and IntKind.i64 (n : Int) 1 = 1 := and_yes ⟨n, hn⟩ ⟨0, by omega⟩ hb
          rw [hb] at hst
          have Hst := Lib.hid hst
          have hml : (ints (membersTo n 0)).length ≤ 5 := by have := membersTo_len n 0; simp only [ints, List.length_map]; omega
          clear hb hst
          go_wp2_with ((at_builtin; refine wpList_append_own _ rfl _ _ 30 rfl w.heap.size 3 i0 (.int .i64 0) 1 8 Try.underlying30 hi hz0 hz1 hz2 rfl (by decide) _ _ _ rfl (hown.alloc _) ⟨wr.heap.size, 0, none⟩ 1 1 [.int .i64 0] rfl rfl (cell_one_new _ _ _) (by simp [Value.oneCell']) (by unfold maxLen; omega) (by omega) (by simp; omega) ?_; intro v' w1 hown' hgrow _))
          have hx1 : Ext w w1 := Ext.grown (hx.alloc _) hgrow fun k hk => (hown.lt k hk).1
          go_roundw
          case rel => exact ⟨1, by omega, rfl, hx1, own_snoc rfl (by simpa using Hst.out) hown'⟩
          case measure => simp [intOf]
      · have hfin := members_end ⟨n, hn⟩ ⟨0, by omega⟩ (by simp only; omega)
        simp only at hfin
        rw [hfin] at hown
        clear hst hfin
        go_wp2
        go_ret
        exact ⟨_, rfl, IntsAt.of_own hown (members_I64 n), hx⟩
    · by_cases hle : (2 : Int) ≤ n
      · cases hb : n.testBit 1
        · have hand : bits BinOp.and IntKind.i64 (n : Int) 2 = 0 := and_no ⟨n, hn⟩ ⟨1, by omega⟩ hb
          rw [hb] at hst
          have Hst := Lib.hid hst
          clear hb hst
          go_wp2
          go_roundw
          case rel => exact ⟨2, by omega, rfl, hx, by have := Hst.out; simp only [Bool.false_eq_true, if_false, List.append_nil] at this; rw [this]; exact hown⟩
          case measure => simp [intOf]
        · have hand : bits BinOp.and IntKind.i64 (n : Int) 2 = 2 := and_yes ⟨n, hn⟩ ⟨1, by omega⟩ hb
          rw [hb] at hst
          have Hst := Lib.hid hst
          have hml : (ints (membersTo n 1)).length ≤ 5 := by have := membersTo_len n 1; simp only [ints, List.length_map]; omega
          clear hb hst
          go_wp2_with ((at_builtin; refine wpList_append_own _ rfl _ _ 30 rfl w.heap.size 3 i0 (.int .i64 0) 1 8 Try.underlying30 hi hz0 hz1 hz2 rfl (by decide) _ _ _ rfl (hown.alloc _) ⟨wr.heap.size, 0, none⟩ 1 1 [.int .i64 1] rfl rfl (cell_one_new _ _ _) (by simp [Value.oneCell']) (by unfold maxLen; omega) (by omega) (by simp; omega) ?_; intro v' w1 hown' hgrow _))
          have hx1 : Ext w w1 := Ext.grown (hx.alloc _) hgrow fun k hk => (hown.lt k hk).1
          go_roundw
          case rel => exact ⟨2, by omega, rfl, hx1, own_snoc rfl (by simpa using Hst.out) hown'⟩
          case measure => simp [intOf]
      · have hfin := members_end ⟨n, hn⟩ ⟨1, by omega⟩ (by simp only; omega)
        simp only at hfin
        rw [hfin] at hown
        clear hst hfin
        go_wp2
        go_ret
        exact ⟨_, rfl, IntsAt.of_own hown (members_I64 n), hx⟩
    · by_cases hle : (4 : Int) ≤ n
      · cases hb : n.testBit 2
        · have hand : bits BinOp.and IntKind.i64 (n : Int) 4 = 0 := and_no ⟨n, hn⟩ ⟨2, by omega⟩ hb
          rw [hb] at hst
          have Hst := Lib.hid hst
          clear hb hst
          go_wp2
          go_roundw
          case rel => exact ⟨3, by omega, rfl, hx, by have := Hst.out; simp only [Bool.false_eq_true, if_false, List.append_nil] at this; rw [this]; exact hown⟩
          case measure => simp [intOf]
        · have hand : bits BinOp.and IntKind.i64 (n : Int) 4 = 4 := and_yes ⟨n, hn⟩ ⟨2, by omega⟩ hb
          rw [hb] at hst
          have Hst := Lib.hid hst
          have hml : (ints (membersTo n 2)).length ≤ 5 := by have := membersTo_len n 2; simp only [ints, List.length_map]; omega
          clear hb hst
          go_wp2_with ((at_builtin; refine wpList_append_own _ rfl _ _ 30 rfl w.heap.size 3 i0 (.int .i64 0) 1 8 Try.underlying30 hi hz0 hz1 hz2 rfl (by decide) _ _ _ rfl (hown.alloc _) ⟨wr.heap.size, 0, none⟩ 1 1 [.int .i64 2] rfl rfl (cell_one_new _ _ _) (by simp [Value.oneCell']) (by unfold maxLen; omega) (by omega) (by simp; omega) ?_; intro v' w1 hown' hgrow _))
          have hx1 : Ext w w1 := Ext.grown (hx.alloc _) hgrow fun k hk => (hown.lt k hk).1
          go_roundw
          case rel => exact ⟨3, by omega, rfl, hx1, own_snoc rfl (by simpa using Hst.out) hown'⟩
          case measure => simp [intOf]
      · have hfin := members_end ⟨n, hn⟩ ⟨2, by omega⟩ (by simp only; omega)
        simp only at hfin
        rw [hfin] at hown
        clear hst hfin
        go_wp2
        go_ret
        exact ⟨_, rfl, IntsAt.of_own hown (members_I64 n), hx⟩
    · by_cases hle : (8 : Int) ≤ n
      · cases hb : n.testBit 3
        · have hand : bits BinOp.and IntKind.i64 (n : Int) 8 = 0 := and_no ⟨n, hn⟩ ⟨3, by omega⟩ hb
          rw [hb] at hst
          have Hst := Lib.hid hst
          clear hb hst
          go_wp2
          go_roundw
          case rel => exact ⟨4, by omega, rfl, hx, by have := Hst.out; simp only [Bool.false_eq_true, if_false, List.append_nil] at this; rw [this]; exact hown⟩
          case measure => simp [intOf]
        · have hand : bits BinOp.and IntKind.i64 (n : Int) 8 = 8 := and_yes ⟨n, hn⟩ ⟨3, by omega⟩ hb
          rw [hb] at hst
          have Hst := Lib.hid hst
          have hml : (ints (membersTo n 3)).length ≤ 5 := by have := membersTo_len n 3; simp only [ints, List.length_map]; omega
          clear hb hst
          go_wp2_with ((at_builtin; refine wpList_append_own _ rfl _ _ 30 rfl w.heap.size 3 i0 (.int .i64 0) 1 8 Try.underlying30 hi hz0 hz1 hz2 rfl (by decide) _ _ _ rfl (hown.alloc _) ⟨wr.heap.size, 0, none⟩ 1 1 [.int .i64 3] rfl rfl (cell_one_new _ _ _) (by simp [Value.oneCell']) (by unfold maxLen; omega) (by omega) (by simp; omega) ?_; intro v' w1 hown' hgrow _))
          have hx1 : Ext w w1 := Ext.grown (hx.alloc _) hgrow fun k hk => (hown.lt k hk).1
          go_roundw
          case rel => exact ⟨4, by omega, rfl, hx1, own_snoc rfl (by simpa using Hst.out) hown'⟩
          case measure => simp [intOf]
      · have hfin := members_end ⟨n, hn⟩ ⟨3, by omega⟩ (by simp only; omega)
        simp only at hfin
        rw [hfin] at hown
        clear hst hfin
        go_wp2
        go_ret
        exact ⟨_, rfl, IntsAt.of_own hown (members_I64 n), hx⟩
    · by_cases hle : (16 : Int) ≤ n
      · cases hb : n.testBit 4
        · have hand : bits BinOp.and IntKind.i64 (n : Int) 16 = 0 := and_no ⟨n, hn⟩ ⟨4, by omega⟩ hb
          rw [hb] at hst
          have Hst := Lib.hid hst
          clear hb hst
          go_wp2
          go_roundw
          case rel => exact ⟨5, by omega, rfl, hx, by have := Hst.out; simp only [Bool.false_eq_true, if_false, List.append_nil] at this; rw [this]; exact hown⟩
          case measure => simp [intOf]
        · have hand : bits BinOp.and IntKind.i64 (n : Int) 16 = 16 := and_yes ⟨n, hn⟩ ⟨4, by omega⟩ hb
          rw [hb] at hst
          have Hst := Lib.hid hst
          have hml : (ints (membersTo n 4)).length ≤ 5 := by have := membersTo_len n 4; simp only [ints, List.length_map]; omega
          clear hb hst
          go_wp2_with ((at_builtin; refine wpList_append_own _ rfl _ _ 30 rfl w.heap.size 3 i0 (.int .i64 0) 1 8 Try.underlying30 hi hz0 hz1 hz2 rfl (by decide) _ _ _ rfl (hown.alloc _) ⟨wr.heap.size, 0, none⟩ 1 1 [.int .i64 4] rfl rfl (cell_one_new _ _ _) (by simp [Value.oneCell']) (by unfold maxLen; omega) (by omega) (by simp; omega) ?_; intro v' w1 hown' hgrow _))
          have hx1 : Ext w w1 := Ext.grown (hx.alloc _) hgrow fun k hk => (hown.lt k hk).1
          go_roundw
          case rel => exact ⟨5, by omega, rfl, hx1, own_snoc rfl (by simpa using Hst.out) hown'⟩
          case measure => simp [intOf]
      · have hfin := members_end ⟨n, hn⟩ ⟨4, by omega⟩ (by simp only; omega)
        simp only at hfin
        rw [hfin] at hown
        clear hst hfin
        go_wp2
        go_ret
        exact ⟨_, rfl, IntsAt.of_own hown (members_I64 n), hx⟩
    · have hle : ¬ (32 : Int) ≤ n := by omega
      clear hst
      go_wp2
      go_ret
      exact ⟨_, rfl, IntsAt.of_own hown (members_I64 n), hx⟩
end Go.Proofs.Ytdadffmagfknoaa

namespace Go.Proofs.Ytdadffmagfknoaa
set_option linter.unusedSimpArgs false
set_option linter.unusedVariables false
open Go.RowKit

def ssRaw (n a b c d e : Int) : Value := .agg #[.int .i64 n, .int .i64 a, .int .i64 b, .int .i64 c, .int .i64 d, .int .i64 e]
def ssV (l : List Int) : Value := ssRaw l.length (l.getD 0 0) (l.getD 1 0) (l.getD 2 0) (l.getD 3 0) (l.getD 4 0)

def givesM (x : Letter) (s : Int) : Bool := if s = -1 then x.silent else x.sounds.toNat.testBit s.toNat
theorem and_bit : ∀ (n : Fin 16) (k : Fin 4), (bits BinOp.and IntKind.i64 ((n.1 : Nat) : Int) ((2 ^ k.1 : Nat) : Int) != 0) = n.1.testBit k.1 := by decide +kernel
def FineL (x : Letter) : Prop := 0 ≤ x.sounds ∧ x.sounds ≤ 15

end Go.Proofs.Ytdadffmagfknoaa

namespace Go.Proofs.Ytdadffmagfknoaa
set_option linter.unusedSimpArgs false
set_option linter.unusedVariables false
open Go.RowKit

/-- the comparison of two lists, number by number -/
def cmpL : List Int → List Int → Int
  | [], [] => 0
  | [], _ :: _ => -1
  | _ :: _, [] => 1
  | x :: a, y :: b => if cmpM x y = 0 then cmpL a b else cmpM x y
theorem cmpL_step (l m : List Int) (k : Nat) (h1 : k < l.length) (h2 : k < m.length) : cmpL (l.drop k) (m.drop k) = if cmpM l[k] m[k] = 0 then cmpL (l.drop (k + 1)) (m.drop (k + 1)) else cmpM l[k] m[k] := by
  rw [List.drop_eq_getElem_cons h1, List.drop_eq_getElem_cons h2, cmpL]

end Go.Proofs.Ytdadffmagfknoaa

namespace Go.Proofs.Ytdadffmagfknoaa
set_option linter.unusedSimpArgs false
set_option linter.unusedVariables false
open Go.RowKit

end Go.Proofs.Ytdadffmagfknoaa

namespace Go.Proofs.Ytdadffmagfknoaa
set_option linter.unusedSimpArgs false
set_option linter.unusedVariables false
open Go.RowKit

theorem IntsAt.five {w : World} {B o : Nat} {a b c d e : Int} (h0 : w.cell? ⟨B, o, none⟩ = some (.int .i64 a)) (h1 : w.cell? ⟨B, o + 1, none⟩ = some (.int .i64 b)) (h2 : w.cell? ⟨B, o + 2, none⟩ = some (.int .i64 c))
    (h3 : w.cell? ⟨B, o + 3, none⟩ = some (.int .i64 d)) (h4 : w.cell? ⟨B, o + 4, none⟩ = some (.int .i64 e)) (hi : I64 a ∧ I64 b ∧ I64 c ∧ I64 d ∧ I64 e) : IntsAt w (.slice (some ⟨B, o, none⟩) 5 5) [a, b, c, d, e] := by
  refine ⟨_, _, rfl, Nat.le_refl _, by omega, fun i hi5 => ⟨B, o, rfl, ?_⟩⟩
  obtain ⟨i0, i1, i2, i3, i4⟩ := hi
  have h5 : i = 0 ∨ i = 1 ∨ i = 2 ∨ i = 3 ∨ i = 4 := by simp at hi5; omega
  rcases h5 with rfl | rfl | rfl | rfl | rfl
  · exact ⟨h0, i0⟩
  · exact ⟨h1, i1⟩
  · exact ⟨h2, i2⟩
  · exact ⟨h3, i3⟩
  · exact ⟨h4, i4⟩

end Go.Proofs.Ytdadffmagfknoaa

namespace Go.Proofs.Ytdadffmagfknoaa
set_option linter.unusedSimpArgs false
set_option linter.unusedVariables false
open Go.RowKit
set_option linter.unusedSimpArgs false

def pad (l : List Int) : List Int := [l.getD 0 0, l.getD 1 0, l.getD 2 0, l.getD 3 0, l.getD 4 0]
def cmpSS (l m : List Int) : Int := if l.length = m.length then cmpL l m else cmpM l.length m.length
theorem cmpM_self (x : Int) : cmpM x x = 0 := by rw [cmpM, if_neg (by omega), if_neg (by omega)]
theorem cmpL_self : ∀ l : List Int, cmpL l l = 0
  | [] => rfl
  | x :: l => by rw [cmpL, if_pos (cmpM_self x), cmpL_self l]
theorem cmp_pad (l m : List Int) (h : l.length = m.length) (h5 : l.length ≤ 5) : cmpL (pad l) (pad m) = cmpL l m := by
  have z : cmpM 0 0 = 0 := rfl
  match l, m, h, h5 with
  | [], [], _, _ => rfl
  | [a], [a'], _, _ => simp [pad, cmpL, z]
  | [a, b], [a', b'], _, _ => simp [pad, cmpL, z]
  | [a, b, c], [a', b', c'], _, _ => simp [pad, cmpL, z]
  | [a, b, c, d], [a', b', c', d'], _, _ => simp [pad, cmpL, z]
  | [a, b, c, d, e], [a', b', c', d', e'], _, _ => rfl
theorem getD_I64 (l : List Int) (h : ∀ x ∈ l, I64 x) (i : Nat) : I64 (l.getD i 0) := by
  rw [List.getD_eq_getElem?_getD]
  cases hi : l[i]? with
  | none => simp [I64]
  | some x => exact h x (List.mem_of_getElem? hi)
end Go.Proofs.Ytdadffmagfknoaa

namespace Go.Proofs.Ytdadffmagfknoaa
set_option linter.unusedSimpArgs false
set_option linter.unusedVariables false
set_option linter.unusedVariables false
open Go.RowKit
set_option linter.unusedSimpArgs false

end Go.Proofs.Ytdadffmagfknoaa

namespace Go.Proofs.Ytdadffmagfknoaa
set_option linter.unusedSimpArgs false
set_option linter.unusedVariables false
open Go.RowKit
set_option linter.unusedSimpArgs false

def letterOf (ls : List Letter) (s : ByteArray) (k : Nat) : Letter := (ls.find? fun y => y.c == byteAt s k).getD ⟨0, 0, true⟩
def lettersTo (ls : List Letter) (s : ByteArray) (k : Nat) : List Letter := (List.range k).map fun j => letterOf ls s j
def lettersM (ls : List Letter) (s : ByteArray) : List Letter := lettersTo ls s s.size
theorem lettersTo_succ (ls : List Letter) (s : ByteArray) (k : Nat) : lettersTo ls s (k + 1) = lettersTo ls s k ++ [letterOf ls s k] := by
  simp [lettersTo, List.range_succ]
theorem lettersTo_len (ls : List Letter) (s : ByteArray) (k : Nat) : (lettersTo ls s k).length = k := by simp [lettersTo]
/-- the place of a letter that is known -/
theorem idxM_known (ls : List Letter) (s : ByteArray) (k : Nat) (h : knownB ls s k = true) :
    ∃ p : Nat, ∃ hp : p < ls.length, idxM (fun y => y.c == byteAt s k) ls = p ∧ ls[p] = letterOf ls s k := by
  unfold knownB at h
  cases hf : ls.findIdx? (fun y => y.c == byteAt s k) with
  | none =>
    rw [List.findIdx?_eq_none_iff] at hf
    rw [List.any_eq_true] at h
    obtain ⟨x, hx, hc⟩ := h
    rw [hf x hx] at hc; cases hc
  | some p =>
    have hf' := hf
    rw [List.findIdx?_eq_some_iff_getElem] at hf'
    obtain ⟨hp, h1, h2⟩ := hf'
    refine ⟨p, hp, by simp [idxM, hf], ?_⟩
    have : ls.find? (fun y => y.c == byteAt s k) = some ls[p] := by
      rw [List.find?_eq_some_iff_getElem]
      exact ⟨h1, p, hp, rfl, fun j hj => by simpa using h2 j hj⟩
    rw [letterOf, this]; rfl
def cellsL (l : List Letter) : List Value := l.flatMap fun x => [.int .u8 x.c, .int .i64 x.sounds, .bool x.silent]
theorem cellsL_len (l : List Letter) : (cellsL l).length = l.length * 3 := by
  induction l with
  | nil => rfl
  | cons x l ih => simp only [cellsL, List.flatMap_cons, List.length_append, List.length_cons, List.length_nil] at *; omega
theorem cellsL_snoc (l : List Letter) (x : Letter) : cellsL (l ++ [x]) = cellsL l ++ [.int .u8 x.c, .int .i64 x.sounds, .bool x.silent] := by simp [cellsL]
theorem cellsL_get (l : List Letter) (i : Nat) (h : i < l.length) : (cellsL l)[i * 3]? = some (.int .u8 l[i].c) ∧ (cellsL l)[i * 3 + 1]? = some (.int .i64 l[i].sounds) ∧ (cellsL l)[i * 3 + 2]? = some (.bool l[i].silent) := by
  induction l generalizing i with
  | nil => simp at h
  | cons x l ih =>
    cases i with
    | zero => simp [cellsL]
    | succ i =>
      have := ih i (by simpa using h)
      have e : (i + 1) * 3 = i * 3 + 3 := by omega
      rw [e]
      simpa [cellsL] using this
theorem LettersAt.of_own {w : World} {B : Nat} {e : TypeId} {v : Value} {l : List Letter} (h : w.ownsRow B e 3 v l.length (cellsL l)) (hI : ∀ x ∈ l, U8 x.c ∧ I64 x.sounds) : LettersAt w v l := by
  rcases h.2 with ⟨rfl, hn⟩ | ⟨g, cap, cur, rfl, hb, hg, hnc, hcm, hcs, htake⟩
  · have : l = [] := List.eq_nil_of_length_eq_zero hn
    subst this; exact SliceAt.nil
  · refine ⟨_, _, rfl, hnc, by simpa [maxLen] using hcm, fun i hi => ⟨g, 0, rfl, ?_⟩⟩
    obtain ⟨c0, c1, c2⟩ := cellsL_get l i hi
    have hh := fun j u hu => h.cells (g := g) rfl j u hu
    have e : ∀ j, (⟨g, 0, none⟩ : Addr).add j = ⟨g, 0 + j, none⟩ := fun j => by unfold Addr.add; split <;> simp_all
    have r0 := hh _ _ c0
    have r1 := hh _ _ c1
    have r2 := hh _ _ c2
    rw [e] at r0 r1 r2
    exact ⟨r0, r1, r2, hI _ (List.getElem_mem hi)⟩

theorem LettersAt.fine {w : World} {v : Value} {ls : List Letter} (h : LettersAt w v ls) : ∀ x ∈ ls, U8 x.c ∧ I64 x.sounds := by
  intro x hx
  obtain ⟨i, hi, rfl⟩ := List.getElem_of_mem hx
  obtain ⟨_, _, -, -, -, hh⟩ := h
  obtain ⟨_, _, -, -, -, -, hu⟩ := hh i hi
  exact hu
theorem lettersTo_all (P : Letter → Prop) (ls : List Letter) (s : ByteArray) (k : Nat) (h : ∀ x ∈ ls, P x) (h0 : P ⟨0, 0, true⟩) : ∀ x ∈ lettersTo ls s k, P x := by
  intro x hx
  simp only [lettersTo, List.mem_map, letterOf] at hx
  obtain ⟨j, -, rfl⟩ := hx
  cases hf : ls.find? fun y => y.c == byteAt s j with
  | none => exact h0
  | some y => exact h y (List.mem_of_find?_eq_some hf)
theorem Ext.grownBy {w w' : World} (h : Ext w w') : w.grownBy w' none := ⟨Below.os h, Below.tape h, Below.output h, Below.size h, fun k hk _ => Below.block h k hk⟩
theorem Ext.owns {w w' : World} {B : Nat} {e : TypeId} {size : Nat} {v : Value} {n : Nat} {xs : List Value} (h : w.ownsRow B e size v n xs) (hx : Ext w w') : w'.ownsRow B e size v n xs :=
  h.kept hx.grownBy (by cases v.ownBlock <;> simp)
theorem cell_three_new (w : World) (a b c : Value) (t : TypeId) : ∀ j u, [a, b, c][j]? = some u → (w.alloc (.cells #[a, b, c] t)).cell? ((⟨w.heap.size, 0, none⟩ : Addr).add j) = some u := by
  intro j u hj
  match j, hj with
  | 0, hj => simp at hj; subst hj; simp [go_sem, Addr.add]
  | 1, hj => simp at hj; subst hj; simp [go_sem, Addr.add]
  | 2, hj => simp at hj; subst hj; simp [go_sem, Addr.add]
theorem snoc_letters {w : World} {B : Nat} {e : TypeId} {v : Value} {l l' : List Letter} {x : Letter} (hb : l' = l ++ [x]) (h : w.ownsRow B e 3 v (l.length + 1) (cellsL l ++ [.int .u8 x.c, .int .i64 x.sounds, .bool x.silent])) :
    w.ownsRow B e 3 v l'.length (cellsL l') := by
  subst hb
  rw [cellsL_snoc, List.length_append]
  exact h
end Go.Proofs.Ytdadffmagfknoaa

namespace Go.Proofs.Ytdadffmagfknoaa
set_option linter.unusedSimpArgs false
set_option linter.unusedVariables false
open Go.RowKit
set_option linter.unusedVariables false
namespace Facts.App
variable {P : Program} {ops : Array Oper}

theorem stepG_append {o : Oper} {a : Act} {w : World} {S : Value → World → Prop} (hgd : o.guard = none) (s x : Operand) (t : TypeId)
    (ho : o.op = .call { callee := .builtin .append, args := #[s, x], argTypes := #[t, t] })
    (base : Nat) (e : TypeId) (i : TypeInfo) (z : Value) (size bytes : Nat) (ht : P.underlying t = some (.slice e)) (hi : P.info? e = some i) (hz : i.zero = some z)
    (hsize : i.size = size) (hby : i.bytes = bytes) (hzs : z.cells.size = size) (hsz : 0 < size)
    (v : Value) (n : Nat) (xs : List Value) (hs : a.eval s = v) (hown : w.ownsRow base e size v n xs)
    (ad : Addr) (m c : Nat) (news : List Value) (hx : a.eval x = .slice (some ad) m c) (hl : news.length = m * size) (hnews : ∀ j u, news[j]? = some u → w.cell? (ad.add j) = some u) (h1 : ∀ u ∈ news, u.oneCell' = true)
    (h63 : n + m ≤ maxLen) (hbytes : (n + m) * bytes ≤ 140737488355328) (hbase : base ≤ w.heap.size)
    (h : ∀ v' w', w'.ownsRow base e size v' (n + m) (xs ++ news) → w.grownBy w' v.ownBlock → (v'.ownBlock = v.ownBlock ∨ v'.ownBlock = some w.heap.size) → S v' w') : stepG P ops o a w S := by
  obtain ⟨v', w', hr, h2, h3, h4, h5⟩ := run_append_own_at (P := P) w base t o.type e i z size bytes ht hi hz hsize hby hzs hsz v n xs hown ad m c news hl hnews h1 h63 hbytes hbase
  unfold stepG
  have hw : Region.wanted o (yielded ops a.tmps) = true := by unfold Region.wanted; rw [hgd]
  rw [if_pos hw]
  unfold execOp
  simp only [ho, resolve, invoke, builtin, Sem.run_bind, Sem.run_pure, Result.andThen_ok, List.map_toArray, List.map_cons, List.map_nil, hs, hx, hr]
  exact h v' w' h2 h3 h5
/-- a later world in which one row may have been written -/
def But (own : Option Nat) (w w' : World) : Prop := w.grownBy w' own
theorem But.of_ext {own : Option Nat} {w w' : World} (h : Ext w w') : But own w w' := ⟨Below.os h, Below.tape h, Below.output h, Below.size h, fun k hk _ => Below.block h k hk⟩
theorem two_but (own : Option Nat) : Piv.Two Ext (But own) :=
  ⟨fun _ _ h => But.of_ext h, fun _ _ _ h k => h.trans k, fun _ _ _ h k => World.grownBy.trans h k, fun _ => Ext.refl _, fun w => ext_drew w⟩
end Facts.App
end Go.Proofs.Ytdadffmagfknoaa

namespace Go.Proofs.Ytdadffmagfknoaa
set_option linter.unusedSimpArgs false
set_option linter.unusedVariables false
open Go.RowKit
set_option linter.unusedVariables false

def wordM (s : ByteArray) : Bool := inM s.size 1 8 && (List.range s.size).all fun k => inM (byteAt s k) 97 122
def wordsM (l : List ByteArray) : Bool := l.all wordM
theorem wordM_no (s : ByteArray) (k : Nat) (hk : k < s.size) (h : inM (byteAt s k) 97 122 = false) : wordM s = false := by
  unfold wordM
  rw [Bool.and_eq_false_iff]
  right
  rw [List.all_eq_false]
  exact ⟨k, List.mem_range.2 hk, by simp [h]⟩
theorem wordM_yes (s : ByteArray) (h : inM s.size 1 8 = true) (h2 : ∀ j, j < s.size → inM (byteAt s j) 97 122 = true) : wordM s = true := by
  unfold wordM
  rw [h, Bool.true_and, List.all_eq_true]
  exact fun k hk => h2 k (List.mem_range.1 hk)
theorem word_step {s : ByteArray} {k : Nat} {c : Int} (h : ∀ j, j < k → inM (byteAt s j) 97 122 = true) (hc : byteAt s k = c) (hb : inM c 97 122 = true) : ∀ j, j < k + 1 → inM (byteAt s j) 97 122 = true := fun j hj => by
  rcases Nat.lt_or_ge j k with hjk | hjk
  · exact h j hjk
  · obtain rfl : j = k := by omega
    rw [hc]; exact hb
def letterErrL (l : List ByteArray) : Int := if 15 < l.length then 3 else if wordsM l = false then 6 else 0
/-! ### of the reference -/
theorem wordsM_step (l : List ByteArray) (k : Nat) (h : k < l.length) : wordsM (l.take (k + 1)) = (wordsM (l.take k) && wordM l[k]) := by
  unfold wordsM
  rw [List.take_succ_eq_append_getElem h, List.all_append]
  simp
end Go.Proofs.Ytdadffmagfknoaa

namespace Go.Proofs.Ytdadffmagfknoaa
set_option linter.unusedSimpArgs false
set_option linter.unusedVariables false
open Go.RowKit
set_option linter.unusedVariables false

def roomyM (p : Part) : Bool := p.words.length == 0
def partErrM (p : Part) : Int :=
  if 3 < p.words.length then 3 else if wordsM p.words = false then 6 else if p.words.length ≠ 0 then (if p.lo = 0 ∧ p.hi = 0 then 0 else 2)
  else if inM p.lo 0 3 = false ∨ inM p.hi 0 3 = false ∨ p.hi = 0 then 7 else if p.hi < p.lo then 2 else 0
end Go.Proofs.Ytdadffmagfknoaa

namespace Go.Proofs.Ytdadffmagfknoaa
set_option linter.unusedSimpArgs false
set_option linter.unusedVariables false
open Go.RowKit
set_option linter.unusedVariables false

def formErrM (before : List Form) (f : Form) : Int :=
  if nameM f.name = false then 6 else if (before.any fun y => y.name.toList == f.name.toList) = true then 5 else if 5 < f.parts.length then 3 else (firstErr (fun _ => partErrM) f.parts).2
theorem formErr_name (before : List Form) (f : Form) : formErrM before f = if nameErrM (before.map (·.name)) f.name ≠ 0 then nameErrM (before.map (·.name)) f.name else if 5 < f.parts.length then 3 else (firstErr (fun _ => partErrM) f.parts).2 := by
  have hany : ((before.map (·.name)).any fun y => y.toList == f.name.toList) = before.any fun y => y.name.toList == f.name.toList := by rw [List.any_map]; rfl
  unfold formErrM nameErrM
  rw [hany]
  cases nameM f.name <;> cases (before.any fun y => y.name.toList == f.name.toList) <;> simp
end Go.Proofs.Ytdadffmagfknoaa

namespace Go.Proofs.Ytdadffmagfknoaa
set_option linter.unusedSimpArgs false
set_option linter.unusedVariables false
open Go.RowKit
set_option linter.unusedVariables false

/-- the part, the place and the error of a shelf -/
def checkS (s : Shelf) : Int × Int × Int :=
  if inM s.width 8 30 = false then (1, 0, 7) else if 4 < s.forms.length then (2, 0, 3) else if (firstErr formErrM s.forms).2 ≠ 0 then (2, (firstErr formErrM s.forms).1, (firstErr formErrM s.forms).2) else (0, 0, 0)
def errS (s : Shelf) : Int := (checkS s).2.2
/-- the error of a shelf, or of a letter -/
def shelfErrM (s : Shelf) (l : List ByteArray) : Int := if errS s ≠ 0 then errS s else letterErrL l
/-- the error of a shelf and a form -/
def openErrM (s : Shelf) (n : Int) : Int := if errS s ≠ 0 then errS s else if inM n 0 (s.forms.length - 1) = false then 4 else 0
def emptyForm : Value := .agg #[.string ⟨#[]⟩, .slice none 0 0]
/-- a form, if there is no error -/
def OpenF (w : World) (s : Shelf) (n : Int) (e : Int) (v : Value) : Prop := ∃ u, v = .tuple #[u, .int .i64 e] ∧ (e = 0 → ∃ i : Nat, ∃ hi : i < s.forms.length, n = i ∧ FormV w u s.forms[i]) ∧ (e ≠ 0 → u = emptyForm)
end Go.Proofs.Ytdadffmagfknoaa

namespace Go.Proofs.Ytdadffmagfknoaa
set_option linter.unusedSimpArgs false
set_option linter.unusedVariables false
open Go.RowKit
set_option linter.unusedVariables false

theorem two_cells {w : World} {B : Nat} {x y : Value} (h0 : w.cell? ⟨B, 0, none⟩ = some x) (h1 : w.cell? ⟨B, 1, none⟩ = some y) (a b : Value) :
    ((w.setCell ⟨B, 0, none⟩ a).setCell ⟨B, 1, none⟩ b).cell? ⟨B, 0, none⟩ = some a ∧ ((w.setCell ⟨B, 0, none⟩ a).setCell ⟨B, 1, none⟩ b).cell? ⟨B, 1, none⟩ = some b :=
  ⟨set_other (set_cell h0 a) (.inr (by simp)) b, set_cell (set_other h1 (.inr (by simp)) a) b⟩
/-- the error of a shelf and a form, and of a letter -/
def openForErrM (s : Shelf) (n : Int) (l : List ByteArray) : Int := if openErrM s n ≠ 0 then openErrM s n else letterErrL l
/-- a form, if there is no error; nothing is said of it if there is one -/
def OpenG (w : World) (s : Shelf) (n : Int) (e : Int) (v : Value) : Prop := ∃ u, v = .tuple #[u, .int .i64 e] ∧ (e = 0 → ∃ i : Nat, ∃ hi : i < s.forms.length, n = i ∧ FormV w u s.forms[i])
end Go.Proofs.Ytdadffmagfknoaa

namespace Go.Proofs.Ytdadffmagfknoaa
set_option linter.unusedSimpArgs false
set_option linter.unusedVariables false
open Go.RowKit
set_option linter.unusedVariables false

abbrev EntP := Value × Int × Int
def cellsP (es : List EntP) : List Value := es.flatMap fun e => [e.1, .int .i64 e.2.1, .int .i64 e.2.2]
theorem cellsP_len (l : List EntP) : (cellsP l).length = l.length * 3 := by
  induction l with
  | nil => rfl
  | cons x l ih => simp only [cellsP, List.flatMap_cons, List.length_append, List.length_cons, List.length_nil] at *; omega
theorem cellsP_get (l : List EntP) (i : Nat) (h : i < l.length) : (cellsP l)[i * 3]? = some l[i].1 ∧ (cellsP l)[i * 3 + 1]? = some (.int .i64 l[i].2.1) ∧ (cellsP l)[i * 3 + 2]? = some (.int .i64 l[i].2.2) := by
  induction l generalizing i with
  | nil => simp at h
  | cons x l ih =>
    cases i with
    | zero => simp [cellsP]
    | succ i =>
      have := ih i (by simpa using h)
      have e : (i + 1) * 3 = i * 3 + 3 := by omega
      rw [e]
      simpa [cellsP] using this
theorem cellsP_snoc (l : List EntP) (u : Value) (a b : Int) : cellsP (l ++ [(u, a, b)]) = cellsP l ++ [u, .int .i64 a, .int .i64 b] := by simp [cellsP]
/-- what a row of parts holds -/
def EntsP (w : World) (es : List EntP) (l : List Part) : Prop := es.length = l.length ∧ ∀ i (h : i < l.length) (h' : i < es.length), StrsAt w es[i].1 l[i].words ∧ es[i].2 = (l[i].lo, l[i].hi) ∧ I64 l[i].lo ∧ I64 l[i].hi
theorem EntsP.nil {w : World} : EntsP w [] [] := ⟨rfl, fun i h => by simp at h⟩
theorem EntsP.ext {w w' : World} {es : List EntP} {l : List Part} (h : EntsP w es l) (hx : Ext w w') : EntsP w' es l := ⟨h.1, fun i h1 h2 => by obtain ⟨a, b⟩ := h.2 i h1 h2; exact ⟨a.ext hx, b⟩⟩
theorem EntsP.snoc {w : World} {es : List EntP} {l : List Part} (h : EntsP w es l) {x : Part} {u : Value} (hs : StrsAt w u x.words) (h1 : I64 x.lo) (h2 : I64 x.hi) : EntsP w (es ++ [(u, x.lo, x.hi)]) (l ++ [x]) := by
  refine ⟨by simp [h.1], fun i g1 g2 => ?_⟩
  have hle := h.1
  by_cases e : i < l.length
  · rw [List.getElem_append_left (by omega), List.getElem_append_left e]
    exact h.2 i e (by omega)
  · have ei : i = l.length := by simp at g1; omega
    subst ei
    have e1 : (es ++ [(u, x.lo, x.hi)])[l.length] = (u, x.lo, x.hi) := by rw [List.getElem_append_right (by omega)]; simp [hle]
    have e2 : (l ++ [x])[l.length] = x := by rw [List.getElem_append_right (by omega)]; simp
    simp only [e1, e2]
    exact ⟨hs, trivial, h1, h2⟩
theorem PartsAt.of_own {w W : World} {base : Nat} {e : TypeId} {v : Value} {es : List EntP} {l : List Part} (h : W.ownsRow base e 3 v l.length (cellsP es)) (hE : EntsP W es l) : PartsAt W v l := by
  have hcells := fun g hg => h.cells (g := g) hg
  rcases h.2 with ⟨rfl, hn⟩ | ⟨g, cap, cur, rfl, hb, hg, hnc, hcm, hcs, htake⟩
  · have : l = [] := List.eq_nil_of_length_eq_zero hn
    subst this; exact SliceAt.nil
  · refine ⟨_, _, rfl, hnc, by simpa [maxLen] using hcm, fun i hi => ⟨g, 0, rfl, ?_⟩⟩
    have hi2 : i < es.length := by rw [hE.1]; exact hi
    obtain ⟨hs, h2, h3, h4⟩ := hE.2 i hi hi2
    obtain ⟨c0, c1, c2⟩ := cellsP_get es i hi2
    have r0 := hcells g rfl _ _ c0
    have r1 := hcells g rfl _ _ c1
    have r2 := hcells g rfl _ _ c2
    have ea : ∀ j, (⟨g, 0, none⟩ : Addr).add j = ⟨g, 0 + j, none⟩ := fun j => by unfold Addr.add; split <;> simp_all
    rw [ea] at r0 r1 r2
    rw [h2] at r1 r2
    exact ⟨⟨_, r0, hs⟩, r1, r2, h3, h4⟩
def roomsM (l : List Part) : List Part := l.filter roomyM
theorem rooms_yes (l : List Part) (k : Nat) (h : k < l.length) (hr : roomyM l[k] = true) : roomsM (l.take (k + 1)) = roomsM (l.take k) ++ [l[k]] := by
  unfold roomsM
  rw [List.take_succ_eq_append_getElem h, List.filter_append]
  simp [hr]
theorem rooms_no (l : List Part) (k : Nat) (h : k < l.length) (hr : roomyM l[k] = false) : roomsM (l.take (k + 1)) = roomsM (l.take k) := by
  unfold roomsM
  rw [List.take_succ_eq_append_getElem h, List.filter_append]
  simp [hr]

end Go.Proofs.Ytdadffmagfknoaa

namespace Go.Proofs.Ytdadffmagfknoaa
set_option linter.unusedSimpArgs false
set_option linter.unusedVariables false
open Go.RowKit
set_option linter.unusedVariables false

theorem infoString : (Try.prog.info? 9).map (fun i => (i.zero, i.size, i.bytes)) = some (some (.string ByteArray.empty), 1, 16) := by kernel_rfl
/-- a row of words of the call's own -/
def RowW (base : Nat) (l : List ByteArray) (u : Value) (w : World) : Prop := w.ownsRow base 9 1 u l.length (l.map Value.string)
theorem RowW.ext {base : Nat} {l : List ByteArray} {u : Value} {w w' : World} (h : RowW base l u w) (hx : Ext w w') : RowW base l u w' := Ext.owns h hx
theorem RowW.nil {base : Nat} {w : World} : RowW base [] (.slice none 0 0) w := World.ownsRow_nil _ _ _ _
theorem RowW.at_ {base : Nat} {l : List ByteArray} {u : Value} {w : World} (h : RowW base l u w) (hI : ∀ s ∈ l, s.size ≤ 9223372036854775807) : StrsAt w u l := by
  have hcells := fun g hg => h.cells (g := g) hg
  rcases h.2 with ⟨rfl, hn⟩ | ⟨g, cap, cur, rfl, hb, hg, hnc, hcm, hcs, htake⟩
  · have : l = [] := List.eq_nil_of_length_eq_zero hn
    subst this; exact SliceAt.nil
  · refine ⟨_, _, rfl, hnc, by simpa [maxLen] using hcm, fun i hi => ⟨g, 0, rfl, ?_, hI _ (List.getElem_mem hi)⟩⟩
    have := hcells g rfl i (.string l[i]) (by rw [List.getElem?_eq_getElem (by simpa using hi), List.getElem_map])
    rw [show (⟨g, 0, none⟩ : Addr).add i = ⟨g, 0 + i, none⟩ by unfold Addr.add; split <;> simp_all] at this
    simpa using this
theorem StrsAt.sizes {w : World} {v : Value} {l : List ByteArray} (h : StrsAt w v l) : ∀ s ∈ l, s.size ≤ 9223372036854775807 := fun s hs => by
  obtain ⟨i, hi, rfl⟩ := List.getElem_of_mem hs
  obtain ⟨_, _, -, -, -, hh⟩ := h
  obtain ⟨_, _, -, -, h2⟩ := hh i hi
  exact h2
theorem run_append_strs {w : World} (base : Nat) (t ty : TypeId) (i : TypeInfo) (ht : Try.prog.underlying t = some (.slice 9)) (hi : Try.prog.info? 9 = some i) (hz : i.zero = some (.string ByteArray.empty)) (hsize : i.size = 1) (hby : i.bytes = 16)
    (v : Value) (l0 : List ByteArray) (hown : RowW base l0 v w) (sv : Value) (l : List ByteArray) (hs : StrsAt w sv l) (hb : (l0.length + l.length) * 16 ≤ 140737488355328) (hbase : base ≤ w.heap.size) :
    ∃ v' w', (Builtin.append_ #[t, t] ty #[v, sv]).run Try.prog w = .ok v' w' ∧ RowW base (l0 ++ l) v' w' ∧ w.grownBy w' v.ownBlock ∧ (v'.ownBlock = v.ownBlock ∨ v'.ownBlock = some w.heap.size) := by
  obtain ⟨a, cap, rfl, hlc, hcm⟩ := hs.shape
  cases a with
  | none =>
    have hl : l = [] := by
      rcases Nat.eq_zero_or_pos l.length with h | h
      · exact List.eq_nil_of_length_eq_zero h
      · obtain ⟨b, o, e, -⟩ := hs.get h
        cases e
    subst hl
    refine ⟨v, w, ?_, by rw [List.append_nil]; exact hown, World.grownBy.refl _ _, .inl rfl⟩
    rcases hown.2 with ⟨rfl, hn⟩ | ⟨g, cp, cur, rfl, _, _, hnc, _⟩
    · simp [Builtin.append_, run_underlying ht, sizeOf, typeInfo, hi, Builtin.lenOf, Builtin.firstCells]
    · simp [Builtin.append_, run_underlying ht, sizeOf, typeInfo, hi, Builtin.lenOf, Builtin.firstCells, hnc, storeCells]
  | some ad =>
    obtain ⟨v', w', hr, h2, h3, -, h5⟩ := run_append_own_at (P := Try.prog) w base t ty 9 i (.string ByteArray.empty) 1 16 ht hi hz hsize hby (by rfl) (by decide) v l0.length (l0.map Value.string) hown ad l.length cap (l.map Value.string) (by simp) (fun j u hu => by
      have hj : j < l.length := by
        rcases Nat.lt_or_ge j l.length with h | h
        · exact h
        · rw [List.getElem?_eq_none (by simpa using h)] at hu; cases hu
      obtain ⟨b, o, e, h1, -⟩ := hs.get hj
      obtain rfl := Option.some.inj e
      rw [List.getElem?_eq_getElem (by simpa using hj), List.getElem_map] at hu
      obtain rfl := Option.some.inj hu
      rw [show (⟨b, o, none⟩ : Addr).add j = ⟨b, o + j * 1, none⟩ by unfold Addr.add; split <;> simp_all]
      exact h1) (fun u hu => by
      obtain ⟨x, -, rfl⟩ := List.mem_map.1 hu
      simp [Value.oneCell']) (by unfold maxLen; omega) hb hbase
    exact ⟨v', w', hr, by unfold RowW; rw [List.length_append, List.map_append]; exact h2, h3, h5⟩
theorem wpList_append_strs {w : World} {ops : Array Oper} {rest : List Oper} {o : Oper} {a : Act} {Q : Exit → Act → World → Prop} (hgd : o.guard = none) (s x : Operand) (t : TypeId)
    (ho : o.op = .call { callee := .builtin .append, args := #[s, x], argTypes := #[t, t] })
    (base : Nat) (i : TypeInfo) (ht : Try.prog.underlying t = some (.slice 9)) (hi : Try.prog.info? 9 = some i) (hz : i.zero = some (.string ByteArray.empty)) (hsize : i.size = 1) (hby : i.bytes = 16)
    (v : Value) (l0 : List ByteArray) (hs : a.eval s = v) (hown : RowW base l0 v w) (sv : Value) (hxv : a.eval x = sv) (l : List ByteArray) (hl : StrsAt w sv l) (hb : (l0.length + l.length) * 16 ≤ 140737488355328) (hbase : base ≤ w.heap.size)
    (h : ∀ v' w', RowW base (l0 ++ l) v' w' → w.grownBy w' v.ownBlock → (v'.ownBlock = v.ownBlock ∨ v'.ownBlock = some w.heap.size) → wpList Try.prog ops Q rest (a.put o.dst v') w') :
    wpList Try.prog ops Q (o :: rest) a w := by
  refine wpList_plain hgd fun K hK => ?_
  obtain ⟨v', w', hr, h2, h3, h5⟩ := run_append_strs base t o.type i ht hi hz hsize hby v l0 hown sv l hl hb hbase
  unfold Oper.wp execOp
  simp only [ho, resolve, invoke, builtin, Sem.run_bind, Sem.run_pure, Result.andThen_ok, List.map_toArray, List.map_cons, List.map_nil, hs, hxv, hr]
  exact hK _ _ (h v' w' h2 h3 h5)
end Go.Proofs.Ytdadffmagfknoaa

namespace Go.Proofs.Ytdadffmagfknoaa
set_option linter.unusedSimpArgs false
set_option linter.unusedVariables false
open Go.RowKit
set_option linter.unusedVariables false

def stepB (ps : List Part) (k : Nat) (st : List ByteArray × List (List ByteArray)) : List ByteArray × List (List ByteArray) :=
  if roomyM (ps.getD k ⟨[], 0, 0⟩) then (st.1 ++ st.2.headD [], st.2.tail) else (st.1 ++ (ps.getD k ⟨[], 0, 0⟩).words, st.2)
def builtTo (ps : List Part) (fs : List (List ByteArray)) : Nat → List ByteArray × List (List ByteArray)
  | 0 => ([], fs)
  | k + 1 => stepB ps k (builtTo ps fs k)
/-- the letter of a form and fills -/
def builtM (ps : List Part) (fs : List (List ByteArray)) : List ByteArray := (builtTo ps fs ps.length).1
theorem FillsAt.tail {w : World} {b o n c : Nat} {x : List ByteArray} {r : List (List ByteArray)} (h : FillsAt w (.slice (some ⟨b, o, none⟩) n c) (x :: r)) : FillsAt w (.slice (some ⟨b, o + 1, none⟩) r.length (c - 1)) r := by
  obtain ⟨a', cap', e, h2, h3, h4⟩ := h
  obtain ⟨rfl, rfl, rfl⟩ := Value.slice.inj e
  have hc : r.length + 1 ≤ c := h2
  refine ⟨_, _, rfl, by omega, by omega, fun i hi => ⟨b, o + 1, rfl, ?_⟩⟩
  obtain ⟨b', o', e', hr⟩ := h4 (i + 1) (by simp; omega)
  simp only [Option.some.injEq, Addr.mk.injEq, and_true] at e'
  obtain ⟨rfl, rfl⟩ := e'
  rw [show o + 1 + i * 1 = o + (i + 1) * 1 by omega]
  exact hr
theorem FillsAt.none_left {w : World} {v : Value} {a : Option Addr} {c : Nat} (hc : c ≤ 9223372036854775807) : FillsAt w (.slice a 0 c) [] := ⟨a, c, rfl, Nat.zero_le _, hc, fun i h => by simp at h⟩
theorem rooms_count (ps : List Part) (k : Nat) (h : k < ps.length) : (roomsM (ps.take (k + 1))).length = (roomsM (ps.take k)).length + if roomyM ps[k] = true then 1 else 0 := by
  cases hr : roomyM ps[k]
  · rw [rooms_no ps k h hr]; simp
  · rw [rooms_yes ps k h hr]; simp

end Go.Proofs.Ytdadffmagfknoaa

namespace Go.Proofs.Ytdadffmagfknoaa
set_option linter.unusedSimpArgs false
set_option linter.unusedVariables false
open Go.RowKit
set_option linter.unusedVariables false

/-- the error of one fill, by how many come before it -/
def fillErrM (rooms : List Part) (before : List (List ByteArray)) (x : List ByteArray) : Int :=
  if inM x.length (rooms.getD before.length ⟨[], 0, 0⟩).lo (rooms.getD before.length ⟨[], 0, 0⟩).hi = false then 7 else if wordsM x = false then 6 else 0
/-- the error of what is put into a form's rooms -/
def fillsErrM (ps : List Part) (fs : List (List ByteArray)) : Int := if fs.length ≠ (roomsM ps).length then 3 else (firstErr (fillErrM (roomsM ps)) fs).2
end Go.Proofs.Ytdadffmagfknoaa

namespace Go.Proofs.Ytdadffmagfknoaa
set_option linter.unusedSimpArgs false
set_option linter.unusedVariables false
open Go.RowKit
set_option linter.unusedSimpArgs false

def wantedM (heard : List Int) : List Int := if heard = [] then [-1] else heard
def giver (ls : List Letter) (s : Int) : Option Letter := ls.find? fun x => givesM x s
def shortM (ls : List Letter) : List Int → Option (List Int)
  | [] => some []
  | s :: r => match giver ls s, shortM ls r with
    | some x, some l => some (x.c :: l)
    | _, _ => none
/-- the text of the first sounds -/
def textTo (ls : List Letter) (l : List Int) (k : Nat) : List Int := (l.take k).filterMap fun s => (giver ls s).map (·.c)

theorem infoByte : (Try.prog.info? 5).map (fun i => (i.zero, i.size, i.bytes)) = some (some (.int .u8 0), 1, 1) := by kernel_rfl
def bytesOf (l : List Int) : List Value := l.map (Value.int .u8)

theorem textTo_succ (ls : List Letter) (l : List Int) (k : Nat) (hk : k < l.length) (x : Letter) (h : giver ls l[k] = some x) : textTo ls l (k + 1) = textTo ls l k ++ [x.c] := by
  unfold textTo
  rw [List.take_succ_eq_append_getElem hk, List.filterMap_append]
  simp [h]
theorem textTo_len (ls : List Letter) (l : List Int) (k : Nat) : (textTo ls l k).length ≤ k := by
  unfold textTo
  have h1 := List.length_filterMap_le (fun s => (giver ls s).map (·.c)) (l.take k)
  have h2 := List.length_take_le k l
  omega
theorem giver_at (ls : List Letter) (s : Int) (m : Nat) (hm : m < ls.length) (h : ∀ j (_ : j < m) (hj : j < ls.length), givesM ls[j] s = false) (hy : givesM ls[m] s = true) : giver ls s = some ls[m] := by
  rw [giver, List.find?_eq_some_iff_getElem]
  exact ⟨hy, m, hm, rfl, fun j hj => by simpa using h j hj (by omega)⟩
theorem giver_none (ls : List Letter) (s : Int) (h : ∀ j (hj : j < ls.length), givesM ls[j] s = false) : giver ls s = none := by
  rw [giver, List.find?_eq_none]
  intro x hx
  obtain ⟨j, hj, rfl⟩ := List.getElem_of_mem hx
  simp [h j hj]
def shortE (ls : List Letter) (l : List Int) : Int := if l.all fun s => (giver ls s).isSome then 0 else 9
def shortS (ls : List Letter) (l : List Int) : List Int := if l.all fun s => (giver ls s).isSome then textTo ls l l.length else []
theorem shortE_no (ls : List Letter) (l : List Int) (k : Nat) (hk : k < l.length) (h : giver ls l[k] = none) : shortE ls l = 9 ∧ shortS ls l = [] := by
  have : (l.all fun s => (giver ls s).isSome) = false := by
    rw [List.all_eq_false]
    exact ⟨l[k], List.getElem_mem hk, by simp [h]⟩
  simp [shortE, shortS, this]
theorem shortE_yes (ls : List Letter) (l : List Int) (h : ∀ j (hj : j < l.length), (giver ls l[j]).isSome = true) : shortE ls l = 0 ∧ shortS ls l = textTo ls l l.length := by
  have : (l.all fun s => (giver ls s).isSome) = true := by
    rw [List.all_eq_true]
    intro x hx
    obtain ⟨j, hj, rfl⟩ := List.getElem_of_mem hx
    exact h j hj
  simp [shortE, shortS, this]
def strOf (l : List Int) : ByteArray := ⟨(l.map fun n => UInt8.ofNat n.toNat).toArray⟩
theorem textTo_full (ls : List Letter) (l : List Int) (k : Nat) (hk : k ≤ l.length) (h : ∀ j (_ : j < k) (hj : j < l.length), (giver ls l[j]).isSome = true) : (textTo ls l k).length = k := by
  induction k with
  | zero => simp [textTo]
  | succ k ih =>
    obtain ⟨x, hx⟩ := Option.isSome_iff_exists.1 (h k (by omega) (by omega))
    rw [textTo_succ ls l k (by omega) x hx, List.length_append, ih (by omega) fun j hj hl => h j (by omega) hl]; rfl
theorem textTo_U8 (ls : List Letter) (l : List Int) (k : Nat) (h : ∀ x ∈ ls, U8 x.c) : ∀ n ∈ textTo ls l k, U8 n := by
  intro n hn
  simp only [textTo, List.mem_filterMap, Option.map_eq_some_iff] at hn
  obtain ⟨s, -, x, hx, rfl⟩ := hn
  exact h x (List.mem_of_find?_eq_some hx)
theorem byte_back (n : Int) (h : U8 n) : ((UInt8.ofNat n.toNat).toNat : Int) = n := by
  obtain ⟨h0, h1⟩ := h
  rw [UInt8.toNat_ofNat', Nat.mod_eq_of_lt (by omega)]; omega
theorem ret_strInt {a b : ByteArray} {c d : Int} (h : a = b) (h2 : c = d) : Ending.returned (.tuple #[.string a, .int .i64 c]) = .returned (.tuple #[.string b, .int .i64 d]) := by rw [h, h2]
theorem snoc_bytes {w : World} {B : Nat} {e : TypeId} {v : Value} {l l' : List Int} {x : Int} (hb : l' = l ++ [x]) (h : w.ownsRow B e 1 v (l.length + 1) (bytesOf l ++ [.int .u8 x])) :
    w.ownsRow B e 1 v l'.length (bytesOf l') := by
  subst hb
  simpa [bytesOf] using h

end Go.Proofs.Ytdadffmagfknoaa

namespace Go.Proofs.Ytdadffmagfknoaa
set_option linter.unusedSimpArgs false
set_option linter.unusedVariables false
open Go.RowKit

theorem firstErrFrom_ok {α : Type} (f : List α → α → Int) : ∀ (r pre : List α), (firstErrFrom f pre r).2 = 0 → ∀ k (hk : k < r.length), f (pre ++ r.take k) r[k] = 0
  | [], _, _, k, hk => by simp at hk
  | x :: r, pre, h, k, hk => by
    unfold firstErrFrom at h
    split at h
    · rename_i h0
      cases k with
      | zero => simpa using h0
      | succ k =>
        have := firstErrFrom_ok f r (pre ++ [x]) h k (by simpa using hk)
        simpa using this
    · rename_i h0
      exact absurd h h0
theorem firstErr_ok {α : Type} (f : List α → α → Int) (l : List α) (h : (firstErr f l).2 = 0) : ∀ k (hk : k < l.length), f (l.take k) l[k] = 0 := by
  intro k hk
  have := firstErrFrom_ok f l [] h k hk
  simpa using this

theorem inM_iff (n lo hi : Int) : inM n lo hi = true ↔ lo ≤ n ∧ n ≤ hi := by simp [inM]
theorem inM_true {n lo hi : Int} (h : ¬ inM n lo hi = false) : lo ≤ n ∧ n ≤ hi := by
  rw [← inM_iff]; simpa using h

structure ValidLetter (S : Int) (x : Letter) : Prop where
  c : 97 ≤ x.c ∧ x.c ≤ 122
  s : 0 ≤ x.sounds ∧ x.sounds ≤ maskM S
  g : x.sounds ≠ 0 ∨ x.silent = true
theorem letterErr_ok {S : Int} {l : List Letter} {x : Letter} (h : letterErrM S l x = 0) : ValidLetter S x ∧ (l.any fun y => y.c == x.c) = false := by
  unfold letterErrM at h
  split at h
  · cases h
  rename_i h1
  split at h
  · cases h
  rename_i h2
  split at h
  · cases h
  rename_i h3
  split at h
  · cases h
  rename_i h4
  exact ⟨⟨inM_true h1, inM_true h3, by
    simp only [Bool.and_eq_true, beq_iff_eq, Bool.not_eq_true', not_and, Bool.not_eq_false] at h4
    by_cases e : x.sounds = 0
    · exact .inr (h4 e)
    · exact .inl e⟩, by simpa using h2⟩
structure ValidAlphabet (S : Int) (x : Alphabet) : Prop where
  n : nameM x.name = true
  l : 1 ≤ x.letters.length ∧ x.letters.length ≤ 6
  fine : ∀ k (hk : k < x.letters.length), ValidLetter S x.letters[k] ∧ ((x.letters.take k).any fun y => y.c == (x.letters[k]).c) = false
theorem alphabetErr_ok {S : Int} {l : List Alphabet} {x : Alphabet} (h : alphabetErrM S l x = 0) : ValidAlphabet S x ∧ (l.any fun y => y.name.toList == x.name.toList) = false := by
  unfold alphabetErrM at h
  split at h
  · cases h
  rename_i h1
  split at h
  · cases h
  rename_i h2
  split at h
  · cases h
  rename_i h3
  have h3 := inM_true h3
  exact ⟨⟨by simpa using h1, by omega, fun k hk => letterErr_ok (firstErr_ok _ _ h k hk)⟩, by simpa using h2⟩
structure ValidSpelling (al : List Alphabet) (x : Spelling) : Prop where
  a : 0 ≤ x.alphabet ∧ x.alphabet < al.length
  t : 1 ≤ x.text.size ∧ x.text.size ≤ 5
  k : ∀ j, j < x.text.size → knownB (lettersOf al x.alphabet) x.text j = true
theorem textOk_spec {ls : List Letter} {s : ByteArray} (h : textOk ls s = true) : ∀ j, j < s.size → knownB ls s j = true := by
  unfold textOk at h
  rw [List.all_eq_true] at h
  exact fun j hj => h j (List.mem_range.2 hj)
theorem spellingErr_ok {al : List Alphabet} {x : Spelling} (h : spellingErrM al x = 0) : ValidSpelling al x := by
  unfold spellingErrM at h
  split at h
  · cases h
  rename_i h1
  split at h
  · cases h
  rename_i h2
  split at h
  · cases h
  rename_i h3
  have h1 := inM_true h1
  have h2 := inM_true h2
  exact ⟨by omega, by omega, textOk_spec (by simpa using h3)⟩
structure Valid (b : Book) : Prop where
  s : 1 ≤ b.sounds ∧ b.sounds ≤ 4
  a : 1 ≤ b.alphabets.length ∧ b.alphabets.length ≤ 3
  al : ∀ k (hk : k < b.alphabets.length), ValidAlphabet b.sounds b.alphabets[k] ∧ ((b.alphabets.take k).any fun y => y.name.toList == (b.alphabets[k]).name.toList) = false
  n : b.spellings.length ≤ 5
  sp : ∀ k (hk : k < b.spellings.length), ValidSpelling b.alphabets b.spellings[k]
theorem valid_of {b : Book} (h : errM b = 0) : Valid b := by
  unfold errM checkM at h
  split at h
  · cases h
  rename_i h1
  split at h
  · cases h
  rename_i h2
  split at h
  · rename_i h3; exact absurd h h3
  rename_i h3
  split at h
  · cases h
  rename_i h4
  split at h
  · rename_i h5; exact absurd h h5
  rename_i h5
  have h1 := inM_true h1
  have h2 := inM_true h2
  have h3 : (alphErr b).2 = 0 := by simpa using h3
  have h5 : (spelErr b).2 = 0 := by simpa using h5
  exact ⟨h1, by omega, fun k hk => alphabetErr_ok (firstErr_ok _ _ h3 k hk), by omega, fun k hk => spellingErr_ok (firstErr_ok _ _ h5 k hk)⟩
theorem mask_le {S : Int} (h : 1 ≤ S ∧ S ≤ 4) : maskM S ≤ 15 := by
  have h4 : S = 1 ∨ S = 2 ∨ S = 3 ∨ S = 4 := by omega
  rcases h4 with rfl | rfl | rfl | rfl <;> decide
theorem Valid.fine {b : Book} (h : Valid b) (k : Nat) (hk : k < b.alphabets.length) : ∀ x ∈ (b.alphabets[k]).letters, FineL x := by
  intro x hx
  obtain ⟨j, hj, rfl⟩ := List.getElem_of_mem hx
  have := ((h.al k hk).1.fine j hj).1.s
  have := mask_le h.s
  exact ⟨by omega, by omega⟩
theorem withinM_spec {lo hi : Int} {l : List Int} (h : withinM lo hi l = true) : ∀ x ∈ l, lo ≤ x ∧ x ≤ hi := by
  unfold withinM at h
  rw [List.all_eq_true] at h
  exact fun x hx => (inM_iff _ _ _).1 (h x hx)
end Go.Proofs.Ytdadffmagfknoaa

namespace Go.Proofs.Ytdadffmagfknoaa
set_option linter.unusedSimpArgs false
set_option linter.unusedVariables false
open Go.RowKit

structure ValidPart (p : Part) : Prop where
  n : p.words.length ≤ 3
  w : wordsM p.words = true
  z : p.words ≠ [] → p.lo = 0 ∧ p.hi = 0
  r : p.words = [] → 0 ≤ p.lo ∧ p.lo ≤ p.hi ∧ 1 ≤ p.hi ∧ p.hi ≤ 3
theorem partErr_ok {p : Part} (h : partErrM p = 0) : ValidPart p := by
  unfold partErrM at h
  split at h
  · cases h
  rename_i h1
  split at h
  · cases h
  rename_i h2
  have hw : wordsM p.words = true := by simpa using h2
  split at h
  · rename_i h3
    split at h
    · rename_i h4
      exact ⟨by omega, hw, fun _ => h4, fun e => absurd (by rw [e]; rfl) h3⟩
    · cases h
  · rename_i h3
    split at h
    · cases h
    rename_i h4
    split at h
    · cases h
    rename_i h5
    have a := inM_true (fun e => h4 (.inl e))
    have b := inM_true (fun e => h4 (.inr (.inl e)))
    have c : p.hi ≠ 0 := fun e => h4 (.inr (.inr e))
    exact ⟨by omega, hw, fun e => absurd (List.eq_nil_of_length_eq_zero (by omega)) e, fun _ => ⟨a.1, by omega, by omega, b.2⟩⟩
theorem ValidPart.room {p : Part} (h : ValidPart p) (hr : roomyM p = true) : 0 ≤ p.lo ∧ p.lo ≤ p.hi ∧ 1 ≤ p.hi ∧ p.hi ≤ 3 :=
  h.r (List.eq_nil_of_length_eq_zero (by simpa [roomyM] using hr))

structure ValidForm (f : Form) : Prop where
  name : nameM f.name = true
  n : f.parts.length ≤ 5
  parts : ∀ p ∈ f.parts, ValidPart p
theorem formErr_ok {l : List Form} {f : Form} (h : formErrM l f = 0) : ValidForm f ∧ (l.any fun y => y.name.toList == f.name.toList) = false := by
  unfold formErrM at h
  split at h
  · cases h
  rename_i h1
  split at h
  · cases h
  rename_i h2
  split at h
  · cases h
  rename_i h3
  refine ⟨⟨by simpa using h1, by omega, fun p hp => ?_⟩, by simpa using h2⟩
  obtain ⟨k, hk, rfl⟩ := List.getElem_of_mem hp
  exact partErr_ok (firstErr_ok _ _ h k hk)

structure ValidShelf (s : Shelf) : Prop where
  w : 8 ≤ s.width ∧ s.width ≤ 30
  n : s.forms.length ≤ 4
  forms : ∀ f ∈ s.forms, ValidForm f
theorem errS_ok {s : Shelf} (h : errS s = 0) : ValidShelf s := by
  unfold errS checkS at h
  split at h
  · cases h
  rename_i h1
  split at h
  · cases h
  rename_i h2
  split at h
  · rename_i h3
    exact absurd h h3
  rename_i h3
  refine ⟨inM_true h1, by omega, fun f hf => ?_⟩
  obtain ⟨k, hk, rfl⟩ := List.getElem_of_mem hf
  exact (formErr_ok (firstErr_ok _ _ (by simpa using h3) k hk)).1
theorem openErr_ok {s : Shelf} {n : Int} (h : openErrM s n = 0) : ValidShelf s ∧ 0 ≤ n ∧ n < s.forms.length := by
  unfold openErrM at h
  split at h
  · rename_i h1; exact absurd h h1
  rename_i h1
  split at h
  · cases h
  rename_i h2
  have := inM_true h2
  exact ⟨errS_ok (by simpa using h1), by omega, by omega⟩
theorem fillsErr_ok {ps : List Part} {fs : List (List ByteArray)} (hv : ∀ p ∈ ps, ValidPart p) (h : fillsErrM ps fs = 0) : fs.length = (roomsM ps).length ∧ ∀ l ∈ fs, l.length ≤ 3 ∧ wordsM l = true := by
  unfold fillsErrM at h
  split at h
  · cases h
  rename_i h1
  have hl : fs.length = (roomsM ps).length := by simpa using h1
  refine ⟨hl, fun l hm => ?_⟩
  obtain ⟨k, hk, rfl⟩ := List.getElem_of_mem hm
  have h2 := firstErr_ok _ _ h k hk
  have hk2 : k < (roomsM ps).length := by omega
  have e : (fs.take k).length = k := by rw [List.length_take]; omega
  unfold fillErrM at h2
  rw [e, show (roomsM ps).getD k ⟨[], 0, 0⟩ = (roomsM ps)[k] by simp [hk2]] at h2
  split at h2
  · cases h2
  rename_i h3
  split at h2
  · cases h2
  rename_i h4
  have hin := inM_true h3
  have hmem := List.getElem_mem hk2
  have hmf := List.mem_filter.mp (show (roomsM ps)[k] ∈ ps.filter roomyM from hmem)
  have hr := (hv _ hmf.1).room hmf.2
  exact ⟨by omega, by simpa using h4⟩
end Go.Proofs.Ytdadffmagfknoaa

namespace Go.Proofs.Ytdadffmagfknoaa
set_option linter.unusedSimpArgs false
set_option linter.unusedVariables false
open Go.RowKit
set_option linter.unusedVariables false

def formOf (s : Shelf) (n : Int) : Form := s.forms.getD n.toNat ⟨⟨#[]⟩, []⟩
/-- the error of a shelf, a form and fills -/
def makeErrM (s : Shelf) (n : Int) (fs : List (List ByteArray)) : Int := if openErrM s n ≠ 0 then openErrM s n else fillsErrM (formOf s n).parts fs
/-- a letter, if there is no error -/
def MadeL (w : World) (l : List ByteArray) (e : Int) (v : Value) : Prop := ∃ u, v = .tuple #[u, .int .i64 e] ∧ (e = 0 → StrsAt w u l) ∧ (e ≠ 0 → u = .slice none 0 0)
end Go.Proofs.Ytdadffmagfknoaa

namespace Go.Proofs.Ytdadffmagfknoaa
set_option linter.unusedSimpArgs false
set_option linter.unusedVariables false
open Go.RowKit
set_option linter.unusedVariables false

structure Slot where
  word : ByteArray
  free : Bool
def slotR (w : World) (b o : Nat) (s : Slot) : Prop := w.cell? ⟨b, o, none⟩ = some (.string s.word) ∧ w.cell? ⟨b, o + 1, none⟩ = some (.bool s.free) ∧ s.word.size ≤ 9223372036854775807
theorem slotR.keeps : Keeps slotR := fun _ _ _ _ _ hx h => ⟨hx.cell h.1, hx.cell h.2.1, h.2.2⟩
abbrev SlotsAt : World → Value → List Slot → Prop := SliceAt 2 slotR
theorem SlotsAt.ext {w w' : World} {v : Value} {l : List Slot} (h : SlotsAt w v l) (hx : Ext w w') : SlotsAt w' v l := SliceAt.ext slotR.keeps h hx
def cellsS (l : List Slot) : List Value := l.flatMap fun s => [.string s.word, .bool s.free]
theorem cellsS_len (l : List Slot) : (cellsS l).length = l.length * 2 := by
  induction l with
  | nil => rfl
  | cons x l ih => simp only [cellsS, List.flatMap_cons, List.length_append, List.length_cons, List.length_nil] at *; omega
theorem cellsS_get (l : List Slot) (i : Nat) (h : i < l.length) : (cellsS l)[i * 2]? = some (.string l[i].word) ∧ (cellsS l)[i * 2 + 1]? = some (.bool l[i].free) := by
  induction l generalizing i with
  | nil => simp at h
  | cons x l ih =>
    cases i with
    | zero => simp [cellsS]
    | succ i =>
      have := ih i (by simpa using h)
      have e : (i + 1) * 2 = i * 2 + 2 := by omega
      rw [e]
      simpa [cellsS] using this
theorem cellsS_app (l r : List Slot) : cellsS (l ++ r) = cellsS l ++ cellsS r := by simp [cellsS]
theorem cell_two_newS (w : World) (a b : Value) (t : TypeId) : ∀ j u, [a, b][j]? = some u → (w.alloc (.cells #[a, b] t)).cell? ((⟨w.heap.size, 0, none⟩ : Addr).add j) = some u := by
  intro j u h
  match j, h with
  | 0, h => simp at h; subst h; simp [go_sem]
  | 1, h => simp at h; subst h; simp [go_sem]
  | j + 2, h => simp at h
/-- the slots of words that are given -/
def givenM (l : List ByteArray) : List Slot := l.map fun s => ⟨s, false⟩

end Go.Proofs.Ytdadffmagfknoaa

namespace Go.Proofs.Ytdadffmagfknoaa
set_option linter.unusedSimpArgs false
set_option linter.unusedVariables false
open Go.RowKit
set_option linter.unusedVariables false

/-- the slots of a room -/
def roomSlotsM (lo : Int) (n : Nat) : List Slot := (List.range n).map fun (k : Nat) => ⟨ByteArray.empty, decide (lo ≤ (k : Int))⟩
/-- the slots of a part -/
def partSlotsM (p : Part) : List Slot := givenM p.words ++ roomSlotsM p.lo p.hi.toNat
theorem roomSlots_step (lo : Int) (n : Nat) : roomSlotsM lo (n + 1) = roomSlotsM lo n ++ [⟨ByteArray.empty, decide (lo ≤ (n : Int))⟩] := by
  unfold roomSlotsM
  rw [List.range_succ, List.map_append]; rfl

end Go.Proofs.Ytdadffmagfknoaa

namespace Go.Proofs.Ytdadffmagfknoaa
set_option linter.unusedSimpArgs false
set_option linter.unusedVariables false
open Go.RowKit
set_option linter.unusedVariables false

/-- the slots of a form -/
def formSlotsM (ps : List Part) : List Slot := ps.flatMap partSlotsM
theorem partSlots_len {p : Part} (h : ValidPart p) : 1 ≤ (partSlotsM p).length ∧ (partSlotsM p).length ≤ 3 := by
  have e : (partSlotsM p).length = p.words.length + p.hi.toNat := by simp [partSlotsM, givenM, roomSlotsM]
  have hn := h.n
  rw [e]
  by_cases hw : p.words = []
  · have := h.r hw
    rw [hw]
    simp
    omega
  · have := h.z hw
    have hp : 0 < p.words.length := List.length_pos_iff.mpr hw
    rw [this.2]
    simp
    omega
theorem formSlots_step (ps : List Part) (k : Nat) (h : k < ps.length) : formSlotsM (ps.take (k + 1)) = formSlotsM (ps.take k) ++ partSlotsM ps[k] := by
  unfold formSlotsM
  rw [List.take_succ_eq_append_getElem h, List.flatMap_append]
  simp
theorem formSlots_len {ps : List Part} (h : ∀ p ∈ ps, ValidPart p) : (formSlotsM ps).length ≤ 3 * ps.length := by
  induction ps with
  | nil => simp [formSlotsM]
  | cons p r ih =>
    have h1 := ih fun q hq => h q (List.mem_cons_of_mem _ hq)
    have h2 := (partSlots_len (h p List.mem_cons_self)).2
    simp only [formSlotsM, List.flatMap_cons, List.length_append, List.length_cons] at *
    omega
theorem cellsS_one (l : List Slot) : ∀ u ∈ cellsS l, u.oneCell' = true := by
  intro u hu
  obtain ⟨s, -, hs⟩ := List.mem_flatMap.1 hu
  simp only [List.mem_cons, List.not_mem_nil, or_false] at hs
  rcases hs with rfl | rfl <;> rfl
end Go.Proofs.Ytdadffmagfknoaa

namespace Go.Proofs.Ytdadffmagfknoaa
set_option linter.unusedSimpArgs false
set_option linter.unusedVariables false
open Go.RowKit
set_option linter.unusedVariables false

def takesM (s : Slot) (x : ByteArray) : Bool := s.word.toList.isEmpty || s.word.toList == x.toList
/-- a slot, handed in -/
def slotV (s : Slot) : Value := .agg #[.string s.word, .bool s.free]
end Go.Proofs.Ytdadffmagfknoaa

namespace Go.Proofs.Ytdadffmagfknoaa
set_option linter.unusedSimpArgs false
set_option linter.unusedVariables false
open Go.RowKit
set_option linter.unusedVariables false

/-- how many words are in each part -/
def countsV (c : Nat → Int) : Value := .agg #[.int .i64 (c 0), .int .i64 (c 1), .int .i64 (c 2), .int .i64 (c 3), .int .i64 (c 4)]
def lexL : List Int → List Int → Bool
  | x :: xs, y :: ys => if x = y then lexL xs ys else decide (x < y)
  | _, _ => false
def beforeM (c o : Nat → Int) : Bool := lexL [c 0, c 1, c 2, c 3, c 4] [o 0, o 1, o 2, o 3, o 4]
def sameC (c o : Nat → Int) : Bool := c 0 == o 0 && (c 1 == o 1 && (c 2 == o 2 && (c 3 == o 3 && c 4 == o 4)))
theorem before_same {c o : Nat → Int} (h : sameC c o = true) : beforeM c o = false := by
  simp [sameC] at h
  simp [beforeM, lexL, h]
theorem before_hit {c o : Nat → Int} {k : Nat} (hk : k < 5) (h : ∀ j, j < k → c j = o j) (hne : c k ≠ o k) : beforeM c o = decide (c k < o k) := by
  unfold beforeM
  match k, hk with
  | 0, _ => simp [lexL, hne]
  | 1, _ => simp [lexL, h 0 (by omega), hne]
  | 2, _ => simp [lexL, h 0 (by omega), h 1 (by omega), hne]
  | 3, _ => simp [lexL, h 0 (by omega), h 1 (by omega), h 2 (by omega), hne]
  | 4, _ => simp [lexL, h 0 (by omega), h 1 (by omega), h 2 (by omega), h 3 (by omega), hne]
  | n + 5, h => omega
theorem before_stop {c o : Nat → Int} (h : sameC c o = false) (k : Nat) (hk : k < 5) (h1 : ∀ j, j < k → c j = o j) (he : c k = o k) : k + 1 < 5 := by
  rcases Nat.lt_or_ge (k + 1) 5 with h2 | h2
  · exact h2
  · obtain rfl : k = 4 := by omega
    simp [sameC, h1 0 (by omega), h1 1 (by omega), h1 2 (by omega), h1 3 (by omega), he] at h
theorem cells_five {w : World} {B : Nat} {c : Nat → Int} (h0 : w.cell? ⟨B, 0, none⟩ = some (.int .i64 (c 0))) (h1 : w.cell? ⟨B, 1, none⟩ = some (.int .i64 (c 1))) (h2 : w.cell? ⟨B, 2, none⟩ = some (.int .i64 (c 2))) (h3 : w.cell? ⟨B, 3, none⟩ = some (.int .i64 (c 3))) (h4 : w.cell? ⟨B, 4, none⟩ = some (.int .i64 (c 4))) (k : Nat) (hk : k < 5) : w.cell? ⟨B, k, none⟩ = some (.int .i64 (c k)) := by
  match k, hk with
  | 0, _ => exact h0
  | 1, _ => exact h1
  | 2, _ => exact h2
  | 3, _ => exact h3
  | 4, _ => exact h4
  | n + 5, h => omega
end Go.Proofs.Ytdadffmagfknoaa

namespace Go.Proofs.Ytdadffmagfknoaa
set_option linter.unusedSimpArgs false
set_option linter.unusedVariables false
open Go.RowKit
set_option linter.unusedVariables false

end Go.Proofs.Ytdadffmagfknoaa

namespace Go.Proofs.Ytdadffmagfknoaa
set_option linter.unusedSimpArgs false
set_option linter.unusedVariables false
set_option linter.unusedVariables false

def noSlot : Slot := ⟨ByteArray.empty, false⟩
/-- whether the first n words of a letter can be those of a part -/
def sizeOk (sl : List Slot) (left : List ByteArray) (n : Nat) : Bool :=
  decide (n ≤ left.length) && (decide (sl.length ≤ n) || (sl.getD n noSlot).free) && (List.range n).all fun i => takesM (sl.getD i noSlot) (left.getD i ByteArray.empty)
def updC (c : Nat → Int) (k : Nat) (v : Int) : Nat → Int := fun j => if j = k then v else c j
/-- what comes of the first k sizes of a part -/
def waysTo (step : Nat → List (Nat → Int)) (sl : List Slot) (left : List ByteArray) : Nat → List (Nat → Int)
  | 0 => []
  | k + 1 => waysTo step sl left k ++ if sizeOk sl left k then step k else []
def waysF : List (List Slot) → Nat → List ByteArray → (Nat → Int) → List (Nat → Int)
  | [], _, left, c => if left.length = 0 then [c] else []
  | sl :: r, k, left, c => waysTo (fun n => waysF r (k + 1) (left.drop n) (updC c k n)) sl left (sl.length + 1)
theorem waysTo_mono (step : Nat → List (Nat → Int)) (sl : List Slot) (left : List ByteArray) {k m : Nat} (h : k ≤ m) : waysTo step sl left k <+: waysTo step sl left m := by
  obtain ⟨d, rfl⟩ := Nat.exists_eq_add_of_le h
  clear h
  induction d with
  | zero => exact List.prefix_rfl
  | succ d ih => exact ih.trans ⟨_, rfl⟩
theorem waysTo_hit (step : Nat → List (Nat → Int)) (sl : List Slot) (left : List ByteArray) (k : Nat) (h : sizeOk sl left k = true) : waysTo step sl left (k + 1) = waysTo step sl left k ++ step k := by
  rw [waysTo, if_pos h]
theorem waysTo_miss (step : Nat → List (Nat → Int)) (sl : List Slot) (left : List ByteArray) (k : Nat) (h : sizeOk sl left k = false) : waysTo step sl left (k + 1) = waysTo step sl left k := by
  rw [waysTo, if_neg (by rw [h]; decide), List.append_nil]
theorem waysTo_mem {step : Nat → List (Nat → Int)} {sl : List Slot} {left : List ByteArray} {c : Nat → Int} : ∀ {k : Nat}, c ∈ waysTo step sl left k → ∃ n, n < k ∧ sizeOk sl left n = true ∧ c ∈ step n
  | 0, h => by simp [waysTo] at h
  | k + 1, h => by
    rw [waysTo] at h
    rcases List.mem_append.1 h with h | h
    · obtain ⟨n, h1, h2⟩ := waysTo_mem h
      exact ⟨n, by omega, h2⟩
    · by_cases hs : sizeOk sl left k = true
      · rw [if_pos hs] at h; exact ⟨k, by omega, hs, h⟩
      · rw [if_neg hs] at h; cases h
theorem sizeOk_le {sl : List Slot} {left : List ByteArray} {n : Nat} (h : sizeOk sl left n = true) : n ≤ left.length := by
  simp [sizeOk] at h; exact h.1.1
/-- what is counted is what there is -/
theorem waysF_fine : ∀ (ss : List (List Slot)) (k : Nat) (left : List ByteArray) (c d : Nat → Int), d ∈ waysF ss k left c → (∀ j, j < k → d j = c j) ∧ (∀ j, k + ss.length ≤ j → d j = c j) ∧ (∀ j, k ≤ j → j < k + ss.length → 0 ≤ d j ∧ d j ≤ left.length)
  | [], k, left, c, d, h => by
    unfold waysF at h
    split at h
    · simp only [List.mem_singleton] at h; subst h; exact ⟨fun _ _ => rfl, fun _ _ => rfl, fun j h1 h2 => by simp at h2; omega⟩
    · cases h
  | sl :: r, k, left, c, d, h => by
    unfold waysF at h
    obtain ⟨n, hn, hs, hd⟩ := waysTo_mem h
    obtain ⟨h1, h2, h3⟩ := waysF_fine r (k + 1) _ _ d hd
    have hle := sizeOk_le hs
    refine ⟨fun j hj => (h1 j (by omega)).trans (by simp [updC]; omega), fun j hj => (h2 j (by simp at hj; omega)).trans (by simp at hj; simp [updC]; omega), fun j hj hj2 => ?_⟩
    simp only [List.length_cons] at hj2
    by_cases e : j = k
    · subst e
      rw [h1 j (by omega)]
      simp only [updC, if_true]
      omega
    · have := h3 j (by omega) (by omega)
      simp only [List.length_drop] at this
      omega
theorem waysTo_len {step : Nat → List (Nat → Int)} {sl : List Slot} {left : List ByteArray} {N : Nat} (h : ∀ n, (step n).length ≤ N) : ∀ k, (waysTo step sl left k).length ≤ k * N
  | 0 => by simp [waysTo]
  | k + 1 => by
    have ih := waysTo_len (sl := sl) (left := left) h k
    have hk := h k
    rw [waysTo, List.length_append, Nat.succ_mul]
    split
    · omega
    · simp; omega
theorem waysF_len : ∀ (ss : List (List Slot)) (k : Nat) (left : List ByteArray) (c : Nat → Int), (∀ sl ∈ ss, sl.length ≤ 3) → (waysF ss k left c).length ≤ 4 ^ ss.length
  | [], k, left, c, _ => by unfold waysF; split <;> simp
  | sl :: r, k, left, c, h => by
    have h3 := h sl List.mem_cons_self
    have := waysTo_len (sl := sl) (left := left) (N := 4 ^ r.length) (step := fun n => waysF r (k + 1) (left.drop n) (updC c k n)) (fun n => waysF_len r (k + 1) _ _ fun s hs => h s (List.mem_cons_of_mem _ hs)) (sl.length + 1)
    rw [waysF, List.length_cons, Nat.pow_succ]
    refine Nat.le_trans this ?_
    rw [Nat.mul_comm]
    exact Nat.mul_le_mul_left _ (by omega)
/-- the ways of a form -/
def formWays (ps : List Part) (l : List ByteArray) : List (Nat → Int) := waysF (ps.map partSlotsM) 0 l (fun _ => 0)
/-- the first of some things that none comes before, and how many there are -/
def pickB {α : Type} (bf : α → α → Bool) (z : α) (xs : List α) : α × Nat := xs.foldl (fun s x => (if s.2 = 0 ∨ bf x s.1 = true then x else s.1, s.2 + 1)) (z, 0)
theorem pickB_snoc {α : Type} (bf : α → α → Bool) (z : α) (xs : List α) (x : α) : pickB bf z (xs ++ [x]) = (if (pickB bf z xs).2 = 0 ∨ bf x (pickB bf z xs).1 = true then x else (pickB bf z xs).1, (pickB bf z xs).2 + 1) := by
  unfold pickB
  rw [List.foldl_append]
  rfl
theorem snoc_ind {α : Type} {p : List α → Prop} (h0 : p []) (h1 : ∀ xs x, p xs → p (xs ++ [x])) (xs : List α) : p xs := by
  have h : ∀ ys : List α, p ys.reverse := by
    intro ys
    induction ys with
    | nil => exact h0
    | cons y ys ih => rw [List.reverse_cons]; exact h1 _ _ ih
  have := h xs.reverse
  rwa [List.reverse_reverse] at this
theorem pickB_many {α : Type} (bf : α → α → Bool) (z : α) (xs : List α) : (pickB bf z xs).2 = xs.length := by
  refine snoc_ind (p := fun xs => (pickB bf z xs).2 = xs.length) rfl (fun xs x ih => ?_) xs
  show (pickB bf z (xs ++ [x])).2 = (xs ++ [x]).length
  rw [pickB_snoc, List.length_append]; simp [ih]
theorem pickB_mem {α : Type} (bf : α → α → Bool) (z : α) (xs : List α) : (pickB bf z xs).1 = z ∧ xs = [] ∨ (pickB bf z xs).1 ∈ xs := by
  refine snoc_ind (p := fun xs => (pickB bf z xs).1 = z ∧ xs = [] ∨ (pickB bf z xs).1 ∈ xs) (.inl ⟨rfl, rfl⟩) (fun xs x ih => .inr ?_) xs
  rw [pickB_snoc]
  by_cases h : (pickB bf z xs).2 = 0 ∨ bf x (pickB bf z xs).1 = true
  · rw [if_pos h]; simp
  · rw [if_neg h]
    rcases ih with ⟨-, rfl⟩ | ih
    · exact absurd (.inl rfl) h
    · exact List.mem_append_left _ ih
end Go.Proofs.Ytdadffmagfknoaa
