/-
  A BOOK THAT IS HANDED IN, opened: lists of letters, alphabets and spellings as they lie in memory.
  A CALL THAT LETS ALL BE AS IT WAS, AND ANSWERS AS IT SHOULD, KEEPS A LAW's WORD.
-/
import Derived.Test.YtoifmphpeflliaaBunA
import Derived.Deep.Slices
import Derived.Deep.Strs
import Derived.WideKeyArgs
import Derived.OpenShut
import Derived.ProofKit
namespace Go.Proofs.Ytoifmphpeflliaa
open Go.ChangeShapes Go.WideShapes Go.RowKit

theorem add_none (b o n : Nat) : (⟨b, o, none⟩ : Addr).add n = ⟨b, o + n, none⟩ := by
  unfold Addr.add
  by_cases h : n = 0
  · subst h; simp
  · simp [h]
theorem three_of {cs : List Value} (h : cs.length = 3) : ∃ a b c, cs = [a, b, c] := by
  match cs, h with
  | [a, b, c], _ => exact ⟨a, b, c, rfl⟩
theorem two_of {cs : List Value} (h : cs.length = 2) : ∃ a b, cs = [a, b] := by
  match cs, h with
  | [a, b], _ => exact ⟨a, b, rfl⟩
theorem spot_none {w : World} {a : Addr} {v : Value} (h : w.cell? a = some v) : a.spot = none := by
  unfold World.cell? at h
  cases hs : a.spot with
  | none => rfl
  | some x => split at h <;> simp [hs] at h
section
variable {H : Type} {enc : TypeId × Value → H} {w : World} {base : Nat} {sp : Nat → Bool} {held : Bool}
theorem slice_of {α : Type} [Inhabited α] {sz : Nat} {R : World → Nat → Nat → α → Prop} {t e : TypeId} (ht : Try.prog.underlying t = some (.slice e)) (hc : Try.prog.cellsOf e = sz) (hsz : 0 < sz)
    (hel : ∀ n cs y, DataW.trod enc Try.prog w base sp held n e cs = some y → ∃ x : α, ∀ b o, (∀ j, j < sz → w.cell? ⟨b, o + j, none⟩ = cs[j]?) → R w b o x)
    {fuel : Nat} {v : Value} {x : DataW H × List MemPlace} (h : DataW.trod enc Try.prog w base sp held fuel t [v] = some x) : ∃ l : List α, SliceAt sz R w v l := by
  rcases Deep.open_slice ht h with ⟨h1, _⟩ | ⟨a, len, cap, m, n, D, Pl, hcs, _, hl, hm, hmm, _, hx⟩
  · obtain rfl : v = .slice none 0 0 := by simpa using h1
    exact ⟨[], SliceAt.nil⟩
  · obtain rfl : v = .slice (some a) len cap := by simpa using hcs
    have hlm : len ≤ m := by rw [hmm]; split <;> omega
    rw [hc] at hx
    obtain ⟨f, hf⟩ := Deep.choose_lt (α := α) (n := len) (p := fun i x => ∃ cs', w.cells? base (a.add (i * sz)) sz = some cs' ∧ ∀ b o, (∀ j, j < sz → w.cell? ⟨b, o + j, none⟩ = cs'[j]?) → R w b o x) (fun i hi => by
      obtain ⟨cs', h1, h2⟩ := hx i (by omega)
      obtain ⟨x, hR⟩ := hel _ _ _ h2
      exact ⟨x, cs', h1, hR⟩)
    refine ⟨(List.range len).map f, some a, cap, by simp, by simpa using hl, by simpa [maxLen] using hm, fun i hi => ?_⟩
    have hi' : i < len := by simpa using hi
    obtain ⟨b, o, s⟩ := a
    have hs : s = none := by
      obtain ⟨cs0, h1, _⟩ := hf 0 (by omega)
      obtain ⟨_, hl0, h2⟩ := World.cells?_some h1
      have h3 := h2 0 hsz
      rw [Nat.zero_mul] at h3
      have h4 : w.cell? ⟨b, o, s⟩ = cs0[0]? := by simpa [Addr.add] using h3
      rw [List.getElem?_eq_getElem (by omega)] at h4
      exact spot_none h4
    subst hs
    obtain ⟨cs', h1, hR⟩ := hf i hi'
    refine ⟨b, o, rfl, ?_⟩
    have e1 : ((List.range len).map f)[i] = f i := by simp
    rw [e1]
    refine hR b (o + i * sz) fun j hj => ?_
    have h2 := (World.cells?_some h1).2.2 j hj
    rw [add_none, add_none] at h2
    exact h2
instance : Inhabited Letter := ⟨⟨0, 0, true⟩⟩
instance : Inhabited Alphabet := ⟨⟨⟨#[]⟩, []⟩⟩
instance : Inhabited Spelling := ⟨⟨0, ⟨#[]⟩⟩⟩
theorem cellsInt : Try.prog.cellsOf 3 = 1 := by kernel_rfl
theorem cellsU8 : Try.prog.cellsOf 5 = 1 := by kernel_rfl
theorem cellsBool : Try.prog.cellsOf 4 = 1 := by kernel_rfl
theorem cellsString : Try.prog.cellsOf 9 = 1 := by kernel_rfl
theorem cellsLetter : Try.prog.cellsOf 40 = 3 := by kernel_rfl
theorem cellsAlphabet : Try.prog.cellsOf 38 = 2 := by kernel_rfl
theorem cellsSpelling : Try.prog.cellsOf 42 = 2 := by kernel_rfl
theorem cellsBook : Try.prog.cellsOf 25 = 3 := by kernel_rfl
theorem cellsLetters : Try.prog.cellsOf 36 = 1 := by kernel_rfl
theorem cellsAlphabets : Try.prog.cellsOf 22 = 1 := by kernel_rfl
theorem cellsSpellings : Try.prog.cellsOf 23 = 1 := by kernel_rfl
theorem wf_i64 {n : Int} (h : (Lit.int .i64 n).wf = true) : I64 n := by
  simpa [Lit.wf, IntKind.min, IntKind.max, IntKind.signed, IntKind.bits, I64] using h
theorem wf_u8 {n : Int} (h : (Lit.int .u8 n).wf = true) : U8 n := by
  simpa [Lit.wf, IntKind.min, IntKind.max, IntKind.signed, IntKind.bits, U8] using h
theorem letter_of {n : Nat} {cs : List Value} {y : DataW H × List MemPlace} (h : DataW.trod enc Try.prog w base sp held n 40 cs = some y) :
    ∃ x : Letter, cs = [.int .u8 x.c, .int .i64 x.sounds, .bool x.silent] ∧ U8 x.c ∧ I64 x.sounds := by
  obtain ⟨y0, y1, y2, m, -, hl, h0, h1, h2⟩ := Deep.trod_struct3 Try.underlying40 h
  rw [cellsLetter] at hl
  obtain ⟨c0, c1, c2, rfl⟩ := three_of hl
  simp only [cellsU8, cellsInt, cellsBool, List.drop_zero, List.drop_succ_cons, List.take_succ_cons, List.take_zero] at h0 h1 h2
  obtain ⟨a, ea, -, wa⟩ := DataW.trod_int Try.underlying5 h0
  obtain ⟨b, eb, -, wb⟩ := DataW.trod_int Try.underlying3 h1
  obtain ⟨c, ec, -⟩ := DataW.trod_bool Try.underlying4 h2
  simp only [List.cons.injEq, and_true] at ea eb ec
  subst ea eb ec
  exact ⟨⟨a, b, c⟩, rfl, wf_u8 wa, wf_i64 wb⟩
theorem letters_of {fuel : Nat} {v : Value} {x : DataW H × List MemPlace} (h : DataW.trod enc Try.prog w base sp held fuel 36 [v] = some x) : ∃ l, LettersAt w v l :=
  slice_of Try.underlying36 cellsLetter (by decide) (fun n cs y hy => by
    obtain ⟨x, rfl, hu, hi⟩ := letter_of hy
    refine ⟨x, fun b o hc => ⟨?_, ?_, ?_, hu, hi⟩⟩
    · simpa using hc 0 (by decide)
    · simpa using hc 1 (by decide)
    · simpa using hc 2 (by decide)) h
theorem alphabet_of {n : Nat} {cs : List Value} {y : DataW H × List MemPlace} (h : DataW.trod enc Try.prog w base sp held n 38 cs = some y) :
    ∃ (x : Alphabet) (u : Value), cs = [.string x.name, u] ∧ x.name.size ≤ 9223372036854775807 ∧ LettersAt w u x.letters := by
  obtain ⟨y0, y1, m, -, hl, h0, h1⟩ := trod_struct2 Try.underlying38 h
  rw [cellsAlphabet] at hl
  obtain ⟨c0, c1, rfl⟩ := two_of hl
  simp only [cellsString, cellsLetters, List.drop_zero, List.drop_succ_cons, List.take_succ_cons, List.take_zero] at h0 h1
  obtain ⟨s, es, -, hs⟩ := DataW.trod_string Try.underlying9 h0
  obtain ⟨l, hll⟩ := letters_of h1
  simp only [List.cons.injEq, and_true] at es
  subst es
  exact ⟨⟨s, l⟩, c1, rfl, by simpa [maxLen] using hs, hll⟩
theorem alphabets_of {fuel : Nat} {v : Value} {x : DataW H × List MemPlace} (h : DataW.trod enc Try.prog w base sp held fuel 22 [v] = some x) : ∃ l, AlphabetsAt w v l :=
  slice_of Try.underlying22 cellsAlphabet (by decide) (fun n cs y hy => by
    obtain ⟨x, u, rfl, hs, hl⟩ := alphabet_of hy
    refine ⟨x, fun b o hc => ⟨?_, hs, u, ?_, hl⟩⟩
    · simpa using hc 0 (by decide)
    · simpa using hc 1 (by decide)) h
theorem spelling_of {n : Nat} {cs : List Value} {y : DataW H × List MemPlace} (h : DataW.trod enc Try.prog w base sp held n 42 cs = some y) :
    ∃ x : Spelling, cs = [.int .i64 x.alphabet, .string x.text] ∧ I64 x.alphabet ∧ x.text.size ≤ 9223372036854775807 := by
  obtain ⟨y0, y1, m, -, hl, h0, h1⟩ := trod_struct2 Try.underlying42 h
  rw [cellsSpelling] at hl
  obtain ⟨c0, c1, rfl⟩ := two_of hl
  simp only [cellsString, cellsInt, List.drop_zero, List.drop_succ_cons, List.take_succ_cons, List.take_zero] at h0 h1
  obtain ⟨a, ea, -, wa⟩ := DataW.trod_int Try.underlying3 h0
  obtain ⟨s, es, -, hs⟩ := DataW.trod_string Try.underlying9 h1
  simp only [List.cons.injEq, and_true] at ea es
  subst ea es
  exact ⟨⟨a, s⟩, rfl, wf_i64 wa, by simpa [maxLen] using hs⟩
theorem spellings_of {fuel : Nat} {v : Value} {x : DataW H × List MemPlace} (h : DataW.trod enc Try.prog w base sp held fuel 23 [v] = some x) : ∃ l, SpellingsAt w v l :=
  slice_of Try.underlying23 cellsSpelling (by decide) (fun n cs y hy => by
    obtain ⟨x, rfl, hi, hs⟩ := spelling_of hy
    refine ⟨x, fun b o hc => ⟨?_, ?_, hi, hs⟩⟩
    · simpa using hc 0 (by decide)
    · simpa using hc 1 (by decide)) h
set_option maxRecDepth 100000 in
/-- A BOOK -/
theorem book_of {r : Reach} {b0 : Nat} {v : Value} {d : DataW H} {ps : List MemPlace} (hval : Value.okWide Try.prog w r b0 25 v) (hd : DataW.Trod enc Try.prog w base sp held 25 v d ps) : ∃ b, BookAt w v b := by
  simp only [Value.okWide, Try.underlying25] at hval
  obtain ⟨cs, rfl, -, -⟩ := hval
  obtain ⟨fuel, h⟩ := hd
  simp only [Value.cells] at h
  obtain ⟨y0, y1, y2, m, -, hl, h0, h1, h2⟩ := Deep.trod_struct3 Try.underlying25 h
  rw [cellsBook] at hl
  obtain ⟨cs⟩ := cs
  obtain ⟨c0, c1, c2, rfl⟩ := three_of hl
  simp only [cellsInt, cellsAlphabets, cellsSpellings, List.drop_zero, List.drop_succ_cons, List.take_succ_cons, List.take_zero] at h0 h1 h2
  obtain ⟨a, ea, -, wa⟩ := DataW.trod_int Try.underlying3 h0
  obtain ⟨al, hal⟩ := alphabets_of h1
  obtain ⟨sl, hsl⟩ := spellings_of h2
  simp only [List.cons.injEq, and_true] at ea
  subst ea
  exact ⟨⟨a, al, sl⟩, c1, c2, rfl, wf_i64 wa, hal, hsl⟩
/-- a place that was there is as it was -/
theorem same_of_ext {W W' : World} (h : Ext W W') {p : MemPlace} (hp : p.block < W.heap.size) : W.sameAt W' p := by
  cases p with
  | cell b off =>
    show W'.cell? ⟨b, off, none⟩ = W.cell? ⟨b, off, none⟩
    exact Below.cell (p := ⟨b, off, none⟩) h hp
  | map b =>
    show W'.heap[b]? = W.heap[b]?
    exact Below.block h b hp
end
end Go.Proofs.Ytoifmphpeflliaa

namespace Go.Proofs.Ytoifmphpeflliaa
open Go.ChangeShapes Go.WideShapes Go.ChangeAt Go.RowKit
section
variable {H : Type} {enc : TypeId × Value → H} {P : Program}
/-- a call that lets all that was there be, and answers as it should, keeps a law's word -/
theorem post_ext {f : Func} {s : ChangeSpec} {apart fresh handsOn again : Bool} {W W' : World} {args : Array Value} {v : Value} {ds gs : List (DataW H)} {before pa pv : List MemPlace}
    (hW : DataW.Whole enc P f.params.toList s.vars apart W args.toList ds gs before)
    (hres : ∀ (b : Nat) (sp : Nat → Bool) (hd : Bool), DataW.TrodAll enc P W' b sp hd f.resultTypes.toList (v.resultList f.resultTypes.size) (s.fn H (ds ++ gs)).results [])
    (hargs : ∀ sp : Nat → Bool, (∀ p ∈ before, sp p.block = true) → DataW.TrodAll enc P W' 0 sp true f.params.toList args.toList (s.fn H (ds ++ gs)).args pa)
    (hvars : ∀ sp : Nat → Bool, (∀ p ∈ before, sp p.block = true) → DataW.TrodVars enc P W' sp s.vars (s.fn H (ds ++ gs)).vars pv)
    (hps : before = pa ++ pv) (hx : Ext W W')
    (hok : ∀ (j : Nat) (t : TypeId) (r : Value), f.resultTypes[j]? = some t → (v.resultList f.resultTypes.size)[j]? = some r → Value.okWide P W' .any 0 t r) :
    s.post enc P f apart fresh handsOn again W args v W' := by
  have hlt := hW.lt
  have hold : ∀ p ∈ before, (fun b => decide (b < W.heap.size)) p.block = true := fun p hp => decide_eq_true (hlt p hp)
  have hin : ∀ p ∈ before, p ∈ pa ∨ p ∈ pv := fun p hp => List.mem_append.1 (hps ▸ hp)
  refine ⟨ds, gs, before, [], pa, pv, hW, hres _ _ _, hargs _ hold, hvars _ hold, World.keptBut_mono (fun p (hp : p ∈ before) => ⟨hp, .inr (hin p hp)⟩) (Below.frame hx _), fun _ => ⟨hok, ?_⟩⟩
  obtain ⟨_, _, _, _, _, hz, hn⟩ := hW
  refine ⟨_, _, pa ++ pv, ⟨[] ++ pa, pv, trodAll_append (hargs _ (fun _ _ => rfl)) (hres _ _ _), hvars _ (fun _ _ => rfl), by simp, fun b off hp => ?_, fun ha => by rw [← hps]; exact hn ha⟩, fun p hp _ => by rw [hps]; exact hp⟩
  rw [← hps] at hp
  rw [hx.frozen (p := ⟨b, off, none⟩) (hlt _ hp)]
  exact hz b off hp
end
end Go.Proofs.Ytoifmphpeflliaa
