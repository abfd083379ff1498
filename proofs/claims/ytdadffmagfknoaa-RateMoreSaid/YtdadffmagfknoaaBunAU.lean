/-
  HOUSES WITH OTHER ENTRIES: whether they are valid, their rates and truths; what Wrong names, held against lists. Plain.
  A ROW OF ENTRIES OF THE CALL's OWN.
-/
import Derived.Test.YtdadffmagfknoaaBunAN
import Derived.Test.YtdadffmagfknoaaBunAO
import Derived.Test.YtdadffmagfknoaaBunAS
import Derived.Test.YtdadffmagfknoaaBunAL
import Derived.Test.YtdadffmagfknoaaBunAA
import Derived.Test.YtdadffmagfknoaaBunAE
namespace Go.Proofs.Ytdadffmagfknoaa
set_option linter.unusedSimpArgs false
set_option linter.unusedVariables false
open Go.RowKit
set_option linter.unusedVariables false

theorem inM_of {x lo hi : Int} (h : lo ≤ x ∧ x ≤ hi) : ¬ inM x lo hi = false := fun e => by have := (inM_iff x lo hi).2 h; rw [e] at this; cases this
theorem raErr_valid {h : House} (hV : ValidH h) (ha : (agtErr h).2 = 0) : raErr h = 0 := by
  have e3 : firstErr spanE h.rates = (0, 0) := firstErr_zero spanE _ _ fun s hs p => by
    have := hV.rates s hs
    unfold spanE spanErrM
    rw [if_neg, if_neg (by omega)]
    rintro (e | e)
    · exact inM_of (by omega) e
    · exact inM_of (by omega) e
  have e6 : entErr h = (0, 0) := by
    unfold entErr listErr
    rw [if_neg (by have := hV.entries; omega)]
    exact firstErr_zero _ _ _ fun e he p => by
      have := hV.entry e he
      unfold rentE entErrM
      rw [if_neg, if_neg]
      · rintro (g | g)
        · exact inM_of (by omega) g
        · exact inM_of (by omega) g
      · rintro (g | g)
        · exact inM_of (by omega) g
        · exact inM_of (by omega) g
  unfold raErr raCheck
  rw [if_neg (inM_of hV.days), if_neg (by rw [hV.many]; exact fun g => g rfl), e3, if_neg (by simp), if_neg (inM_of hV.step), if_neg (by rw [ha]; simp), e6, if_neg (by simp)]
theorem agtErr_of {h : House} (he : raErr h = 0) : (agtErr h).2 = 0 := by
  unfold raErr raCheck at he
  split at he
  · cases he
  split at he
  · cases he
  split at he
  · rename_i h3; exact absurd he h3
  split at he
  · cases he
  split at he
  · rename_i h5; exact absurd he h5
  · rename_i h5; exact Decidable.not_not.1 h5
/-- .. with other entries -/
def withE (h : House) (es : List Ent) : House := ⟨h.days, h.rates, h.step, h.agents, es⟩
def EntOk (h : House) (e : Ent) : Prop := (0 ≤ e.agent ∧ e.agent < h.agents.length) ∧ (0 ≤ e.day ∧ e.day < h.days) ∧ (0 ≤ e.near ∧ e.near ≤ 99) ∧ -1 ≤ e.far ∧ e.far ≤ 198
theorem withE_valid {h : House} (hV : ValidH h) {es : List Ent} (hl : es.length ≤ 5) (hes : ∀ e ∈ es, EntOk h e) : ValidH (withE h es) :=
  ⟨hV.days, hV.many, hV.rates, hV.step, hV.agents, hV.agent, hl, hes⟩
theorem withE_err {h : House} (he : raErr h = 0) {es : List Ent} (hl : es.length ≤ 5) (hes : ∀ e ∈ es, EntOk h e) : raErr (withE h es) = 0 :=
  raErr_valid (h := withE h es) (withE_valid (validH_of he) hl hes) (show (agtErr h).2 = 0 from agtErr_of he)
theorem ratesTo_withE (h : House) (es : List Ent) : ∀ (n d : Nat) (r : List Int), ratesTo (withE h es) n d r = ratesTo h n d r
  | 0, d, r => rfl
  | n + 1, d, r => by
    have h1 : loAt (withE h es) d r = loAt h d r := rfl
    have h2 : hiAt (withE h es) d r = hiAt h d r := rfl
    simp only [ratesTo, h1, h2, ratesTo_withE h es n]
theorem ratesL_withE (h : House) (es : List Ent) : ratesL (withE h es) = ratesL h := ratesTo_withE h es _ _ _
theorem okAll_iff {h : House} {out : Nat → Bool} {q : List Int} : okAll h out q = true ↔ ∀ i, i < h.entries.length → out i = false → toldE (entAt h i) = true → agreesM h (entAt h i) q = true := by
  unfold okAll
  rw [List.all_eq_true]
  constructor
  · intro k i hi h1 h2
    have := k i (List.mem_range.2 hi)
    rw [h1, h2] at this
    simpa using this
  · intro k i hi
    have hi := List.mem_range.1 hi
    cases h1 : out i
    · cases h2 : toldE (entAt h i)
      · rfl
      · simpa using k i hi h1 h2
    · rfl
/-- an entry is untold, or right -/
def fineE (h : House) (q : List Int) (e : Ent) : Bool := !toldE e || agreesM h e q
theorem okAll_list {h : House} {q : List Int} (es : List Ent) : okAll (withE h es) (outB 0) q = es.all (fineE h q) := by
  rw [Bool.eq_iff_iff, okAll_iff, List.all_eq_true]
  constructor
  · intro k e he
    obtain ⟨i, hi, rfl⟩ := List.getElem_of_mem he
    have := k i hi (by unfold outB; exact Nat.zero_testBit i)
    have e2 : entAt (withE h es) i = es[i] := by unfold entAt withE; simp [List.getD_eq_getElem?_getD, List.getElem?_eq_getElem hi]
    rw [e2] at this
    unfold fineE
    cases ht : toldE es[i]
    · rfl
    · have := this ht
      simp only [Bool.not_true, Bool.false_or]
      exact this
  · intro k i hi _ ht
    have hi' : i < es.length := hi
    have e2 : entAt (withE h es) i = es[i] := by unfold entAt withE; simp [List.getD_eq_getElem?_getD, List.getElem?_eq_getElem hi']
    rw [e2] at ht ⊢
    have := k _ (List.getElem_mem hi')
    unfold fineE at this
    rw [ht] at this
    simp only [Bool.not_true, Bool.false_or] at this
    exact this
theorem truL_list {h : House} (hV : ValidH h) {es : List Ent} (hl : es.length ≤ 5) (hes : ∀ e ∈ es, EntOk h e) : truL (withE h es) (outB 0) = (ratesL h).filter fun q => es.all (fineE h q) := by
  rw [truL_all (withE_valid hV hl hes), ratesL_withE]
  exact List.filter_congr fun q _ => okAll_list es
/-- the first so many entries but some -/
def butTo (h : House) (but : List Int) (k : Nat) : List Ent := ((List.range k).filter fun (i : Nat) => !decide ((i : Int) ∈ but)).map (entAt h)
theorem butTo_succ (h : House) (but : List Int) (k : Nat) : butTo h but (k + 1) = butTo h but k ++ if decide ((k : Int) ∈ but) = true then [] else [entAt h k] := by
  unfold butTo
  rw [List.range_succ, List.filter_append, List.map_append]
  congr 1
  by_cases e : (k : Int) ∈ but
  · simp [e]
  · simp [e]
theorem butTo_len (h : House) (but : List Int) (k : Nat) : (butTo h but k).length ≤ k := by
  unfold butTo
  rw [List.length_map]
  have := List.length_filter_le (fun (i : Nat) => !decide ((i : Int) ∈ but)) (List.range k)
  simpa using this
def butL (h : House) (but : List Int) : List Ent := butTo h but h.entries.length
theorem butL_mem {h : House} {but : List Int} {e : Ent} (he : e ∈ butL h but) : e ∈ h.entries := by
  unfold butL butTo at he
  obtain ⟨i, hi, rfl⟩ := List.mem_map.1 he
  exact entAt_mem (List.mem_range.1 (List.mem_filter.1 hi).1)
theorem but_ok {h : House} (hV : ValidH h) (but : List Int) : (butL h but).length ≤ 5 ∧ ∀ e ∈ butL h but, EntOk h e :=
  ⟨Nat.le_trans (butTo_len h but _) hV.entries, fun e he => hV.entry e (butL_mem he)⟩
theorem truL_but {h : House} (hV : ValidH h) (but : List Int) : truL (withE h (butL h but)) (outB 0) = truL h (outL but) := by
  obtain ⟨h1, h2⟩ := but_ok hV but
  rw [truL_list hV h1 h2, truL_all hV]
  refine List.filter_congr fun q _ => ?_
  rw [Bool.eq_iff_iff, okAll_iff, List.all_eq_true]
  constructor
  · intro k i hi ho ht
    have := k (entAt h i) (List.mem_map.2 ⟨i, List.mem_filter.2 ⟨List.mem_range.2 hi, by unfold outL at ho; rw [ho]; rfl⟩, rfl⟩)
    unfold fineE at this
    rw [ht] at this
    simpa using this
  · intro k e he
    obtain ⟨i, hi, rfl⟩ := List.mem_map.1 he
    obtain ⟨h3, h4⟩ := List.mem_filter.1 hi
    have := k i (List.mem_range.1 h3) (by unfold outL; simpa using h4)
    unfold fineE
    cases ht : toldE (entAt h i)
    · rfl
    · simp only [Bool.not_true, Bool.false_or]; exact this ht
theorem rcmpM_neg (a b : Int) : cmpM a b < 0 ↔ a < b := by unfold cmpM; split <;> (try split) <;> omega
theorem rlessM_cmp : ∀ (l m : List Int), l.length = m.length → (lessM l m = true ↔ cmpL l m < 0)
  | [], [], _ => by simp [lessM, cmpL]
  | x :: l, y :: m, h => by
    have ih := rlessM_cmp l m (by simpa using h)
    unfold lessM cmpL
    by_cases e : x = y
    · subst e; rw [if_pos rfl, if_pos (cmpM_self x)]; exact ih
    · have e2 : ¬ cmpM x y = 0 := fun h0 => e (cmpM_zero.1 h0)
      rw [if_neg e, if_neg e2, rcmpM_neg]; simp
theorem rfewerM_cmp (l m : List Int) : fewerM l m = true ↔ cmpSS l m < 0 := by
  unfold fewerM cmpSS
  by_cases h : l.length = m.length
  · rw [if_pos h, if_pos h]; exact rlessM_cmp l m h
  · rw [if_neg h, if_neg h, rcmpM_neg]; simp
theorem rrising_of {n : Nat} : ∀ (l : List Nat) (last : Int), (∀ i ∈ l, i < n) → l.Pairwise (· < ·) → (∀ i ∈ l, last < (i : Int)) → risingM n last (ints l) = true
  | [], _, _, _, _ => rfl
  | x :: l, last, h1, h2, h3 => by
    have e : ints (x :: l) = (x : Int) :: ints l := rfl
    rw [e, risingM]
    have h4 := List.pairwise_cons.1 h2
    rw [rrising_of l x (fun i hi => h1 i (by simp [hi])) h4.2 (fun i hi => by have := h4.1 i hi; omega)]
    have := h1 x (by simp)
    have := h3 x (by simp)
    simp; omega
/-- what First returns without some entries -/
theorem first_but {h : House} (he : raErr h = 0) (L : List Nat) : firstErrM (withE h (butL h (ints L))) = if trueP h (bitsM L) = true then 0 else 8 := by
  have hV := validH_of he
  obtain ⟨h1, h2⟩ := but_ok hV (ints L)
  unfold firstErrM
  rw [if_neg (by rw [withE_err he h1 h2]; decide), truL_but hV, trueP_list]
  by_cases e : truL h (outL (ints L)) = []
  · rw [if_pos e, e]; rfl
  · rw [if_neg e, if_pos (by simpa using e)]
theorem wrong_first {h : House} (he : raErr h = 0) (hw : wrongErr h = 0) : firstErrM (withE h (butL h (ints (wrongL h)))) = 0 ∧ risingM h.entries.length (-1) (ints (wrongL h)) = true := by
  have hn := (validH_of he).entries
  obtain ⟨⟨s, h1, h2, h3⟩, -⟩ := wrong_ok he hw
  have h32 := two_pow_lt32 hn
  obtain ⟨-, hs⟩ := parts_has ⟨h.entries.length, by omega⟩ ⟨s, by omega⟩ h1
  simp only at hs
  rw [first_but he, ← h3, hs, if_pos h2]
  refine ⟨rfl, rrising_of _ _ (fun i hi => ?_) (rmembers_sorted s) (fun i hi => by omega)⟩
  have hb := (rmem_members.1 hi).1
  rcases Nat.lt_or_ge i h.entries.length with h4 | h4
  · exact h4
  · rw [Nat.testBit_lt_two_pow (Nat.lt_of_lt_of_le h1 (Nat.pow_le_pow_right (by decide) h4))] at hb; cases hb
theorem wrong_others {h : House} (he : raErr h = 0) {s : Nat} (hs : s < 2 ^ h.entries.length) :
    firstErrM (withE h (butL h (ints (membersM s)))) = (if trueP h s = true then 0 else 8) ∧ (wrongErr h = 0 → trueP h s = true → fewerM (ints (membersM s)) (ints (wrongL h)) = false) ∧ (wrongErr h ≠ 0 → wrongErr h = 9 ∧ wrongL h = [] ∧ trueP h s = false) := by
  have hn := (validH_of he).entries
  have h32 := two_pow_lt32 hn
  obtain ⟨-, hb⟩ := parts_has ⟨h.entries.length, by omega⟩ ⟨s, by omega⟩ hs
  simp only at hb
  rw [first_but he, hb]
  refine ⟨rfl, fun hw hp => ?_, fun hw => ?_⟩
  · have := (wrong_ok he hw).2 s hs hp
    cases hf : fewerM (ints (membersM s)) (ints (wrongL h))
    · rfl
    · exact absurd ((rfewerM_cmp _ _).1 hf) this
  · obtain ⟨h1, h2, h3⟩ := wrong_none he hw
    exact ⟨h1, h2, h3 s hs⟩
end Go.Proofs.Ytdadffmagfknoaa

namespace Go.Proofs.Ytdadffmagfknoaa
set_option linter.unusedSimpArgs false
set_option linter.unusedVariables false
open Go.RowKit
set_option linter.unusedVariables false

def cellsN (l : List Ent) : List Value := l.flatMap fun e => [.int .i64 e.agent, .int .i64 e.day, .int .i64 e.near, .int .i64 e.far]
theorem cellsN_len (l : List Ent) : (cellsN l).length = l.length * 4 := by
  induction l with
  | nil => rfl
  | cons x l ih =>
    have : cellsN (x :: l) = [.int .i64 x.agent, .int .i64 x.day, .int .i64 x.near, .int .i64 x.far] ++ cellsN l := rfl
    rw [this, List.length_append, ih, List.length_cons]; simp; omega
theorem cellsN_get (l : List Ent) (i : Nat) (h : i < l.length) : (cellsN l)[i * 4]? = some (.int .i64 l[i].agent) ∧ (cellsN l)[i * 4 + 1]? = some (.int .i64 l[i].day) ∧ (cellsN l)[i * 4 + 2]? = some (.int .i64 l[i].near) ∧ (cellsN l)[i * 4 + 3]? = some (.int .i64 l[i].far) := by
  induction l generalizing i with
  | nil => simp at h
  | cons x l ih =>
    cases i with
    | zero => simp [cellsN]
    | succ i =>
      have := ih i (by simpa using h)
      have e : (i + 1) * 4 = i * 4 + 4 := by omega
      rw [e]
      simpa [cellsN] using this
theorem cellsN_app (l r : List Ent) : cellsN (l ++ r) = cellsN l ++ cellsN r := by simp [cellsN]
theorem cellsN_one (l : List Ent) : ∀ u ∈ cellsN l, u.oneCell' = true := fun u hu => by
  obtain ⟨e, -, he⟩ := List.mem_flatMap.1 hu
  simp only [List.mem_cons, List.not_mem_nil, or_false] at he
  rcases he with rfl | rfl | rfl | rfl <;> rfl
def RowN (base : Nat) (l : List Ent) (u : Value) (w : World) : Prop := w.ownsRow base 58 4 u l.length (cellsN l)
theorem RowN.ext {base : Nat} {l : List Ent} {u : Value} {w w' : World} (h : RowN base l u w) (hx : Ext w w') : RowN base l u w' := Ext.owns h hx
theorem RowN.nil {base : Nat} {w : World} : RowN base [] (.slice none 0 0) w := World.ownsRow_nil _ _ _ _
theorem RowN.snoc {base : Nat} {l : List Ent} {e : Ent} {u : Value} {w : World} (h : w.ownsRow base 58 4 u (l.length + 1) (cellsN l ++ [.int .i64 e.agent, .int .i64 e.day, .int .i64 e.near, .int .i64 e.far])) : RowN base (l ++ [e]) u w := by
  unfold RowN
  rw [cellsN_app, List.length_append]
  exact h
def EntI (e : Ent) : Prop := I64 e.agent ∧ I64 e.day ∧ I64 e.near ∧ I64 e.far
theorem EntOk.i {h : House} (hV : ValidH h) {e : Ent} (he : EntOk h e) : EntI e := by
  obtain ⟨h1, h2, h3, h4⟩ := he
  have := hV.agents
  have := hV.days
  unfold EntI I64
  omega
theorem RowN.at_ {base : Nat} {l : List Ent} {u : Value} {w : World} (h : RowN base l u w) (hI : ∀ e ∈ l, EntI e) : EntriesAt w u l := by
  have hcells := fun g hg => h.cells (g := g) hg
  rcases h.2 with ⟨rfl, hn⟩ | ⟨g, cap, cur, rfl, hb, hg, hnc, hcm, hcs, htake⟩
  · have : l = [] := List.eq_nil_of_length_eq_zero hn
    subst this; exact SliceAt.nil
  · refine ⟨_, _, rfl, hnc, by simpa [maxLen] using hcm, fun i hi => ⟨g, 0, rfl, ?_⟩⟩
    obtain ⟨c0, c1, c2, c3⟩ := cellsN_get l i hi
    have r0 := hcells g rfl _ _ c0
    have r1 := hcells g rfl _ _ c1
    have r2 := hcells g rfl _ _ c2
    have r3 := hcells g rfl _ _ c3
    have ea : ∀ j, (⟨g, 0, none⟩ : Addr).add j = ⟨g, 0 + j, none⟩ := fun j => by unfold Addr.add; split <;> simp_all
    rw [ea] at r0 r1 r2 r3
    exact ⟨r0, r1, r2, r3, hI _ (List.getElem_mem hi)⟩
theorem RowN.set {base : Nat} {l : List Ent} {u : Value} {w : World} (h : RowN base l u w) {p : Addr} (hp : p.block < base) (x : Value) : RowN base l u (w.setCell p x) := by
  refine ⟨h.1, ?_⟩
  rcases h.2 with h2 | ⟨g, cap, cur, rfl, hb, hg, r⟩
  · exact .inl h2
  · exact .inr ⟨g, cap, cur, rfl, hb, (Below.heap_setCell w p x g (by omega)).trans hg, r⟩
theorem four_new (w : World) (a b c d : Value) (t : TypeId) : ∀ j u, [a, b, c, d][j]? = some u → (w.alloc (.cells #[a, b, c, d] t)).cell? ((⟨w.heap.size, 0, none⟩ : Addr).add j) = some u := by
  intro j u hj
  rw [show (⟨w.heap.size, 0, none⟩ : Addr).add j = ⟨w.heap.size, 0 + j, none⟩ by unfold Addr.add; split <;> simp_all]
  simpa [go_sem] using hj
theorem infoEnt : (Try.prog.info? 58).map (fun i => (i.zero, i.size, i.bytes)) = some (some (.agg #[.int .i64 0, .int .i64 0, .int .i64 0, .int .i64 0]), 4, 32) := by kernel_rfl
end Go.Proofs.Ytdadffmagfknoaa
