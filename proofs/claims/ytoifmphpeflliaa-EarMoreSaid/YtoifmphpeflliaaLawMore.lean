/-
  EarMore returns true: a letter that can stand for more makes no spelling less, none Never alike that was not, and no more odd, for any book, letter and spellings.
-/
import Derived.Test.YtoifmphpeflliaaBunM
import Derived.Laws.OwnMore
import Derived.Test.YtoifmphpeflliaaBunU
import Derived.Test.YtoifmphpeflliaaBunD
import Derived.Maps.AppendAt
import Derived.Test.YtoifmphpeflliaaBunG
import Derived.Deep.CutBlock
import Derived.Outline
import Derived.RegionTactic
import Derived.BigRegion
import Derived.Deep.DeepCutAuto
import Derived.Test.YtoifmphpeflliaaBunQ
import Derived.Test.YtoifmphpeflliaaBunO
namespace Go.Proofs.Ytoifmphpeflliaa
open Go.RowKit
set_option linter.unusedVariables false
namespace Facts.App
variable {P : Program} {ops : Array Oper}

/-- a later world in which new rows, from a block on, may have been written behind their first n cells -/
structure Grew (n0 n : Nat) (w w' : World) : Prop where
  os : w'.os = w.os
  tape : w'.tape = w.tape
  output : w'.output = w.output
  size : w.heap.size ≤ w'.heap.size
  block : ∀ k, k < w.heap.size → w'.heap[k]? = w.heap[k]? ∨ (n0 ≤ k ∧ ∃ cur cur' e, w.heap[k]? = some (.cells cur e (0, 0)) ∧ w'.heap[k]? = some (.cells cur' e (0, 0)) ∧ cur'.size = cur.size ∧ cur'.toList.take n = cur.toList.take n)
theorem Grew.of_ext {n0 n : Nat} {w w' : World} (h : Ext w w') : Grew n0 n w w' := ⟨Below.os h, Below.tape h, Below.output h, Below.size h, fun k hk => .inl (Below.block h k hk)⟩
theorem Grew.trans {n0 n : Nat} {a b c : World} (h : Grew n0 n a b) (k : Grew n0 n b c) : Grew n0 n a c :=
  ⟨k.os.trans h.os, k.tape.trans h.tape, k.output.trans h.output, Nat.le_trans h.size k.size, fun i hi => by
    rcases h.block i hi with h1 | ⟨h0, c1, c2, e, g1, g2, g3, g4⟩
    · rcases k.block i (Nat.lt_of_lt_of_le hi h.size) with h2 | ⟨h0, c1, c2, e, g1, g2, g3, g4⟩
      · exact .inl (h2.trans h1)
      · exact .inr ⟨h0, c1, c2, e, by rw [← h1]; exact g1, g2, g3, g4⟩
    · rcases k.block i (Nat.lt_of_lt_of_le hi h.size) with h2 | ⟨-, c3, c4, e', f1, f2, f3, f4⟩
      · exact .inr ⟨h0, c1, c2, e, g1, by rw [h2]; exact g2, g3, g4⟩
      · rw [g2] at f1
        simp only [Option.some.injEq, Obj.cells.injEq, and_true] at f1
        obtain ⟨rfl, rfl⟩ := f1
        exact .inr ⟨h0, c1, c4, e, g1, f2, f3.trans g3, f4.trans g4⟩⟩
theorem Grew.below {n0 n : Nat} {w w' : World} (h : Grew n0 n w w') {u : World} (hu : u.heap.size = n0) (hx : Ext u w) : Ext u w' := by
  subst hu
  exact ⟨h.os.trans (Below.os hx), h.tape.trans (Below.tape hx), h.output.trans (Below.output hx), Nat.le_trans (Below.size hx) h.size, fun k hk => by
    rcases h.block k (Nat.lt_of_lt_of_le hk (Below.size hx)) with h1 | ⟨h0, -⟩
    · exact h1.trans (Below.block hx k hk)
    · omega⟩
theorem two_grew (n0 n : Nat) : Piv.Two Ext (Grew n0 n) :=
  ⟨fun _ _ h => Grew.of_ext h, fun _ _ _ h k => h.trans k, fun _ _ _ h k => Grew.trans h k, fun _ => Ext.refl _, fun w => ext_drew w⟩
/-- a row of so many cells at most is kept -/
theorem Grew.owns {n0 n : Nat} {w w' : World} (h : Grew n0 n w w') {base size m : Nat} {e : TypeId} {v : Value} {xs : List Value} (ho : w.ownsRow base e size v m xs) (hm : m * size ≤ n) : w'.ownsRow base e size v m xs := by
  refine ⟨ho.1, ?_⟩
  rcases ho.2 with h1 | ⟨g, cap, cur, rfl, hb, hg, hnc, hcm, hcs, htake⟩
  · exact .inl h1
  · have hlt : g < w.heap.size := (Array.getElem?_eq_some_iff.1 hg).1
    rcases h.block g hlt with h1 | ⟨-, c1, c2, e', g1, g2, g3, g4⟩
    · exact .inr ⟨g, cap, cur, rfl, hb, by rw [h1]; exact hg, hnc, hcm, hcs, htake⟩
    · rw [hg] at g1
      simp only [Option.some.injEq, Obj.cells.injEq, and_true] at g1
      obtain ⟨rfl, rfl⟩ := g1
      refine .inr ⟨g, cap, c2, rfl, hb, g2, hnc, hcm, g3.trans hcs, ?_⟩
      have := congrArg (List.take (m * size)) g4
      rw [List.take_take, List.take_take, Nat.min_eq_left hm] at this
      rw [this]; exact htake
theorem Grew.cell {n0 n : Nat} {w w' : World} (h : Grew n0 n w w') {B j : Nat} {v : Value} (hc : w.cell? ⟨B, j, none⟩ = some v) (hj : j < n) : w'.cell? ⟨B, j, none⟩ = some v := by
  have hlt : B < w.heap.size := cell_lt hc
  rcases h.block B hlt with h1 | ⟨-, c1, c2, e', g1, g2, g3, g4⟩
  · rw [World.cell?_of_block (a := ⟨B, j, none⟩) h1]; exact hc
  · unfold World.cell? at hc ⊢
    simp only [g1] at hc
    simp only [g2]
    have e1 : c1[j]? = some v := by simpa using hc
    have e2 : c2[j]? = c1[j]? := by
      have a1 : c2.toList[j]? = (c2.toList.take n)[j]? := by rw [List.getElem?_take_of_lt hj]
      have a2 : c1.toList[j]? = (c1.toList.take n)[j]? := by rw [List.getElem?_take_of_lt hj]
      rw [← Array.getElem?_toList, ← Array.getElem?_toList, a1, a2, g4]
    simpa [e2] using e1
theorem run_append_grew {w : World} (base : Nat) (t ty e : TypeId) (i : TypeInfo) (z : Value) (size bytes : Nat) (ht : P.underlying t = some (.slice e)) (hi : P.info? e = some i) (hz : i.zero = some z)
    (hsize : i.size = size) (hby : i.bytes = bytes) (hzs : z.cells.size = size) (hsz : 0 < size)
    (v : Value) (n : Nat) (xs : List Value) (hown : w.ownsRow base e size v n xs)
    (a : Addr) (m c : Nat) (news : List Value) (hl : news.length = m * size) (hnews : ∀ j u, news[j]? = some u → w.cell? (a.add j) = some u) (h1 : ∀ u ∈ news, u.oneCell' = true)
    (h63 : n + m ≤ maxLen) (hbytes : (n + m) * bytes ≤ 140737488355328) (hbase : base ≤ w.heap.size) :
    ∃ v' w', (Builtin.append_ #[t, t] ty #[v, .slice (some a) m c]).run P w = .ok v' w' ∧ w'.ownsRow base e size v' (n + m) (xs ++ news) ∧ Grew base (n * size) w w' ∧
      ((∀ g cap, v = .slice (some ⟨g, 0, none⟩) n cap → cap < n + m) → Ext w w') := by
  obtain ⟨v', w', hr, ho, hg, -, -⟩ := run_append_own_at (P := P) w base t ty e i z size bytes ht hi hz hsize hby hzs hsz v n xs hown a m c news hl hnews h1 h63 hbytes hbase
  refine ⟨v', w', hr, ho, ?_⟩
  rcases hown.2 with ⟨rfl, rfl⟩ | ⟨g, cap, cur, rfl, hbg, hg0, hnc, hcm, hcs, htake⟩
  · have hx : Ext w w' := ⟨hg.os, hg.tape, hg.output, hg.size, fun k hk => hg.block k hk (by simp [Value.ownBlock])⟩
    exact ⟨Grew.of_ext hx, fun _ => hx⟩
  · by_cases hroom : n + m ≤ cap
    · obtain ⟨w2, hr2, ho2, hg2⟩ := run_append_fits (P := P) (w := w) base t ty e i size ht hi hsize g n cap xs hown a m c news hl hnews h1 hroom
      rw [hr] at hr2
      simp only [Result.ok.injEq] at hr2
      obtain ⟨rfl, rfl⟩ := hr2
      refine ⟨⟨hg2.os, hg2.tape, hg2.output, hg2.size, fun k hk => ?_⟩, fun hf => by have := hf g cap rfl; omega⟩
      by_cases hkg : k = g
      · subst hkg
        right
        refine ⟨hbg, ?_⟩
        rcases ho2.2 with ⟨he, -⟩ | ⟨g', cap', cur', he, -, hg', -, -, hcs', ht'⟩
        · simp at he
        · simp only [Value.slice.injEq, Option.some.injEq, Addr.mk.injEq, and_true, true_and] at he
          obtain ⟨rfl, rfl⟩ := he
          refine ⟨cur, cur', e, hg0, hg', by rw [hcs, hcs'], ?_⟩
          have e1 := congrArg (List.take (n * size)) ht'
          rw [List.take_take, Nat.min_eq_left (Nat.mul_le_mul_right _ (Nat.le_add_right _ _)), ← hown.1, List.take_left] at e1
          rw [← hown.1, e1, hown.1]; exact htake.symm
      · exact .inl (hg2.block k hk (by simpa using hkg))
    · have hb2 : (n + m) * i.bytes ≤ 140737488355328 := by rw [hby]; exact hbytes
      have hr2 := run_append_grow (P := P) w t ty e i z ht hi hz ⟨g, 0, none⟩ n cap xs (by rw [hsize]; exact hown.1) (hown.cells (g := g) rfl) a m c news (by rw [hsize]; exact hl) hnews (by omega) (by simp only [maxLen] at h63; omega) (growslice_fits (by omega) hb2)
      rw [hr] at hr2
      simp only [Result.ok.injEq] at hr2
      obtain ⟨rfl, rfl⟩ := hr2
      have hx : Ext w (w.drew.alloc (.cells (xs.toArray ++ news.toArray ++ Builtin.zeroCells z.cells (grownCap w (n + m) cap e - (n + m))) e)) := (ext_drew w).alloc _
      exact ⟨Grew.of_ext hx, fun _ => hx⟩
theorem stepG_append_grew {o : Oper} {a : Act} {w : World} {S : Value → World → Prop} (hgd : o.guard = none) (s x : Operand) (t : TypeId)
    (ho : o.op = .call { callee := .builtin .append, args := #[s, x], argTypes := #[t, t] })
    (base : Nat) (e : TypeId) (i : TypeInfo) (z : Value) (size bytes : Nat) (ht : P.underlying t = some (.slice e)) (hi : P.info? e = some i) (hz : i.zero = some z)
    (hsize : i.size = size) (hby : i.bytes = bytes) (hzs : z.cells.size = size) (hsz : 0 < size)
    (v : Value) (n : Nat) (xs : List Value) (hs : a.eval s = v) (hown : w.ownsRow base e size v n xs)
    (ad : Addr) (m c : Nat) (news : List Value) (hx : a.eval x = .slice (some ad) m c) (hl : news.length = m * size) (hnews : ∀ j u, news[j]? = some u → w.cell? (ad.add j) = some u) (h1 : ∀ u ∈ news, u.oneCell' = true)
    (h63 : n + m ≤ maxLen) (hbytes : (n + m) * bytes ≤ 140737488355328) (hbase : base ≤ w.heap.size)
    (h : ∀ v' w', w'.ownsRow base e size v' (n + m) (xs ++ news) → Grew base (n * size) w w' → ((∀ g cap, v = .slice (some ⟨g, 0, none⟩) n cap → cap < n + m) → Ext w w') → S v' w') : stepG P ops o a w S := by
  obtain ⟨v', w', hr, h2, h3, h4⟩ := run_append_grew (P := P) base t o.type e i z size bytes ht hi hz hsize hby hzs hsz v n xs hown ad m c news hl hnews h1 h63 hbytes hbase
  unfold stepG
  have hw : Region.wanted o (yielded ops a.tmps) = true := by unfold Region.wanted; rw [hgd]
  rw [if_pos hw]
  unfold execOp
  simp only [ho, resolve, invoke, builtin, Sem.run_bind, Sem.run_pure, Result.andThen_ok, List.map_toArray, List.map_cons, List.map_nil, hs, hx, hr]
  exact h v' w' h2 h3 h4
/-- onto a row, of nothing -/
theorem stepG_append_none {o : Oper} {a : Act} {w : World} {S : Value → World → Prop} (hgd : o.guard = none) (s x : Operand) (t : TypeId)
    (ho : o.op = .call { callee := .builtin .append, args := #[s, x], argTypes := #[t, t] })
    (base : Nat) (e : TypeId) (i : TypeInfo) (size : Nat) (ht : P.underlying t = some (.slice e)) (hi : P.info? e = some i)
    (v : Value) (n : Nat) (xs : List Value) (hs : a.eval s = v) (hown : w.ownsRow base e size v n xs) (hx : a.eval x = .slice none 0 0)
    (h : S v w) : stepG P ops o a w S := by
  have hrun := run_append_owned_none (P := P) (w := w) base t o.type e i size ht hi v n xs hown
  unfold stepG
  have hw : Region.wanted o (yielded ops a.tmps) = true := by unfold Region.wanted; rw [hgd]
  rw [if_pos hw]
  unfold execOp
  simp only [ho, resolve, invoke, builtin, Sem.run_bind, Sem.run_pure, Result.andThen_ok, List.map_toArray, List.map_cons, List.map_nil, hs, hx, hrun]
  exact h
end Facts.App
end Go.Proofs.Ytoifmphpeflliaa

namespace Go.Proofs.Ytoifmphpeflliaa
open Go.RowKit
set_option linter.unusedVariables false

/-- the letter, which can be silent too (s is the number of the sounds), or give one sound more -/
def moreL (S : Int) (s : Nat) (x : Letter) : Letter := if (s : Int) = S then ⟨x.c, x.sounds, true⟩ else if bitM s x.sounds = true then x else ⟨x.c, x.sounds + 2 ^ s, x.silent⟩
theorem moreL_c (S : Int) (s : Nat) (x : Letter) : (moreL S s x).c = x.c := by
  unfold moreL; split
  · rfl
  · split <;> rfl
theorem more_bits : ∀ (S : Fin 5) (v : Fin 16) (s : Fin 4), s.1 < S.1 → v.1 ≤ 2 ^ S.1 - 1 → v.1.testBit s.1 = false → v.1 + 2 ^ s.1 ≤ 2 ^ S.1 - 1 ∧ ∀ i : Fin 4, v.1.testBit i.1 = true → (v.1 + 2 ^ s.1).testBit i.1 = true := by decide +kernel
theorem moreL_fine {S : Int} (hS : 1 ≤ S ∧ S ≤ 4) {s : Nat} (hs : (s : Int) ≤ S) {x : Letter} (h : ValidLetter S x) : ValidLetter S (moreL S s x) ∧ ∀ m ∈ soundsTo (S.toNat + 1), givesM x m = true → givesM (moreL S s x) m = true := by
  have hm := mask_le hS
  have h0 := h.s
  unfold moreL
  split
  · refine ⟨⟨h.c, h.s, .inr rfl⟩, fun m hm hg => ?_⟩
    unfold givesM at hg ⊢
    split
    · rfl
    · rename_i hn
      rw [if_neg hn] at hg
      exact hg
  · rename_i hne
    split
    · exact ⟨h, fun m hm hg => hg⟩
    · rename_i hb
      have hb' : bitM s x.sounds = false := by simpa using hb
      rw [bitM_test _ _ h0.1] at hb'
      have e : maskM S = ((2 ^ S.toNat - 1 : Nat) : Int) := by
        unfold maskM
        have : 0 < 2 ^ S.toNat := Nat.two_pow_pos _
        rw [Int.ofNat_sub this]
        simp
      have hv : x.sounds.toNat ≤ 2 ^ S.toNat - 1 := by have := h0.2; rw [e] at this; omega
      obtain ⟨g1, g2⟩ := more_bits ⟨S.toNat, by omega⟩ ⟨x.sounds.toNat, by omega⟩ ⟨s, by omega⟩ (by show s < S.toNat; omega) hv hb'
      simp only at g1 g2
      have ep : ((2 : Int) ^ s) = ((2 ^ s : Nat) : Int) := by simp
      have e2 : (x.sounds + 2 ^ s).toNat = x.sounds.toNat + 2 ^ s := by
        rw [ep]
        generalize 2 ^ s = z
        omega
      have hpos := Nat.two_pow_pos s
      refine ⟨⟨h.c, ⟨Int.add_nonneg h0.1 (by rw [ep]; exact Int.natCast_nonneg _), ?_⟩, .inl ?_⟩, fun m hmm hg => ?_⟩
      · show x.sounds + 2 ^ s ≤ maskM S
        rw [ep, e]
        generalize 2 ^ s = z at *
        omega
      · show x.sounds + 2 ^ s ≠ 0
        rw [ep]
        generalize 2 ^ s = z at *
        omega
      · unfold givesM at hg ⊢
        split
        · rename_i hn; rw [if_pos hn] at hg; exact hg
        · rename_i hn
          rw [if_neg hn] at hg
          have := mem_soundsTo.1 hmm
          simp only
          rw [e2]
          exact g2 ⟨m.toNat, by omega⟩ hg
theorem set_at {α : Type} (l : List α) (n k : Nat) (v : α) (hk : k < (l.set n v).length) : (n = k ∧ (l.set n v)[k] = v) ∨ (n ≠ k ∧ ∃ h : k < l.length, (l.set n v)[k] = l[k]) := by
  have hk' : k < l.length := by simpa using hk
  by_cases e : n = k
  · left; subst e; exact ⟨rfl, by simp⟩
  · right; exact ⟨e, hk', by rw [List.getElem_set_ne e]⟩
def moreA (S : Int) (s n : Nat) (x : Alphabet) : Alphabet := ⟨x.name, x.letters.set n (moreL S s (x.letters.getD n noLetter))⟩
def moreB (b : Book) (a n s : Nat) : Book := ⟨b.sounds, b.alphabets.set a (moreA b.sounds s n (b.alphabets.getD a ⟨⟨#[]⟩, []⟩)), b.spellings⟩
theorem any_c (l : List Letter) (c : Int) : (l.any fun y => y.c == c) = (l.map (·.c)).any (· == c) := by rw [List.any_map]; rfl
theorem any_name (l : List Alphabet) (c : List UInt8) : (l.any fun y => y.name.toList == c) = (l.map fun y => y.name.toList).any (· == c) := by rw [List.any_map]; rfl
theorem set_c {ls : List Letter} {n : Nat} (hn : n < ls.length) (S : Int) (s : Nat) : (ls.set n (moreL S s (ls.getD n noLetter))).map (·.c) = ls.map (·.c) := by
  apply List.ext_getElem
  · simp
  · intro i h1 h2
    simp only [List.getElem_map, List.getElem_set]
    split
    · rename_i e; subst e
      rw [letD_at ls hn, moreL_c]
    · rfl
theorem moreA_fine {S : Int} (hS : 1 ≤ S ∧ S ≤ 4) {s n : Nat} (hs : (s : Int) ≤ S) {x : Alphabet} (hn : n < x.letters.length) (h : ValidAlphabet S x) : ValidAlphabet S (moreA S s n x) ∧ Pairs (fun x y => ∀ m ∈ soundsTo (S.toNat + 1), givesM x m = true → givesM y m = true) x.letters (moreA S s n x).letters := by
  have hg := letD_at x.letters hn
  constructor
  · refine ⟨h.n, by unfold moreA; simpa using h.l, fun k hk => ?_⟩
    have hk' : k < x.letters.length := by unfold moreA at hk; simpa using hk
    have hf := h.fine k hk'
    constructor
    · show ValidLetter S ((x.letters.set n (moreL S s (x.letters.getD n noLetter)))[k]'hk)
      rcases set_at x.letters n k (moreL S s (x.letters.getD n noLetter)) hk with ⟨e, h1⟩ | ⟨e, h0, h1⟩
      · subst e
        rw [h1, hg]
        exact (moreL_fine hS hs hf.1).1
      · rw [h1]; exact hf.1
    · have e1 := hf.2
      rw [any_c, List.map_take] at e1 ⊢
      have e2 : ((moreA S s n x).letters.map (·.c)) = x.letters.map (·.c) := set_c hn S s
      rw [e2]
      have e3 : ((moreA S s n x).letters[k]).c = (x.letters[k]).c := by
        have := congrArg (fun l => l[k]?) e2
        simp only [List.getElem?_map, List.getElem?_eq_getElem hk, List.getElem?_eq_getElem hk', Option.map_some, Option.some.injEq] at this
        exact this
      rw [e3]; exact e1
  · refine pairs_of_at (by unfold moreA; simp) fun i hi hi' => ?_
    show ((x.letters.set n (moreL S s (x.letters.getD n noLetter)))[i]'hi').c = (x.letters[i]).c ∧ ∀ m ∈ soundsTo (S.toNat + 1), givesM x.letters[i] m = true → givesM ((x.letters.set n (moreL S s (x.letters.getD n noLetter)))[i]'hi') m = true
    rcases set_at x.letters n i (moreL S s (x.letters.getD n noLetter)) hi' with ⟨e, h1⟩ | ⟨e, h0, h1⟩
    · subst e
      rw [h1, hg]
      exact ⟨moreL_c _ _ _, (moreL_fine hS hs (h.fine n hi).1).2⟩
    · rw [h1]
      exact ⟨rfl, fun m _ h => h⟩
def Gives (S : Int) (x y : Letter) : Prop := ∀ m ∈ soundsTo (S.toNat + 1), givesM x m = true → givesM y m = true
theorem more_two {b : Book} (hv : Valid b) {a n s : Nat} (ha : a < b.alphabets.length) (hn : n < (b.alphabets[a]).letters.length) (hs : (s : Int) ≤ b.sounds) : TwoB (Gives b.sounds) b (moreB b a n s) ∧ Valid (moreB b a n s) := by
  have hg : b.alphabets.getD a ⟨⟨#[]⟩, []⟩ = b.alphabets[a] := by rw [List.getD_eq_getElem?_getD, List.getElem?_eq_getElem ha]; rfl
  have hA := moreA_fine hv.s hs hn (hv.al a ha).1
  have hT : TwoB (Gives b.sounds) b (moreB b a n s) := by
    refine ⟨rfl, by unfold moreB; simp, rfl, fun k h h' => ?_⟩
    show Pairs (Gives b.sounds) (b.alphabets[k]).letters ((b.alphabets.set a (moreA b.sounds s n (b.alphabets.getD a ⟨⟨#[]⟩, []⟩)))[k]'h').letters
    rcases set_at b.alphabets a k (moreA b.sounds s n (b.alphabets.getD a ⟨⟨#[]⟩, []⟩)) h' with ⟨e, h1⟩ | ⟨e, h0, h1⟩
    · subst e
      rw [h1, hg]
      exact hA.2
    · rw [h1]
      exact pairs_of_at rfl fun i hi hi' => ⟨rfl, fun m _ h => h⟩
  refine ⟨hT, hT.valid hv fun k hk => ?_⟩
  have hk' : k < b.alphabets.length := by unfold moreB at hk; simpa using hk
  have hf := hv.al k hk'
  have hnm : ((moreB b a n s).alphabets.map fun y => y.name.toList) = b.alphabets.map fun y => y.name.toList := by
    apply List.ext_getElem
    · unfold moreB; simp
    · intro i h1 h2
      rw [List.getElem_map, List.getElem_map]
      have h1' : i < (b.alphabets.set a (moreA b.sounds s n (b.alphabets.getD a ⟨⟨#[]⟩, []⟩))).length := by rw [List.length_map] at h1; exact h1
      show ((b.alphabets.set a (moreA b.sounds s n (b.alphabets.getD a ⟨⟨#[]⟩, []⟩)))[i]'h1').name.toList = _
      rcases set_at b.alphabets a i (moreA b.sounds s n (b.alphabets.getD a ⟨⟨#[]⟩, []⟩)) h1' with ⟨e, h3⟩ | ⟨e, h0, h3⟩
      · subst e
        rw [h3, hg]; rfl
      · rw [h3]
  constructor
  · show ValidAlphabet b.sounds ((b.alphabets.set a (moreA b.sounds s n (b.alphabets.getD a ⟨⟨#[]⟩, []⟩)))[k]'hk)
    rcases set_at b.alphabets a k (moreA b.sounds s n (b.alphabets.getD a ⟨⟨#[]⟩, []⟩)) hk with ⟨e, h1⟩ | ⟨e, h0, h1⟩
    · subst e
      rw [h1, hg]
      exact hA.1
    · rw [h1]; exact hf.1
  · have e1 := hf.2
    rw [any_name, List.map_take] at e1 ⊢
    rw [hnm]
    have e3 : ((moreB b a n s).alphabets[k]).name.toList = (b.alphabets[k]).name.toList := by
      have := congrArg (fun l => l[k]?) hnm
      simp only [List.getElem?_map, List.getElem?_eq_getElem hk, List.getElem?_eq_getElem hk', Option.map_some, Option.some.injEq] at this
      exact this
    rw [e3]; exact e1
theorem more_strings {b : Book} (hv : Valid b) {b' : Book} (h : TwoB (Gives b.sounds) b b') {i : Nat} (hi : i < b.spellings.length) {t : List Int} (ht : t ∈ stringsOf b i) : t ∈ stringsOf b' i := by
  have := strings_pairs h hv (fun x => x) (fun n => Iff.rfl) (fun x y hxy n hn hg => ⟨hn, hxy n hn hg⟩) hi ht
  simpa using this
/-- what the statement says of them -/
theorem more_count {b b' : Book} (hv : Valid b) (h : TwoB (Gives b.sounds) b b') {i : Nat} (hi : i < b.spellings.length) : (canM b [i]).length ≤ (canM b' [i]).length :=
  count_le hv hi (fun t => t) (fun s _ t _ e => e) fun t ht => more_strings hv h hi ht
theorem more_odd {b b' : Book} (hv : Valid b) (hv' : Valid b') (h : TwoB (Gives b.sounds) b b') : (oddL b').length ≤ (oddL b).length :=
  odd_le hv hv' (by rw [h.sp]) fun l hl ⟨k, hk⟩ => ⟨k, fun n hn => more_strings hv h (hl n hn) (hk n hn)⟩
theorem more_never {b b' : Book} (hv : Valid b) (h : TwoB (Gives b.sounds) b b') {i j : Nat} (hi : i < b.spellings.length) (hj : j < b.spellings.length) {p q : Int} (hp : AlikeIs b i j p) (hq : AlikeIs b' i j q) : p = 2 ∨ q ≠ 2 := by
  by_cases h2 : q = 2
  · left
    rw [hp.never]
    rintro ⟨k, h1, h3⟩
    exact hq.never.1 h2 ⟨k, more_strings hv h hi h1, more_strings hv h hj h3⟩
  · exact .inr h2
end Go.Proofs.Ytoifmphpeflliaa

namespace Go.Proofs.Ytoifmphpeflliaa
open Go.RowKit
set_option linter.unusedVariables false
set_option linter.unusedSimpArgs false

theorem own_shape {w : World} {base size n : Nat} {e : TypeId} {v : Value} {xs : List Value} (h : w.ownsRow base e size v n xs) (hn : 0 < n) :
    ∃ g cap, v = .slice (some ⟨g, 0, none⟩) n cap ∧ base ≤ g ∧ g < w.heap.size ∧ n ≤ cap ∧ cap ≤ 9223372036854775807 := by
  have hlt := h.lt
  rcases h.2 with ⟨_, h0⟩ | ⟨g, cap, cur, rfl, hb, hg, hnc, hcm, hcs, htake⟩
  · omega
  · exact ⟨g, cap, rfl, hb, (hlt g rfl).2, hnc, by simpa [maxLen] using hcm⟩
theorem grown_set (w : World) (p : Addr) (u : Value) : w.grownBy (w.setCell p u) (some p.block) :=
  ⟨rfl, rfl, rfl, by simp, fun k _ hk => heap_setCell_other w p k u (fun e => hk (by simp [e]))⟩
theorem set_oneCell (l : List Letter) : ∀ u ∈ cellsL l, u.oneCell' = true := fun u hu => by
  unfold cellsL at hu
  rw [List.mem_flatMap] at hu
  obtain ⟨x, -, hx⟩ := hu
  simp only [List.mem_cons, List.not_mem_nil, or_false] at hx
  rcases hx with rfl | rfl | rfl <;> rfl
theorem letters_new {w : World} {ad : Addr} {n c : Nat} {l : List Letter} (h : LettersAt w (.slice (some ad) n c) l) : ∀ j u, (cellsL l)[j]? = some u → w.cell? (ad.add j) = some u := by
  intro j u hu
  have hj : j < (cellsL l).length := by
    rcases Nat.lt_or_ge j (cellsL l).length with h1 | h1
    · exact h1
    · rw [List.getElem?_eq_none h1] at hu; cases hu
  rw [cellsL_len] at hj
  obtain ⟨a, cap, e, -, -, h4⟩ := h
  obtain ⟨b, o, e2, r0, r1, r2, -⟩ := h4 (j / 3) (by omega)
  have e3 := (Value.slice.inj e).1
  rw [e2] at e3
  obtain rfl := Option.some.inj e3
  have ea : (⟨b, o, none⟩ : Addr).add j = ⟨b, o + j, none⟩ := by unfold Addr.add; split <;> simp_all
  rw [ea]
  obtain ⟨c0, c1, c2⟩ := cellsL_get l (j / 3) (by omega)
  have h3 : j % 3 = 0 ∨ j % 3 = 1 ∨ j % 3 = 2 := by omega
  rcases h3 with h3 | h3 | h3
  · have ej : j = j / 3 * 3 := by omega
    rw [← ej] at c0
    rw [hu] at c0
    rw [show o + j = o + j / 3 * 3 from by omega, r0, Option.some.inj c0]
  · have ej : j = j / 3 * 3 + 1 := by omega
    rw [← ej] at c1
    rw [hu] at c1
    rw [show o + j = o + j / 3 * 3 + 1 from by omega, r1, Option.some.inj c1]
  · have ej : j = j / 3 * 3 + 2 := by omega
    rw [← ej] at c2
    rw [hu] at c2
    rw [show o + j = o + j / 3 * 3 + 2 from by omega, r2, Option.some.inj c2]
theorem cellsL_set : ∀ (l : List Letter) (n : Nat) (x : Letter), n < l.length → cellsL (l.set n x) = (((cellsL l).set (n * 3) (.int .u8 x.c)).set (n * 3 + 1) (.int .i64 x.sounds)).set (n * 3 + 2) (.bool x.silent)
  | [], _, _, h => by simp at h
  | y :: l, 0, x, _ => by simp [cellsL]
  | y :: l, n + 1, x, h => by
    have ih := cellsL_set l n x (by simpa using h)
    have e : (n + 1) * 3 = n * 3 + 3 := by omega
    rw [e]
    have e1 : ∀ (z : Letter) (m : List Letter), cellsL (z :: m) = .int .u8 z.c :: .int .i64 z.sounds :: .bool z.silent :: cellsL m := fun z m => by simp [cellsL]
    rw [List.set_cons_succ, e1, ih, e1]
    simp

abbrev EntA := ByteArray × Value
def cellsA (es : List EntA) : List Value := es.flatMap fun e => [.string e.1, e.2]
theorem cellsA_len (l : List EntA) : (cellsA l).length = l.length * 2 := by
  induction l with
  | nil => rfl
  | cons x l ih => simp only [cellsA, List.flatMap_cons, List.length_append, List.length_cons, List.length_nil] at *; omega
theorem cellsA_get (l : List EntA) (i : Nat) (h : i < l.length) : (cellsA l)[i * 2]? = some (.string l[i].1) ∧ (cellsA l)[i * 2 + 1]? = some l[i].2 := by
  induction l generalizing i with
  | nil => simp at h
  | cons x l ih =>
    cases i with
    | zero => simp [cellsA]
    | succ i =>
      have := ih i (by simpa using h)
      have e : (i + 1) * 2 = i * 2 + 2 := by omega
      rw [e]
      simpa [cellsA] using this
theorem cellsA_snoc (l : List EntA) (s : ByteArray) (v : Value) : cellsA (l ++ [(s, v)]) = cellsA l ++ [.string s, v] := by simp [cellsA]
theorem cellsA_set : ∀ (l : List EntA) (n : Nat) (x : EntA), n < l.length → cellsA (l.set n x) = ((cellsA l).set (n * 2) (.string x.1)).set (n * 2 + 1) x.2
  | [], _, _, h => by simp at h
  | y :: l, 0, x, _ => by simp [cellsA]
  | y :: l, n + 1, x, h => by
    have ih := cellsA_set l n x (by simpa using h)
    have e : (n + 1) * 2 = n * 2 + 2 := by omega
    rw [e]
    have e1 : ∀ (z : EntA) (m : List EntA), cellsA (z :: m) = .string z.1 :: z.2 :: cellsA m := fun z m => by simp [cellsA]
    rw [List.set_cons_succ, e1, ih, e1]
    simp
/-- what a row of alphabets holds -/
def EntsOf (w : World) (es : List EntA) (l : List Alphabet) : Prop := es.length = l.length ∧ ∀ i (h : i < l.length) (h' : i < es.length), es[i].1 = l[i].name ∧ l[i].name.size ≤ 9223372036854775807 ∧ ∃ la lc, es[i].2 = .slice la l[i].letters.length lc ∧ LettersAt w es[i].2 l[i].letters
theorem EntsOf.ext {w w' : World} {es : List EntA} {l : List Alphabet} (h : EntsOf w es l) (hx : Ext w w') : EntsOf w' es l :=
  ⟨h.1, fun i h1 h2 => by obtain ⟨e1, e2, la, lc, e3, e4⟩ := h.2 i h1 h2; exact ⟨e1, e2, la, lc, e3, e4.ext hx⟩⟩
theorem ents_oneCell {w : World} {es : List EntA} {l : List Alphabet} (h : EntsOf w es l) : ∀ u ∈ cellsA es, u.oneCell' = true := fun u hu => by
  unfold cellsA at hu
  rw [List.mem_flatMap] at hu
  obtain ⟨x, hx, hu⟩ := hu
  obtain ⟨i, hi, rfl⟩ := List.getElem_of_mem hx
  obtain ⟨-, -, la, lc, e3, -⟩ := h.2 i (by rw [← h.1]; exact hi) hi
  simp only [List.mem_cons, List.not_mem_nil, or_false] at hu
  rcases hu with rfl | rfl
  · rfl
  · rw [e3]; rfl
theorem ents_of {w : World} {ad : Addr} {n c : Nat} : ∀ {l : List Alphabet}, AlphabetsAt w (.slice (some ad) n c) l → ∃ es, EntsOf w es l ∧ ∀ j u, (cellsA es)[j]? = some u → w.cell? (ad.add j) = some u := by
  intro l h
  obtain ⟨a, cap, e, -, -, h4⟩ := h
  have e3 := (Value.slice.inj e).1
  have key : ∀ i, i < l.length → ∃ u : Value, ∃ b o, a = some ⟨b, o, none⟩ ∧ w.cell? ⟨b, o + i * 2, none⟩ = some (.string (l.getD i ⟨⟨#[]⟩, []⟩).name) ∧ (l.getD i ⟨⟨#[]⟩, []⟩).name.size ≤ 9223372036854775807 ∧ w.cell? ⟨b, o + i * 2 + 1, none⟩ = some u ∧ LettersAt w u (l.getD i ⟨⟨#[]⟩, []⟩).letters := fun i hi => by
    obtain ⟨b, o, e2, r0, r1, u, r2, r3⟩ := h4 i hi
    have eg : l.getD i ⟨⟨#[]⟩, []⟩ = l[i] := by rw [List.getD_eq_getElem?_getD, List.getElem?_eq_getElem hi]; rfl
    rw [eg]
    exact ⟨u, b, o, e2, r0, r1, r2, r3⟩
  have ⟨f, hf⟩ : ∃ f : Nat → Value, ∀ i, i < l.length → ∃ b o, a = some ⟨b, o, none⟩ ∧ w.cell? ⟨b, o + i * 2, none⟩ = some (.string (l.getD i ⟨⟨#[]⟩, []⟩).name) ∧ (l.getD i ⟨⟨#[]⟩, []⟩).name.size ≤ 9223372036854775807 ∧ w.cell? ⟨b, o + i * 2 + 1, none⟩ = some (f i) ∧ LettersAt w (f i) (l.getD i ⟨⟨#[]⟩, []⟩).letters := by
    refine ⟨fun i => if h : i < l.length then Classical.choose (key i h) else .bool false, fun i hi => ?_⟩
    have := Classical.choose_spec (key i hi)
    simp only [dif_pos hi]
    exact this
  refine ⟨(List.range l.length).map fun i => ((l.getD i ⟨⟨#[]⟩, []⟩).name, f i), ⟨by simp, fun i h1 h2 => ?_⟩, fun j u hu => ?_⟩
  · obtain ⟨b, o, e2, r0, r1, r2, r3⟩ := hf i h1
    have eg : l.getD i ⟨⟨#[]⟩, []⟩ = l[i] := by rw [List.getD_eq_getElem?_getD, List.getElem?_eq_getElem h1]; rfl
    rw [eg] at r0 r1 r3
    simp only [List.getElem_map, List.getElem_range, eg]
    obtain ⟨la, lc, e5, -⟩ := r3.shape
    exact ⟨trivial, r1, la, lc, e5, r3⟩
  · have hj : j < l.length * 2 := by
      rcases Nat.lt_or_ge j (l.length * 2) with h1 | h1
      · exact h1
      · rw [List.getElem?_eq_none (by rw [cellsA_len]; simpa using h1)] at hu; cases hu
    obtain ⟨b, o, e2, r0, r1, r2, r3⟩ := hf (j / 2) (by omega)
    rw [e2] at e3
    obtain rfl := Option.some.inj e3
    have ea : (⟨b, o, none⟩ : Addr).add j = ⟨b, o + j, none⟩ := by unfold Addr.add; split <;> simp_all
    rw [ea]
    obtain ⟨c0, c1⟩ := cellsA_get ((List.range l.length).map fun i => ((l.getD i ⟨⟨#[]⟩, []⟩).name, f i)) (j / 2) (by simp; omega)
    simp only [List.getElem_map, List.getElem_range] at c0 c1
    have h3 : j % 2 = 0 ∨ j % 2 = 1 := by omega
    rcases h3 with h3 | h3
    · have ej : j / 2 * 2 = j := by omega
      rw [ej, hu] at c0
      rw [show o + j = o + j / 2 * 2 from by omega, r0, Option.some.inj c0]
    · have ej : j / 2 * 2 + 1 = j := by omega
      rw [ej, hu] at c1
      rw [show o + j = o + j / 2 * 2 + 1 from by omega, r2, Option.some.inj c1]
theorem AlphabetsAt.of_own {w : World} {base : Nat} {e : TypeId} {v : Value} {es : List EntA} {l : List Alphabet} (h : w.ownsRow base e 2 v l.length (cellsA es)) (hE : EntsOf w es l) : AlphabetsAt w v l := by
  have hcells := fun g hg => h.cells (g := g) hg
  rcases h.2 with ⟨rfl, hn⟩ | ⟨g, cap, cur, rfl, hb, hg, hnc, hcm, hcs, htake⟩
  · have : l = [] := List.eq_nil_of_length_eq_zero hn
    subst this; exact SliceAt.nil
  · refine ⟨_, _, rfl, hnc, by simpa [maxLen] using hcm, fun i hi => ⟨g, 0, rfl, ?_⟩⟩
    have hi2 : i < es.length := by rw [hE.1]; exact hi
    obtain ⟨ht, hsz, la, lc, e3, h3⟩ := hE.2 i hi hi2
    obtain ⟨c0, c1⟩ := cellsA_get es i hi2
    have r0 := hcells g rfl _ _ c0
    have r1 := hcells g rfl _ _ c1
    have ea : ∀ j, (⟨g, 0, none⟩ : Addr).add j = ⟨g, 0 + j, none⟩ := fun j => by unfold Addr.add; split <;> simp_all
    rw [ea] at r0 r1
    rw [ht] at r0
    exact ⟨r0, hsz, _, r1, h3⟩
/-- one alphabet put in place of another -/
theorem EntsOf.set {w : World} {es : List EntA} {l : List Alphabet} (h : EntsOf w es l) {a : Nat} (ha : a < l.length) {y : Alphabet} {u : Value} (hn : y.name.size ≤ 9223372036854775807) {la : Option Addr} {lc : Nat} (hu : u = .slice la y.letters.length lc) (hl : LettersAt w u y.letters) : EntsOf w (es.set a (y.name, u)) (l.set a y) := by
  refine ⟨by simp [h.1], fun i h1 h2 => ?_⟩
  have h1' : i < l.length := by simpa using h1
  have h2' : i < es.length := by simpa using h2
  by_cases e : a = i
  · subst e
    simp only [List.getElem_set_self]
    exact ⟨trivial, hn, la, lc, hu, hl⟩
  · rw [List.getElem_set_ne e, List.getElem_set_ne e]
    exact h.2 i h1' h2'
theorem infoAlphabet : (Try.prog.info? 38).map (fun i => (i.zero, i.size, i.bytes)) = some (some (.agg #[.string ByteArray.empty, .slice none 0 0]), 2, 40) := by kernel_rfl
theorem infoEaLetter : (Try.prog.info? 40).map (fun i => (i.zero, i.size, i.bytes)) = some (some (.agg #[.int .u8 0, .int .i64 0, .bool false]), 3, 24) := by kernel_rfl
/-- a book of its own, whose alphabets lie in a row of the call's -/
theorem book_own {w W : World} {ba bs : Option Addr} {bc bd : Nat} {b : Book} (hb : BookAt w (.agg #[.int .i64 b.sounds, .slice ba b.alphabets.length bc, .slice bs b.spellings.length bd]) b) (hx : Ext w W) {b' : Book} (h1 : b'.sounds = b.sounds) (h2 : b'.spellings = b.spellings) {u : Value} (hA : AlphabetsAt W u b'.alphabets) :
    BookAt W (.agg #[.int .i64 b.sounds, u, .slice bs b.spellings.length bd]) b' := by
  obtain ⟨av, sv, e1, g2, g3, g4⟩ := hb
  simp only [Value.agg.injEq, Array.mk.injEq, List.cons.injEq, and_true, true_and] at e1
  obtain ⟨rfl, rfl⟩ := e1
  exact ⟨_, _, by rw [h1], by rw [h1]; exact g2, hA, by rw [h2]; exact g4.ext hx⟩
end Go.Proofs.Ytoifmphpeflliaa

namespace Go.Proofs.Ytoifmphpeflliaa
open Go.RowKit
set_option linter.unusedVariables false

structure MoreSt (w W : World) (b : Book) (ba : Option Addr) (bc : Nat) (bs : Option Addr) (bd : Nat) (x0 x1 x2 y0 y1 : Nat) : Prop where
  hB : Boxed W w.heap.size b ba bc bs bd
  X0 : W.cell? ⟨w.heap.size + 1, 0, none⟩ = some (.int .u8 x0)
  X1 : W.cell? ⟨w.heap.size + 1, 1, none⟩ = some (.int .u8 x1)
  X2 : W.cell? ⟨w.heap.size + 1, 2, none⟩ = some (.int .u8 x2)
  Y0 : W.cell? ⟨w.heap.size + 2, 0, none⟩ = some (.int .u8 y0)
  Y1 : W.cell? ⟨w.heap.size + 2, 1, none⟩ = some (.int .u8 y1)
  hx : Ext w W
  sz : w.heap.size + 3 ≤ W.heap.size
theorem MoreSt.ext {w W W' : World} {b : Book} {ba : Option Addr} {bc : Nat} {bs : Option Addr} {bd : Nat} {x0 x1 x2 y0 y1 : Nat} (h : MoreSt w W b ba bc bs bd x0 x1 x2 y0 y1) (hx : Ext W W') : MoreSt w W' b ba bc bs bd x0 x1 x2 y0 y1 :=
  ⟨h.hB.ext hx, hx.cell h.X0, hx.cell h.X1, hx.cell h.X2, hx.cell h.Y0, hx.cell h.Y1, h.hx.trans hx, Nat.le_trans h.sz hx.size⟩

theorem grown_frozen {w w' : World} {row : Option Nat} (hg : w.grownBy w' row) {p : Addr} (hlt : p.block < w.heap.size) (hne : some p.block ≠ row) : w'.frozen? p = w.frozen? p := by
  unfold World.frozen?
  rw [hg.block p.block hlt (fun e => hne (by rw [e]))]

set_option maxRecDepth 100000 in
set_option maxHeartbeats 4000000 in
theorem more_law (ba bs : Option Addr) (bc bd : Nat) (b : Book) (x0 x1 x2 y0 y1 : Nat) (h0 : x0 ≤ 255) (h1 : x1 ≤ 255) (h2 : x2 ≤ 255) (h3 : y0 ≤ 255) (h4 : y1 ≤ 255) (w : World) (hb : BookAt w (.agg #[.int .i64 b.sounds, .slice ba b.alphabets.length bc, .slice bs b.spellings.length bd]) b) :
    Calls Try.prog 5 #[(.agg #[.int .i64 b.sounds, .slice ba b.alphabets.length bc, .slice bs b.spellings.length bd]), .agg #[.int .u8 x0, .int .u8 x1, .int .u8 x2], .agg #[.int .u8 y0, .int .u8 y1]] w fun e w' => e = .returned (.bool true) ∧ Ext w w' := by
  have aw := fun w => awake_any w
  go_enter Try.func5, Try.ntmps5
  go_wp2_with fail
  have st : MoreSt w (((w.alloc (.cells #[.int .i64 b.sounds, .slice ba b.alphabets.length bc, .slice bs b.spellings.length bd] 25)).alloc (.cells #[.int .u8 x0, .int .u8 x1, .int .u8 x2] 47)).alloc (.cells #[.int .u8 y0, .int .u8 y1] 48)) b ba bc bs bd x0 x1 x2 y0 y1 := ⟨⟨by simp [go_sem], by simp [go_sem], by simp [go_sem], hb.ext (by first | (with_reducible exact Ext.refl _) | (with_reducible assumption) | (show Below _ _ _; go_grown; done))⟩, by simp [go_sem], by simp [go_sem], by simp [go_sem], by simp [go_sem], by simp [go_sem], (by first | (with_reducible exact Ext.refl _) | (with_reducible assumption) | (show Below _ _ _; go_grown; done)), by simp⟩
  generalize (((w.alloc (.cells #[.int .i64 b.sounds, .slice ba b.alphabets.length bc, .slice bs b.spellings.length bd] 25)).alloc (.cells #[.int .u8 x0, .int .u8 x1, .int .u8 x2] 47)).alloc (.cells #[.int .u8 y0, .int .u8 y1] 48)) = W at *
  refine (valid_any _ b _ st.hB.at_).mono ?_
  rintro e w1 ⟨rfl, hx1⟩
  replace st := st.ext hx1
  clear hx1 hb
  by_cases he : errM b = 0
  rotate_left
  · have hev : (errM b == 0) = false := by simpa using he
    rw [hev]
    have x1 := st.hx
    clear he hev st
    go_wp2_with fail
    refine (aw _).mono ?_
    rintro e w8 ⟨rfl, h8⟩
    have x8 := x1.trans h8
    go_wp2
    go_ret
    exact ⟨rfl, x8⟩
  have hv := valid_of he
  have hev : (errM b == 0) = true := by simpa using he
  rw [hev]
  have hS := hv.s
  have ha3 := hv.a
  have halp : AlphabetsAt w1 (.slice ba b.alphabets.length bc) b.alphabets := by
    obtain ⟨_, _, e, -, h, -⟩ := st.hB.at_
    simp only [Value.agg.injEq, Array.mk.injEq, List.cons.injEq, and_true, true_and] at e
    rw [e.1]; exact h
  obtain ⟨ab, ao, rfl⟩ : ∃ ab ao, ba = some ⟨ab, ao, none⟩ := by
    obtain ⟨_, _, e, -, -, h⟩ := halp
    obtain ⟨ab, ao, rfl, -⟩ := h 0 (by omega)
    exact ⟨ab, ao, (Value.slice.inj e).1⟩
  obtain ⟨es, hes, hcel⟩ := ents_of halp
  have hel := hes.1
  have heo := ents_oneCell hes
  have hec := cellsA_len es
  obtain ⟨i0, hi, hz0, hz1, hz2⟩ := info_parts infoAlphabet
  have St := Lib.hid st
  have c0 := st.hB.c0
  have c1 := st.hB.c1
  have c2 := st.hB.c2
  have z1 := st.hB.lt
  have Hes := Lib.hid hes
  have Hcel := Lib.hid hcel
  have Heo := Lib.hid heo
  have Hel := Lib.hid hel
  have Hec := Lib.hid hec
  have He := Lib.hid he
  have hown0 : ((w1.alloc (.cells #[.int .i64 b.sounds, .slice (some ⟨ab, ao, none⟩) b.alphabets.length bc, .slice bs b.spellings.length bd] 25)).alloc (.cells #[] 38)).ownsRow (w1.heap.size + 1) 38 2 (.slice (some ⟨w1.heap.size + 1, 0, none⟩) 0 0) 0 [] := by
    have := World.ownsRow_made (base := w1.heap.size + 1) (e := 38) (size := 2) (w1.alloc (.cells #[.int .i64 b.sounds, .slice (some ⟨ab, ao, none⟩) b.alphabets.length bc, .slice bs b.spellings.length bd] 25)) #[] 0 (by simp) (by unfold maxLen; omega) rfl
    simpa using this
  have xr : Ext w1 ((w1.alloc (.cells #[.int .i64 b.sounds, .slice (some ⟨ab, ao, none⟩) b.alphabets.length bc, .slice bs b.spellings.length bd] 25)).alloc (.cells #[] 38)) := (ext_alloc _ _).alloc _
  have hcel0 : ∀ j u, (cellsA es)[j]? = some u → ((w1.alloc (.cells #[.int .i64 b.sounds, .slice (some ⟨ab, ao, none⟩) b.alphabets.length bc, .slice bs b.spellings.length bd] 25)).alloc (.cells #[] 38)).cell? ((⟨ab, ao, none⟩ : Addr).add j) = some u := fun j u h => xr.cell (hcel j u h)
  have hm : ∀ v : Value, v = .int .i64 b.sounds ∧ ((w1.alloc (.cells #[.int .i64 b.sounds, .slice (some ⟨ab, ao, none⟩) b.alphabets.length bc, .slice bs b.spellings.length bd] 25)).alloc (.cells #[] 38)).cell? ⟨w1.heap.size, 0, none⟩ = some v → True := fun _ _ => trivial
  have hm0 : ((w1.alloc (.cells #[.int .i64 b.sounds, .slice (some ⟨ab, ao, none⟩) b.alphabets.length bc, .slice bs b.spellings.length bd] 25)).alloc (.cells #[] 38)).cell? ⟨w1.heap.size, 0, none⟩ = some (.int .i64 b.sounds) := by simp [go_sem]
  have hm1 : ((w1.alloc (.cells #[.int .i64 b.sounds, .slice (some ⟨ab, ao, none⟩) b.alphabets.length bc, .slice bs b.spellings.length bd] 25)).alloc (.cells #[] 38)).cell? ⟨w1.heap.size, 1, none⟩ = some (.slice (some ⟨ab, ao, none⟩) b.alphabets.length bc) := by simp [go_sem]
  have hm2 : ((w1.alloc (.cells #[.int .i64 b.sounds, .slice (some ⟨ab, ao, none⟩) b.alphabets.length bc, .slice bs b.spellings.length bd] 25)).alloc (.cells #[] 38)).cell? ⟨w1.heap.size, 2, none⟩ = some (.slice bs b.spellings.length bd) := by simp [go_sem]
  have hmf : ((w1.alloc (.cells #[.int .i64 b.sounds, .slice (some ⟨ab, ao, none⟩) b.alphabets.length bc, .slice bs b.spellings.length bd] 25)).alloc (.cells #[] 38)).frozen? ⟨w1.heap.size, 1, none⟩ = false := by simp [go_sem]
  have Hown0 := Lib.hid hown0
  have Hcel0 := Lib.hid hcel0
  have Hm0 := Lib.hid hm0
  have Hm1 := Lib.hid hm1
  have Hm2 := Lib.hid hm2
  have Hmf := Lib.hid hmf
  have Xr := Lib.hid xr
  have Hal := Lib.hid halp
  clear st hev he hes hcel heo hel hec hown0 hcel0 hm0 hm1 hm2 hmf xr hm halp
  go_upto_region 5 with (at_builtin; go_loud (refine wpList_append_own_at _ rfl _ _ 22 rfl (w1.heap.size + 1) 38 i0 (.agg #[.string ByteArray.empty, .slice none 0 0]) 2 40 Try.underlying22 hi hz0 hz1 hz2 rfl (by decide) (.slice (some ⟨w1.heap.size + 1, 0, none⟩) 0 0) 0 [] rfl Hown0.out ⟨ab, ao, none⟩ b.alphabets.length bc (cellsA es) rfl (by rw [Hec.out, Hel.out]) Hcel0.out Heo.out (by unfold maxLen; omega) (by omega) (by simp) ?_; intro v1 w2 hown1 hgrow1 hnil1 hblk1; simp only [Nat.zero_add, List.nil_append] at hown1; obtain ⟨gA, cA, rfl, bA1, bA2, bA3, bA4⟩ := own_shape hown1 (by omega); have Hown1 := Lib.hid hown1; have Hgrow1 := Lib.hid hgrow1; have g1 := hgrow1.cell Hm1.out (by simp [Value.ownBlock]); have g1f := (grown_frozen hgrow1 (p := ⟨w1.heap.size, 1, none⟩) (by simp; omega) (by simp [Value.ownBlock])).trans Hmf.out; have g1z := cell_lt g1; clear hown1 hgrow1 hnil1 hblk1))
  obtain ⟨R, hR⟩ : ∃ R : World, R = w2.setCell ⟨w1.heap.size, 1, none⟩ (.slice (some ⟨gA, 0, none⟩) b.alphabets.length cA) := ⟨_, rfl⟩
  have xR : Ext w1 R := by
    rw [hR]; exact (Ext.grown Xr.out Hgrow1.out (fun k hk => by simp [Value.ownBlock] at hk; omega)).setCell (Nat.le_refl _) _
  have m0 : R.cell? ⟨w1.heap.size, 0, none⟩ = some (.int .i64 b.sounds) := by rw [hR]; exact set_other (Hgrow1.out.cell Hm0.out (by simp [Value.ownBlock])) (.inr (by simp)) _
  have m1 : R.cell? ⟨w1.heap.size, 1, none⟩ = some (.slice (some ⟨gA, 0, none⟩) b.alphabets.length cA) := by rw [hR]; exact set_cell g1 _
  have m2 : R.cell? ⟨w1.heap.size, 2, none⟩ = some (.slice bs b.spellings.length bd) := by rw [hR]; exact set_other (Hgrow1.out.cell Hm2.out (by simp [Value.ownBlock])) (.inr (by simp)) _
  have own1 : R.ownsRow (w1.heap.size + 1) 38 2 (.slice (some ⟨gA, 0, none⟩) b.alphabets.length cA) b.alphabets.length (cellsA es) := by rw [hR]; exact Hown1.out.kept (grown_set w2 ⟨w1.heap.size, 1, none⟩ _) (.inr (by simp [Value.ownBlock]; omega))
  have zR : w1.heap.size < R.heap.size := cell_lt m0
  have zA : gA < R.heap.size := by rw [hR]; simpa using bA2
  rw [← hR]
  have stR := St.out.ext xR
  have StR := Lib.hid stR
  have XR := Lib.hid xR
  have M0 := Lib.hid m0
  have M1 := Lib.hid m1
  have M2 := Lib.hid m2
  have Own1 := Lib.hid own1
  clear hR Hown0 Hcel0 Hm0 Hm1 Hm2 Hmf Xr Hown1 Hgrow1 g1 g1f g1z c0 c1 c2 z1 Hcel Heo Hec i0 hi hz0 hz1 hz2 m0 m1 m2 own1 bA2 bA3 bA4
  have t0 := mod_small x0 b.alphabets.length
  have hai : x0 % b.alphabets.length < b.alphabets.length := Nat.mod_lt _ (by omega)
  generalize x0 % b.alphabets.length = a at *
  have wx : IntKind.i64.wrap (x0 : Int) = x0 := IntWalk.i64_in _ (by omega)
  have wa : IntKind.i64.wrap (a : Int) = a := IntWalk.i64_in _ (by omega)
  have nz : ((b.alphabets.length : Int) == 0) = false := by rw [beq_eq_false_iff_ne]; omega
  have k1 : (a : Int) < (b.alphabets.length : Int) := by omega
  have hls := Hal.out.ext xR
  obtain ⟨_, _, hea, -, -, hq⟩ := hls
  obtain ⟨ab', ao', e2, n0, nsz, lv, n1, hlv⟩ := hq a hai
  have hea1 := (Value.slice.inj hea).1
  rw [e2] at hea1
  simp only [Option.some.injEq, Addr.mk.injEq, and_true] at hea1
  obtain ⟨rfl, rfl⟩ := hea1
  clear e2 hea hq
  have hal := hv.al a hai
  have hls6 := hal.1.l
  have htwo := fun n s hn hs => more_two hv hai (n := n) (s := s) hn hs
  have hed : (b.alphabets.getD a ⟨⟨#[]⟩, []⟩) = b.alphabets[a] := by rw [List.getD_eq_getElem?_getD, List.getElem?_eq_getElem hai]; rfl
  have hfin := hal.1.fine
  have HA := Lib.hid hed
  generalize b.alphabets[a] = al at *
  obtain ⟨la, lc, rfl, -⟩ := hlv.shape
  obtain ⟨lb, lo, rfl⟩ : ∃ lb lo, la = some ⟨lb, lo, none⟩ := by
    obtain ⟨_, _, e, -, -, h⟩ := hlv
    obtain ⟨lb, lo, rfl, -⟩ := h 0 (by omega)
    exact ⟨lb, lo, (Value.slice.inj e).1⟩
  have X0 := stR.X0
  have X1 := stR.X1
  have X2 := stR.X2
  have c0 := stR.hB.c0
  have c1 := stR.hB.c1
  have c2 := stR.hB.c2
  have z1 := stR.hB.lt
  have Hlv := Lib.hid hlv
  have Htwo := Lib.hid htwo
  have Hfin := Lib.hid hfin
  clear stR hlv htwo hal hfin hed xR
  go_upto_region 7 with fail
  obtain ⟨i1, hj, hy0, hy1, hy2⟩ := info_parts infoEaLetter
  have hown0 : (((R.alloc (.cells #[.string al.name, .slice (some ⟨lb, lo, none⟩) al.letters.length lc] 38)).alloc (.cells #[] 40))).ownsRow (R.heap.size + 1) 40 3 (.slice (some ⟨R.heap.size + 1, 0, none⟩) 0 0) 0 [] := by
    have := World.ownsRow_made (base := R.heap.size + 1) (e := 40) (size := 3) (R.alloc (.cells #[.string al.name, .slice (some ⟨lb, lo, none⟩) al.letters.length lc] 38)) #[] 0 (by simp) (by unfold maxLen; omega) rfl
    simpa using this
  have xr : Ext R ((R.alloc (.cells #[.string al.name, .slice (some ⟨lb, lo, none⟩) al.letters.length lc] 38)).alloc (.cells #[] 40)) := (ext_alloc _ _).alloc _
  have hcel0 : ∀ j u, (cellsL al.letters)[j]? = some u → (((R.alloc (.cells #[.string al.name, .slice (some ⟨lb, lo, none⟩) al.letters.length lc] 38)).alloc (.cells #[] 40))).cell? ((⟨lb, lo, none⟩ : Addr).add j) = some u := letters_new (Hlv.out.ext xr)
  have hm0 : (((R.alloc (.cells #[.string al.name, .slice (some ⟨lb, lo, none⟩) al.letters.length lc] 38)).alloc (.cells #[] 40))).cell? ⟨R.heap.size, 0, none⟩ = some (.string al.name) := by simp [go_sem]
  have hm1 : (((R.alloc (.cells #[.string al.name, .slice (some ⟨lb, lo, none⟩) al.letters.length lc] 38)).alloc (.cells #[] 40))).cell? ⟨R.heap.size, 1, none⟩ = some (.slice (some ⟨lb, lo, none⟩) al.letters.length lc) := by simp [go_sem]
  have hmf : (((R.alloc (.cells #[.string al.name, .slice (some ⟨lb, lo, none⟩) al.letters.length lc] 38)).alloc (.cells #[] 40))).frozen? ⟨R.heap.size, 1, none⟩ = false := by simp [go_sem]
  have hlen := cellsL_len al.letters
  have hone := set_oneCell al.letters
  have Hown0 := Lib.hid hown0
  have Hcel0 := Lib.hid hcel0
  have Hm0 := Lib.hid hm0
  have Hm1 := Lib.hid hm1
  have Hmf := Lib.hid hmf
  have Xr := Lib.hid xr
  have Hlen := Lib.hid hlen
  have Hone := Lib.hid hone
  clear hown0 hcel0 hm0 hm1 hmf xr hlen hone n0 n1
  go_upto_region 8 with (at_builtin; go_loud (refine wpList_append_own_at _ rfl _ _ 36 rfl (R.heap.size + 1) 40 i1 (.agg #[.int .u8 0, .int .i64 0, .bool false]) 3 24 Try.underlying36 hj hy0 hy1 hy2 rfl (by decide) (.slice (some ⟨R.heap.size + 1, 0, none⟩) 0 0) 0 [] rfl Hown0.out ⟨lb, lo, none⟩ al.letters.length lc (cellsL al.letters) rfl Hlen.out Hcel0.out Hone.out (by unfold maxLen; omega) (by omega) (by simp) ?_; intro v1 w3 hown1 hgrow1 hnil1 hblk1; simp only [Nat.zero_add, List.nil_append] at hown1; obtain ⟨gL, cL, rfl, bL1, bL2, bL3, bL4⟩ := own_shape hown1 (by omega); have Hown2 := Lib.hid hown1; have Hgrow2 := Lib.hid hgrow1; have g1 := hgrow1.cell Hm1.out (by simp [Value.ownBlock]); have g1f := (grown_frozen hgrow1 (p := ⟨R.heap.size, 1, none⟩) (by simp; omega) (by simp [Value.ownBlock])).trans Hmf.out; have g1z := cell_lt g1; clear hown1 hgrow1 hnil1 hblk1))
  obtain ⟨S, hS3⟩ : ∃ S : World, S = w3.setCell ⟨R.heap.size, 1, none⟩ (.slice (some ⟨gL, 0, none⟩) al.letters.length cL) := ⟨_, rfl⟩
  have xS : Ext R S := by
    rw [hS3]; exact (Ext.grown Xr.out Hgrow2.out (fun k hk => by simp [Value.ownBlock] at hk; omega)).setCell (Nat.le_refl _) _
  have n0 : S.cell? ⟨R.heap.size, 0, none⟩ = some (.string al.name) := by rw [hS3]; exact set_other (Hgrow2.out.cell Hm0.out (by simp [Value.ownBlock])) (.inr (by simp)) _
  have n1 : S.cell? ⟨R.heap.size, 1, none⟩ = some (.slice (some ⟨gL, 0, none⟩) al.letters.length cL) := by rw [hS3]; exact set_cell g1 _
  have own2 : S.ownsRow (R.heap.size + 1) 40 3 (.slice (some ⟨gL, 0, none⟩) al.letters.length cL) al.letters.length (cellsL al.letters) := by rw [hS3]; exact Hown2.out.kept (grown_set w3 ⟨R.heap.size, 1, none⟩ _) (.inr (by simp [Value.ownBlock]; omega))
  have zL : gL < S.heap.size := by rw [hS3]; simpa using bL2
  rw [← hS3]
  have Own2 := Lib.hid own2
  have N0 := Lib.hid n0
  have N1 := Lib.hid n1
  clear hS3 Hown0 Hcel0 Hm0 Hm1 Hmf Xr Hown2 Hgrow2 g1 g1f g1z i1 hj hy0 hy1 hy2 c0 c1 c2 X0 X1 X2 z1 t0 wx k1 nz Hlen Hone bL2 bL3 bL4
  have StS := Lib.hid (StR.out.ext xS)
  have XS := Lib.hid xS
  have X1 := StS.out.X1
  have X2 := StS.out.X2
  have c0 := StS.out.hB.c0
  have z1 := StS.out.hB.lt
  have z2 : w.heap.size + 1 < S.heap.size := cell_lt X2
  have t0 := mod_small x1 al.letters.length
  have hni : x1 % al.letters.length < al.letters.length := Nat.mod_lt _ (by omega)
  generalize x1 % al.letters.length = n at *
  have wx : IntKind.i64.wrap (x1 : Int) = x1 := IntWalk.i64_in _ (by omega)
  have wn : IntKind.i64.wrap (n : Int) = n := IntWalk.i64_in _ (by omega)
  have nz : ((al.letters.length : Int) == 0) = false := by rw [beq_eq_false_iff_ne]; omega
  have k2 : (n : Int) < (al.letters.length : Int) := by omega
  obtain ⟨T, hT⟩ : ∃ T : Nat, b.sounds = T := ⟨b.sounds.toNat, by omega⟩
  have t1 := mod_small x2 (T + 1)
  have hsi : x2 % (T + 1) < T + 1 := Nat.mod_lt _ (by omega)
  generalize x2 % (T + 1) = s at *
  have wx2 : IntKind.i64.wrap (x2 : Int) = x2 := IntWalk.i64_in _ (by omega)
  have ws : IntKind.i64.wrap (s : Int) = s := IntWalk.i64_in _ (by omega)
  have wT : IntKind.i64.wrap (b.sounds + 1) = b.sounds + 1 := IntWalk.i64_in _ (by omega)
  have t2 : Int.tmod (x2 : Int) (b.sounds + 1) = s := by rw [hT]; exact_mod_cast t1
  have nz2 : ((b.sounds + 1) == 0) = false := by rw [beq_eq_false_iff_ne]; omega
  have HT := Lib.hid hT
  clear t1 hT
  obtain ⟨q0, q1, q2⟩ := cellsL_get al.letters n hni
  have r0 := (own2.cellAt (n * 3) (by omega)).trans q0
  have r1 := (own2.cellAt (n * 3 + 1) (by omega)).trans q1
  have r2 := (own2.cellAt (n * 3 + 2) (by omega)).trans q2
  have hF := Hfin.out n hni
  have hLn : al.letters.getD n noLetter = al.letters[n] := letD_at _ hni
  have HLn := Lib.hid hLn
  generalize al.letters[n] = y at *
  clear q0 q1 q2 own2 hLn
  go_upto_region 11 with fail
  have hys := hF.1.s
  have hyc := hF.1.c
  have hmk := mask_le hS
  have HF := Lib.hid hF
  have hsle : (s : Int) ≤ b.sounds := by have := HT.out; omega
  have HsL := Lib.hid hsle
  have zSS : S.heap.size < (S.alloc (.cells #[.int .u8 y.c, .int .i64 y.sounds, .bool y.silent] 40)).heap.size := by simp
  clear hF X1 X2 t0 t2 wx wx2 wT nz nz2 z2 r0 r1 r2 k2 hsi
  obtain ⟨z, hz⟩ : ∃ z, z = moreL b.sounds s y := ⟨_, rfl⟩
  have Hz := Lib.hid hz
  clear hz
  go_upto_if 76 with fail
  go_cut [78] (fun _ wd => Ext S wd ∧ wd.cell? ⟨S.heap.size, 0, none⟩ = some (.int .u8 z.c) ∧ wd.cell? ⟨S.heap.size, 1, none⟩ = some (.int .i64 z.sounds) ∧ wd.cell? ⟨S.heap.size, 2, none⟩ = some (.bool z.silent))
  case first =>
    have wL : ∀ u v z : Value, Ext S (S.alloc (.cells #[u, v, z] 40)) := fun _ _ _ => ext_alloc _ _
    by_cases hs : (s : Int) = b.sounds
    · have hs' : ((s : Int) == b.sounds) = true := by simpa using hs
      have hm : moreL b.sounds s y = ⟨y.c, y.sounds, true⟩ := by unfold moreL; rw [if_pos hs]
      have Hm := Lib.hid (Hz.out.trans hm)
      clear hs hm
      go_wp2
      go_meet
      case rel => rw [Hm.out]; exact ⟨ext_alloc _ _, by simp [go_sem], by simp [go_sem], by simp [go_sem]⟩
    · have hs' : ((s : Int) == b.sounds) = false := by simpa using hs
      have hslt : s < 4 := by omega
      have hm : moreL b.sounds s y = if bitM s y.sounds = true then y else ⟨y.c, y.sounds + 2 ^ s, y.silent⟩ := by unfold moreL; rw [if_neg hs]
      have hm2 := Hz.out.trans hm
      clear hs hm
      cases hb : bitM s y.sounds
      · rw [hb] at hm2
        simp only [Bool.false_eq_true, if_false] at hm2
        have Hm := Lib.hid hm2
        have hbit := fun w => bit_any y.sounds s (by unfold I64; omega) (by omega) w
        rw [hb] at hbit
        have w0 : IntKind.i64.wrap (y.sounds + 1) = y.sounds + 1 := IntWalk.i64_in _ (by omega)
        have w1' : IntKind.i64.wrap (y.sounds + 2) = y.sounds + 2 := IntWalk.i64_in _ (by omega)
        have w2' : IntKind.i64.wrap (y.sounds + 4) = y.sounds + 4 := IntWalk.i64_in _ (by omega)
        have w3' : IntKind.i64.wrap (y.sounds + 8) = y.sounds + 8 := IntWalk.i64_in _ (by omega)
        have hs4 : s = 0 ∨ s = 1 ∨ s = 2 ∨ s = 3 := by omega
        clear hb hm2 wL
        rcases hs4 with rfl | rfl | rfl | rfl
        all_goals
          go_wp2_with fail
          refine (hbit _).mono ?_
          rintro e w4 ⟨rfl, rfl⟩
          clear hbit
          go_wp2_with fail
          go_region
          go_wp2
          go_meet
          case rel => rw [Hm.out]; exact ⟨((ext_alloc _ _).alloc _).drew, by simp [go_sem], by simp [go_sem], by simp [go_sem]⟩
      · rw [hb] at hm2
        simp only [if_true] at hm2
        have Hm := Lib.hid hm2
        have hbit := fun w => bit_any y.sounds s (by unfold I64; omega) (by omega) w
        rw [hb] at hbit
        clear hb hm2 wL
        go_wp2_with fail
        refine (hbit _).mono ?_
        rintro e w4 ⟨rfl, rfl⟩
        clear hbit
        go_wp2
        go_meet
        case rel => rw [Hm.out]; exact ⟨ext_alloc _ _, by simp [go_sem], by simp [go_sem], by simp [go_sem]⟩
  case rest =>
    obtain ⟨xT, l0, l1, l2⟩ := hcut
    have own2 := Ext.owns Own2.out xT
    have g0 := own2.cellAt (n * 3) (by omega)
    have g1 := own2.cellAt (n * 3 + 1) (by omega)
    have g2 := own2.cellAt (n * 3 + 2) (by omega)
    have q3 := cellsL_get al.letters n hni
    rw [q3.1] at g0
    rw [q3.2.1] at g1
    rw [q3.2.2] at g2
    have f0 := own2.frozenAt (n * 3)
    have f1 := own2.frozenAt (n * 3 + 1)
    have f2 := own2.frozenAt (n * 3 + 2)
    generalize al.letters[n] = y' at *
    have n0 := xT.cell N0.out
    have n1 := xT.cell N1.out
    have k2 : (n : Int) < (al.letters.length : Int) := by omega
    have zS : R.heap.size < S.heap.size := by have := xS.size; have := cell_lt N0.out; omega
    have zT : S.heap.size < wc.heap.size := cell_lt l0
    have nLg : S.heap.size ≠ gL := by omega
    clear q3 own2 hys hyc hmk hsle zSS wn ws
    go_upto_region 16 with fail
    obtain ⟨U, hU⟩ : ∃ U : World, U = (((wc.setCell ⟨gL, n * 3, none⟩ (.int .u8 z.c)).setCell ⟨gL, n * 3 + 1, none⟩ (.int .i64 z.sounds)).setCell ⟨gL, n * 3 + 2, none⟩ (.bool z.silent)) := ⟨_, rfl⟩
    have xU : Ext R U := by rw [hU]; exact (((xS.trans xT).setCell (by show R.heap.size ≤ gL; omega) _).setCell (by show R.heap.size ≤ gL; omega) _).setCell (by show R.heap.size ≤ gL; omega) _
    have own2 : U.ownsRow (R.heap.size + 1) 40 3 (.slice (some ⟨gL, 0, none⟩) al.letters.length cL) al.letters.length (cellsL (al.letters.set n z)) := by
      rw [hU, cellsL_set _ _ _ hni]
      exact ((((Ext.owns Own2.out xT).stored (n * 3) _).1.stored (n * 3 + 1) _).1.stored (n * 3 + 2) _).1
    have n0 : U.cell? ⟨R.heap.size, 0, none⟩ = some (.string al.name) := by rw [hU]; exact set_other (set_other (set_other n0 (.inl (by show gL ≠ R.heap.size; omega)) _) (.inl (by show gL ≠ R.heap.size; omega)) _) (.inl (by show gL ≠ R.heap.size; omega)) _
    have n1 : U.cell? ⟨R.heap.size, 1, none⟩ = some (.slice (some ⟨gL, 0, none⟩) al.letters.length cL) := by rw [hU]; exact set_other (set_other (set_other n1 (.inl (by show gL ≠ R.heap.size; omega)) _) (.inl (by show gL ≠ R.heap.size; omega)) _) (.inl (by show gL ≠ R.heap.size; omega)) _
    rw [← hU]
    clear hU g0 g1 g2 f0 f1 f2 l0 l1 l2 xT k2 nLg zT zS
    have own1 := Ext.owns Own1.out xU
    have m1 := xU.cell M1.out
    have hec := cellsA_len es
    have hel := Hel.out
    have g0 := own1.cellAt (a * 2) (by omega)
    have g1 := own1.cellAt (a * 2 + 1) (by omega)
    have q3 := cellsA_get es a (by omega)
    rw [q3.1] at g0
    rw [q3.2] at g1
    have f0 := own1.frozenAt (a * 2)
    have f1 := own1.frozenAt (a * 2 + 1)
    have hsh : ∃ q r c, (es[a]'(by omega)).2 = .slice q r c := by
      obtain ⟨-, -, la, lc, e3, -⟩ := Hes.out.2 a hai (by omega)
      exact ⟨_, _, _, e3⟩
    generalize (es[a]'(by omega)).1 = nm at *
    generalize (es[a]'(by omega)).2 = vl at *
    obtain ⟨q, r, c, rfl⟩ := hsh
    have k1 : (a : Int) < (b.alphabets.length : Int) := by omega
    have Own2 := Lib.hid own2
    clear q3 own2 hec hel own1
    go_upto_region 17 with fail
    obtain ⟨V, hV⟩ : ∃ V : World, V = ((U.setCell ⟨gA, a * 2, none⟩ (.string al.name)).setCell ⟨gA, a * 2 + 1, none⟩ (.slice (some ⟨gL, 0, none⟩) al.letters.length cL)) := ⟨_, rfl⟩
    have xV : Ext w1 V := by rw [hV]; exact ((XR.out.trans xU).setCell (by show w1.heap.size ≤ gA; omega) _).setCell (by show w1.heap.size ≤ gA; omega) _
    have own1 : V.ownsRow (w1.heap.size + 1) 38 2 (.slice (some ⟨gA, 0, none⟩) b.alphabets.length cA) b.alphabets.length (cellsA (es.set a (al.name, (.slice (some ⟨gL, 0, none⟩) al.letters.length cL)))) := by
      rw [hV, cellsA_set _ _ _ (by have := Hel.out; omega)]
      exact (((Ext.owns Own1.out xU).stored (a * 2) _).1.stored (a * 2 + 1) _).1
    have own2 : V.ownsRow (R.heap.size + 1) 40 3 (.slice (some ⟨gL, 0, none⟩) al.letters.length cL) al.letters.length (cellsL (al.letters.set n z)) := by
      rw [hV]
      exact (Own2.out.kept (grown_set U ⟨gA, a * 2, none⟩ _) (.inr (by simp [Value.ownBlock]; omega))).kept (grown_set _ ⟨gA, a * 2 + 1, none⟩ _) (.inr (by simp [Value.ownBlock]; omega))
    have m0 : V.cell? ⟨w1.heap.size, 0, none⟩ = some (.int .i64 b.sounds) := by rw [hV]; exact set_other (set_other (xU.cell M0.out) (.inl (by show gA ≠ w1.heap.size; omega)) _) (.inl (by show gA ≠ w1.heap.size; omega)) _
    have m1 : V.cell? ⟨w1.heap.size, 1, none⟩ = some (.slice (some ⟨gA, 0, none⟩) b.alphabets.length cA) := by rw [hV]; exact set_other (set_other (xU.cell M1.out) (.inl (by show gA ≠ w1.heap.size; omega)) _) (.inl (by show gA ≠ w1.heap.size; omega)) _
    have m2 : V.cell? ⟨w1.heap.size, 2, none⟩ = some (.slice bs b.spellings.length bd) := by rw [hV]; exact set_other (set_other (xU.cell M2.out) (.inl (by show gA ≠ w1.heap.size; omega)) _) (.inl (by show gA ≠ w1.heap.size; omega)) _
    rw [← hV]
    have hzf : moreL b.sounds s y = z := Hz.out.symm
    have hsle : (s : Int) ≤ b.sounds := HsL.out
    have hzok : U8 z.c ∧ I64 z.sounds := by
      have h := (moreL_fine hS hsle HF.out.1).1
      rw [hzf] at h
      have h1 := h.c
      have h2 := h.s
      have h3 := mask_le hS
      unfold U8 I64; omega
    have hlet : LettersAt V (.slice (some ⟨gL, 0, none⟩) al.letters.length cL) (al.letters.set n z) := LettersAt.of_own (B := R.heap.size + 1) (e := 40) (by rw [List.length_set]; exact own2) fun x hx => by
      rcases List.mem_or_eq_of_mem_set hx with h | rfl
      · exact Hlv.out.fine x h
      · exact hzok
    have hents := EntsOf.set (Hes.out.ext xV) hai (y := moreA b.sounds s n al) (u := (.slice (some ⟨gL, 0, none⟩) al.letters.length cL)) (la := some ⟨gL, 0, none⟩) (lc := cL) nsz (by simp [moreA]) (by
      show LettersAt V _ (al.letters.set n (moreL b.sounds s (al.letters.getD n noLetter)))
      rw [HLn.out, hzf]; exact hlet)
    have halp : AlphabetsAt V (.slice (some ⟨gA, 0, none⟩) b.alphabets.length cA) (moreB b a n s).alphabets := by
      show AlphabetsAt V _ (b.alphabets.set a (moreA b.sounds s n (b.alphabets.getD a ⟨⟨#[]⟩, []⟩)))
      rw [HA.out]
      exact AlphabetsAt.of_own (base := w1.heap.size + 1) (e := 38) (by rw [List.length_set]; exact own1) hents
    have stV := St.out.ext xV
    have hbook : BookAt V (.agg #[.int .i64 b.sounds, (.slice (some ⟨gA, 0, none⟩) b.alphabets.length cA), .slice bs b.spellings.length bd]) (moreB b a n s) := book_own (b' := moreB b a n s) stV.hB.at_ (Ext.refl _) rfl rfl halp
    obtain ⟨htw, hv2⟩ := Htwo.out n s hni hsle
    have he2 := err_valid hv2
    have hodd := more_odd hv hv2 htw
    have hcnt := fun i (hi : i < b.spellings.length) => more_count hv htw (i := i) hi
    have hnev := fun i j p q (hi : i < b.spellings.length) (hj : j < b.spellings.length) (hp : AlikeIs b i j p) (hq : AlikeIs (moreB b a n s) i j q) => more_never hv htw hi hj hp hq
    have hsp2 : (moreB b a n s).spellings.length = b.spellings.length := rfl
    generalize moreB b a n s = b2 at *
    have c0 := stV.hB.c0
    have c1 := stV.hB.c1
    have c2 := stV.hB.c2
    have z1 := stV.hB.lt
    have Y0 := stV.Y0
    have Y1 := stV.Y1
    have hn5 := hv.n
    have he := He.out
    have hO1 := fun bv w hb => odd_ok bv b he w hb
    have hO2 := fun bv w hb => odd_ok bv b2 he2 w hb
    have hC1 := fun bv i hi w hb => count_ok bv b he i hi w hb
    have hC2 := fun bv i hi w hb => count_ok bv b2 he2 i hi w hb
    have hA1 := fun bv i j hi hj w hb => alike_two bv b he i j hi hj w hb
    have hA2 := fun bv i j hi hj w hb => alike_two bv b2 he2 i j hi hj w hb
    have Hcnt := Lib.hid hcnt
    have Hnev := Lib.hid hnev
    have Hsp2 := Lib.hid hsp2
    try clear hcnt
    try clear hnev
    try clear hsp2
    try clear he
    try clear he2
    try clear hv2
    try clear htw
    try clear hV
    try clear own1
    try clear own2
    try clear hzf
    try clear hsle
    try clear hzok
    try clear hlet
    try clear hents
    try clear halp
    try clear g0
    try clear g1
    try clear f0
    try clear f1
    try clear n0
    try clear n1
    try clear k1
    try clear Own1
    try clear Own2
    try clear M0
    try clear M1
    try clear M2
    try clear XR
    try clear StR
    try clear StS
    try clear XS
    try clear St
    try clear Hal
    try clear xU
    try clear XS
    try clear Hz
    try clear HF
    try clear HLn
    try clear HA
    try clear Htwo
    try clear Hfin
    try clear Hes
    try clear Hel
    try clear HT
    try clear N0
    try clear N1
    try clear Hlv
    go_wp2_with fail
    refine (hO1 _ _ stV.hB.at_).mono ?_
    rintro e w5 ⟨u5, rfl, hu5, x5⟩
    (replace stV := stV.ext x5; replace m0 := Ext.cell x5 m0; replace m1 := Ext.cell x5 m1; replace m2 := Ext.cell x5 m2; replace hbook := BookAt.ext hbook x5; replace c0 := stV.hB.c0; replace c1 := stV.hB.c1; replace c2 := stV.hB.c2; replace z1 := stV.hB.lt; replace Y0 := stV.Y0; replace Y1 := stV.Y1)
    obtain ⟨ua, uc, rfl, -⟩ := hu5.shape
    clear x5 hO1 hu5
    go_wp2_with fail
    refine (hO2 _ _ hbook).mono ?_
    rintro e w6 ⟨u6, rfl, hu6, x6⟩
    (replace stV := stV.ext x6; replace m0 := Ext.cell x6 m0; replace m1 := Ext.cell x6 m1; replace m2 := Ext.cell x6 m2; replace hbook := BookAt.ext hbook x6; replace c0 := stV.hB.c0; replace c1 := stV.hB.c1; replace c2 := stV.hB.c2; replace z1 := stV.hB.lt; replace Y0 := stV.Y0; replace Y1 := stV.Y1)
    obtain ⟨ub, ud, rfl, -⟩ := hu6.shape
    clear x6 hO2 hu6
    have hodd2 : (ints (oddL b2)).length ≤ (ints (oddL b)).length := by simpa [ints] using hodd
    clear hodd
    generalize (ints (oddL b2)).length = p2 at *
    generalize (ints (oddL b)).length = p1 at *
    have hno : ¬ (p1 : Int) < (p2 : Int) := by omega
    have hno' : ¬ p1 < p2 := by omega
    by_cases hn0 : b.spellings.length = 0
    · have hn1 : ((b.spellings.length : Int) == 0) = true := by rw [beq_iff_eq]; omega
      have hn2 : b.spellings = [] := List.eq_nil_of_length_eq_zero hn0
      have x9 := stV.hx
      clear hn0
      go_wp2_with fail
      refine (aw _).mono ?_
      rintro e w8 ⟨rfl, h8⟩
      have x8 := x9.trans h8
      clear h8 x9
      go_wp2
      go_ret
      exact ⟨rfl, x8⟩
    have t0 := mod_small y0 b.spellings.length
    have t1 := mod_small y1 b.spellings.length
    have hi : y0 % b.spellings.length < b.spellings.length := Nat.mod_lt _ (by omega)
    have hj : y1 % b.spellings.length < b.spellings.length := Nat.mod_lt _ (by omega)
    generalize y0 % b.spellings.length = i at *
    generalize y1 % b.spellings.length = j at *
    have wx0 : IntKind.i64.wrap (y0 : Int) = y0 := IntWalk.i64_in _ (by omega)
    have wx1 : IntKind.i64.wrap (y1 : Int) = y1 := IntWalk.i64_in _ (by omega)
    have wi : IntKind.i64.wrap (i : Int) = i := IntWalk.i64_in _ (by omega)
    have wj : IntKind.i64.wrap (j : Int) = j := IntWalk.i64_in _ (by omega)
    have nz : ((b.spellings.length : Int) == 0) = false := by rw [beq_eq_false_iff_ne]; omega
    have nz' : ¬ b.spellings = [] := fun e => by rw [e] at hn0; simp at hn0
    clear hn0
    go_wp2_with fail
    apply Facts.wp_region [.val _, .val _, .val _, .val _, .val _, .val _, .val _, .val _, .val _, .val _, .val _, .val _, .val _, .val _, .val _, .val _] (by kernel_rfl) (by kernel_rfl) trivial ?main
    case main =>
      iterate 16 (refine ⟨fun w1 hx hh => ?_, ?_⟩; focus (clear hh; have e0 := hx.cell Y0; have e1 := hx.cell Y1; have e2 := hx.cell c2; go_simp; exact ⟨Ext.refl _, rfl⟩))
      intro w7 x7 hh
      clear hh
      (replace stV := stV.ext x7; replace m0 := Ext.cell x7 m0; replace m1 := Ext.cell x7 m1; replace m2 := Ext.cell x7 m2; replace hbook := BookAt.ext hbook x7; replace c0 := stV.hB.c0; replace c1 := stV.hB.c1; replace c2 := stV.hB.c2; replace z1 := stV.hB.lt; replace Y0 := stV.Y0; replace Y1 := stV.Y1)
      clear x7 t0 t1 wx0 wx1 nz nz' hno hno' hodd2
      go_simp
      go_wp2_with fail
      refine (hC1 _ i hi _ stV.hB.at_).mono ?_
      rintro e w8 ⟨rfl, x8⟩
      (replace stV := stV.ext x8; replace m0 := Ext.cell x8 m0; replace m1 := Ext.cell x8 m1; replace m2 := Ext.cell x8 m2; replace hbook := BookAt.ext hbook x8; replace c0 := stV.hB.c0; replace c1 := stV.hB.c1; replace c2 := stV.hB.c2; replace z1 := stV.hB.lt; replace Y0 := stV.Y0; replace Y1 := stV.Y1)
      clear x8 hC1
      go_wp2_with fail
      refine (hC2 _ i (by rw [Hsp2.out]; exact hi) _ hbook).mono ?_
      rintro e w9 ⟨rfl, x9⟩
      (replace stV := stV.ext x9; replace m0 := Ext.cell x9 m0; replace m1 := Ext.cell x9 m1; replace m2 := Ext.cell x9 m2; replace hbook := BookAt.ext hbook x9; replace c0 := stV.hB.c0; replace c1 := stV.hB.c1; replace c2 := stV.hB.c2; replace z1 := stV.hB.lt; replace Y0 := stV.Y0; replace Y1 := stV.Y1)
      clear x9 hC2
      have hle := Hcnt.out i hi
      generalize (canM b [i]).length = q1 at *
      generalize (canM b2 [i]).length = q2 at *
      go_wp2_with fail
      refine (hA1 _ i j hi hj _ stV.hB.at_).mono ?_
      rintro e w10 ⟨m1', er1, rfl, h1a, h1b, x10⟩
      (replace stV := stV.ext x10; replace m0 := Ext.cell x10 m0; replace m1 := Ext.cell x10 m1; replace m2 := Ext.cell x10 m2; replace hbook := BookAt.ext hbook x10; replace c0 := stV.hB.c0; replace c1 := stV.hB.c1; replace c2 := stV.hB.c2; replace z1 := stV.hB.lt; replace Y0 := stV.Y0; replace Y1 := stV.Y1)
      clear x10 hA1
      go_wp2_with fail
      refine (hA2 _ i j (by rw [Hsp2.out]; exact hi) (by rw [Hsp2.out]; exact hj) _ hbook).mono ?_
      rintro e w11 ⟨m2', er2, rfl, h2a, h2b, x11⟩
      have x12 := stV.hx.trans x11
      clear x11 hA2 stV m0 m1 m2 hbook c0 c1 c2 z1 Y0 Y1
      have hle' : (q1 : Int) ≤ (q2 : Int) := by omega
      by_cases hij : i = j
      · obtain ⟨rfl, rfl⟩ := h1a hij
        obtain ⟨rfl, rfl⟩ := h2a hij
        clear h1a h1b h2a h2b hij
        go_wp2_with fail
        refine (aw _).mono ?_
        rintro e w8 ⟨rfl, h8⟩
        have x8 := x12.trans h8
        clear h8
        go_wp2
        go_ret
        exact ⟨rfl, x8⟩
      · obtain ⟨rfl, h1c⟩ := h1b hij
        obtain ⟨rfl, h2c⟩ := h2b hij
        have hne := Hnev.out i j m1' m2' hi hj h1c h2c
        clear h1a h1b h2a h2b hij h1c h2c
        by_cases hm : m1' = 2
        · have hmm : (m1' == 2) = true := by simpa using hm
          clear hm hne
          go_wp2_with fail
          refine (aw _).mono ?_
          rintro e w8 ⟨rfl, h8⟩
          have x8 := x12.trans h8
          clear h8
          go_wp2
          go_ret
          exact ⟨rfl, x8⟩
        · have hmm : (m1' == 2) = false := by simpa using hm
          have hmn : (m2' != 2) = true := by rcases hne with h | h; exact absurd h hm; simpa using h
          clear hm hne
          go_wp2_with fail
          refine (aw _).mono ?_
          rintro e w8 ⟨rfl, h8⟩
          have x8 := x12.trans h8
          clear h8
          go_wp2
          go_ret
          exact ⟨rfl, x8⟩
theorem more_any (bv : Value) (b : Book) (x0 x1 x2 y0 y1 : Nat) (h0 : x0 ≤ 255) (h1 : x1 ≤ 255) (h2 : x2 ≤ 255) (h3 : y0 ≤ 255) (h4 : y1 ≤ 255) (w : World) (hb : BookAt w bv b) :
    Calls Try.prog 5 #[bv, .agg #[.int .u8 x0, .int .u8 x1, .int .u8 x2], .agg #[.int .u8 y0, .int .u8 y1]] w fun e w' => e = .returned (.bool true) ∧ Ext w w' := by
  obtain ⟨ba, bc, bs, bd, rfl, -⟩ := hb.open
  exact more_law ba bs bc bd b x0 x1 x2 y0 y1 h0 h1 h2 h3 h4 w hb
end Go.Proofs.Ytoifmphpeflliaa

namespace Go.Proofs.Ytoifmphpeflliaa.earMore
open Go.ChangeShapes Go.WideShapes Go.ChangeAt Go.RowKit
set_option linter.unusedVariables false

theorem own : ownKnob Try.prog.godebug = none := by kernel_rfl
theorem laid : laidOutB Try.prog = true := by kernel_rfl
theorem read0 : Try.prog.readableRec 25 = true := by kernel_rfl
theorem row0 : 25 < Try.prog.types.size := of_decide_eq_true (by kernel_rfl)
theorem read1 : Try.prog.readableRec 47 = true := by kernel_rfl
theorem row1 : 47 < Try.prog.types.size := of_decide_eq_true (by kernel_rfl)
theorem read2 : Try.prog.readableRec 48 = true := by kernel_rfl
theorem row2 : 48 < Try.prog.types.size := of_decide_eq_true (by kernel_rfl)

set_option maxRecDepth 100000 in
theorem lifted (os : Os) (started : os.Started) (H : Type) (enc : TypeId × Value → H) :
    ReturnsInHanded {} Try.checked os 5 .any (Rows.earMoreSpec.pre6 enc Try.prog Try.f5 Rows.earMoreRow.domain false) (Rows.earMoreSpec.post enc Try.prog Try.f5 false true false false) := by
  refine returnsInHanded_of_change (C := Try.checked) own started (by kernel_rfl) Try.func5
    (ChangeSpec.witness6 (enc := enc) (C := Try.checked) false ⟨#[], #[.agg #[.int .i64 0, .slice none 0 0, .slice none 0 0], .agg #[.int .u8 0, .int .u8 0, .int .u8 0], .agg #[.int .u8 0, .int .u8 0]], []⟩ 8 (by kernel_rfl) (by kernel_rfl) (by kernel_rfl) (by kernel_rfl)) ?_
  intro W base args ds gs before hval0 hW hcnd _
  have hval : ∀ (j : Nat) t v, Try.f5.params[j]? = some t → args[j]? = some v → Value.okWide Try.prog W .any base t v := hval0
  have hW' := hW
  obtain ⟨p, q, hA0, hV, rfl, hfz, hnd⟩ := hW
  have hA : DataW.TrodAll enc Try.prog W 0 (fun _ => true) true Try.f5.params.toList args.toList ds p := hA0
  rw [Try.params5] at hA hval
  obtain ⟨v0, vs0, d0, ds0, p0, q0, hargs0, rfl, rfl, h0, r0⟩ := trodAll_cons hA
  obtain ⟨v1, vs1, d1, ds1, p1, q1, hargs1, rfl, rfl, h1, r1⟩ := trodAll_cons r0
  obtain ⟨v2, vs2, d2, ds2, p2, q2, hargs2, rfl, rfl, h2, r2⟩ := trodAll_cons r1
  obtain ⟨rfl, rfl, rfl⟩ := trodAll_nil r2
  subst hargs2
  subst hargs1
  obtain rfl : args = #[v0, v1, v2] := by cases args; simp_all
  obtain ⟨rfl, rfl⟩ := trodVars_none hV
  obtain ⟨b, hb⟩ := book_of (hval 0 25 v0 rfl rfl) h0
  obtain ⟨x0, x1, x2, rfl, g0, g1, g2⟩ := bytes3_of (hval 1 47 v1 rfl rfl) h1
  obtain ⟨y0, y1, rfl, g3, g4⟩ := bytes2_of (hval 2 48 v2 rfl rfl) h2
  clear hA0 hval0
  simp only [List.append_nil] at hW'
  refine (more_any v0 b x0 x1 x2 y0 y1 g0 g1 g2 g3 g4 W hb).mono fun e W' ⟨he, hg⟩ => ?_
  subst he
  have hlt := hW'.lt
  exact ⟨_, rfl, post_ext (pa := p0 ++ (p1 ++ p2)) (pv := []) hW' (fun _ _ _ => (trodAll_cons_mk (shut_bool Try.underlying4 _) trodAll_mk0))
    (fun sp hsp => by
      have g0 := Go.WideElems.Trod_stays (sp' := sp) laid read0 row0 h0 (W' := W') (fun p hp => same_of_ext hg (hlt p (List.mem_append_left _ hp))) (fun p hp => hsp p (List.mem_append_left _ hp))
      have g1 := Go.WideElems.Trod_stays (sp' := sp) laid read1 row1 h1 (W' := W') (fun p hp => same_of_ext hg (hlt p (List.mem_append_right _ (List.mem_append_left _ hp)))) (fun p hp => hsp p (List.mem_append_right _ (List.mem_append_left _ hp)))
      have g2 := Go.WideElems.Trod_stays (sp' := sp) laid read2 row2 h2 (W' := W') (fun p hp => same_of_ext hg (hlt p (List.mem_append_right _ (List.mem_append_right _ hp)))) (fun p hp => hsp p (List.mem_append_right _ (List.mem_append_right _ hp)))
      have := trodAll_cons_mk g0 (trodAll_cons_mk g1 (trodAll_cons_mk g2 (trodAll_mk0 (enc := enc) (P := Try.prog) (w := W') (base := 0) (spare := sp) (held := true))))
      rw [List.append_nil] at this
      exact this) (fun _ _ => rfl) (by simp)
    hg (ok_one (by kernel_rfl) rfl (okWide_bool_mk Try.underlying4 _))⟩

theorem over : Rows.earMoreRow.holds Try.pinned (OpenSpec.ofChange Rows.earMoreSpec) :=
  OpenClaim.holds_of_wide 5 Try.f5 rfl rfl rfl rfl rfl rfl rfl ⟨rfl, rfl, rfl, rfl, rfl⟩ rfl rfl rfl rfl rfl (by kernel_rfl) Try.func5 (by kernel_rfl)
    (of_decide_eq_true (by kernel_rfl)) (by unfold Func.isWrapper; first | (rw [if_pos (by decide +kernel)]; kernel_rfl) | (rw [if_neg (by decide +kernel)]; exact ⟨rfl, rfl⟩))
    (fun os started H enc _ => lifted os started H enc)

/-- ████ THE STATEMENT ████ -/
theorem earMore_said : Rows.EarMoreSaid :=
  over
end Go.Proofs.Ytoifmphpeflliaa.earMore
