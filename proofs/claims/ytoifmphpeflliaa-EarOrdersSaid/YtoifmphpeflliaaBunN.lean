/-
  STRINGS AS NUMBERS, as the reference tells them: to the base of 5, each sound a digit from 1 on; which numbers the first letters of a spelling can be. Plain facts.
  WHAT Strings OF THE REFERENCE RETURNS: of each number whether a spelling can be it.
  WHAT Strings OF THE REFERENCE RETURNS: of each number whether a spelling can be it.
  HOW MANY NUMBERS ARE MARKED, AND WHICH IS THE FIRST ONE: as many as a spelling can be strings, and the first of them. Plain facts.
  THE LEAST SOUND STRING OF A SPELLING. Plain facts.
-/
import Derived.Test.YtoifmphpeflliaaBunM
import Derived.Test.YtoifmphpeflliaaBunP
import Derived.Test.YtoifmphpeflliaaBunL
namespace Go.Proofs.Ytoifmphpeflliaa
set_option linter.unusedVariables false

def codeN (t : List Int) : Nat := t.foldl (fun n x => n * 5 + (x.toNat + 1)) 0
/-- a string of sounds -/
def Digits (t : List Int) : Prop := ∀ x ∈ t, 0 ≤ x ∧ x ≤ 3
theorem codeN_from : ∀ (t : List Int) (n : Nat), t.foldl (fun n x => n * 5 + (x.toNat + 1)) n = n * 5 ^ t.length + codeN t
  | [], n => by simp [codeN]
  | x :: t, n => by
    unfold codeN
    rw [List.foldl_cons, List.foldl_cons, codeN_from t, codeN_from t (0 * 5 + (x.toNat + 1)), List.length_cons, Nat.pow_succ]
    have : (n * 5 + (x.toNat + 1)) * 5 ^ t.length = n * (5 ^ t.length * 5) + (0 * 5 + (x.toNat + 1)) * 5 ^ t.length := by
      rw [Nat.add_mul, Nat.mul_assoc, Nat.mul_comm 5]; simp
    omega
theorem codeN_cons (x : Int) (t : List Int) : codeN (x :: t) = (x.toNat + 1) * 5 ^ t.length + codeN t := by
  have : codeN (x :: t) = t.foldl (fun n x => n * 5 + (x.toNat + 1)) (x.toNat + 1) := by unfold codeN; rw [List.foldl_cons]; simp
  rw [this, codeN_from]
theorem codeN_snoc (t : List Int) (x : Int) : codeN (t ++ [x]) = codeN t * 5 + (x.toNat + 1) := by unfold codeN; rw [List.foldl_append]; rfl
theorem codeN_lt : ∀ {t : List Int}, Digits t → codeN t < 5 ^ t.length
  | [], _ => by simp [codeN]
  | x :: t, h => by
    have ih := codeN_lt (t := t) fun y hy => h y (by simp [hy])
    have hx := h x (by simp)
    rw [codeN_cons, List.length_cons, Nat.pow_succ]
    have : (x.toNat + 1) * 5 ^ t.length ≤ 4 * 5 ^ t.length := Nat.mul_le_mul_right _ (by omega)
    omega
theorem codeN_ge : ∀ (t : List Int), 5 ^ t.length ≤ 4 * codeN t + 1
  | [] => by simp [codeN]
  | x :: t => by
    have ih := codeN_ge t
    rw [codeN_cons, List.length_cons, Nat.pow_succ]
    have : 1 * 5 ^ t.length ≤ (x.toNat + 1) * 5 ^ t.length := Nat.mul_le_mul_right _ (by omega)
    omega
theorem codeN_len {s t : List Int} (hs : Digits s) (h : s.length < t.length) : codeN s < codeN t := by
  have h1 := codeN_lt hs
  have h2 := codeN_ge t
  have h3 : 5 ^ s.length * 5 ≤ 5 ^ t.length := by rw [← Nat.pow_succ]; exact Nat.pow_le_pow_right (by decide) h
  omega
theorem codeN_lex : ∀ {s t : List Int}, Digits s → Digits t → s.length = t.length → (cmpL s t < 0 ↔ codeN s < codeN t)
  | [], [], _, _, _ => by simp [cmpL]
  | x :: s, y :: t, hs, ht, h => by
    have hs' : Digits s := fun z hz => hs z (by simp [hz])
    have ht' : Digits t := fun z hz => ht z (by simp [hz])
    have hl : s.length = t.length := by simpa using h
    have ih := codeN_lex hs' ht' hl
    have hx := hs x (by simp)
    have hy := ht y (by simp)
    have l1 := codeN_lt hs'
    have l2 := codeN_lt ht'
    rw [codeN_cons, codeN_cons, hl] 
    rw [hl] at l1
    unfold cmpL
    by_cases e : x = y
    · subst e; rw [if_pos (cmpM_self x), ih]; omega
    · rw [if_neg fun h0 => e (cmpM_zero.1 h0), cmpM_neg]
      rcases Int.lt_or_gt_of_ne e with h1 | h1
      · have : (x.toNat + 1 + 1) * 5 ^ t.length ≤ (y.toNat + 1) * 5 ^ t.length := Nat.mul_le_mul_right _ (by omega)
        rw [Nat.succ_mul] at this
        omega
      · have : (y.toNat + 1 + 1) * 5 ^ t.length ≤ (x.toNat + 1) * 5 ^ t.length := Nat.mul_le_mul_right _ (by omega)
        rw [Nat.succ_mul] at this
        omega
theorem codeN_cmp {s t : List Int} (hs : Digits s) (ht : Digits t) : cmpSS s t < 0 ↔ codeN s < codeN t := by
  unfold cmpSS
  by_cases h : s.length = t.length
  · rw [if_pos h]; exact codeN_lex hs ht h
  · rw [if_neg h, cmpM_neg]
    rcases Nat.lt_or_gt_of_ne h with h1 | h1
    · have := codeN_len (t := t) hs h1; omega
    · have := codeN_len (t := s) ht h1; omega
theorem cmpL_swap : ∀ {s t : List Int}, s.length = t.length → ¬ cmpL s t < 0 → ¬ cmpL t s < 0 → s = t
  | [], [], _, _, _ => rfl
  | x :: s, y :: t, h, h1, h2 => by
    unfold cmpL at h1 h2
    by_cases e : x = y
    · subst e
      rw [if_pos (cmpM_self x)] at h1 h2
      rw [cmpL_swap (by simpa using h) h1 h2]
    · rw [if_neg fun h0 => e (cmpM_zero.1 h0), cmpM_neg] at h1
      rw [if_neg fun h0 => e (cmpM_zero.1 h0).symm, cmpM_neg] at h2
      omega
theorem codeN_inj {s t : List Int} (hs : Digits s) (ht : Digits t) (h : codeN s = codeN t) : s = t := by
  have hl : s.length = t.length := by
    rcases Nat.lt_trichotomy s.length t.length with h1 | h1 | h1
    · have := codeN_len (t := t) hs h1; omega
    · exact h1
    · have := codeN_len (t := s) ht h1; omega
  refine cmpL_swap hl ?_ ?_
  · rw [codeN_lex hs ht hl]; omega
  · rw [codeN_lex ht hs hl.symm]; omega

/-- which numbers the first letters can be -/
def reach (S : Nat) (ls : List Letter) : Nat → Nat → Prop
  | 0, c => c = 0
  | k + 1, c => ∃ y, ls[k]? = some y ∧ ((reach S ls k c ∧ y.silent = true) ∨ ∃ n c', n < S ∧ bitM n y.sounds = true ∧ reach S ls k c' ∧ c = c' * 5 + n + 1)
theorem reach_lt {S : Nat} (hS : S ≤ 4) {ls : List Letter} : ∀ {k c : Nat}, reach S ls k c → c < 5 ^ k
  | 0, c, h => by have : c = 0 := h; subst this; simp
  | k + 1, c, h => by
    obtain ⟨y, -, h⟩ := h
    rw [Nat.pow_succ]
    rcases h with ⟨h, -⟩ | ⟨n, c', hn, -, h, rfl⟩
    · have := reach_lt hS h; omega
    · have := reach_lt hS h; omega
theorem can_snoc {K : Nat} {y : Letter} : ∀ {ls : List Letter} {s t : List Int}, Can K (ls ++ [y]) s t ↔ ∃ s' n, Can K ls s s' ∧ n ∈ soundsTo K ∧ givesM y n = true ∧ t = withS s' n
  | [], s, t => by
    constructor
    · intro h
      cases h with
      | cons _ _ _ _ n hn hg h => cases h; exact ⟨s, n, .nil s, hn, hg, rfl⟩
    · rintro ⟨s', n, h, hn, hg, rfl⟩
      cases h
      exact .cons _ _ _ _ n hn hg (.nil _)
  | z :: ls, s, t => by
    constructor
    · intro h
      cases h with
      | cons _ _ _ _ n hn hg h =>
        obtain ⟨s', m, h1, h2, h3, h4⟩ := can_snoc.1 h
        exact ⟨s', m, .cons _ _ _ _ n hn hg h1, h2, h3, h4⟩
    · rintro ⟨s', m, h, h2, h3, h4⟩
      cases h with
      | cons _ _ _ _ n hn hg h => exact .cons _ _ _ _ n hn hg (can_snoc.2 ⟨s', m, h, h2, h3, h4⟩)
theorem reach_can {S : Nat} {ls : List Letter} (hf : ∀ y ∈ ls, 0 ≤ y.sounds) : ∀ {k : Nat}, k ≤ ls.length → ∀ c, reach S ls k c ↔ ∃ t, Can (S + 1) (ls.take k) [] t ∧ codeN t = c
  | 0, _, c => by
    constructor
    · intro h
      have : c = 0 := h
      subst this
      exact ⟨[], by simpa using Can.nil (K := S + 1) [], rfl⟩
    · rintro ⟨t, h, rfl⟩
      rw [List.take_zero] at h
      cases h; rfl
  | k + 1, hk, c => by
    have hk' : k < ls.length := hk
    have ih := reach_can (S := S) hf (k := k) (by omega)
    rw [List.take_succ_eq_append_getElem hk']
    have hy := hf _ (List.getElem_mem hk')
    constructor
    · rintro ⟨y, e, h⟩
      rw [List.getElem?_eq_getElem hk'] at e
      cases e
      rcases h with ⟨h, hs⟩ | ⟨n, c', hn, hb, h, rfl⟩
      · obtain ⟨t, ht, rfl⟩ := (ih c).1 h
        exact ⟨t, can_snoc.2 ⟨t, -1, ht, mem_soundsTo.2 (by omega), by rw [givesM, if_pos rfl]; exact hs, by rw [withS, if_pos rfl]⟩, rfl⟩
      · obtain ⟨t, ht, rfl⟩ := (ih c').1 h
        refine ⟨t ++ [(n : Int)], can_snoc.2 ⟨t, n, ht, mem_soundsTo.2 (by omega), ?_, by rw [withS, if_neg (by omega)]⟩, ?_⟩
        · rw [givesM, if_neg (by omega)]
          rw [bitM_test _ _ hy] at hb
          simpa using hb
        · rw [codeN_snoc]; simp; omega
    · rintro ⟨t, h, rfl⟩
      obtain ⟨s', n, h1, h2, h3, rfl⟩ := can_snoc.1 h
      have h2 := mem_soundsTo.1 h2
      refine ⟨_, List.getElem?_eq_getElem hk', ?_⟩
      by_cases hn : n = -1
      · subst hn
        rw [givesM, if_pos rfl] at h3
        rw [withS, if_pos rfl]
        exact .inl ⟨(ih _).2 ⟨s', h1, rfl⟩, h3⟩
      · rw [givesM, if_neg hn] at h3
        rw [withS, if_neg hn]
        refine .inr ⟨n.toNat, codeN s', by omega, by rw [bitM_test _ _ hy]; exact h3, (ih _).2 ⟨s', h1, rfl⟩, ?_⟩
        rw [codeN_snoc]; omega
/-- the numbers that a spelling can be -/
def codeOf (b : Book) (n c : Nat) : Prop := reach b.sounds.toNat (lettersAt b n) (lettersAt b n).length c
theorem codeOf_iff {b : Book} (hv : Valid b) {n : Nat} (hn : n < b.spellings.length) (c : Nat) : codeOf b n c ↔ ∃ t ∈ stringsOf b n, codeN t = c := by
  have hf := (lettersAt_fine hv n hn).2
  unfold codeOf
  rw [reach_can (fun y hy => (hf y hy).1) (Nat.le_refl _), List.take_length]
  unfold stringsOf
  simp only [mem_yields]
theorem digits_of {b : Book} (hv : Valid b) {n : Nat} (hn : n < b.spellings.length) {t : List Int} (ht : t ∈ stringsOf b n) : Digits t := fun x hx => by
  have := (stringsOf_fine hv n hn t ht).2 x hx
  have := hv.s
  omega
theorem codeOf_lt {b : Book} (hv : Valid b) {n : Nat} (hn : n < b.spellings.length) {c : Nat} (h : codeOf b n c) : c < 3125 := by
  have h1 := reach_lt (by have := hv.s; omega) h
  have h2 := (lettersAt_fine hv n hn).1
  have h3 : 5 ^ (lettersAt b n).length ≤ 5 ^ 5 := Nat.pow_le_pow_right (by decide) h2
  omega
theorem code_mem {b : Book} (hv : Valid b) {n : Nat} (hn : n < b.spellings.length) {t : List Int} (ht : Digits t) : codeOf b n (codeN t) ↔ t ∈ stringsOf b n := by
  rw [codeOf_iff hv hn]
  constructor
  · rintro ⟨s, hs, e⟩
    rw [← codeN_inj (digits_of hv hn hs) ht e]; exact hs
  · intro h; exact ⟨t, h, rfl⟩
end Go.Proofs.Ytoifmphpeflliaa

namespace Go.Proofs.Ytoifmphpeflliaa
open Go.RowKit
set_option linter.unusedVariables false

/-- a row of 3125 bools of one's own -/
def RowAt (w : World) (g : Nat) (f : Nat → Bool) : Prop := ∀ d, d < 3125 → w.cell? ⟨g, d, none⟩ = some (.bool (f d)) ∧ w.frozen? ⟨g, d, none⟩ = false
theorem RowAt.ext {w w' : World} {g : Nat} {f : Nat → Bool} (h : RowAt w g f) (hx : Ext w w') : RowAt w' g f := fun d hd =>
  ⟨hx.cell (h d hd).1, by rw [hx.frozen (cell_lt (h d hd).1)]; exact (h d hd).2⟩
theorem RowAt.set {w : World} {g : Nat} {f : Nat → Bool} (h : RowAt w g f) {j : Nat} (hj : j < 3125) (u : Bool) : RowAt (w.setCell ⟨g, j, none⟩ (.bool u)) g (fun d => if d = j then u else f d) := by
  intro d hd
  refine ⟨?_, by rw [World.frozen?_setCell]; exact (h d hd).2⟩
  by_cases e : d = j
  · subst e; simp only [if_true]; exact set_cell (h d hd).1 _
  · simp only [if_neg e]; exact set_other (h d hd).1 (.inr (fun e' => e e'.symm)) _
theorem RowAt.of_own {w : World} {base g : Nat} (h : BoolsOwn w base g (List.replicate 3125 false)) : RowAt w g (fun _ => false) := fun d hd =>
  ⟨by rw [h.cell d (by rw [List.length_replicate]; exact hd), List.getElem_replicate], h.frozen d⟩
theorem RowAt.bools {w : World} {g : Nat} {f : Nat → Bool} (h : RowAt w g f) : BoolsAt w (.slice (some ⟨g, 0, none⟩) 3125 3125) ((List.range 3125).map f) := by
  have hl : ((List.range 3125).map f).length = 3125 := by rw [List.length_map, List.length_range]
  refine ⟨some ⟨g, 0, none⟩, 3125, by rw [hl], by rw [hl]; omega, by omega, fun i hi => ⟨g, 0, rfl, ?_⟩⟩
  have hi' : i < 3125 := by rw [hl] at hi; exact hi
  unfold boolR
  rw [Nat.mul_one, Nat.zero_add, (h i hi').1, List.getElem_map, List.getElem_range]
theorem RowAt.lt {w : World} {g : Nat} {f : Nat → Bool} (h : RowAt w g f) : g < w.heap.size := cell_lt (h 0 (by omega)).1
end Go.Proofs.Ytoifmphpeflliaa

namespace Go.Proofs.Ytoifmphpeflliaa
open Go.RowKit
set_option linter.unusedVariables false

/-- cells that were there still are -/
def CE (a b : World) : Prop := a.heap.size ≤ b.heap.size ∧ ∀ p x, a.cell? p = some x → b.frozen? p = a.frozen? p ∧ ∃ y, b.cell? p = some y
theorem two_ce : Facts.Piv.Two Ext CE := ⟨fun _ _ h => ⟨h.size, fun p x hp => ⟨h.frozen (cell_lt hp), x, h.cell hp⟩⟩, fun _ _ _ h k => h.trans k, fun a b c h k => ⟨Nat.le_trans h.1 k.1, fun p x hp => by
  obtain ⟨h1, y, h2⟩ := h.2 p x hp
  obtain ⟨k1, z, k2⟩ := k.2 p y h2
  exact ⟨k1.trans h1, z, k2⟩⟩, Ext.refl, fun a => ext_drew a⟩
theorem ce_set (w : World) (B o : Nat) (v : Value) : CE w (w.setCell ⟨B, o, none⟩ v) := by
  refine ⟨by simp, fun q x hq => ⟨by simp, ?_⟩⟩
  obtain ⟨qb, qo, qs⟩ := q
  have hs := World.cell?_spot hq
  simp only at hs
  subst hs
  by_cases h : B = qb ∧ o = qo
  · obtain ⟨rfl, rfl⟩ := h
    exact ⟨v, set_cell hq v⟩
  · refine ⟨x, set_other hq ?_ v⟩
    by_cases h1 : B = qb
    · exact .inr fun h2 => h ⟨h1, h2⟩
    · exact .inl h1
theorem ce_set3 (w : World) (B : Nat) (a b c : Value) : CE w (((w.setCell ⟨B, 0, none⟩ a).setCell ⟨B, 1, none⟩ b).setCell ⟨B, 2, none⟩ c) :=
  two_ce.tc _ _ _ (two_ce.tc _ _ _ (ce_set w B 0 a) (ce_set _ B 1 b)) (ce_set _ B 2 c)
/-- a box of three cells of one's own -/
def Box3 (n0 : Nat) (u : Value) (w : World) : Prop := ∃ B, u = .pointer (some ⟨B, 0, none⟩) ∧ n0 ≤ B ∧ ∀ o, o < 3 → (∃ x, w.cell? ⟨B, o, none⟩ = some x) ∧ w.frozen? ⟨B, o, none⟩ = false
theorem Box3.ce {n0 : Nat} {u : Value} {w w' : World} (h : Box3 n0 u w) (hx : CE w w') : Box3 n0 u w' := by
  obtain ⟨B, h1, h2, h3⟩ := h
  refine ⟨B, h1, h2, fun o ho => ?_⟩
  obtain ⟨⟨x, hc⟩, hf⟩ := h3 o ho
  obtain ⟨k1, y, k2⟩ := hx.2 _ _ hc
  exact ⟨⟨y, k2⟩, by rw [k1]; exact hf⟩
noncomputable def Box3.B {n0 : Nat} {u : Value} {w : World} (h : Box3 n0 u w) : Nat := Exists.choose h
theorem Box3.spec {n0 : Nat} {u : Value} {w : World} (h : Box3 n0 u w) : u = .pointer (some ⟨h.B, 0, none⟩) ∧ n0 ≤ h.B ∧ ∀ o, o < 3 → (∃ x, w.cell? ⟨h.B, o, none⟩ = some x) ∧ w.frozen? ⟨h.B, o, none⟩ = false := Exists.choose_spec h
/-- the letter has been stored in the box -/
def Has3 (W0 : World) (y : Letter) (l : List Value) (_ : Value) (w : World) : Prop := ∃ B, l = [.pointer (some ⟨B, 0, none⟩)] ∧ W0.heap.size ≤ B ∧ w.cell? ⟨B, 0, none⟩ = some (.int .u8 y.c) ∧ w.cell? ⟨B, 1, none⟩ = some (.int .i64 y.sounds) ∧ w.cell? ⟨B, 2, none⟩ = some (.bool y.silent) ∧ Ext W0 w
theorem Has3.ext {W0 : World} {y : Letter} {l : List Value} {u : Value} {w w' : World} (h : Has3 W0 y l u w) (hx : Ext w w') : Has3 W0 y l u w' := by
  obtain ⟨B, h1, h2, h3, h4, h5, h6⟩ := h
  exact ⟨B, h1, h2, hx.cell h3, hx.cell h4, hx.cell h5, h6.trans hx⟩
noncomputable def Has3.B {W0 : World} {y : Letter} {l : List Value} {u : Value} {w : World} (h : Has3 W0 y l u w) : Nat := Exists.choose h
theorem Has3.spec {W0 : World} {y : Letter} {a u : Value} {w : World} (h : Has3 W0 y [a] u w) : a = .pointer (some ⟨h.B, 0, none⟩) ∧ W0.heap.size ≤ h.B ∧ w.cell? ⟨h.B, 0, none⟩ = some (.int .u8 y.c) ∧ w.cell? ⟨h.B, 1, none⟩ = some (.int .i64 y.sounds) ∧ w.cell? ⟨h.B, 2, none⟩ = some (.bool y.silent) ∧ Ext W0 w := by
  have hh := Exists.choose_spec h
  exact ⟨(List.cons.inj hh.1).1, hh.2⟩

/-- what is marked behind some numbers -/
def MidP (S : Nat) (ys : List Letter) (j : Nat) (y : Letter) (c d : Nat) : Prop := ∃ c', c' < c ∧ reach S ys j c' ∧ ((y.silent = true ∧ d = c') ∨ ∃ n, n < S ∧ bitM n y.sounds = true ∧ d = c' * 5 + n + 1)
theorem MidP.skip {S : Nat} {ys : List Letter} {j : Nat} {y : Letter} {c d : Nat} (h : ¬ reach S ys j c) : MidP S ys j y (c + 1) d ↔ MidP S ys j y c d := by
  constructor
  · rintro ⟨c', h1, h2, h3⟩
    refine ⟨c', ?_, h2, h3⟩
    rcases Nat.lt_or_ge c' c with h4 | h4
    · exact h4
    · obtain rfl : c' = c := by omega
      exact absurd h2 h
  · rintro ⟨c', h1, h2, h3⟩; exact ⟨c', by omega, h2, h3⟩
theorem MidP.all {S : Nat} (hS : S ≤ 4) {ys : List Letter} {j : Nat} (hj : j ≤ 4) {y : Letter} (hy : ys[j]? = some y) {d : Nat} : MidP S ys j y 3125 d ↔ reach S ys (j + 1) d := by
  have hlt : ∀ c, reach S ys j c → c < 3125 := fun c h => by
    have h1 := reach_lt hS h
    have h2 : 5 ^ j ≤ 5 ^ 4 := Nat.pow_le_pow_right (by decide) hj
    omega
  constructor
  · rintro ⟨c', -, h2, h3⟩
    refine ⟨y, hy, ?_⟩
    rcases h3 with ⟨h3, rfl⟩ | ⟨n, h3, h5, rfl⟩
    · exact .inl ⟨h2, h3⟩
    · exact .inr ⟨n, c', h3, h5, h2, rfl⟩
  · rintro ⟨z, hz, h3⟩
    rw [hy] at hz; cases hz
    rcases h3 with ⟨h2, h3⟩ | ⟨n, c', h3, h5, h2, rfl⟩
    · exact ⟨d, hlt d h2, h2, .inl ⟨h3, rfl⟩⟩
    · exact ⟨c', hlt c' h2, h2, .inr ⟨n, h3, h5, rfl⟩⟩
/-- .. and of one more number the silence and some sounds -/
def InP (S : Nat) (ys : List Letter) (j : Nat) (y : Letter) (c m d : Nat) : Prop := MidP S ys j y c d ∨ (y.silent = true ∧ d = c) ∨ ∃ n, n < m ∧ bitM n y.sounds = true ∧ d = c * 5 + n + 1
theorem InP.zero {S : Nat} {ys : List Letter} {j : Nat} {y : Letter} {c d : Nat} : InP S ys j y c 0 d ↔ MidP S ys j y c d ∨ (y.silent = true ∧ d = c) := by
  unfold InP
  constructor
  · rintro (h | h | ⟨n, h, -⟩)
    · exact .inl h
    · exact .inr h
    · omega
  · rintro (h | h)
    · exact .inl h
    · exact .inr (.inl h)
theorem InP.full {S : Nat} {ys : List Letter} {j : Nat} {y : Letter} {c d : Nat} (h : reach S ys j c) : InP S ys j y c S d ↔ MidP S ys j y (c + 1) d := by
  unfold InP MidP
  constructor
  · rintro (⟨c', h1, h2, h3⟩ | ⟨h1, rfl⟩ | ⟨n, h1, h2, rfl⟩)
    · exact ⟨c', by omega, h2, h3⟩
    · exact ⟨_, by omega, h, .inl ⟨h1, rfl⟩⟩
    · exact ⟨_, by omega, h, .inr ⟨n, h1, h2, rfl⟩⟩
  · rintro ⟨c', h1, h2, h3⟩
    rcases Nat.lt_or_ge c' c with h4 | h4
    · exact .inl ⟨c', h4, h2, h3⟩
    · obtain rfl : c' = c := by omega
      rcases h3 with ⟨h3, rfl⟩ | ⟨n, h3, h5, rfl⟩
      · exact .inr (.inl ⟨h3, rfl⟩)
      · exact .inr (.inr ⟨n, h3, h5, rfl⟩)
theorem InP.no {S : Nat} {ys : List Letter} {j : Nat} {y : Letter} {c m d : Nat} (h : bitM m y.sounds = false) : InP S ys j y c (m + 1) d ↔ InP S ys j y c m d := by
  unfold InP
  refine or_congr Iff.rfl (or_congr Iff.rfl ⟨?_, ?_⟩)
  · rintro ⟨n, h1, h2, h3⟩
    refine ⟨n, ?_, h2, h3⟩
    rcases Nat.lt_or_ge n m with h4 | h4
    · exact h4
    · obtain rfl : n = m := by omega
      rw [h] at h2; cases h2
  · rintro ⟨n, h1, h2, h3⟩; exact ⟨n, by omega, h2, h3⟩
theorem InP.yes {S : Nat} {ys : List Letter} {j : Nat} {y : Letter} {c m d : Nat} (h : bitM m y.sounds = true) : InP S ys j y c (m + 1) d ↔ InP S ys j y c m d ∨ d = c * 5 + m + 1 := by
  unfold InP
  constructor
  · rintro (h1 | h1 | ⟨n, h1, h2, h3⟩)
    · exact .inl (.inl h1)
    · exact .inl (.inr (.inl h1))
    · rcases Nat.lt_or_ge n m with h4 | h4
      · exact .inl (.inr (.inr ⟨n, h4, h2, h3⟩))
      · obtain rfl : n = m := by omega
        exact .inr h3
  · rintro ((h1 | h1 | ⟨n, h1, h2, h3⟩) | h1)
    · exact .inl h1
    · exact .inr (.inl h1)
    · exact .inr (.inr ⟨n, by omega, h2, h3⟩)
    · exact .inr (.inr ⟨m, by omega, h, h1⟩)
/-- a row of its own in which just these numbers are marked -/
def Marked (P : Nat → Prop) (w : World) (e : Ending) (w' : World) : Prop := ∃ g f, e = .returned (.slice (some ⟨g, 0, none⟩) 3125 3125) ∧ RowAt w' g f ∧ (∀ c, c < 3125 → (f c = true ↔ P c)) ∧ w.heap.size ≤ g ∧ Ext w w'
end Go.Proofs.Ytoifmphpeflliaa

namespace Go.Proofs.Ytoifmphpeflliaa
set_option linter.unusedVariables false

theorem heardM_code : ∀ (n : Nat) (t : List Int), t.length = n → Digits t → heardM (codeN t) = t
  | 0, t, h, _ => by
    obtain rfl : t = [] := List.eq_nil_of_length_eq_zero h
    exact heardM_zero
  | n + 1, t, h, hd => by
    rcases List.eq_nil_or_concat t with rfl | ⟨s, x, rfl⟩
    · simp at h
    · have hs : Digits s := fun y hy => hd y (by simp [hy])
      have hx := hd x (by simp)
      have ih := heardM_code n s (by simpa using h) hs
      have e : codeN (s ++ [x]) = codeN s * 5 + (x.toNat + 1) := codeN_snoc s x
      rw [List.concat_eq_append] at *
      rw [e, heardM_pos (by omega)]
      have e1 : (codeN s * 5 + (x.toNat + 1)) / 5 = codeN s := by omega
      have e2 : ((codeN s * 5 + (x.toNat + 1) : Nat) : Int) % 5 - 1 = x := by omega
      rw [e1, e2, ih]
theorem marksN_get (f : Nat → Bool) (N c : Nat) (h : c < ((List.range N).map f).length) : ((List.range N).map f)[c] = f c := by simp
theorem many_filterN (f : Nat → Bool) (N : Nat) : manyM ((List.range N).map f) = ((List.range N).filter f).length := by
  unfold manyM
  rw [List.count_eq_countP, List.countP_map, List.countP_eq_length_filter]
  congr 1
  apply List.filter_congr
  intro x _
  simp
def marks (f : Nat → Bool) : List Bool := (List.range 3125).map f
theorem marks_len (f : Nat → Bool) : (marks f).length = 3125 := by unfold marks; rw [List.length_map, List.length_range]
theorem marks_get (f : Nat → Bool) (c : Nat) (h : c < (marks f).length) : (marks f)[c] = f c := marksN_get f 3125 c h
theorem many_filter (f : Nat → Bool) : manyM (marks f) = ((List.range 3125).filter f).length := many_filterN f 3125
theorem nodup_len {l m : List Nat} (hl : l.Nodup) (hm : m.Nodup) (h : ∀ x, x ∈ l ↔ x ∈ m) : l.length = m.length := ((List.perm_ext_iff_of_nodup hl hm).2 h).length_eq
/-- as many numbers are marked as a set of strings has -/
theorem many_keys {f : Nat → Bool} {l : List (List Int)} (hn : l.Nodup) (hd : ∀ t ∈ l, Digits t) (hlt : ∀ t ∈ l, codeN t < 3125) (hf : ∀ c, c < 3125 → (f c = true ↔ ∃ t ∈ l, codeN t = c)) : manyM (marks f) = l.length := by
  rw [many_filter, show l.length = (l.map codeN).length from (List.length_map _).symm]
  refine nodup_len (List.Pairwise.filter _ List.nodup_range) ?_ fun x => ?_
  · rw [List.nodup_iff_pairwise_ne, List.pairwise_map]
    refine List.Pairwise.imp_of_mem (R := (· ≠ ·)) (fun {a c} ha hc hac e => hac (codeN_inj (hd a ha) (hd c hc) e)) (List.nodup_iff_pairwise_ne.1 hn)
  · rw [List.mem_filter, List.mem_range, List.mem_map]
    constructor
    · rintro ⟨h1, h2⟩; exact (hf x h1).1 h2
    · rintro ⟨t, ht, rfl⟩; exact ⟨hlt t ht, (hf _ (hlt t ht)).2 ⟨t, ht, rfl⟩⟩
theorem many_can {b : Book} (hv : Valid b) {n : Nat} (hn : n < b.spellings.length) {f : Nat → Bool} (hf : ∀ c, c < 3125 → (f c = true ↔ codeOf b n c)) : manyM (marks f) = (canM b [n]).length := by
  have hmem : ∀ t, t ∈ (canM b [n]).map (·.1) ↔ t ∈ stringsOf b n := fun t => by rw [canM_keys]; simp
  have := many_keys (f := f) (l := (canM b [n]).map (·.1)) (canM_nodup hv (by simpa using hn)) (fun t ht => digits_of hv hn ((hmem t).1 ht)) (fun t ht => codeOf_lt hv hn ((codeOf_iff hv hn _).2 ⟨t, (hmem t).1 ht, rfl⟩)) fun c hc => by
    rw [hf c hc, codeOf_iff hv hn]
    exact ⟨fun ⟨t, ht, e⟩ => ⟨t, (hmem t).2 ht, e⟩, fun ⟨t, ht, e⟩ => ⟨t, (hmem t).1 ht, e⟩⟩
  rw [this, List.length_map]
/-- the first number that is marked is that of the first string -/
theorem least_code {f : Nat → Bool} {k : List Int} (P : List Int → Prop) (hP : ∀ t, P t → Digits t ∧ codeN t < 3125) (hf : ∀ c, c < 3125 → (f c = true ↔ ∃ t, P t ∧ codeN t = c)) (hk : P k) (hmin : ∀ t, P t → ¬ cmpSS t k < 0) : idxM id (marks f) = (codeN k : Nat) := by
  have hkl := (hP k hk).2
  refine idxM_some id _ (codeN k) (by rw [marks_len]; exact hkl) (fun i hi hl => ?_) ?_
  · rw [marks_get]
    cases h : f i
    · rfl
    · obtain ⟨t, ht, e⟩ := (hf i (by omega)).1 h
      exact absurd ((codeN_cmp (hP t ht).1 (hP k hk).1).2 (by omega)) (hmin t ht)
  · rw [marks_get]; exact (hf _ hkl).2 ⟨k, hk, rfl⟩
theorem least_none {f : Nat → Bool} (hf : ∀ c, c < 3125 → f c = false) : idxM id (marks f) = -1 := by
  refine idxM_none id _ fun i hi => ?_
  rw [marks_get]
  rw [marks_len] at hi
  exact hf i hi
theorem codeM_N : ∀ (l : List Int), (∀ x ∈ l, 0 ≤ x) → codeM l = (codeN l : Nat) := by
  intro l h
  have key : ∀ (l : List Int) (m : Int) (n : Nat), (∀ x ∈ l, 0 ≤ x) → m = n → l.foldl (fun n x => n * 5 + x + 1) m = ((l.foldl (fun n x => n * 5 + (x.toNat + 1)) n : Nat) : Int) := by
    intro l
    induction l with
    | nil => intro m n _ e; exact e
    | cons x l ih =>
      intro m n h e
      rw [List.foldl_cons, List.foldl_cons]
      refine ih _ _ (fun y hy => h y (by simp [hy])) ?_
      have := h x (by simp)
      subst e
      omega
  exact key l 0 0 h rfl
theorem heard_digits {b : Book} (hv : Valid b) {l : List Int} (h : heardErrM b.sounds l = 0) : l.length ≤ 5 ∧ Digits l ∧ codeN l < 3125 := by
  unfold heardErrM at h
  split at h
  · cases h
  rename_i h1
  split at h
  · cases h
  rename_i h2
  have hw : withinM 0 (b.sounds - 1) l = true := by simpa using h2
  have hd : Digits l := fun x hx => by
    have := withinM_spec hw x hx
    have := hv.s
    omega
  refine ⟨by omega, hd, ?_⟩
  have h3 := codeN_lt hd
  have h4 : 5 ^ l.length ≤ 5 ^ 5 := Nat.pow_le_pow_right (by decide) (by omega)
  omega
theorem indices_open (b : Book) (l : List Int) : indicesM b l b.spellings.length = openM b l := rfl
end Go.Proofs.Ytoifmphpeflliaa

namespace Go.Proofs.Ytoifmphpeflliaa
open Go.RowKit
set_option linter.unusedVariables false

theorem IntsAt.nothing (w : World) : IntsAt w (.slice none 0 0) [] := ⟨none, 0, rfl, Nat.le_refl _, by decide, fun i hi => absurd hi (Nat.not_lt_zero _)⟩

theorem least_of (f : List Int → Nat) : ∀ L : List (List Int), (∃ t, t ∈ L) → ∃ k, k ∈ L ∧ ∀ t, t ∈ L → f k ≤ f t
  | [], h => by obtain ⟨t, ht⟩ := h; cases ht
  | x :: L, _ => by
    by_cases hL : ∃ t, t ∈ L
    · obtain ⟨k, hk, hm⟩ := least_of f L hL
      by_cases hx : f x ≤ f k
      · exact ⟨x, List.mem_cons_self, fun t ht => by
          rcases List.mem_cons.1 ht with rfl | ht
          · exact Nat.le_refl _
          · exact Nat.le_trans hx (hm t ht)⟩
      · exact ⟨k, List.mem_cons_of_mem _ hk, fun t ht => by
          rcases List.mem_cons.1 ht with rfl | ht
          · omega
          · exact hm t ht⟩
    · exact ⟨x, List.mem_cons_self, fun t ht => by
        rcases List.mem_cons.1 ht with rfl | ht
        · exact Nat.le_refl _
        · exact absurd ⟨t, ht⟩ hL⟩
/-- the least sound string of a spelling, and that it is what the walk over the marks finds -/
theorem first_is {b : Book} (hv : Valid b) {m : Nat} (hm : m < b.spellings.length) : ∃ k, k ∈ stringsOf b m ∧ (∀ t, t ∈ stringsOf b m → ¬ cmpSS t k < 0) ∧ ∀ f k', FirstIs (canM b [m]) (fun _ => True) (bitsM [m]) k' f → f = true ∧ k' = k := by
  have hnd := canM_nodup hv (l := [m]) (fun x hx => by rw [List.mem_singleton] at hx; rw [hx]; exact hm)
  obtain ⟨k, hk, hmin⟩ := least_of codeN (stringsOf b m) (stringsOf_some hv m hm)
  have hd := fun t (ht : t ∈ stringsOf b m) => digits_of hv hm ht
  have hmin' : ∀ t, t ∈ stringsOf b m → ¬ cmpSS t k < 0 := fun t ht h => by
    have := (codeN_cmp (hd t ht) (hd k hk)).1 h
    have := hmin t ht
    omega
  refine ⟨k, hk, hmin', fun f k' hF => ?_⟩
  cases f
  · exact absurd ⟨k, fun n hn => by rw [List.mem_singleton] at hn; rw [hn]; exact hk⟩ (first_none hnd (by simp) hF).2
  · obtain ⟨h1, h2⟩ := first_all hnd (by simp) hF
    have hk' : k' ∈ stringsOf b m := h1 m (by simp)
    refine ⟨rfl, codeN_inj (hd k' hk') (hd k hk) ?_⟩
    have h3 := h2 k fun n hn => by rw [List.mem_singleton] at hn; rw [hn]; exact hk
    have h4 : ¬ codeN k < codeN k' := fun h => h3 ((codeN_cmp (hd k hk) (hd k' hk')).2 h)
    have h5 := hmin k' hk'
    omega

end Go.Proofs.Ytoifmphpeflliaa
