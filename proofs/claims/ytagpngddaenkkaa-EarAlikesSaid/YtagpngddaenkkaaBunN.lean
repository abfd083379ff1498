/-
  STRINGS AS NUMBERS, as the reference tells them: to the base of 5, each sound a digit from 1 on; which numbers the first letters of a spelling can be. Plain facts.
  WHAT Strings OF THE REFERENCE RETURNS: of each number whether a spelling can be it.
  WHAT Strings OF THE REFERENCE RETURNS: of each number whether a spelling can be it.
  HOW MANY NUMBERS ARE MARKED, AND WHICH IS THE FIRST ONE: as many as a spelling can be strings, and the first of them. Plain facts.
  WHAT Count, First AND Reads OF THE REFERENCE RETURN.
  WHAT Reads OF THE REFERENCE RETURNS.
-/
import Derived.Test.YtagpngddaenkkaaBunM
import Derived.Test.YtagpngddaenkkaaBunP
import Derived.Test.YtagpngddaenkkaaBunL
namespace Go.Proofs.Ytagpngddaenkkaa
set_option linter.unusedVariables false

def codeN (t : List Int) : Nat := t.foldl (fun n x => n * 5 + (x.toNat + 1)) 0
/-- a string of sounds -/
def Digits (t : List Int) : Prop := ∀ x ∈ t, 0 ≤ x ∧ x ≤ 3
theorem codeN_from : ∀ (t : List Int) (n : Nat), t.foldl (fun n x => n * 5 + (x.toNat + 1)) n = n * 5 ^ t.length + codeN t
  | [], n => by simp [codeN]
  | x :: t, n => by
    unfold codeN
    rw [List.foldl_cons, List.foldl_cons, codeN_from t, codeN_from t (0 * 5 + (x.toNat + 1)), List.length_cons, Nat.pow_succ]
    have : (n * 5 + (x.toNat + 1)) * 5 ^ t.length = n * (5 ^ t.length * 5) + (0 * 5 + (x.toNat + 1)) * 5 ^ t.length := by
      rw [Nat.add_mul, Nat.mul_assoc, Nat.mul_comm 5]; simp
    omega
theorem codeN_cons (x : Int) (t : List Int) : codeN (x :: t) = (x.toNat + 1) * 5 ^ t.length + codeN t := by
  have : codeN (x :: t) = t.foldl (fun n x => n * 5 + (x.toNat + 1)) (x.toNat + 1) := by unfold codeN; rw [List.foldl_cons]; simp
  rw [this, codeN_from]
theorem codeN_snoc (t : List Int) (x : Int) : codeN (t ++ [x]) = codeN t * 5 + (x.toNat + 1) := by unfold codeN; rw [List.foldl_append]; rfl
theorem codeN_lt : ∀ {t : List Int}, Digits t → codeN t < 5 ^ t.length
  | [], _ => by simp [codeN]
  | x :: t, h => by
    have ih := codeN_lt (t := t) fun y hy => h y (by simp [hy])
    have hx := h x (by simp)
    rw [codeN_cons, List.length_cons, Nat.pow_succ]
    have : (x.toNat + 1) * 5 ^ t.length ≤ 4 * 5 ^ t.length := Nat.mul_le_mul_right _ (by omega)
    omega
theorem codeN_ge : ∀ (t : List Int), 5 ^ t.length ≤ 4 * codeN t + 1
  | [] => by simp [codeN]
  | x :: t => by
    have ih := codeN_ge t
    rw [codeN_cons, List.length_cons, Nat.pow_succ]
    have : 1 * 5 ^ t.length ≤ (x.toNat + 1) * 5 ^ t.length := Nat.mul_le_mul_right _ (by omega)
    omega
theorem codeN_len {s t : List Int} (hs : Digits s) (h : s.length < t.length) : codeN s < codeN t := by
  have h1 := codeN_lt hs
  have h2 := codeN_ge t
  have h3 : 5 ^ s.length * 5 ≤ 5 ^ t.length := by rw [← Nat.pow_succ]; exact Nat.pow_le_pow_right (by decide) h
  omega
theorem codeN_lex : ∀ {s t : List Int}, Digits s → Digits t → s.length = t.length → (cmpL s t < 0 ↔ codeN s < codeN t)
  | [], [], _, _, _ => by simp [cmpL]
  | x :: s, y :: t, hs, ht, h => by
    have hs' : Digits s := fun z hz => hs z (by simp [hz])
    have ht' : Digits t := fun z hz => ht z (by simp [hz])
    have hl : s.length = t.length := by simpa using h
    have ih := codeN_lex hs' ht' hl
    have hx := hs x (by simp)
    have hy := ht y (by simp)
    have l1 := codeN_lt hs'
    have l2 := codeN_lt ht'
    rw [codeN_cons, codeN_cons, hl] 
    rw [hl] at l1
    unfold cmpL
    by_cases e : x = y
    · subst e; rw [if_pos (cmpM_self x), ih]; omega
    · rw [if_neg fun h0 => e (cmpM_zero.1 h0), cmpM_neg]
      rcases Int.lt_or_gt_of_ne e with h1 | h1
      · have : (x.toNat + 1 + 1) * 5 ^ t.length ≤ (y.toNat + 1) * 5 ^ t.length := Nat.mul_le_mul_right _ (by omega)
        rw [Nat.succ_mul] at this
        omega
      · have : (y.toNat + 1 + 1) * 5 ^ t.length ≤ (x.toNat + 1) * 5 ^ t.length := Nat.mul_le_mul_right _ (by omega)
        rw [Nat.succ_mul] at this
        omega
theorem codeN_cmp {s t : List Int} (hs : Digits s) (ht : Digits t) : cmpSS s t < 0 ↔ codeN s < codeN t := by
  unfold cmpSS
  by_cases h : s.length = t.length
  · rw [if_pos h]; exact codeN_lex hs ht h
  · rw [if_neg h, cmpM_neg]
    rcases Nat.lt_or_gt_of_ne h with h1 | h1
    · have := codeN_len (t := t) hs h1; omega
    · have := codeN_len (t := s) ht h1; omega
theorem cmpL_swap : ∀ {s t : List Int}, s.length = t.length → ¬ cmpL s t < 0 → ¬ cmpL t s < 0 → s = t
  | [], [], _, _, _ => rfl
  | x :: s, y :: t, h, h1, h2 => by
    unfold cmpL at h1 h2
    by_cases e : x = y
    · subst e
      rw [if_pos (cmpM_self x)] at h1 h2
      rw [cmpL_swap (by simpa using h) h1 h2]
    · rw [if_neg fun h0 => e (cmpM_zero.1 h0), cmpM_neg] at h1
      rw [if_neg fun h0 => e (cmpM_zero.1 h0).symm, cmpM_neg] at h2
      omega
theorem codeN_inj {s t : List Int} (hs : Digits s) (ht : Digits t) (h : codeN s = codeN t) : s = t := by
  have hl : s.length = t.length := by
    rcases Nat.lt_trichotomy s.length t.length with h1 | h1 | h1
    · have := codeN_len (t := t) hs h1; omega
    · exact h1
    · have := codeN_len (t := s) ht h1; omega
  refine cmpL_swap hl ?_ ?_
  · rw [codeN_lex hs ht hl]; omega
  · rw [codeN_lex ht hs hl.symm]; omega

/-- which numbers the first letters can be -/
def reach (S : Nat) (ls : List Letter) : Nat → Nat → Prop
  | 0, c => c = 0
  | k + 1, c => ∃ y, ls[k]? = some y ∧ ((reach S ls k c ∧ y.silent = true) ∨ ∃ n c', n < S ∧ bitM n y.sounds = true ∧ reach S ls k c' ∧ c = c' * 5 + n + 1)
theorem reach_lt {S : Nat} (hS : S ≤ 4) {ls : List Letter} : ∀ {k c : Nat}, reach S ls k c → c < 5 ^ k
  | 0, c, h => by have : c = 0 := h; subst this; simp
  | k + 1, c, h => by
    obtain ⟨y, -, h⟩ := h
    rw [Nat.pow_succ]
    rcases h with ⟨h, -⟩ | ⟨n, c', hn, -, h, rfl⟩
    · have := reach_lt hS h; omega
    · have := reach_lt hS h; omega
theorem can_snoc {K : Nat} {y : Letter} : ∀ {ls : List Letter} {s t : List Int}, Can K (ls ++ [y]) s t ↔ ∃ s' n, Can K ls s s' ∧ n ∈ soundsTo K ∧ givesM y n = true ∧ t = withS s' n
  | [], s, t => by
    constructor
    · intro h
      cases h with
      | cons _ _ _ _ n hn hg h => cases h; exact ⟨s, n, .nil s, hn, hg, rfl⟩
    · rintro ⟨s', n, h, hn, hg, rfl⟩
      cases h
      exact .cons _ _ _ _ n hn hg (.nil _)
  | z :: ls, s, t => by
    constructor
    · intro h
      cases h with
      | cons _ _ _ _ n hn hg h =>
        obtain ⟨s', m, h1, h2, h3, h4⟩ := can_snoc.1 h
        exact ⟨s', m, .cons _ _ _ _ n hn hg h1, h2, h3, h4⟩
    · rintro ⟨s', m, h, h2, h3, h4⟩
      cases h with
      | cons _ _ _ _ n hn hg h => exact .cons _ _ _ _ n hn hg (can_snoc.2 ⟨s', m, h, h2, h3, h4⟩)
theorem reach_can {S : Nat} {ls : List Letter} (hf : ∀ y ∈ ls, 0 ≤ y.sounds) : ∀ {k : Nat}, k ≤ ls.length → ∀ c, reach S ls k c ↔ ∃ t, Can (S + 1) (ls.take k) [] t ∧ codeN t = c
  | 0, _, c => by
    constructor
    · intro h
      have : c = 0 := h
      subst this
      exact ⟨[], by simpa using Can.nil (K := S + 1) [], rfl⟩
    · rintro ⟨t, h, rfl⟩
      rw [List.take_zero] at h
      cases h; rfl
  | k + 1, hk, c => by
    have hk' : k < ls.length := hk
    have ih := reach_can (S := S) hf (k := k) (by omega)
    rw [List.take_succ_eq_append_getElem hk']
    have hy := hf _ (List.getElem_mem hk')
    constructor
    · rintro ⟨y, e, h⟩
      rw [List.getElem?_eq_getElem hk'] at e
      cases e
      rcases h with ⟨h, hs⟩ | ⟨n, c', hn, hb, h, rfl⟩
      · obtain ⟨t, ht, rfl⟩ := (ih c).1 h
        exact ⟨t, can_snoc.2 ⟨t, -1, ht, mem_soundsTo.2 (by omega), by rw [givesM, if_pos rfl]; exact hs, by rw [withS, if_pos rfl]⟩, rfl⟩
      · obtain ⟨t, ht, rfl⟩ := (ih c').1 h
        refine ⟨t ++ [(n : Int)], can_snoc.2 ⟨t, n, ht, mem_soundsTo.2 (by omega), ?_, by rw [withS, if_neg (by omega)]⟩, ?_⟩
        · rw [givesM, if_neg (by omega)]
          rw [bitM_test _ _ hy] at hb
          simpa using hb
        · rw [codeN_snoc]; simp; omega
    · rintro ⟨t, h, rfl⟩
      obtain ⟨s', n, h1, h2, h3, rfl⟩ := can_snoc.1 h
      have h2 := mem_soundsTo.1 h2
      refine ⟨_, List.getElem?_eq_getElem hk', ?_⟩
      by_cases hn : n = -1
      · subst hn
        rw [givesM, if_pos rfl] at h3
        rw [withS, if_pos rfl]
        exact .inl ⟨(ih _).2 ⟨s', h1, rfl⟩, h3⟩
      · rw [givesM, if_neg hn] at h3
        rw [withS, if_neg hn]
        refine .inr ⟨n.toNat, codeN s', by omega, by rw [bitM_test _ _ hy]; exact h3, (ih _).2 ⟨s', h1, rfl⟩, ?_⟩
        rw [codeN_snoc]; omega
/-- the numbers that a spelling can be -/
def codeOf (b : Book) (n c : Nat) : Prop := reach b.sounds.toNat (lettersAt b n) (lettersAt b n).length c
theorem codeOf_iff {b : Book} (hv : Valid b) {n : Nat} (hn : n < b.spellings.length) (c : Nat) : codeOf b n c ↔ ∃ t ∈ stringsOf b n, codeN t = c := by
  have hf := (lettersAt_fine hv n hn).2
  unfold codeOf
  rw [reach_can (fun y hy => (hf y hy).1) (Nat.le_refl _), List.take_length]
  unfold stringsOf
  simp only [mem_yields]
theorem digits_of {b : Book} (hv : Valid b) {n : Nat} (hn : n < b.spellings.length) {t : List Int} (ht : t ∈ stringsOf b n) : Digits t := fun x hx => by
  have := (stringsOf_fine hv n hn t ht).2 x hx
  have := hv.s
  omega
theorem codeOf_lt {b : Book} (hv : Valid b) {n : Nat} (hn : n < b.spellings.length) {c : Nat} (h : codeOf b n c) : c < 3125 := by
  have h1 := reach_lt (by have := hv.s; omega) h
  have h2 := (lettersAt_fine hv n hn).1
  have h3 : 5 ^ (lettersAt b n).length ≤ 5 ^ 5 := Nat.pow_le_pow_right (by decide) h2
  omega
theorem code_mem {b : Book} (hv : Valid b) {n : Nat} (hn : n < b.spellings.length) {t : List Int} (ht : Digits t) : codeOf b n (codeN t) ↔ t ∈ stringsOf b n := by
  rw [codeOf_iff hv hn]
  constructor
  · rintro ⟨s, hs, e⟩
    rw [← codeN_inj (digits_of hv hn hs) ht e]; exact hs
  · intro h; exact ⟨t, h, rfl⟩
end Go.Proofs.Ytagpngddaenkkaa

namespace Go.Proofs.Ytagpngddaenkkaa
open Go.RowKit
set_option linter.unusedVariables false

/-- a row of 3125 bools of one's own -/
def RowAt (w : World) (g : Nat) (f : Nat → Bool) : Prop := ∀ d, d < 3125 → w.cell? ⟨g, d, none⟩ = some (.bool (f d)) ∧ w.frozen? ⟨g, d, none⟩ = false
theorem RowAt.ext {w w' : World} {g : Nat} {f : Nat → Bool} (h : RowAt w g f) (hx : Ext w w') : RowAt w' g f := fun d hd =>
  ⟨hx.cell (h d hd).1, by rw [hx.frozen (cell_lt (h d hd).1)]; exact (h d hd).2⟩
theorem RowAt.set {w : World} {g : Nat} {f : Nat → Bool} (h : RowAt w g f) {j : Nat} (hj : j < 3125) (u : Bool) : RowAt (w.setCell ⟨g, j, none⟩ (.bool u)) g (fun d => if d = j then u else f d) := by
  intro d hd
  refine ⟨?_, by rw [World.frozen?_setCell]; exact (h d hd).2⟩
  by_cases e : d = j
  · subst e; simp only [if_true]; exact set_cell (h d hd).1 _
  · simp only [if_neg e]; exact set_other (h d hd).1 (.inr (fun e' => e e'.symm)) _
theorem RowAt.of_own {w : World} {base g : Nat} (h : BoolsOwn w base g (List.replicate 3125 false)) : RowAt w g (fun _ => false) := fun d hd =>
  ⟨by rw [h.cell d (by rw [List.length_replicate]; exact hd), List.getElem_replicate], h.frozen d⟩
theorem RowAt.bools {w : World} {g : Nat} {f : Nat → Bool} (h : RowAt w g f) : BoolsAt w (.slice (some ⟨g, 0, none⟩) 3125 3125) ((List.range 3125).map f) := by
  have hl : ((List.range 3125).map f).length = 3125 := by rw [List.length_map, List.length_range]
  refine ⟨some ⟨g, 0, none⟩, 3125, by rw [hl], by rw [hl]; omega, by omega, fun i hi => ⟨g, 0, rfl, ?_⟩⟩
  have hi' : i < 3125 := by rw [hl] at hi; exact hi
  unfold boolR
  rw [Nat.mul_one, Nat.zero_add, (h i hi').1, List.getElem_map, List.getElem_range]
theorem RowAt.lt {w : World} {g : Nat} {f : Nat → Bool} (h : RowAt w g f) : g < w.heap.size := cell_lt (h 0 (by omega)).1
end Go.Proofs.Ytagpngddaenkkaa

namespace Go.Proofs.Ytagpngddaenkkaa
open Go.RowKit
set_option linter.unusedVariables false

/-- cells that were there still are -/
def CE (a b : World) : Prop := a.heap.size ≤ b.heap.size ∧ ∀ p x, a.cell? p = some x → b.frozen? p = a.frozen? p ∧ ∃ y, b.cell? p = some y
theorem two_ce : Facts.Piv.Two Ext CE := ⟨fun _ _ h => ⟨h.size, fun p x hp => ⟨h.frozen (cell_lt hp), x, h.cell hp⟩⟩, fun _ _ _ h k => h.trans k, fun a b c h k => ⟨Nat.le_trans h.1 k.1, fun p x hp => by
  obtain ⟨h1, y, h2⟩ := h.2 p x hp
  obtain ⟨k1, z, k2⟩ := k.2 p y h2
  exact ⟨k1.trans h1, z, k2⟩⟩, Ext.refl, fun a => ext_drew a⟩
theorem ce_set (w : World) (B o : Nat) (v : Value) : CE w (w.setCell ⟨B, o, none⟩ v) := by
  refine ⟨by simp, fun q x hq => ⟨by simp, ?_⟩⟩
  obtain ⟨qb, qo, qs⟩ := q
  have hs := World.cell?_spot hq
  simp only at hs
  subst hs
  by_cases h : B = qb ∧ o = qo
  · obtain ⟨rfl, rfl⟩ := h
    exact ⟨v, set_cell hq v⟩
  · refine ⟨x, set_other hq ?_ v⟩
    by_cases h1 : B = qb
    · exact .inr fun h2 => h ⟨h1, h2⟩
    · exact .inl h1
theorem ce_set3 (w : World) (B : Nat) (a b c : Value) : CE w (((w.setCell ⟨B, 0, none⟩ a).setCell ⟨B, 1, none⟩ b).setCell ⟨B, 2, none⟩ c) :=
  two_ce.tc _ _ _ (two_ce.tc _ _ _ (ce_set w B 0 a) (ce_set _ B 1 b)) (ce_set _ B 2 c)
/-- a box of three cells of one's own -/
def Box3 (n0 : Nat) (u : Value) (w : World) : Prop := ∃ B, u = .pointer (some ⟨B, 0, none⟩) ∧ n0 ≤ B ∧ ∀ o, o < 3 → (∃ x, w.cell? ⟨B, o, none⟩ = some x) ∧ w.frozen? ⟨B, o, none⟩ = false
theorem Box3.ce {n0 : Nat} {u : Value} {w w' : World} (h : Box3 n0 u w) (hx : CE w w') : Box3 n0 u w' := by
  obtain ⟨B, h1, h2, h3⟩ := h
  refine ⟨B, h1, h2, fun o ho => ?_⟩
  obtain ⟨⟨x, hc⟩, hf⟩ := h3 o ho
  obtain ⟨k1, y, k2⟩ := hx.2 _ _ hc
  exact ⟨⟨y, k2⟩, by rw [k1]; exact hf⟩
noncomputable def Box3.B {n0 : Nat} {u : Value} {w : World} (h : Box3 n0 u w) : Nat := Exists.choose h
theorem Box3.spec {n0 : Nat} {u : Value} {w : World} (h : Box3 n0 u w) : u = .pointer (some ⟨h.B, 0, none⟩) ∧ n0 ≤ h.B ∧ ∀ o, o < 3 → (∃ x, w.cell? ⟨h.B, o, none⟩ = some x) ∧ w.frozen? ⟨h.B, o, none⟩ = false := Exists.choose_spec h
/-- the letter has been stored in the box -/
def Has3 (W0 : World) (y : Letter) (l : List Value) (_ : Value) (w : World) : Prop := ∃ B, l = [.pointer (some ⟨B, 0, none⟩)] ∧ W0.heap.size ≤ B ∧ w.cell? ⟨B, 0, none⟩ = some (.int .u8 y.c) ∧ w.cell? ⟨B, 1, none⟩ = some (.int .i64 y.sounds) ∧ w.cell? ⟨B, 2, none⟩ = some (.bool y.silent) ∧ Ext W0 w
theorem Has3.ext {W0 : World} {y : Letter} {l : List Value} {u : Value} {w w' : World} (h : Has3 W0 y l u w) (hx : Ext w w') : Has3 W0 y l u w' := by
  obtain ⟨B, h1, h2, h3, h4, h5, h6⟩ := h
  exact ⟨B, h1, h2, hx.cell h3, hx.cell h4, hx.cell h5, h6.trans hx⟩
noncomputable def Has3.B {W0 : World} {y : Letter} {l : List Value} {u : Value} {w : World} (h : Has3 W0 y l u w) : Nat := Exists.choose h
theorem Has3.spec {W0 : World} {y : Letter} {a u : Value} {w : World} (h : Has3 W0 y [a] u w) : a = .pointer (some ⟨h.B, 0, none⟩) ∧ W0.heap.size ≤ h.B ∧ w.cell? ⟨h.B, 0, none⟩ = some (.int .u8 y.c) ∧ w.cell? ⟨h.B, 1, none⟩ = some (.int .i64 y.sounds) ∧ w.cell? ⟨h.B, 2, none⟩ = some (.bool y.silent) ∧ Ext W0 w := by
  have hh := Exists.choose_spec h
  exact ⟨(List.cons.inj hh.1).1, hh.2⟩

/-- what is marked behind some numbers -/
def MidP (S : Nat) (ys : List Letter) (j : Nat) (y : Letter) (c d : Nat) : Prop := ∃ c', c' < c ∧ reach S ys j c' ∧ ((y.silent = true ∧ d = c') ∨ ∃ n, n < S ∧ bitM n y.sounds = true ∧ d = c' * 5 + n + 1)
theorem MidP.skip {S : Nat} {ys : List Letter} {j : Nat} {y : Letter} {c d : Nat} (h : ¬ reach S ys j c) : MidP S ys j y (c + 1) d ↔ MidP S ys j y c d := by
  constructor
  · rintro ⟨c', h1, h2, h3⟩
    refine ⟨c', ?_, h2, h3⟩
    rcases Nat.lt_or_ge c' c with h4 | h4
    · exact h4
    · obtain rfl : c' = c := by omega
      exact absurd h2 h
  · rintro ⟨c', h1, h2, h3⟩; exact ⟨c', by omega, h2, h3⟩
theorem MidP.all {S : Nat} (hS : S ≤ 4) {ys : List Letter} {j : Nat} (hj : j ≤ 4) {y : Letter} (hy : ys[j]? = some y) {d : Nat} : MidP S ys j y 3125 d ↔ reach S ys (j + 1) d := by
  have hlt : ∀ c, reach S ys j c → c < 3125 := fun c h => by
    have h1 := reach_lt hS h
    have h2 : 5 ^ j ≤ 5 ^ 4 := Nat.pow_le_pow_right (by decide) hj
    omega
  constructor
  · rintro ⟨c', -, h2, h3⟩
    refine ⟨y, hy, ?_⟩
    rcases h3 with ⟨h3, rfl⟩ | ⟨n, h3, h5, rfl⟩
    · exact .inl ⟨h2, h3⟩
    · exact .inr ⟨n, c', h3, h5, h2, rfl⟩
  · rintro ⟨z, hz, h3⟩
    rw [hy] at hz; cases hz
    rcases h3 with ⟨h2, h3⟩ | ⟨n, c', h3, h5, h2, rfl⟩
    · exact ⟨d, hlt d h2, h2, .inl ⟨h3, rfl⟩⟩
    · exact ⟨c', hlt c' h2, h2, .inr ⟨n, h3, h5, rfl⟩⟩
/-- .. and of one more number the silence and some sounds -/
def InP (S : Nat) (ys : List Letter) (j : Nat) (y : Letter) (c m d : Nat) : Prop := MidP S ys j y c d ∨ (y.silent = true ∧ d = c) ∨ ∃ n, n < m ∧ bitM n y.sounds = true ∧ d = c * 5 + n + 1
theorem InP.zero {S : Nat} {ys : List Letter} {j : Nat} {y : Letter} {c d : Nat} : InP S ys j y c 0 d ↔ MidP S ys j y c d ∨ (y.silent = true ∧ d = c) := by
  unfold InP
  constructor
  · rintro (h | h | ⟨n, h, -⟩)
    · exact .inl h
    · exact .inr h
    · omega
  · rintro (h | h)
    · exact .inl h
    · exact .inr (.inl h)
theorem InP.full {S : Nat} {ys : List Letter} {j : Nat} {y : Letter} {c d : Nat} (h : reach S ys j c) : InP S ys j y c S d ↔ MidP S ys j y (c + 1) d := by
  unfold InP MidP
  constructor
  · rintro (⟨c', h1, h2, h3⟩ | ⟨h1, rfl⟩ | ⟨n, h1, h2, rfl⟩)
    · exact ⟨c', by omega, h2, h3⟩
    · exact ⟨_, by omega, h, .inl ⟨h1, rfl⟩⟩
    · exact ⟨_, by omega, h, .inr ⟨n, h1, h2, rfl⟩⟩
  · rintro ⟨c', h1, h2, h3⟩
    rcases Nat.lt_or_ge c' c with h4 | h4
    · exact .inl ⟨c', h4, h2, h3⟩
    · obtain rfl : c' = c := by omega
      rcases h3 with ⟨h3, rfl⟩ | ⟨n, h3, h5, rfl⟩
      · exact .inr (.inl ⟨h3, rfl⟩)
      · exact .inr (.inr ⟨n, h3, h5, rfl⟩)
theorem InP.no {S : Nat} {ys : List Letter} {j : Nat} {y : Letter} {c m d : Nat} (h : bitM m y.sounds = false) : InP S ys j y c (m + 1) d ↔ InP S ys j y c m d := by
  unfold InP
  refine or_congr Iff.rfl (or_congr Iff.rfl ⟨?_, ?_⟩)
  · rintro ⟨n, h1, h2, h3⟩
    refine ⟨n, ?_, h2, h3⟩
    rcases Nat.lt_or_ge n m with h4 | h4
    · exact h4
    · obtain rfl : n = m := by omega
      rw [h] at h2; cases h2
  · rintro ⟨n, h1, h2, h3⟩; exact ⟨n, by omega, h2, h3⟩
theorem InP.yes {S : Nat} {ys : List Letter} {j : Nat} {y : Letter} {c m d : Nat} (h : bitM m y.sounds = true) : InP S ys j y c (m + 1) d ↔ InP S ys j y c m d ∨ d = c * 5 + m + 1 := by
  unfold InP
  constructor
  · rintro (h1 | h1 | ⟨n, h1, h2, h3⟩)
    · exact .inl (.inl h1)
    · exact .inl (.inr (.inl h1))
    · rcases Nat.lt_or_ge n m with h4 | h4
      · exact .inl (.inr (.inr ⟨n, h4, h2, h3⟩))
      · obtain rfl : n = m := by omega
        exact .inr h3
  · rintro ((h1 | h1 | ⟨n, h1, h2, h3⟩) | h1)
    · exact .inl h1
    · exact .inr (.inl h1)
    · exact .inr (.inr ⟨n, by omega, h2, h3⟩)
    · exact .inr (.inr ⟨m, by omega, h, h1⟩)
/-- a row of its own in which just these numbers are marked -/
def Marked (P : Nat → Prop) (w : World) (e : Ending) (w' : World) : Prop := ∃ g f, e = .returned (.slice (some ⟨g, 0, none⟩) 3125 3125) ∧ RowAt w' g f ∧ (∀ c, c < 3125 → (f c = true ↔ P c)) ∧ w.heap.size ≤ g ∧ Ext w w'
set_option maxRecDepth 100000 in
set_option maxHeartbeats 4000000 in
theorem strings_any (bv : Value) (b : Book) (sp : Spelling) (ls : List Letter) (hS : 1 ≤ b.sounds ∧ b.sounds ≤ 4) (ha : 0 ≤ sp.alphabet ∧ sp.alphabet < b.alphabets.length) (hls : ls = lettersOf b.alphabets sp.alphabet) (hl6 : ls.length ≤ 6) (hts : sp.text.size ≤ 5)
    (hkn : ∀ j, j < sp.text.size → knownB ls sp.text j = true) (hfs : ∀ y ∈ ls, 0 ≤ y.sounds ∧ y.sounds ≤ 15) (w : World) (hb : BookAt w bv b) :
    Calls Try.prog 59 #[bv, .agg #[.int .i64 sp.alphabet, .string sp.text]] w (Marked (reach b.sounds.toNat (lettersM ls sp.text) sp.text.size) w) := by
  have hb0 := hb
  obtain ⟨ba, bc, bs, bd, rfl, -, -, -, hsl, hsc, -, hal, -⟩ := hb.open
  obtain ⟨_, _, hea, -, -, hh⟩ := hal
  obtain ⟨al, alo, rfl, ac0, hns, lv, ac1, hlv⟩ := hh sp.alphabet.toNat (by omega)
  have hea1 := (Value.slice.inj hea).1
  subst hea1
  have hle : (b.alphabets[sp.alphabet.toNat]'(by omega)).letters = ls := by rw [hls]; unfold lettersOf; rw [List.getElem?_eq_getElem (by omega)]
  generalize hxA : b.alphabets[sp.alphabet.toNat]'(by omega) = xA at *
  rw [hle] at hlv
  clear hea hh hls
  have Hle := Lib.hid hle
  clear hle hxA
  obtain ⟨S, hSS⟩ : ∃ S : Nat, S = b.sounds.toNat := ⟨_, rfl⟩
  have hS1 : b.sounds ≤ (S : Int) := by omega
  have hS2 : (S : Int) ≤ b.sounds := by omega
  rw [← hSS]
  clear hSS
  have ha1 : 0 ≤ sp.alphabet := ha.1
  have ha2 : sp.alphabet < (b.alphabets.length : Int) := ha.2
  obtain ⟨la, lc, rfl, hlc1, hlc2⟩ := hlv.shape
  have Hkn := Lib.hid hkn
  have Hfs := Lib.hid hfs
  clear hkn hfs ha
  obtain ⟨wm, hm, hown, hxm⟩ := make_bools (((w).alloc (.cells #[.int .i64 b.sounds, .slice (some ⟨al, alo, none⟩) b.alphabets.length bc, .slice bs b.spellings.length bd] 25)).alloc (.cells #[.int .i64 sp.alphabet, .string sp.text] 55)) 3125 (((w).alloc (.cells #[.int .i64 b.sounds, .slice (some ⟨al, alo, none⟩) b.alphabets.length bc, .slice bs b.spellings.length bd] 25)).alloc (.cells #[.int .i64 sp.alphabet, .string sp.text] 55)).heap.size (by omega) (Nat.le_refl _)
  have hz : (((w).alloc (.cells #[.int .i64 b.sounds, .slice (some ⟨al, alo, none⟩) b.alphabets.length bc, .slice bs b.spellings.length bd] 25)).alloc (.cells #[.int .i64 sp.alphabet, .string sp.text] 55)).heap.size = w.heap.size + 1 + 1 := by simp
  have hm' : (Instr.makeSlice 93 (.int .i64 3125) (.int .i64 3125)).run Try.prog (((w).alloc (.cells #[.int .i64 b.sounds, .slice (some ⟨al, alo, none⟩) b.alphabets.length bc, .slice bs b.spellings.length bd] 25)).alloc (.cells #[.int .i64 sp.alphabet, .string sp.text] 55)) = .ok (.slice (some ⟨(((w).alloc (.cells #[.int .i64 b.sounds, .slice (some ⟨al, alo, none⟩) b.alphabets.length bc, .slice bs b.spellings.length bd] 25)).alloc (.cells #[.int .i64 sp.alphabet, .string sp.text] 55)).heap.size, 0, none⟩) 3125 3125) wm := hm
  clear hm
  have hr := RowAt.of_own hown
  rw [hz] at hm' hr
  clear hown hz
  have hr0 := (hr 0 (by omega)).1
  have hf0 := (hr 0 (by omega)).2
  have zr := hr.lt
  have b0 : wm.cell? ⟨w.heap.size, 0, none⟩ = some (.int .i64 b.sounds) := hxm.cell (by simp [go_sem])
  have b1 : wm.cell? ⟨w.heap.size, 1, none⟩ = some (.slice (some ⟨al, alo, none⟩) b.alphabets.length bc) := hxm.cell (by simp [go_sem])
  have s0 : wm.cell? ⟨w.heap.size + 1, 0, none⟩ = some (.int .i64 sp.alphabet) := hxm.cell (by simp [go_sem])
  have s1 : wm.cell? ⟨w.heap.size + 1, 1, none⟩ = some (.string sp.text) := hxm.cell (by simp [go_sem])
  have xm : Ext w wm := ((ext_alloc _ _).alloc _).trans hxm
  clear hxm
  go_enter Try.func59, Try.ntmps59
  go_wp2
  clear hm' hr0 hf0
  have hxs : Ext w (wm.setCell ⟨w.heap.size + 1 + 1, 0, none⟩ (.bool true)) := xm.setCell (by show w.heap.size ≤ w.heap.size + 1 + 1; omega) _
  replace hr := hr.set (j := 0) (by omega) true
  have hne : ∀ B o v, B ≠ w.heap.size + 1 + 1 → wm.cell? ⟨B, o, none⟩ = some v → (wm.setCell ⟨w.heap.size + 1 + 1, 0, none⟩ (.bool true)).cell? ⟨B, o, none⟩ = some v := fun B o v hB hc => set_other hc (.inl (fun e => hB e.symm)) _
  replace b0 := hne _ _ _ (by omega) b0
  replace b1 := hne _ _ _ (by omega) b1
  replace s0 := hne _ _ _ (by omega) s0
  replace s1 := hne _ _ _ (by omega) s1
  have hsz : w.heap.size + 1 + 1 < (wm.setCell ⟨w.heap.size + 1 + 1, 0, none⟩ (.bool true)).heap.size := by simpa using zr
  clear hne xm zr
  obtain ⟨W, hW⟩ : ∃ W, W = wm.setCell ⟨w.heap.size + 1 + 1, 0, none⟩ (.bool true) := ⟨_, rfl⟩
  rw [← hW] at hxs hr b0 b1 s0 s1 hsz ⊢
  clear hW
  generalize hys : lettersM ls sp.text = ys at *
  have hyl : ys.length = sp.text.size := by rw [← hys, lettersM, lettersTo_len]
  have hyj : ∀ j (hj : j < sp.text.size), ys[j]? = some (letterOf ls sp.text j) := fun j hj => by rw [← hys]; simp [lettersM, lettersTo, hj]
  have Hys := Lib.hid hys
  have Hyl := Lib.hid hyl
  have Hyj := Lib.hid hyj
  clear hys hyl hyj
  go_loopw [5, 6] (fun v i wr => ∃ (j g : Nat) (f : Nat → Bool), j ≤ sp.text.size ∧ i = .int .i64 j ∧ v = .slice (some ⟨g, 0, none⟩) 3125 3125 ∧ RowAt wr g f ∧ (∀ c, c < 3125 → (f c = true ↔ reach S ys j c)) ∧ w.heap.size ≤ g ∧ Ext w wr ∧ wr.cell? ⟨w.heap.size, 0, none⟩ = some (.int .i64 b.sounds) ∧ wr.cell? ⟨w.heap.size, 1, none⟩ = some (.slice (some ⟨al, alo, none⟩) b.alphabets.length bc) ∧ wr.cell? ⟨w.heap.size + 1, 0, none⟩ = some (.int .i64 sp.alphabet) ∧ wr.cell? ⟨w.heap.size + 1, 1, none⟩ = some (.string sp.text)) (fun _ i _ => sp.text.size - (intOf i).toNat)
  case atStart => exact ⟨0, w.heap.size + 1 + 1, _, Nat.zero_le _, rfl, rfl, hr, fun c hc => by
    show (if c = 0 then true else false) = true ↔ c = 0
    split <;> simp_all, by omega, hxs, b0, b1, s0, s1⟩
  case round =>
    obtain ⟨j, g, f, hj, rfl, rfl, hr, hf, hg, hx, b0, b1, s0, s1⟩ := hrel
    obtain ⟨R, hR⟩ : ∃ R : World, R = wr := ⟨_, rfl⟩
    subst hR
    have z1 := cell_lt b0
    have z2 := cell_lt s0
    by_cases hlt : j < sp.text.size
    · have k1 : (j : Int) < (sp.text.size : Int) := by omega
      have hbe := byteAt_eq sp.text j hlt
      obtain ⟨p, hp, hidx, hpl⟩ := idxM_known ls sp.text j (Hkn.out j hlt)
      have hyj := Hyj.out j hlt
      have hlvR := hlv.ext hx
      have a0R := hx.cell ac0
      have a1R := hx.cell ac1
      have hav : ∀ w', Ext R w' → AlphabetV w' (.agg #[.string xA.name, .slice la ls.length lc]) xA := fun w' h => ⟨_, rfl, hns, by rw [Hle.out]; exact hlvR.ext h⟩
      have hlt7 := fun w' (h : Ext R w') => refLetter_any _ xA (byteAt sp.text j) w' (hav w' h)
      rw [Hle.out, hidx] at hlt7
      rw [hbe] at hlt7
      obtain ⟨_, _, hea, -, -, hh⟩ := hlvR
      obtain ⟨lb, lo, rfl, q0, q1, q2, hu8, hi64⟩ := hh p hp
      have hea1 := (Value.slice.inj hea).1
      subst hea1
      rw [hpl] at q0 q1 q2 hu8 hi64
      have hfy := Hfs.out ls[p] (List.getElem_mem hp)
      rw [hpl] at hfy
      generalize letterOf ls sp.text j = y at *
      have kp : (p : Int) < (ls.length : Int) := by omega
      have Hyj2 := Lib.hid hyj
      have Hf := Lib.hid hf
      have z3 := cell_lt a0R
      clear hea hh hpl hidx hbe hyj hf hav
      go_wp2_with fail
      obtain ⟨RA, hRA⟩ : ∃ RA, RA = R.alloc (.cells #[.string xA.name, .slice (some ⟨lb, lo, none⟩) ls.length lc] 67) := ⟨_, rfl⟩
      have a0 : RA.cell? ⟨R.heap.size, 0, none⟩ = some (.string xA.name) := by rw [hRA]; simp [go_sem]
      have a1 : RA.cell? ⟨R.heap.size, 1, none⟩ = some (.slice (some ⟨lb, lo, none⟩) ls.length lc) := by rw [hRA]; simp [go_sem]
      have xRA : Ext R RA := by rw [hRA]; exact ext_alloc _ _
      rw [← hRA]
      clear hRA
      have s1A := xRA.cell s1
      replace q0 := xRA.cell q0
      replace q1 := xRA.cell q1
      replace q2 := xRA.cell q2
      apply Facts.Dep.wp_region two_ce 11 [.val _, .val _, .val _, .val _, .val _, .val _, .val _, .val (.int .i64 p), .val _, .val _, .fact (Box3 R.heap.size), .on [10] (Has3 R y)] (by kernel_rfl) (by kernel_rfl) (.inl (by kernel_rfl)) (by kernel_rfl) ?keep ?main
      case keep => exact ⟨fun u a c hx h => h.ce (two_ce.sub _ _ hx), fun _ u a c hx h => h.ce hx, fun l u a c hx h => h.ext hx, fun h => absurd h (Bool.eq_false_iff.1 (by kernel_rfl)), trivial⟩
      case main =>
        iterate 7 (refine ⟨fun w1 hE hC hh => ?_, ?_⟩; focus (have hx := hE (by kernel_rfl); clear hh hE hC; have e0 := hx.cell a0; have e1 := hx.cell a1; have e2 := hx.cell s1A; go_simp; first | exact ⟨Ext.refl _, rfl⟩ | exact Ext.refl _))
        refine ⟨fun w1 hE hC hh => ?_, ?_⟩
        · have hx := hE (by kernel_rfl)
          clear hh hC hE
          go_simp
          refine (hlt7 w1 (xRA.trans hx)).mono ?_
          rintro e w' ⟨rfl, hx2⟩
          exact ⟨_, rfl, hx2, rfl⟩
        iterate 2 (refine ⟨fun w1 hE hC hh => ?_, ?_⟩; focus (have hx := hE (by kernel_rfl); clear hh hE hC; have e0 := hx.cell q0; have e1 := hx.cell q1; have e2 := hx.cell q2; go_simp; first | exact ⟨Ext.refl _, rfl⟩ | exact Ext.refl _))
        refine ⟨fun w1 hE hC hh => ?_, ?_⟩
        · have hx := hE (by kernel_rfl)
          clear hh hC hE
          have hsz := (xRA.trans hx).size
          go_simp
          exact ⟨ext_alloc _ _, w1.heap.size, rfl, hsz, fun o ho => by
            have : o = 0 ∨ o = 1 ∨ o = 2 := by omega
            rcases this with rfl | rfl | rfl
            · exact ⟨⟨_, by simp [go_sem]; rfl⟩, by simp [go_sem]⟩
            · exact ⟨⟨_, by simp [go_sem]; rfl⟩, by simp [go_sem]⟩
            · exact ⟨⟨_, by simp [go_sem]; rfl⟩, by simp [go_sem]⟩⟩
        intro u10
        refine ⟨fun w1 hE hC hh => ?_, ?_⟩
        · have hx := hE (by kernel_rfl)
          have h9 : Box3 R.heap.size u10 w1 := hh 10 _ List.mem_cons_self (by kernel_rfl)
          clear hh hC hE
          have s9 := h9.spec
          generalize h9.B = B at *
          have e9 := s9.1
          have hB := s9.2.1
          have t0 := s9.2.2 0 (by omega)
          have t1 := s9.2.2 1 (by omega)
          have t2 := s9.2.2 2 (by omega)
          clear s9 h9
          have v0 := t0.1.choose_spec
          have v1 := t1.1.choose_spec
          have v2 := t2.1.choose_spec
          have f0 := t0.2
          have f1 := t1.2
          have f2 := t2.2
          generalize t0.1.choose = y0 at *
          generalize t1.1.choose = y1 at *
          generalize t2.1.choose = y2 at *
          clear t0 t1 t2
          have hxR := xRA.trans hx
          have h3 := three_cells v0 v1 v2 (.int .u8 y.c) (.int .i64 y.sounds) (.bool y.silent)
          have hlt2 := cell_lt v0
          subst e9
          have hce := ce_set3 w1 B (.int .u8 y.c) (.int .i64 y.sounds) (.bool y.silent)
          have hx3 : Ext R (((w1.setCell ⟨B, 0, none⟩ (.int .u8 y.c)).setCell ⟨B, 1, none⟩ (.int .i64 y.sounds)).setCell ⟨B, 2, none⟩ (.bool y.silent)) := ((hxR.setCell hB _).setCell hB _).setCell hB _
          go_simp
          first | exact ⟨hce, B, rfl, hB, h3.1, h3.2.1, h3.2.2, hx3⟩ | exact ⟨B, rfl, hB, h3.1, h3.2.1, h3.2.2, hx3⟩
        intro u11 w3 hC hh
        have h11 : Has3 R y [u10] u11 w3 := hh 11 _ List.mem_cons_self
        clear hh hC
        have s11 := h11.spec
        generalize h11.B = B at *
        have e9 := s11.1
        have hB := s11.2.1
        have y0 := s11.2.2.1
        have y1 := s11.2.2.2.1
        have y2 := s11.2.2.2.2.1
        have x3 := s11.2.2.2.2.2
        clear s11 h11 a0 a1 xRA s1A q0 q1 q2 hlt7
        subst e9
        have hr3 := hr.ext x3
        have hgl := hr3.lt
        have zy := cell_lt y0
        have hgR := hr.lt
        obtain ⟨wm, hm, hown, hxm⟩ := make_bools w3 3125 w3.heap.size (by omega) (Nat.le_refl _)
        have hm' : (Instr.makeSlice 93 (.int .i64 3125) (.int .i64 3125)).run Try.prog w3 = .ok (.slice (some ⟨w3.heap.size, 0, none⟩) 3125 3125) wm := hm
        have hn := RowAt.of_own hown
        clear hm hown
        obtain ⟨G, hG⟩ : ∃ G, G = w3.heap.size := ⟨_, rfl⟩
        rw [← hG] at hm' hn hgl zy
        have hGR : R.heap.size ≤ G := by have := x3.size; omega
        clear hG
        have hr4 := hr3.ext hxm
        replace y0 := hxm.cell y0
        replace y1 := hxm.cell y1
        replace y2 := hxm.cell y2
        have x4 : Ext R wm := x3.trans hxm
        clear hxm x3 hr3
        go_simp
        go_wp2
        clear hm'
        have hBG : B ≠ G := by omega
        have hgG : g ≠ G := by omega
        have HBG := Lib.hid hBG
        have HgG := Lib.hid hgG
        have hS5 : S ≤ 4 := by omega
        have hj4 : j ≤ 4 := by omega
        have hwR := hx.size
        clear hBG hgG y0
        go_loopw [10] (fun i wr => ∃ (c : Nat) (h : Nat → Bool), c ≤ 3125 ∧ i = .int .i64 c ∧ RowAt wr G h ∧ (∀ d, d < 3125 → (h d = true ↔ MidP S ys j y c d)) ∧ Ext R wr ∧ wr.cell? ⟨B, 1, none⟩ = some (.int .i64 y.sounds) ∧ wr.cell? ⟨B, 2, none⟩ = some (.bool y.silent)) (fun i _ => 3125 - (intOf i).toNat)
        case atStart => exact ⟨0, _, by omega, rfl, hn, fun d _ => ⟨fun e => by simp at e, fun ⟨c', hc', _⟩ => by omega⟩, x4, y1, y2⟩
        case round =>
          obtain ⟨c, h, hc, rfl, hrow, hh, hxr, y1, y2⟩ := hrel
          have r0 := hxr.cell b0
          have hro := hr.ext hxr
          have zz := hrow.lt
          have zb := cell_lt y1
          have zr0 := cell_lt r0
          have zg := hro.lt
          by_cases hcl : c < 3125
          · have k2 : (c : Int) < 3125 := by omega
            have oc := (hro c hcl).1
            have hfc := Hf.out c hcl
            cases hfv : f c
            · rw [hfv] at oc
              have hnr : ¬ reach S ys j c := fun h => by rw [hfc.2 h] at hfv; cases hfv
              have Hhh : Hid (∀ d, d < 3125 → (h d = true ↔ MidP S ys j y (c + 1) d)) := Lib.hid fun d hd => by rw [hh d hd, MidP.skip hnr]
              clear hfv hfc hh hnr
              go_wp2
              go_roundw
              case rel => exact ⟨c + 1, h, by omega, by go_num, hrow, Hhh.out, hxr, y1, y2⟩
              case measure => simp [intOf]; omega
            · rw [hfv] at oc
              have hrc : reach S ys j c := hfc.1 hfv
              have hc5 : c < 625 := by
                have h1 := reach_lt (by omega) hrc
                have h2 : 5 ^ j ≤ 5 ^ 4 := Nat.pow_le_pow_right (by decide) (by omega)
                omega
              have nc := (hrow c hcl).1
              have nf := (hrow c hcl).2
              have Hrc := Lib.hid hrc
              have hstep := hrow.set hcl (h c || y.silent)
              have Hhh : Hid (∀ d, d < 3125 → ((if d = c then (h c || y.silent) else h d) = true ↔ InP S ys j y c 0 d)) := Lib.hid fun d hd => by
                rw [InP.zero]
                by_cases e : d = c
                · subst e
                  rw [if_pos rfl, Bool.or_eq_true, hh d hd]; simp
                · rw [if_neg e, hh d hd]; simp [e]
              clear hfv hfc hh hrc
              have hmid : ∀ wq : World, wq = wr.setCell ⟨G, c, none⟩ (.bool (h c || y.silent)) → Ext R wq ∧ wq.cell? ⟨B, 1, none⟩ = some (.int .i64 y.sounds) ∧ wq.cell? ⟨B, 2, none⟩ = some (.bool y.silent) := by
                rintro wq rfl
                exact ⟨hxr.setCell hGR _, set_other y1 (.inl (fun e => HBG.out e.symm)) _, set_other y2 (.inl (fun e => HBG.out e.symm)) _⟩
              cases hcv : h c
              all_goals
                rw [hcv] at nc hstep hmid Hhh
                simp only [Bool.false_or, Bool.true_or] at hstep hmid Hhh
                go_wp2
                have hm5 := hmid _ rfl
                clear hmid nc nf hrow hxr y1 y2 oc zz zb zr0 zg hcv r0 hro
                generalize wr.setCell ⟨G, c, none⟩ _ = WQ at *
                obtain ⟨x5, y1, y2⟩ := hm5
                go_loopw [11] (fun i wr => ∃ (n : Nat) (h : Nat → Bool), n ≤ S ∧ i = .int .i64 n ∧ RowAt wr G h ∧ (∀ d, d < 3125 → (h d = true ↔ InP S ys j y c n d)) ∧ Ext R wr ∧ wr.cell? ⟨B, 1, none⟩ = some (.int .i64 y.sounds) ∧ wr.cell? ⟨B, 2, none⟩ = some (.bool y.silent)) (fun i _ => S - (intOf i).toNat)
                case atStart => exact ⟨0, _, Nat.zero_le _, rfl, hstep, Hhh.out, x5, y1, y2⟩
                case round =>
                  obtain ⟨n, h, hn, rfl, hrow, hh, hxr, y1, y2⟩ := hrel
                  have r0 := hxr.cell b0
                  have zb := cell_lt y1
                  have zr0 := cell_lt r0
                  by_cases hnS : n < S
                  · have k3 : (n : Int) < b.sounds := by omega
                    go_wp2_with fail
                    refine (bit_any y.sounds n (by unfold I64; omega) (by omega) _).mono ?_
                    rintro e w6 ⟨rfl, rfl⟩
                    cases hm : bitM n y.sounds
                    · have Hhh : Hid (∀ d, d < 3125 → (h d = true ↔ InP S ys j y c (n + 1) d)) := Lib.hid fun d hd => by rw [hh d hd, InP.no hm]
                      clear hm hh
                      go_wp2
                      go_roundw
                      case rel => exact ⟨n + 1, h, by omega, by go_num, hrow, Hhh.out, hxr, y1, y2⟩
                      case measure => simp [intOf]; omega
                    · obtain ⟨q, hq⟩ : ∃ q, q = c * 5 + n + 1 := ⟨_, rfl⟩
                      have hq3 : q < 3125 := by omega
                      have hqI : (c : Int) * 5 + (n : Int) + 1 = (q : Int) := by omega
                      have nc := (hrow q hq3).1
                      have nf := (hrow q hq3).2
                      have zz := hrow.lt
                      have hstep := hrow.set hq3 true
                      have Hhh : Hid (∀ d, d < 3125 → ((if d = q then true else h d) = true ↔ InP S ys j y c (n + 1) d)) := Lib.hid fun d hd => by
                        rw [InP.yes hm, ← hh d hd, ← hq]
                        by_cases e : d = q
                        · simp [e]
                        · simp [e]
                      have hmid : ∀ wq : World, wq = wr.setCell ⟨G, q, none⟩ (.bool true) → Ext R wq ∧ wq.cell? ⟨B, 1, none⟩ = some (.int .i64 y.sounds) ∧ wq.cell? ⟨B, 2, none⟩ = some (.bool y.silent) := by
                        rintro wq rfl
                        exact ⟨hxr.setCell hGR _, set_other y1 (.inl (fun e => HBG.out e.symm)) _, set_other y2 (.inl (fun e => HBG.out e.symm)) _⟩
                      clear hm hh hq
                      have q3 : (q : Int) < 3125 := by omega
                      go_wp2
                      go_roundw
                      case rel => exact ⟨n + 1, _, by omega, by go_num, hstep, Hhh.out, hmid _ rfl⟩
                      case measure => simp [intOf]; omega
                  · obtain rfl : n = S := by omega
                    have k3 : ¬ (n : Int) < b.sounds := by omega
                    have Hhh : Hid (∀ d, d < 3125 → (h d = true ↔ MidP n ys j y (c + 1) d)) := Lib.hid fun d hd => by rw [hh d hd, InP.full Hrc.out]
                    clear hh
                    go_wp2
                    go_roundw
                    case rel => exact ⟨c + 1, h, by omega, by go_num, hrow, Hhh.out, hxr, y1, y2⟩
                    case measure => simp [intOf]; omega
          · obtain rfl : c = 3125 := by omega
            have r1 := hxr.cell b1
            have p0 := hxr.cell s0
            have p1 := hxr.cell s1
            have Hhh : Hid (∀ d, d < 3125 → (h d = true ↔ reach S ys (j + 1) d)) := Lib.hid fun d hd => by rw [hh d hd, MidP.all hS5 hj4 Hyj2.out]
            clear hh
            go_wp2
            go_roundw
            case rel => exact ⟨j + 1, G, h, by omega, by go_num, rfl, hrow, Hhh.out, by omega, hx.trans hxr, r0, r1, p0, p1⟩
            case measure => simp [intOf]; omega
    · obtain rfl : j = sp.text.size := by omega
      go_wp2
      go_ret
      exact ⟨g, f, rfl, hr, hf, hg, hx⟩
end Go.Proofs.Ytagpngddaenkkaa

namespace Go.Proofs.Ytagpngddaenkkaa
set_option linter.unusedVariables false

theorem heardM_code : ∀ (n : Nat) (t : List Int), t.length = n → Digits t → heardM (codeN t) = t
  | 0, t, h, _ => by
    obtain rfl : t = [] := List.eq_nil_of_length_eq_zero h
    exact heardM_zero
  | n + 1, t, h, hd => by
    rcases List.eq_nil_or_concat t with rfl | ⟨s, x, rfl⟩
    · simp at h
    · have hs : Digits s := fun y hy => hd y (by simp [hy])
      have hx := hd x (by simp)
      have ih := heardM_code n s (by simpa using h) hs
      have e : codeN (s ++ [x]) = codeN s * 5 + (x.toNat + 1) := codeN_snoc s x
      rw [List.concat_eq_append] at *
      rw [e, heardM_pos (by omega)]
      have e1 : (codeN s * 5 + (x.toNat + 1)) / 5 = codeN s := by omega
      have e2 : ((codeN s * 5 + (x.toNat + 1) : Nat) : Int) % 5 - 1 = x := by omega
      rw [e1, e2, ih]
theorem marksN_get (f : Nat → Bool) (N c : Nat) (h : c < ((List.range N).map f).length) : ((List.range N).map f)[c] = f c := by simp
theorem many_filterN (f : Nat → Bool) (N : Nat) : manyM ((List.range N).map f) = ((List.range N).filter f).length := by
  unfold manyM
  rw [List.count_eq_countP, List.countP_map, List.countP_eq_length_filter]
  congr 1
  apply List.filter_congr
  intro x _
  simp
def marks (f : Nat → Bool) : List Bool := (List.range 3125).map f
theorem marks_len (f : Nat → Bool) : (marks f).length = 3125 := by unfold marks; rw [List.length_map, List.length_range]
theorem marks_get (f : Nat → Bool) (c : Nat) (h : c < (marks f).length) : (marks f)[c] = f c := marksN_get f 3125 c h
theorem many_filter (f : Nat → Bool) : manyM (marks f) = ((List.range 3125).filter f).length := many_filterN f 3125
theorem nodup_len {l m : List Nat} (hl : l.Nodup) (hm : m.Nodup) (h : ∀ x, x ∈ l ↔ x ∈ m) : l.length = m.length := ((List.perm_ext_iff_of_nodup hl hm).2 h).length_eq
/-- as many numbers are marked as a set of strings has -/
theorem many_keys {f : Nat → Bool} {l : List (List Int)} (hn : l.Nodup) (hd : ∀ t ∈ l, Digits t) (hlt : ∀ t ∈ l, codeN t < 3125) (hf : ∀ c, c < 3125 → (f c = true ↔ ∃ t ∈ l, codeN t = c)) : manyM (marks f) = l.length := by
  rw [many_filter, show l.length = (l.map codeN).length from (List.length_map _).symm]
  refine nodup_len (List.Pairwise.filter _ List.nodup_range) ?_ fun x => ?_
  · rw [List.nodup_iff_pairwise_ne, List.pairwise_map]
    refine List.Pairwise.imp_of_mem (R := (· ≠ ·)) (fun {a c} ha hc hac e => hac (codeN_inj (hd a ha) (hd c hc) e)) (List.nodup_iff_pairwise_ne.1 hn)
  · rw [List.mem_filter, List.mem_range, List.mem_map]
    constructor
    · rintro ⟨h1, h2⟩; exact (hf x h1).1 h2
    · rintro ⟨t, ht, rfl⟩; exact ⟨hlt t ht, (hf _ (hlt t ht)).2 ⟨t, ht, rfl⟩⟩
theorem many_can {b : Book} (hv : Valid b) {n : Nat} (hn : n < b.spellings.length) {f : Nat → Bool} (hf : ∀ c, c < 3125 → (f c = true ↔ codeOf b n c)) : manyM (marks f) = (canM b [n]).length := by
  have hmem : ∀ t, t ∈ (canM b [n]).map (·.1) ↔ t ∈ stringsOf b n := fun t => by rw [canM_keys]; simp
  have := many_keys (f := f) (l := (canM b [n]).map (·.1)) (canM_nodup hv (by simpa using hn)) (fun t ht => digits_of hv hn ((hmem t).1 ht)) (fun t ht => codeOf_lt hv hn ((codeOf_iff hv hn _).2 ⟨t, (hmem t).1 ht, rfl⟩)) fun c hc => by
    rw [hf c hc, codeOf_iff hv hn]
    exact ⟨fun ⟨t, ht, e⟩ => ⟨t, (hmem t).2 ht, e⟩, fun ⟨t, ht, e⟩ => ⟨t, (hmem t).1 ht, e⟩⟩
  rw [this, List.length_map]
/-- the first number that is marked is that of the first string -/
theorem least_code {f : Nat → Bool} {k : List Int} (P : List Int → Prop) (hP : ∀ t, P t → Digits t ∧ codeN t < 3125) (hf : ∀ c, c < 3125 → (f c = true ↔ ∃ t, P t ∧ codeN t = c)) (hk : P k) (hmin : ∀ t, P t → ¬ cmpSS t k < 0) : idxM id (marks f) = (codeN k : Nat) := by
  have hkl := (hP k hk).2
  refine idxM_some id _ (codeN k) (by rw [marks_len]; exact hkl) (fun i hi hl => ?_) ?_
  · rw [marks_get]
    cases h : f i
    · rfl
    · obtain ⟨t, ht, e⟩ := (hf i (by omega)).1 h
      exact absurd ((codeN_cmp (hP t ht).1 (hP k hk).1).2 (by omega)) (hmin t ht)
  · rw [marks_get]; exact (hf _ hkl).2 ⟨k, hk, rfl⟩
theorem least_none {f : Nat → Bool} (hf : ∀ c, c < 3125 → f c = false) : idxM id (marks f) = -1 := by
  refine idxM_none id _ fun i hi => ?_
  rw [marks_get]
  rw [marks_len] at hi
  exact hf i hi
theorem codeM_N : ∀ (l : List Int), (∀ x ∈ l, 0 ≤ x) → codeM l = (codeN l : Nat) := by
  intro l h
  have key : ∀ (l : List Int) (m : Int) (n : Nat), (∀ x ∈ l, 0 ≤ x) → m = n → l.foldl (fun n x => n * 5 + x + 1) m = ((l.foldl (fun n x => n * 5 + (x.toNat + 1)) n : Nat) : Int) := by
    intro l
    induction l with
    | nil => intro m n _ e; exact e
    | cons x l ih =>
      intro m n h e
      rw [List.foldl_cons, List.foldl_cons]
      refine ih _ _ (fun y hy => h y (by simp [hy])) ?_
      have := h x (by simp)
      subst e
      omega
  exact key l 0 0 h rfl
theorem heard_digits {b : Book} (hv : Valid b) {l : List Int} (h : heardErrM b.sounds l = 0) : l.length ≤ 5 ∧ Digits l ∧ codeN l < 3125 := by
  unfold heardErrM at h
  split at h
  · cases h
  rename_i h1
  split at h
  · cases h
  rename_i h2
  have hw : withinM 0 (b.sounds - 1) l = true := by simpa using h2
  have hd : Digits l := fun x hx => by
    have := withinM_spec hw x hx
    have := hv.s
    omega
  refine ⟨by omega, hd, ?_⟩
  have h3 := codeN_lt hd
  have h4 : 5 ^ l.length ≤ 5 ^ 5 := Nat.pow_le_pow_right (by decide) (by omega)
  omega
theorem indices_open (b : Book) (l : List Int) : indicesM b l b.spellings.length = openM b l := rfl
end Go.Proofs.Ytagpngddaenkkaa

namespace Go.Proofs.Ytagpngddaenkkaa
open Go.RowKit
set_option linter.unusedVariables false

/-- a row in which just these numbers are marked -/
def MarkV (P : Nat → Prop) (u : Value) (w : World) : Prop := ∃ g f, u = .slice (some ⟨g, 0, none⟩) 3125 3125 ∧ RowAt w g f ∧ ∀ c, c < 3125 → (f c = true ↔ P c)
theorem MarkV.ext {P : Nat → Prop} {u : Value} {w w' : World} (h : MarkV P u w) (hx : Ext w w') : MarkV P u w' := by
  obtain ⟨g, f, h1, h2, h3⟩ := h; exact ⟨g, f, h1, h2.ext hx, h3⟩
theorem many_mark {P : Nat → Prop} {u : Value} {w : World} (h : MarkV P u w) {n : Nat} (hn : ∀ f : Nat → Bool, (∀ c, c < 3125 → (f c = true ↔ P c)) → manyM (marks f) = n) :
    Calls Try.prog 58 #[u] w fun e w' => e = .returned (.int .i64 (n : Nat)) ∧ w = w' := by
  obtain ⟨g, f, rfl, h2, h3⟩ := h
  have := many_any _ _ w h2.bools
  have e := hn f h3
  unfold marks at e
  rw [e] at this
  exact this
theorem least_mark {P : Nat → Prop} {u : Value} {w : World} (h : MarkV P u w) {n : Int} (hn : ∀ f : Nat → Bool, (∀ c, c < 3125 → (f c = true ↔ P c)) → idxM id (marks f) = n) :
    Calls Try.prog 61 #[u] w fun e w' => e = .returned (.int .i64 n) ∧ w = w' := by
  obtain ⟨g, f, rfl, h2, h3⟩ := h
  have := least_any _ _ w h2.bools
  have e := hn f h3
  unfold marks at e
  rw [e] at this
  exact this
theorem strings_of {b : Book} (he : errM b = 0) {n : Nat} (hn : n < b.spellings.length) (bv : Value) (w : World) (hb : BookAt w bv b) :
    Calls Try.prog 59 #[bv, .agg #[.int .i64 (b.spellings[n]).alphabet, .string (b.spellings[n]).text]] w fun e w' => ∃ u, e = .returned u ∧ Ext w w' ∧ MarkV (codeOf b n) u w' := by
  have hv := valid_of he
  obtain ⟨g1, g2, g3⟩ := said_args hv hn
  have hs := hv.sp n hn
  refine (strings_any bv b _ _ hv.s hs.a rfl g1 hs.t.2 hs.k g3 w hb).mono ?_
  rintro e w' ⟨g, f, rfl, h1, h2, -, hx⟩
  refine ⟨_, rfl, hx, g, f, rfl, h1, fun c hc => ?_⟩
  rw [h2 c hc]
  unfold codeOf
  rw [lettersAt_eq b n hn]
  have : (lettersM (lettersOf b.alphabets (b.spellings[n]).alphabet) (b.spellings[n]).text).length = (b.spellings[n]).text.size := by rw [lettersM, lettersTo_len]
  rw [this]

set_option maxRecDepth 100000 in
set_option maxHeartbeats 2000000 in
theorem refCount_err (bv : Value) (b : Book) (n : Int) (hn : I64 n) (he : openM b [n] ≠ 0) (w : World) (hb : BookAt w bv b) :
    Calls Try.prog 23 #[bv, .int .i64 n] w fun e w' => e = .returned (.tuple #[.int .i64 0, .int .i64 (openM b [n])]) ∧ Ext w w' := by
  obtain ⟨ba, bc, bs, bd, rfl, -⟩ := hb.open
  have hone := fun w hb => one_any (.agg #[.int .i64 b.sounds, .slice ba b.alphabets.length bc, .slice bs b.spellings.length bd]) b n w hb hn
  rw [indices_open] at hone
  have he' : (openM b [n] != 0) = true := by simpa using he
  generalize hq : openM b [n] = er at *
  have Hq := Lib.hid hq
  have He := Lib.hid he
  clear hq he
  go_enter Try.func23, Try.ntmps23
  go_wp2_with fail
  refine (hone _ (hb.ext (by first | (with_reducible exact Ext.refl _) | (with_reducible assumption) | (show Below _ _ _; go_grown; done)))).mono ?_
  rintro e w1 ⟨rfl, hx1⟩
  have x1 : Ext w w1 := hx1.of_alloc
  go_wp2
  go_ret2
  first | exact ⟨rfl, x1⟩ | exact ⟨by rw [Hq.out]; rfl, x1⟩
set_option maxRecDepth 100000 in
set_option maxHeartbeats 2000000 in
theorem refCount_ok (bv : Value) (b : Book) (he : errM b = 0) (n : Nat) (hn : n < b.spellings.length) (w : World) (hb : BookAt w bv b) :
    Calls Try.prog 23 #[bv, .int .i64 n] w fun e w' => e = .returned (.tuple #[.int .i64 ((canM b [n]).length : Nat), .int .i64 0]) ∧ Ext w w' := by
  have hv := valid_of he
  have hn5 := hv.n
  have hop := openM_ok he (l := [(n : Int)]) (by simp; omega)
  have hb0 := hb
  obtain ⟨ba, bc, bs, bd, rfl, -, -, -, hsl, hsc, -, -, hsps⟩ := hb.open
  obtain ⟨_, _, hea, -, -, hh⟩ := hsps
  obtain ⟨sb, so, rfl, p0, p1, -, -⟩ := hh n hn
  have hea1 := (Value.slice.inj hea).1
  subst hea1
  have hone := fun w hb => one_any (.agg #[.int .i64 b.sounds, .slice ba b.alphabets.length bc, .slice (some ⟨sb, so, none⟩) b.spellings.length bd]) b n w hb (by unfold I64; omega)
  rw [indices_open, hop] at hone
  have hstr := fun w hb => strings_of he hn (.agg #[.int .i64 b.sounds, .slice ba b.alphabets.length bc, .slice (some ⟨sb, so, none⟩) b.spellings.length bd]) w hb
  have hmany : ∀ f : Nat → Bool, (∀ c, c < 3125 → (f c = true ↔ codeOf b n c)) → manyM (marks f) = (canM b [n]).length := fun f hf => many_can hv hn hf
  generalize (canM b [n]).length = cn at *
  generalize b.spellings[n] = sp at *
  have Hmany := Lib.hid hmany
  have hk : (n : Int) < (b.spellings.length : Int) := by omega
  clear hmany hea hh hop
  go_enter Try.func23, Try.ntmps23
  go_wp2_with fail
  refine (hone _ (hb0.ext (ext_alloc _ _))).mono ?_
  rintro e w1 ⟨rfl, hx1⟩
  have c0 : w1.cell? ⟨w.heap.size, 0, none⟩ = some (.int .i64 b.sounds) := hx1.cell (by simp [go_sem])
  have c1 : w1.cell? ⟨w.heap.size, 1, none⟩ = some (.slice ba b.alphabets.length bc) := hx1.cell (by simp [go_sem])
  have c2 : w1.cell? ⟨w.heap.size, 2, none⟩ = some (.slice (some ⟨sb, so, none⟩) b.spellings.length bd) := hx1.cell (by simp [go_sem])
  have x1 : Ext w w1 := hx1.of_alloc
  replace p0 := x1.cell p0
  replace p1 := x1.cell p1
  have hb1 := hb0.ext x1
  have z1 := cell_lt c0
  clear hx1 hone
  go_wp2_with fail
  apply Facts.wp_region [.val _, .val _, .val _, .val _, .val _, .val _, .fact (MarkV (codeOf b n)), .val (.int .i64 (cn : Nat)), .val _, .val _] (by kernel_rfl) (by kernel_rfl) ?keep ?main
  case keep => exact ⟨fun u a c hx h => h.ext hx, trivial⟩
  case main =>
    iterate 6 (refine ⟨fun w1 hx hh => ?_, ?_⟩; focus (clear hh; have e0 := hx.cell c0; have e1 := hx.cell c1; have e2 := hx.cell c2; have e3 := hx.cell p0; have e4 := hx.cell p1; go_simp; first | exact ⟨Ext.refl _, rfl⟩ | exact Ext.refl _))
    refine ⟨fun w2 hx hh => ?_, ?_⟩
    · clear hh
      go_simp
      exact hstr w2 (hb1.ext hx)
    intro u6
    refine ⟨fun w2 hx hh => ?_, ?_⟩
    · have h6 : MarkV (codeOf b n) u6 w2 := hh 6 _ List.mem_cons_self (by kernel_rfl)
      clear hh
      go_simp
      refine (many_mark h6 Hmany.out).mono ?_
      rintro e w' ⟨rfl, rfl⟩
      exact ⟨_, rfl, Ext.refl _, rfl⟩
    iterate 2 (refine ⟨fun w1 hx hh => ?_, ?_⟩; focus (clear hh; skip; go_simp; first | exact ⟨Ext.refl _, rfl⟩ | exact Ext.refl _))
    intro w3 hx3 hh
    clear hh
    go_simp
    go_wp2
    go_ret2
    exact ⟨rfl, x1.trans hx3⟩
set_option maxRecDepth 100000 in
set_option maxHeartbeats 2000000 in
theorem refFirst_err (bv : Value) (b : Book) (n : Int) (hn : I64 n) (he : openM b [n] ≠ 0) (w : World) (hb : BookAt w bv b) :
    Calls Try.prog 25 #[bv, .int .i64 n] w fun e w' => e = .returned (.tuple #[.slice none 0 0, .int .i64 (openM b [n])]) ∧ Ext w w' := by
  obtain ⟨ba, bc, bs, bd, rfl, -⟩ := hb.open
  have hone := fun w hb => one_any (.agg #[.int .i64 b.sounds, .slice ba b.alphabets.length bc, .slice bs b.spellings.length bd]) b n w hb hn
  rw [indices_open] at hone
  have he' : (openM b [n] != 0) = true := by simpa using he
  generalize hq : openM b [n] = er at *
  have Hq := Lib.hid hq
  have He := Lib.hid he
  clear hq he
  go_enter Try.func25, Try.ntmps25
  go_wp2_with fail
  refine (hone _ (hb.ext (by first | (with_reducible exact Ext.refl _) | (with_reducible assumption) | (show Below _ _ _; go_grown; done)))).mono ?_
  rintro e w1 ⟨rfl, hx1⟩
  have x1 : Ext w w1 := hx1.of_alloc
  go_wp2
  go_ret2
  first | exact ⟨rfl, x1⟩ | exact ⟨by rw [Hq.out]; rfl, x1⟩
set_option maxRecDepth 100000 in
set_option maxHeartbeats 2000000 in
theorem refFirst_ok (bv : Value) (b : Book) (he : errM b = 0) (n : Nat) (hn : n < b.spellings.length) (k : List Int) (hk : k ∈ stringsOf b n) (hmin : ∀ t, t ∈ stringsOf b n → ¬ cmpSS t k < 0) (w : World) (hb : BookAt w bv b) :
    Calls Try.prog 25 #[bv, .int .i64 n] w fun e w' => ∃ u, e = .returned (.tuple #[u, .int .i64 0]) ∧ IntsAt w' u k ∧ Ext w w' := by
  have hv := valid_of he
  have hn5 := hv.n
  have hop := openM_ok he (l := [(n : Int)]) (by simp; omega)
  have hb0 := hb
  obtain ⟨ba, bc, bs, bd, rfl, -, -, -, hsl, hsc, -, -, hsps⟩ := hb.open
  obtain ⟨_, _, hea, -, -, hh⟩ := hsps
  obtain ⟨sb, so, rfl, p0, p1, -, -⟩ := hh n hn
  have hea1 := (Value.slice.inj hea).1
  subst hea1
  have hone := fun w hb => one_any (.agg #[.int .i64 b.sounds, .slice ba b.alphabets.length bc, .slice (some ⟨sb, so, none⟩) b.spellings.length bd]) b n w hb (by unfold I64; omega)
  rw [indices_open, hop] at hone
  have hstr := fun w hb => strings_of he hn (.agg #[.int .i64 b.sounds, .slice ba b.alphabets.length bc, .slice (some ⟨sb, so, none⟩) b.spellings.length bd]) w hb
  have hleast : ∀ f : Nat → Bool, (∀ c, c < 3125 → (f c = true ↔ codeOf b n c)) → idxM id (marks f) = (codeN k : Nat) := fun f hf =>
    least_code (fun t => t ∈ stringsOf b n) (fun t ht => ⟨digits_of hv hn ht, codeOf_lt hv hn ((codeOf_iff hv hn _).2 ⟨t, ht, rfl⟩)⟩) (fun c hc => by rw [hf c hc, codeOf_iff hv hn]) hk hmin
  have hcl : codeN k < 3125 := codeOf_lt hv hn ((codeOf_iff hv hn _).2 ⟨k, hk, rfl⟩)
  have hhd := fun w => heard_any (codeN k) w (by omega)
  rw [heardM_code _ k rfl (digits_of hv hn hk)] at hhd
  generalize codeN k = ck at *
  generalize b.spellings[n] = sp at *
  have Hleast := Lib.hid hleast
  have hkl : (n : Int) < (b.spellings.length : Int) := by omega
  clear hleast hea hh hop hk hmin
  go_enter Try.func25, Try.ntmps25
  go_wp2_with fail
  refine (hone _ (hb0.ext (ext_alloc _ _))).mono ?_
  rintro e w1 ⟨rfl, hx1⟩
  have c0 : w1.cell? ⟨w.heap.size, 0, none⟩ = some (.int .i64 b.sounds) := hx1.cell (by simp [go_sem])
  have c1 : w1.cell? ⟨w.heap.size, 1, none⟩ = some (.slice ba b.alphabets.length bc) := hx1.cell (by simp [go_sem])
  have c2 : w1.cell? ⟨w.heap.size, 2, none⟩ = some (.slice (some ⟨sb, so, none⟩) b.spellings.length bd) := hx1.cell (by simp [go_sem])
  have x1 : Ext w w1 := hx1.of_alloc
  replace p0 := x1.cell p0
  replace p1 := x1.cell p1
  have hb1 := hb0.ext x1
  have z1 := cell_lt c0
  clear hx1 hone
  go_wp2_with fail
  apply Facts.wp_region [.val _, .val _, .val _, .val _, .val _, .val _, .fact (MarkV (codeOf b n)), .val (.int .i64 (ck : Nat)), .fact (ListV k), .fact (ListV k), .val _] (by kernel_rfl) (by kernel_rfl) ?keep ?main
  case keep => exact ⟨fun u a c hx h => h.ext hx, fun u a c hx h => IntsAt.ext h hx, fun u a c hx h => IntsAt.ext h hx, trivial⟩
  case main =>
    iterate 6 (refine ⟨fun w1 hx hh => ?_, ?_⟩; focus (clear hh; have e0 := hx.cell c0; have e1 := hx.cell c1; have e2 := hx.cell c2; have e3 := hx.cell p0; have e4 := hx.cell p1; go_simp; first | exact ⟨Ext.refl _, rfl⟩ | exact Ext.refl _))
    refine ⟨fun w2 hx hh => ?_, ?_⟩
    · clear hh
      go_simp
      exact hstr w2 (hb1.ext hx)
    intro u6
    refine ⟨fun w2 hx hh => ?_, ?_⟩
    · have h6 : MarkV (codeOf b n) u6 w2 := hh 6 _ List.mem_cons_self (by kernel_rfl)
      clear hh
      go_simp
      refine (least_mark h6 Hleast.out).mono ?_
      rintro e w' ⟨rfl, rfl⟩
      exact ⟨_, rfl, Ext.refl _, rfl⟩
    refine ⟨fun w2 hx hh => ?_, ?_⟩
    · clear hh
      go_simp
      refine (hhd w2).mono ?_
      rintro e w' ⟨v, rfl, h1, h2⟩
      exact ⟨_, rfl, h2, h1⟩
    intro u8
    refine ⟨fun w2 hx hh => ?_, ?_⟩
    · have h8 : ListV k u8 w2 := hh 8 _ List.mem_cons_self (by kernel_rfl)
      clear hh
      go_simp
      first | exact ⟨Ext.refl _, h8⟩ | exact Ext.refl _ | exact h8
    intro u9
    iterate 1 (refine ⟨fun w1 hx hh => ?_, ?_⟩; focus (clear hh; skip; go_simp; first | exact ⟨Ext.refl _, rfl⟩ | exact Ext.refl _))
    intro w3 hx3 hh
    have h9 : IntsAt w3 u9 k := hh 9 _ List.mem_cons_self
    clear hh
    go_simp
    go_wp2
    go_ret2
    exact ⟨_, rfl, h9, x1.trans hx3⟩
end Go.Proofs.Ytagpngddaenkkaa

namespace Go.Proofs.Ytagpngddaenkkaa
open Go.RowKit
set_option linter.unusedVariables false

def BoolPtr (r : Bool) (u : Value) (w : World) : Prop := ∃ g c, u = .pointer (some ⟨g, c, none⟩) ∧ w.cell? ⟨g, c, none⟩ = some (.bool r)
theorem BoolPtr.ext {r : Bool} {u : Value} {w w' : World} (h : BoolPtr r u w) (hx : Ext w w') : BoolPtr r u w' := by
  obtain ⟨g, c, h1, h2⟩ := h; exact ⟨g, c, h1, hx.cell h2⟩
noncomputable def BoolPtr.g {r : Bool} {u : Value} {w : World} (h : BoolPtr r u w) : Nat := Exists.choose h
noncomputable def BoolPtr.c {r : Bool} {u : Value} {w : World} (h : BoolPtr r u w) : Nat := Exists.choose (Exists.choose_spec h)
theorem BoolPtr.spec {r : Bool} {u : Value} {w : World} (h : BoolPtr r u w) : u = .pointer (some ⟨h.g, h.c, none⟩) ∧ w.cell? ⟨h.g, h.c, none⟩ = some (.bool r) := Exists.choose_spec (Exists.choose_spec h)
noncomputable def MarkV.g {P : Nat → Prop} {u : Value} {w : World} (h : MarkV P u w) : Nat := Exists.choose h
noncomputable def MarkV.f {P : Nat → Prop} {u : Value} {w : World} (h : MarkV P u w) : Nat → Bool := Exists.choose (Exists.choose_spec h)
theorem MarkV.spec {P : Nat → Prop} {u : Value} {w : World} (h : MarkV P u w) : u = .slice (some ⟨h.g, 0, none⟩) 3125 3125 ∧ RowAt w h.g h.f ∧ ∀ c, c < 3125 → (h.f c = true ↔ P c) := Exists.choose_spec (Exists.choose_spec h)
/-- what the number of a row says, at one place -/
theorem MarkV.at_ {P : Nat → Prop} {u : Value} {w : World} (h : MarkV P u w) {c : Nat} (hc : c < 3125) {r : Bool} (hr : ∀ x : Bool, (x = true ↔ P c) → r = x) : w.cell? ⟨h.g, c, none⟩ = some (.bool r) := by
  have h1 := (h.spec.2.1 c hc).1
  rw [hr _ (h.spec.2.2 c hc)]
  exact h1

set_option maxRecDepth 100000 in
set_option maxHeartbeats 2000000 in
theorem refReads_no (bv hv : Value) (b : Book) (n : Int) (hn : I64 n) (l : List Int) (he : hearsM b.sounds l (openM b [n]) ≠ 0) (w : World) (hb : BookAt w bv b) (hl : IntsAt w hv l) :
    Calls Try.prog 28 #[bv, .int .i64 n, hv] w fun e w' => e = .returned (.tuple #[.bool false, .int .i64 (hearsM b.sounds l (openM b [n]))]) ∧ Ext w w' := by
  have hS : openM b [n] = 0 → 1 ≤ b.sounds ∧ b.sounds ≤ 4 := fun h => (valid_of (openM_zero h).1).s
  obtain ⟨ba, bc, bs, bd, rfl, -⟩ := hb.open
  obtain ⟨ha, hc, rfl, -⟩ := hl.shape
  have hone := fun w hb => one_any (.agg #[.int .i64 b.sounds, .slice ba b.alphabets.length bc, .slice bs b.spellings.length bd]) b n w hb hn
  rw [indices_open] at hone
  have hhs := fun w hb hl => hears_any (.agg #[.int .i64 b.sounds, .slice ba b.alphabets.length bc, .slice bs b.spellings.length bd]) (.slice ha l.length hc) b l (openM b [n]) w hb hl hS
  have he' : (hearsM b.sounds l (openM b [n]) != 0) = true := by simpa using he
  clear he hS
  generalize hearsM b.sounds l (openM b [n]) = er at *
  generalize openM b [n] = op at *
  obtain ⟨q0, q1, q2⟩ : ((w.alloc (.cells #[.int .i64 b.sounds, .slice ba b.alphabets.length bc, .slice bs b.spellings.length bd] 25))).cell? ⟨w.heap.size, 0, none⟩ = some (.int .i64 b.sounds) ∧ ((w.alloc (.cells #[.int .i64 b.sounds, .slice ba b.alphabets.length bc, .slice bs b.spellings.length bd] 25))).cell? ⟨w.heap.size, 1, none⟩ = some (.slice ba b.alphabets.length bc) ∧ ((w.alloc (.cells #[.int .i64 b.sounds, .slice ba b.alphabets.length bc, .slice bs b.spellings.length bd] 25))).cell? ⟨w.heap.size, 2, none⟩ = some (.slice bs b.spellings.length bd) := ⟨by simp [go_sem], by simp [go_sem], by simp [go_sem]⟩
  go_enter Try.func28, Try.ntmps28
  go_wp2_with fail
  obtain ⟨W, hW⟩ : ∃ W, W = ((w.alloc (.cells #[.int .i64 b.sounds, .slice ba b.alphabets.length bc, .slice bs b.spellings.length bd] 25))) := ⟨_, rfl⟩
  replace hb := hb.ext (ext_alloc w (.cells #[.int .i64 b.sounds, .slice ba b.alphabets.length bc, .slice bs b.spellings.length bd] 25))
  replace hl := hl.ext (ext_alloc w (.cells #[.int .i64 b.sounds, .slice ba b.alphabets.length bc, .slice bs b.spellings.length bd] 25))
  have x1 : Ext w W := by rw [hW]; exact ext_alloc _ _
  rw [← hW] at hb hl q0 q1 q2 ⊢
  clear hW
  apply Facts.wp_region [.val _, .val _, .val _, .val _, .val (.int .i64 op), .val (.int .i64 er), .val _] (by kernel_rfl) (by kernel_rfl) ?keep ?main
  case keep => trivial
  case main =>
    iterate 4 (refine ⟨fun w1 hx hh => ?_, ?_⟩; focus (clear hh; have e0 := hx.cell q0; have e1 := hx.cell q1; have e2 := hx.cell q2; go_simp; first | exact ⟨Ext.refl _, rfl⟩ | exact Ext.refl _))
    refine ⟨fun w2 hx hh => ?_, ?_⟩
    · clear hh
      go_simp
      refine (hone w2 (hb.ext hx)).mono ?_
      rintro e w' ⟨rfl, h1⟩
      exact ⟨_, rfl, h1, rfl⟩
    refine ⟨fun w2 hx hh => ?_, ?_⟩
    · clear hh
      go_simp
      refine (hhs w2 (hb.ext hx) (hl.ext hx)).mono ?_
      rintro e w' ⟨rfl, h1⟩
      exact ⟨_, rfl, h1, rfl⟩
    iterate 1 (refine ⟨fun w1 hx hh => ?_, ?_⟩; focus (clear hh; skip; go_simp; first | exact ⟨Ext.refl _, rfl⟩ | exact Ext.refl _))
    intro w3 hx3 hh
    clear hh
    go_simp
    replace x1 := x1.trans hx3
    go_wp2
    go_ret2
    exact ⟨rfl, x1⟩
set_option maxRecDepth 100000 in
set_option maxHeartbeats 2000000 in
theorem refReads_ok (bv hv : Value) (b : Book) (he : errM b = 0) (n : Nat) (hn : n < b.spellings.length) (l : List Int) (hh : heardErrM b.sounds l = 0) (w : World) (hb : BookAt w bv b) (hl : IntsAt w hv l) :
    Calls Try.prog 28 #[bv, .int .i64 n, hv] w fun e w' => e = .returned (.tuple #[.bool (getT l (canM b [n])).isSome, .int .i64 0]) ∧ Ext w w' := by
  have hv' := valid_of he
  have hn5 := hv'.n
  have hop := openM_ok he (l := [(n : Int)]) (by simp; omega)
  have hS := hv'.s
  obtain ⟨hd5, hdd, hdc⟩ := heard_digits hv' hh
  have hw3 : withinM 0 3 l = true := by
    unfold withinM
    rw [List.all_eq_true]
    exact fun x hx => (inM_iff _ _ _).2 (hdd x hx)
  have hcN := codeM_N l fun x hx => (hdd x hx).1
  have hcode := fun v w hl => code_any v l w hl hd5 hw3
  rw [hcN] at hcode
  have hmem := code_mem hv' hn hdd
  have hr : ∀ r : Bool, (r = true ↔ codeOf b n (codeN l)) → (getT l (canM b [n])).isSome = r := fun r h => by
    rw [Bool.eq_iff_iff, getT_keys, canM_keys, h, hmem]
    simp
  have hb0 := hb
  obtain ⟨ba, bc, bs, bd, rfl, -, -, -, hsl, hsc, -, -, hsps⟩ := hb.open
  obtain ⟨_, _, hea, -, -, hhh⟩ := hsps
  obtain ⟨sb, so, rfl, p0, p1, -, -⟩ := hhh n hn
  have hea1 := (Value.slice.inj hea).1
  subst hea1
  obtain ⟨ha, hc, rfl, -⟩ := hl.shape
  have hone := fun w hb => one_any (.agg #[.int .i64 b.sounds, .slice ba b.alphabets.length bc, .slice (some ⟨sb, so, none⟩) b.spellings.length bd]) b n w hb (by unfold I64; omega)
  rw [indices_open, hop] at hone
  have hhs := fun w hb hl => hears_any (.agg #[.int .i64 b.sounds, .slice ba b.alphabets.length bc, .slice (some ⟨sb, so, none⟩) b.spellings.length bd]) (.slice ha l.length hc) b l 0 w hb hl (fun _ => hS)
  have hz : hearsM b.sounds l 0 = 0 := by rw [hearsM, if_neg (by simp)]; exact hh
  rw [hz] at hhs
  have hstr := fun w hb => strings_of he hn (.agg #[.int .i64 b.sounds, .slice ba b.alphabets.length bc, .slice (some ⟨sb, so, none⟩) b.spellings.length bd]) w hb
  generalize (getT l (canM b [n])).isSome = res at *
  generalize codeN l = ck at *
  generalize b.spellings[n] = sp at *
  have Hr := Lib.hid hr
  have hk : (n : Int) < (b.spellings.length : Int) := by omega
  have hck : (ck : Int) < 3125 := by omega
  clear hr hea hhh hop hmem hcN hw3 hd5 hdd hz hh
  obtain ⟨c0, c1, c2⟩ : ((w.alloc (.cells #[.int .i64 b.sounds, .slice ba b.alphabets.length bc, .slice (some ⟨sb, so, none⟩) b.spellings.length bd] 25))).cell? ⟨w.heap.size, 0, none⟩ = some (.int .i64 b.sounds) ∧ ((w.alloc (.cells #[.int .i64 b.sounds, .slice ba b.alphabets.length bc, .slice (some ⟨sb, so, none⟩) b.spellings.length bd] 25))).cell? ⟨w.heap.size, 1, none⟩ = some (.slice ba b.alphabets.length bc) ∧ ((w.alloc (.cells #[.int .i64 b.sounds, .slice ba b.alphabets.length bc, .slice (some ⟨sb, so, none⟩) b.spellings.length bd] 25))).cell? ⟨w.heap.size, 2, none⟩ = some (.slice (some ⟨sb, so, none⟩) b.spellings.length bd) := ⟨by simp [go_sem], by simp [go_sem], by simp [go_sem]⟩
  go_enter Try.func28, Try.ntmps28
  go_wp2_with fail
  obtain ⟨W, hW⟩ : ∃ W, W = ((w.alloc (.cells #[.int .i64 b.sounds, .slice ba b.alphabets.length bc, .slice (some ⟨sb, so, none⟩) b.spellings.length bd] 25))) := ⟨_, rfl⟩
  have x1 : Ext w W := by rw [hW]; exact ext_alloc _ _
  replace hb0 := hb0.ext x1
  replace hl := hl.ext x1
  replace p0 := x1.cell p0
  replace p1 := x1.cell p1
  rw [← hW] at c0 c1 c2 ⊢
  clear hW hb
  apply Facts.wp_region [.val _, .val _, .val _, .val _, .val (.int .i64 0), .val (.int .i64 0), .val _] (by kernel_rfl) (by kernel_rfl) ?keep ?main
  case keep => trivial
  case main =>
    iterate 4 (refine ⟨fun w1 hx hh => ?_, ?_⟩; focus (clear hh; have e0 := hx.cell c0; have e1 := hx.cell c1; have e2 := hx.cell c2; go_simp; first | exact ⟨Ext.refl _, rfl⟩ | exact Ext.refl _))
    refine ⟨fun w2 hx hh => ?_, ?_⟩
    · clear hh
      go_simp
      refine (hone w2 (hb0.ext hx)).mono ?_
      rintro e w' ⟨rfl, h1⟩
      exact ⟨_, rfl, h1, rfl⟩
    refine ⟨fun w2 hx hh => ?_, ?_⟩
    · clear hh
      go_simp
      refine (hhs w2 (hb0.ext hx) (hl.ext hx)).mono ?_
      rintro e w' ⟨rfl, h1⟩
      exact ⟨_, rfl, h1, rfl⟩
    iterate 1 (refine ⟨fun w1 hx hh => ?_, ?_⟩; focus (clear hh; skip; go_simp; first | exact ⟨Ext.refl _, rfl⟩ | exact Ext.refl _))
    intro w3 hx3 hh
    clear hh hone hhs
    go_simp
    replace x1 := x1.trans hx3
    replace hb0 := hb0.ext hx3
    replace hl := hl.ext hx3
    replace p0 := hx3.cell p0
    replace p1 := hx3.cell p1
    replace c0 := hx3.cell c0
    replace c1 := hx3.cell c1
    replace c2 := hx3.cell c2
    clear hx3
    go_wp2_with fail
    apply Facts.wp_region [.val _, .val _, .val _, .val _, .val _, .val _, .fact (MarkV (codeOf b n)), .val _, .val (.int .i64 (ck : Nat)), .fact (BoolPtr res), .val (.bool res), .val _, .val _] (by kernel_rfl) (by kernel_rfl) ?keep ?main
    case keep => exact ⟨fun u a c hx h => h.ext hx, fun u a c hx h => h.ext hx, trivial⟩
    case main =>
      iterate 6 (refine ⟨fun w1 hx hh => ?_, ?_⟩; focus (clear hh; have e0 := hx.cell c0; have e1 := hx.cell c1; have e2 := hx.cell c2; have e3 := hx.cell p0; have e4 := hx.cell p1; go_simp; first | exact ⟨Ext.refl _, rfl⟩ | exact Ext.refl _))
      refine ⟨fun w2 hx hh => ?_, ?_⟩
      · clear hh
        go_simp
        exact hstr w2 (hb0.ext hx)
      intro u6
      iterate 1 (refine ⟨fun w1 hx hh => ?_, ?_⟩; focus (clear hh; skip; go_simp; first | exact ⟨Ext.refl _, rfl⟩ | exact Ext.refl _))
      refine ⟨fun w2 hx hh => ?_, ?_⟩
      · clear hh
        go_simp
        refine (hcode _ w2 (hl.ext hx)).mono ?_
        rintro e w' ⟨rfl, rfl⟩
        exact ⟨_, rfl, Ext.refl _, rfl⟩
      refine ⟨fun w2 hx hh => ?_, ?_⟩
      · have h6 : MarkV (codeOf b n) u6 w2 := hh 6 _ List.mem_cons_self (by kernel_rfl)
        clear hh
        have hu := h6.spec.1
        have hc := h6.at_ hdc Hr.out
        generalize h6.g = g at hu hc
        clear h6
        subst hu
        go_simp
        first | exact ⟨Ext.refl _, g, ck, rfl, hc⟩ | exact ⟨g, ck, rfl, hc⟩
      intro u9
      refine ⟨fun w2 hx hh => ?_, ?_⟩
      · have h9 : BoolPtr res u9 w2 := hh 9 _ List.mem_cons_self (by kernel_rfl)
        clear hh
        have hu := h9.spec.1
        have hc := h9.spec.2
        generalize h9.g = g at hu hc
        generalize h9.c = c at hu hc
        clear h9
        subst hu
        go_simp
        first | exact ⟨Ext.refl _, rfl⟩ | exact Ext.refl _
      iterate 2 (refine ⟨fun w1 hx hh => ?_, ?_⟩; focus (clear hh; skip; go_simp; first | exact ⟨Ext.refl _, rfl⟩ | exact Ext.refl _))
      intro w4 hx4 hh
      clear hh
      go_simp
      replace x1 := x1.trans hx4
      go_wp2
      go_ret2
      exact ⟨rfl, x1⟩
end Go.Proofs.Ytagpngddaenkkaa
