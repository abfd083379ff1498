/-
  WHAT EarReads RETURNS: true.
  WHAT Shared OF THE REFERENCE RETURNS: of each number whether all of some spellings can be it.
  WHAT Common OF THE REFERENCE RETURNS.
-/
import Derived.Test.YtagpngddaenkkaaBunN
namespace Go.Proofs.Ytagpngddaenkkaa
open Go.RowKit
set_option linter.unusedVariables false

/-- the walk, for whatever the two layers answer, where they answer the same -/
theorem reads_walk (ba bs : Option Addr) (bc bd : Nat) (b : Book) (n : Int) (hn : I64 n) (ha : Option Addr) (hc : Nat) (l : List Int) (c er er2 : Int) (k : List Int) (r : Bool)
    (hb1 : ∀ w, BookAt w (.agg #[.int .i64 b.sounds, .slice ba b.alphabets.length bc, .slice bs b.spellings.length bd]) b → Calls Try.prog 22 #[(.agg #[.int .i64 b.sounds, .slice ba b.alphabets.length bc, .slice bs b.spellings.length bd]), .int .i64 n] w fun e w' => e = .returned (.tuple #[.int .i64 c, .int .i64 er]) ∧ Ext w w')
    (hb2 : ∀ w, BookAt w (.agg #[.int .i64 b.sounds, .slice ba b.alphabets.length bc, .slice bs b.spellings.length bd]) b → Calls Try.prog 23 #[(.agg #[.int .i64 b.sounds, .slice ba b.alphabets.length bc, .slice bs b.spellings.length bd]), .int .i64 n] w fun e w' => e = .returned (.tuple #[.int .i64 c, .int .i64 er]) ∧ Ext w w')
    (hf1 : ∀ w, BookAt w (.agg #[.int .i64 b.sounds, .slice ba b.alphabets.length bc, .slice bs b.spellings.length bd]) b → Calls Try.prog 24 #[(.agg #[.int .i64 b.sounds, .slice ba b.alphabets.length bc, .slice bs b.spellings.length bd]), .int .i64 n] w fun e w' => ∃ u, e = .returned (.tuple #[u, .int .i64 er]) ∧ IntsAt w' u k ∧ Ext w w')
    (hf2 : ∀ w, BookAt w (.agg #[.int .i64 b.sounds, .slice ba b.alphabets.length bc, .slice bs b.spellings.length bd]) b → Calls Try.prog 25 #[(.agg #[.int .i64 b.sounds, .slice ba b.alphabets.length bc, .slice bs b.spellings.length bd]), .int .i64 n] w fun e w' => ∃ u, e = .returned (.tuple #[u, .int .i64 er]) ∧ IntsAt w' u k ∧ Ext w w')
    (hr1 : ∀ w, BookAt w (.agg #[.int .i64 b.sounds, .slice ba b.alphabets.length bc, .slice bs b.spellings.length bd]) b → IntsAt w (.slice ha l.length hc) l → Calls Try.prog 27 #[(.agg #[.int .i64 b.sounds, .slice ba b.alphabets.length bc, .slice bs b.spellings.length bd]), .int .i64 n, .slice ha l.length hc] w fun e w' => e = .returned (.tuple #[.bool r, .int .i64 er2]) ∧ Ext w w')
    (hr2 : ∀ w, BookAt w (.agg #[.int .i64 b.sounds, .slice ba b.alphabets.length bc, .slice bs b.spellings.length bd]) b → IntsAt w (.slice ha l.length hc) l → Calls Try.prog 28 #[(.agg #[.int .i64 b.sounds, .slice ba b.alphabets.length bc, .slice bs b.spellings.length bd]), .int .i64 n, .slice ha l.length hc] w fun e w' => e = .returned (.tuple #[.bool r, .int .i64 er2]) ∧ Ext w w')
    (w : World) (hb : BookAt w (.agg #[.int .i64 b.sounds, .slice ba b.alphabets.length bc, .slice bs b.spellings.length bd]) b) (hl : IntsAt w (.slice ha l.length hc) l) :
    Calls Try.prog 4 #[(.agg #[.int .i64 b.sounds, .slice ba b.alphabets.length bc, .slice bs b.spellings.length bd]), .int .i64 n, .slice ha l.length hc] w fun e w' => e = .returned (.bool true) ∧ Ext w w' := by
  have aw := fun w => awake_any w
  go_enter Try.func4, Try.ntmps4
  go_wp2_with fail
  have hB : Boxed ((w).alloc (.cells #[.int .i64 b.sounds, .slice ba b.alphabets.length bc, .slice bs b.spellings.length bd] 25)) w.heap.size b ba bc bs bd := ⟨by simp [go_sem], by simp [go_sem], by simp [go_sem], hb.ext (by first | (with_reducible exact Ext.refl _) | (with_reducible assumption) | (show Below _ _ _; go_grown; done))⟩
  have hx : Ext w ((w).alloc (.cells #[.int .i64 b.sounds, .slice ba b.alphabets.length bc, .slice bs b.spellings.length bd] 25)) := ext_alloc _ _
  replace hl := hl.ext hx
  generalize ((w).alloc (.cells #[.int .i64 b.sounds, .slice ba b.alphabets.length bc, .slice bs b.spellings.length bd] 25)) = W at *
  have c0 := hB.c0
  have c1 := hB.c1
  have c2 := hB.c2
  have z1 := hB.lt
  refine (hb1 _ hB.at_).mono ?_
  rintro e w1 ⟨rfl, h1⟩
  (replace hB := hB.ext h1; replace hl := hl.ext h1; replace c0 := hB.c0; replace c1 := hB.c1; replace c2 := hB.c2; replace z1 := hB.lt; have x1 := Ext.trans (by assumption) h1)
  clear h1 hb1 hx
  go_wp2_with fail
  refine (hb2 _ hB.at_).mono ?_
  rintro e w2 ⟨rfl, h2⟩
  (replace hB := hB.ext h2; replace hl := hl.ext h2; replace c0 := hB.c0; replace c1 := hB.c1; replace c2 := hB.c2; replace z1 := hB.lt; have x2 := Ext.trans (by assumption) h2)
  clear h2 hb2 x1
  go_wp2_with fail
  refine (hf1 _ hB.at_).mono ?_
  rintro e w3 ⟨u, rfl, hu, h3⟩
  obtain ⟨ua, uc, rfl, -⟩ := hu.shape
  (replace hB := hB.ext h3; replace hl := hl.ext h3; replace c0 := hB.c0; replace c1 := hB.c1; replace c2 := hB.c2; replace z1 := hB.lt; have x3 := Ext.trans (by assumption) h3)
  clear h3 hf1 x2
  go_wp2_with fail
  refine (hf2 _ hB.at_).mono ?_
  rintro e w4 ⟨u2, rfl, hu2, h4⟩
  obtain ⟨va, vc, rfl, -⟩ := hu2.shape
  replace hu := hu.ext h4
  (replace hB := hB.ext h4; replace hl := hl.ext h4; replace c0 := hB.c0; replace c1 := hB.c1; replace c2 := hB.c2; replace z1 := hB.lt; have x4 := Ext.trans (by assumption) h4)
  clear h4 hf2 x3
  go_wp2_with fail
  refine (ints_any _ _ k k _ hu hu2).mono ?_
  rintro e w5 ⟨rfl, h5⟩
  rw [decide_eq_true (rfl : k = k)]
  (replace hB := hB.ext h5; replace hl := hl.ext h5; replace c0 := hB.c0; replace c1 := hB.c1; replace c2 := hB.c2; replace z1 := hB.lt; have x5 := Ext.trans (by assumption) h5)
  clear h5 hu hu2 x4
  go_wp2_with fail
  refine (hr1 _ hB.at_ hl).mono ?_
  rintro e w6 ⟨rfl, h6⟩
  (replace hB := hB.ext h6; replace hl := hl.ext h6; replace c0 := hB.c0; replace c1 := hB.c1; replace c2 := hB.c2; replace z1 := hB.lt; have x6 := Ext.trans (by assumption) h6)
  clear h6 hr1 x5
  go_wp2_with fail
  refine (hr2 _ hB.at_ hl).mono ?_
  rintro e w7 ⟨rfl, h7⟩
  have x7 := x6.trans h7
  clear h7 hr2 x6 hB c0 c1 c2 z1 hl
  go_wp2_with fail
  refine (aw _).mono ?_
  rintro e w8 ⟨rfl, h8⟩
  have x8 := x7.trans h8
  clear h8 x7
  go_wp2
  go_ret
  exact ⟨rfl, x8⟩

theorem IntsAt.nothing (w : World) : IntsAt w (.slice none 0 0) [] := ⟨none, 0, rfl, Nat.le_refl _, by decide, fun i hi => absurd hi (Nat.not_lt_zero _)⟩

theorem least_of (f : List Int → Nat) : ∀ L : List (List Int), (∃ t, t ∈ L) → ∃ k, k ∈ L ∧ ∀ t, t ∈ L → f k ≤ f t
  | [], h => by obtain ⟨t, ht⟩ := h; cases ht
  | x :: L, _ => by
    by_cases hL : ∃ t, t ∈ L
    · obtain ⟨k, hk, hm⟩ := least_of f L hL
      by_cases hx : f x ≤ f k
      · exact ⟨x, List.mem_cons_self, fun t ht => by
          rcases List.mem_cons.1 ht with rfl | ht
          · exact Nat.le_refl _
          · exact Nat.le_trans hx (hm t ht)⟩
      · exact ⟨k, List.mem_cons_of_mem _ hk, fun t ht => by
          rcases List.mem_cons.1 ht with rfl | ht
          · omega
          · exact hm t ht⟩
    · exact ⟨x, List.mem_cons_self, fun t ht => by
        rcases List.mem_cons.1 ht with rfl | ht
        · exact Nat.le_refl _
        · exact absurd ⟨t, ht⟩ hL⟩
/-- the least sound string of a spelling, and that it is what the walk over the marks finds -/
theorem first_is {b : Book} (hv : Valid b) {m : Nat} (hm : m < b.spellings.length) : ∃ k, k ∈ stringsOf b m ∧ (∀ t, t ∈ stringsOf b m → ¬ cmpSS t k < 0) ∧ ∀ f k', FirstIs (canM b [m]) (fun _ => True) (bitsM [m]) k' f → f = true ∧ k' = k := by
  have hnd := canM_nodup hv (l := [m]) (fun x hx => by rw [List.mem_singleton] at hx; rw [hx]; exact hm)
  obtain ⟨k, hk, hmin⟩ := least_of codeN (stringsOf b m) (stringsOf_some hv m hm)
  have hd := fun t (ht : t ∈ stringsOf b m) => digits_of hv hm ht
  have hmin' : ∀ t, t ∈ stringsOf b m → ¬ cmpSS t k < 0 := fun t ht h => by
    have := (codeN_cmp (hd t ht) (hd k hk)).1 h
    have := hmin t ht
    omega
  refine ⟨k, hk, hmin', fun f k' hF => ?_⟩
  cases f
  · exact absurd ⟨k, fun n hn => by rw [List.mem_singleton] at hn; rw [hn]; exact hk⟩ (first_none hnd (by simp) hF).2
  · obtain ⟨h1, h2⟩ := first_all hnd (by simp) hF
    have hk' : k' ∈ stringsOf b m := h1 m (by simp)
    refine ⟨rfl, codeN_inj (hd k' hk') (hd k hk) ?_⟩
    have h3 := h2 k fun n hn => by rw [List.mem_singleton] at hn; rw [hn]; exact hk
    have h4 : ¬ codeN k < codeN k' := fun h => h3 ((codeN_cmp (hd k hk) (hd k' hk')).2 h)
    have h5 := hmin k' hk'
    omega

theorem reads_law (bv hv : Value) (b : Book) (n : Int) (hn : I64 n) (l : List Int) (w : World) (hb : BookAt w bv b) (hl : IntsAt w hv l) :
    Calls Try.prog 4 #[bv, .int .i64 n, hv] w fun e w' => e = .returned (.bool true) ∧ Ext w w' := by
  obtain ⟨ba, bc, bs, bd, rfl, -⟩ := hb.open
  obtain ⟨ha, hc, rfl, -⟩ := hl.shape
  by_cases ho : openM b [n] = 0
  · obtain ⟨he, hin⟩ := openM_zero ho
    have hv := valid_of he
    have hin' := hin n (by simp)
    obtain ⟨m, hnm⟩ : ∃ m : Nat, n = m := ⟨n.toNat, by omega⟩
    have hm : m < b.spellings.length := by omega
    clear hin hin'
    subst hnm
    obtain ⟨k, hk, hmin, hfirst⟩ := first_is hv hm
    have hf1 : ∀ w, BookAt w (.agg #[.int .i64 b.sounds, .slice ba b.alphabets.length bc, .slice bs b.spellings.length bd]) b → Calls Try.prog 24 #[(.agg #[.int .i64 b.sounds, .slice ba b.alphabets.length bc, .slice bs b.spellings.length bd]), .int .i64 (m : Nat)] w fun e w' => ∃ u, e = .returned (.tuple #[u, .int .i64 0]) ∧ IntsAt w' u k ∧ Ext w w' := fun w hb => by
      refine (first_ok _ b he m hm w hb).mono ?_
      rintro e w' ⟨k', f, u, hF, rfl, hu, hx⟩
      obtain ⟨rfl, rfl⟩ := hfirst f k' hF
      exact ⟨u, rfl, hu, hx⟩
    by_cases hh : heardErrM b.sounds l = 0
    · exact reads_walk ba bs bc bd b m hn ha hc l _ 0 0 k _ (fun w hb => count_ok _ b he m hm w hb) (fun w hb => refCount_ok _ b he m hm w hb) hf1 (fun w hb => refFirst_ok _ b he m hm k hk hmin w hb)
        (fun w hb hl => reads_ok _ _ b he m hm l hh w hb hl) (fun w hb hl => refReads_ok _ _ b he m hm l hh w hb hl) w hb hl
    · have hz : hearsM b.sounds l (openM b [(m : Int)]) = heardErrM b.sounds l := by rw [hearsM, ho, if_neg (by simp)]
      refine reads_walk ba bs bc bd b m hn ha hc l _ 0 (heardErrM b.sounds l) k false (fun w hb => count_ok _ b he m hm w hb) (fun w hb => refCount_ok _ b he m hm w hb) hf1 (fun w hb => refFirst_ok _ b he m hm k hk hmin w hb)
        (fun w hb hl => reads_bad _ _ b he m hm l hh w hb hl) (fun w hb hl => ?_) w hb hl
      rw [← hz]
      exact refReads_no _ _ b m hn l (by rw [hz]; exact hh) w hb hl
  · have hz : hearsM b.sounds l (openM b [n]) = openM b [n] := by rw [hearsM, if_pos ho]
    refine reads_walk ba bs bc bd b n hn ha hc l 0 (openM b [n]) (openM b [n]) [] false (fun w hb => count_err _ b n hn ho w hb) (fun w hb => refCount_err _ b n hn ho w hb) (fun w hb => ?_) (fun w hb => ?_)
      (fun w hb hl => reads_err _ _ b n hn l ho w hb hl) (fun w hb hl => ?_) w hb hl
    · refine (first_err _ b n hn ho w hb).mono ?_
      rintro e w' ⟨rfl, hx⟩
      exact ⟨_, rfl, IntsAt.nothing _, hx⟩
    · refine (refFirst_err _ b n hn ho w hb).mono ?_
      rintro e w' ⟨rfl, hx⟩
      exact ⟨_, rfl, IntsAt.nothing _, hx⟩
    · have := refReads_no _ _ b n hn l (by rw [hz]; exact ho) w hb hl
      rw [hz] at this
      exact this
end Go.Proofs.Ytagpngddaenkkaa

namespace Go.Proofs.Ytagpngddaenkkaa
open Go.RowKit
set_option linter.unusedVariables false

/-- a row of marks that is not older than a number of blocks -/
def NewV (n0 : Nat) (P : Nat → Prop) (u : Value) (w : World) : Prop := ∃ g f, u = .slice (some ⟨g, 0, none⟩) 3125 3125 ∧ RowAt w g f ∧ (∀ c, c < 3125 → (f c = true ↔ P c)) ∧ n0 ≤ g
theorem NewV.ext {n0 : Nat} {P : Nat → Prop} {u : Value} {w w' : World} (h : NewV n0 P u w) (hx : Ext w w') : NewV n0 P u w' := by
  obtain ⟨g, f, h1, h2, h3, h4⟩ := h; exact ⟨g, f, h1, h2.ext hx, h3, h4⟩
noncomputable def NewV.g {n0 : Nat} {P : Nat → Prop} {u : Value} {w : World} (h : NewV n0 P u w) : Nat := Exists.choose h
noncomputable def NewV.f {n0 : Nat} {P : Nat → Prop} {u : Value} {w : World} (h : NewV n0 P u w) : Nat → Bool := Exists.choose (Exists.choose_spec h)
theorem NewV.spec {n0 : Nat} {P : Nat → Prop} {u : Value} {w : World} (h : NewV n0 P u w) : u = .slice (some ⟨h.g, 0, none⟩) 3125 3125 ∧ RowAt w h.g h.f ∧ (∀ c, c < 3125 → (h.f c = true ↔ P c)) ∧ n0 ≤ h.g := Exists.choose_spec (Exists.choose_spec h)
theorem strings_new {b : Book} (he : errM b = 0) {n : Nat} (hn : n < b.spellings.length) (bv : Value) (w : World) (hb : BookAt w bv b) (n0 : Nat) (h0 : n0 ≤ w.heap.size) :
    Calls Try.prog 59 #[bv, .agg #[.int .i64 (b.spellings[n]).alphabet, .string (b.spellings[n]).text]] w fun e w' => ∃ u, e = .returned u ∧ Ext w w' ∧ NewV n0 (codeOf b n) u w' := by
  have hv := valid_of he
  obtain ⟨g1, g2, g3⟩ := said_args hv hn
  have hs := hv.sp n hn
  refine (strings_any bv b _ _ hv.s hs.a rfl g1 hs.t.2 hs.k g3 w hb).mono ?_
  rintro e w' ⟨g, f, rfl, h1, h2, h3, hx⟩
  refine ⟨_, rfl, hx, g, f, rfl, h1, fun c hc => ?_, Nat.le_trans h0 h3⟩
  rw [h2 c hc]
  unfold codeOf
  rw [lettersAt_eq b n hn]
  have : (lettersM (lettersOf b.alphabets (b.spellings[n]).alphabet) (b.spellings[n]).text).length = (b.spellings[n]).text.size := by rw [lettersM, lettersTo_len]
  rw [this]

/-- the marks of the first spellings, none where there is none -/
def ShP (b : Book) (l : List Nat) (i c : Nat) : Prop := i ≠ 0 ∧ ∀ n ∈ l.take i, codeOf b n c
theorem ShP.next {b : Book} {l : List Nat} {i c : Nat} (hi : i < l.length) : ShP b l (i + 1) c ↔ codeOf b l[i] c ∧ (i = 0 ∨ ShP b l i c) := by
  unfold ShP
  rw [List.take_succ_eq_append_getElem hi]
  constructor
  · rintro ⟨-, h⟩
    refine ⟨h _ (List.mem_append_right _ (List.mem_singleton.2 rfl)), ?_⟩
    rcases Nat.eq_zero_or_pos i with h0 | h0
    · exact .inl h0
    · exact .inr ⟨by omega, fun n hn => h n (List.mem_append_left _ hn)⟩
  · rintro ⟨h1, h2⟩
    refine ⟨by omega, fun n hn => ?_⟩
    rcases List.mem_append.1 hn with hn | hn
    · rcases h2 with rfl | h2
      · simp at hn
      · exact h2.2 n hn
    · rw [List.mem_singleton] at hn
      rw [hn]; exact h1
theorem ShP.all {b : Book} {l : List Nat} (hne : l ≠ []) {c : Nat} : ShP b l l.length c ↔ ∀ n ∈ l, codeOf b n c := by
  unfold ShP
  rw [List.take_length]
  exact ⟨fun h => h.2, fun h => ⟨fun e => hne (List.eq_nil_of_length_eq_zero e), h⟩⟩

set_option maxRecDepth 100000 in
set_option maxHeartbeats 4000000 in
theorem shared_any (bv v : Value) (b : Book) (he : errM b = 0) (l : List Nat) (hl : ∀ n ∈ l, n < b.spellings.length) (hne : l ≠ []) (w : World) (hb : BookAt w bv b) (hlv : IntsAt w v (ints l)) :
    Calls Try.prog 71 #[bv, v] w fun e w' => ∃ u, e = .returned u ∧ Ext w w' ∧ MarkV (fun c => ∀ n ∈ l, codeOf b n c) u w' := by
  have hb0 := hb
  obtain ⟨ba, bc, bs, bd, rfl, -, -, -, hsl, hsc, -, -, hsps⟩ := hb.open
  have hn5 := (valid_of he).n
  have hl0 : (ints l).length = l.length := by simp [ints]
  obtain ⟨la, lc, rfl, hlc1, hlc2⟩ := hlv.shape
  rw [hl0] at hlv hlc1 ⊢
  have Hl0 := Lib.hid hl0
  have He := Lib.hid he
  have Hl := Lib.hid hl
  have Hne := Lib.hid hne
  clear hl0 he hl hne hb
  obtain ⟨wm, hm, hown, hxm⟩ := make_bools ((w).alloc (.cells #[.int .i64 b.sounds, .slice ba b.alphabets.length bc, .slice bs b.spellings.length bd] 25)) 3125 ((w).alloc (.cells #[.int .i64 b.sounds, .slice ba b.alphabets.length bc, .slice bs b.spellings.length bd] 25)).heap.size (by omega) (Nat.le_refl _)
  have hz : ((w).alloc (.cells #[.int .i64 b.sounds, .slice ba b.alphabets.length bc, .slice bs b.spellings.length bd] 25)).heap.size = w.heap.size + 1 := by simp
  have hm' : (Instr.makeSlice 93 (.int .i64 3125) (.int .i64 3125)).run Try.prog ((w).alloc (.cells #[.int .i64 b.sounds, .slice ba b.alphabets.length bc, .slice bs b.spellings.length bd] 25)) = .ok (.slice (some ⟨((w).alloc (.cells #[.int .i64 b.sounds, .slice ba b.alphabets.length bc, .slice bs b.spellings.length bd] 25)).heap.size, 0, none⟩) 3125 3125) wm := hm
  clear hm
  have hr := RowAt.of_own hown
  rw [hz] at hm' hr
  clear hown hz
  have hB : Boxed wm w.heap.size b ba bc bs bd := ⟨hxm.cell (by simp [go_sem]), hxm.cell (by simp [go_sem]), hxm.cell (by simp [go_sem]), hb0.ext ((ext_alloc _ _).trans hxm)⟩
  have xm : Ext w wm := (ext_alloc _ _).trans hxm
  clear hxm
  go_enter Try.func71, Try.ntmps71
  go_wp2
  clear hm'
  obtain ⟨W, hW⟩ : ∃ W, W = wm := ⟨_, rfl⟩
  subst hW
  go_loopw [5, 6] (fun v i wr => ∃ (j g : Nat) (f : Nat → Bool), j ≤ l.length ∧ i = .int .i64 j ∧ v = .slice (some ⟨g, 0, none⟩) 3125 3125 ∧ RowAt wr g f ∧ (∀ c, c < 3125 → (f c = true ↔ ShP b l j c)) ∧ Ext w wr ∧ Boxed wr w.heap.size b ba bc bs bd) (fun _ i _ => l.length - (intOf i).toNat)
  case atStart => exact ⟨0, w.heap.size + 1, _, Nat.zero_le _, rfl, rfl, hr, fun c hc => ⟨fun e => by simp at e, fun e => absurd rfl e.1⟩, xm, hB⟩
  case round =>
    obtain ⟨j, g, f, hj, rfl, rfl, hr, hf, hx, hB⟩ := hrel
    obtain ⟨R, hR⟩ : ∃ R : World, R = wr := ⟨_, rfl⟩
    subst hR
    have c0 := hB.c0
    have c1 := hB.c1
    have c2 := hB.c2
    have z1 := hB.lt
    by_cases hlt : j < l.length
    · have k1 : (j : Int) < (l.length : Int) := by omega
      obtain ⟨_, _, hea, -, -, hh⟩ := hlv.ext hx
      obtain ⟨bb, off, rfl, cc, -⟩ := hh j (by rw [Hl0.out]; exact hlt)
      have ce : (ints l)[j]'(by rw [Hl0.out]; exact hlt) = ((l[j] : Nat) : Int) := by simp [ints]
      rw [ce] at cc
      have hea1 := (Value.slice.inj hea).1
      subst hea1
      simp only [Nat.mul_one] at cc
      clear hea hh ce
      have hy := Hl.out l[j] (List.getElem_mem hlt)
      have hnext := fun c => ShP.next (b := b) (c := c) hlt
      generalize l[j] = y at *
      obtain ⟨_, _, hea, -, -, hh⟩ := hsps.ext hx
      obtain ⟨sb, so, rfl, sc0, sc1, sI, sz⟩ := hh y hy
      have hea1 := (Value.slice.inj hea).1
      subst hea1
      clear hea hh
      have k2 : (y : Int) < (b.spellings.length : Int) := by omega
      have hstr := fun w hb h0 => strings_new He.out hy (.agg #[.int .i64 b.sounds, .slice ba b.alphabets.length bc, .slice (some ⟨sb, so, none⟩) b.spellings.length bd]) w hb R.heap.size h0
      generalize b.spellings[y] = sp at *
      have Hnext := Lib.hid hnext
      have Hf := Lib.hid hf
      clear hnext hf
      go_wp2_with fail
      apply Facts.wp_region [.val _, .val _, .val _, .val _, .val _, .val _, .val _, .val _, .val _, .fact (NewV R.heap.size (codeOf b y)), .fact (NewV R.heap.size (codeOf b y))] (by kernel_rfl) (by kernel_rfl) ?keep ?main
      case keep => exact ⟨fun u a c hx h => h.ext hx, fun u a c hx h => h.ext hx, trivial⟩
      case main =>
        iterate 9 (refine ⟨fun w1 hx hh => ?_, ?_⟩; focus (clear hh; have e0 := hx.cell c0; have e1 := hx.cell c1; have e2 := hx.cell c2; have e3 := hx.cell cc; have e4 := hx.cell sc0; have e5 := hx.cell sc1; go_simp; first | exact ⟨Ext.refl _, rfl⟩ | exact Ext.refl _))
        refine ⟨fun w2 hx hh => ?_, ?_⟩
        · clear hh
          go_simp
          exact hstr w2 (hB.at_.ext hx) hx.size
        intro u9
        refine ⟨fun w2 hx hh => ?_, ?_⟩
        · have h9 : NewV R.heap.size (codeOf b y) u9 w2 := hh 9 _ List.mem_cons_self (by kernel_rfl)
          clear hh
          go_simp
          first | exact ⟨Ext.refl _, h9⟩ | exact Ext.refl _ | exact h9
        intro u10 w3 hx3 hh
        have h10 : NewV R.heap.size (codeOf b y) u10 w3 := hh 10 _ List.mem_cons_self
        clear hh
        have s10 := h10.spec
        generalize h10.g = G at *
        generalize h10.f = f2 at *
        have e10 := s10.1
        have hn := s10.2.1
        have hf2 := s10.2.2.1
        have hGR := s10.2.2.2
        clear s10 h10 hstr
        subst e10
        have Hf2 := Lib.hid hf2
        clear hf2
        go_simp
        go_wp2
        go_loopw [8] (fun i wr => ∃ (c : Nat) (h : Nat → Bool), c ≤ 3125 ∧ i = .int .i64 c ∧ RowAt wr G h ∧ (∀ d, d < 3125 → h d = (if d < c then f2 d && (decide (j = 0) || f d) else f2 d)) ∧ Ext R wr) (fun i _ => 3125 - (intOf i).toNat)
        case atStart => exact ⟨0, f2, by omega, rfl, hn, fun d _ => by rw [if_neg (by omega)], hx3⟩
        case round =>
          obtain ⟨c, h, hc, rfl, hrow, hh, hxr⟩ := hrel
          have hro := hr.ext hxr
          have zz := hrow.lt
          have zg := hro.lt
          by_cases hcl : c < 3125
          · have k3 : (c : Int) < 3125 := by omega
            have oc := (hro c hcl).1
            have nc := (hrow c hcl).1
            have nf := (hrow c hcl).2
            have hhc := hh c hcl
            rw [if_neg (by omega)] at hhc
            rw [hhc] at nc
            have hst : ∀ r : Bool, r = (f2 c && (decide (j = 0) || f c)) → RowAt (wr.setCell ⟨G, c, none⟩ (.bool r)) G (fun d => if d = c then r else h d) ∧ (∀ d, d < 3125 → (if d = c then r else h d) = (if d < c + 1 then f2 d && (decide (j = 0) || f d) else f2 d)) ∧ Ext R (wr.setCell ⟨G, c, none⟩ (.bool r)) := fun r hr => ⟨hrow.set hcl r, fun d hd => by
              by_cases e : d = c
              · subst e; rw [if_pos rfl, if_pos (by omega)]; exact hr
              · rw [if_neg e, hh d hd]
                by_cases e2 : d < c
                · rw [if_pos e2, if_pos (by omega)]
                · rw [if_neg e2, if_neg (by omega)], hxr.setCell hGR _⟩
            clear hh hhc hrow hxr hro
            cases h2 : f2 c
            · rw [h2] at nc
              have Hs := Lib.hid (hst false (by rw [h2]; rfl))
              clear hst h2
              go_wp2
              go_roundw
              case rel => exact ⟨c + 1, _, by omega, by go_num, Hs.out.1, Hs.out.2.1, Hs.out.2.2⟩
              case measure => simp [intOf]; omega
            · rw [h2] at nc
              by_cases hj0 : j = 0
              · have hj1 : ((j : Int) == 0) = true := by rw [beq_iff_eq]; omega
                have Hs := Lib.hid (hst true (by rw [h2, decide_eq_true hj0]; rfl))
                clear hst h2 hj0
                go_wp2
                go_roundw
                case rel => exact ⟨c + 1, _, by omega, by go_num, Hs.out.1, Hs.out.2.1, Hs.out.2.2⟩
                case measure => simp [intOf]; omega
              · have hj1 : ((j : Int) == 0) = false := by rw [beq_eq_false_iff_ne]; omega
                have Hs := Lib.hid (hst (f c) (by rw [h2, decide_eq_false hj0]; rfl))
                clear hst h2 hj0
                go_wp2
                go_roundw
                case rel => exact ⟨c + 1, _, by omega, by go_num, Hs.out.1, Hs.out.2.1, Hs.out.2.2⟩
                case measure => simp [intOf]; omega
          · obtain rfl : c = 3125 := by omega
            have hfin : ∀ d, d < 3125 → (h d = true ↔ ShP b l (j + 1) d) := fun d hd => by
              rw [hh d hd, if_pos hd, Hnext.out d, ← Hf2.out d hd, ← Hf.out d hd, Bool.and_eq_true, Bool.or_eq_true, decide_eq_true_iff]
            have x5 := hx.trans hxr
            have hB5 := hB.ext hxr
            have Hfin := Lib.hid hfin
            clear hfin hh
            go_wp2
            go_roundw
            case rel => exact ⟨j + 1, G, h, by omega, by go_num, rfl, hrow, Hfin.out, x5, hB5⟩
            case measure => simp [intOf]; omega
    · obtain rfl : j = l.length := by omega
      have hfin : ∀ c, c < 3125 → (f c = true ↔ ∀ n ∈ l, codeOf b n c) := fun c hc => by rw [hf c hc, ShP.all Hne.out]
      have Hfin := Lib.hid hfin
      clear hfin hf hlt
      go_wp2
      go_ret
      exact ⟨_, rfl, hx, g, f, rfl, hr, Hfin.out⟩
end Go.Proofs.Ytagpngddaenkkaa

namespace Go.Proofs.Ytagpngddaenkkaa
open Go.RowKit
set_option linter.unusedVariables false

theorem rising_step {n : Int} : ∀ (l : List Int) (last : Int), risingM n last l = true → ∀ k (hk : k + 1 < l.length), l[k] < l[k + 1]
  | [], _, _, k, hk => by simp at hk
  | [x], _, _, k, hk => by simp at hk
  | x :: y :: r, last, h, k, hk => by
    have h' : (decide (last < x) && decide (x < n) && risingM n x (y :: r)) = true := h
    rw [Bool.and_eq_true] at h'
    cases k with
    | zero =>
      have h2 : (decide (x < y) && decide (y < n) && risingM n y r) = true := h'.2
      simp only [Bool.and_eq_true, decide_eq_true_iff] at h2
      exact h2.1.1
    | succ k => exact rising_step (y :: r) x h'.2 k (by simpa using hk)
theorem rising_make {n : Int} : ∀ (l : List Int) (last : Int), (∀ x ∈ l, x < n) → (∀ k (hk : k + 1 < l.length), l[k] < l[k + 1]) → (∀ h : 0 < l.length, last < l[0]) → risingM n last l = true
  | [], _, _, _, _ => rfl
  | x :: r, last, h1, h2, h3 => by
    show (decide (last < x) && decide (x < n) && risingM n x r) = true
    rw [Bool.and_eq_true, Bool.and_eq_true, decide_eq_true_iff, decide_eq_true_iff]
    refine ⟨⟨h3 (by simp), h1 x (by simp)⟩, rising_make r x (fun y hy => h1 y (by simp [hy])) (fun k hk => h2 (k + 1) (by simpa using hk)) fun h => ?_⟩
    have := h2 0 (by simpa using h)
    simpa using this
theorem asc_step {l : List Int} (h : ascM l = true) (k : Nat) (hk : k + 1 < l.length) : l[k] < l[k + 1] := by
  unfold ascM at h
  rw [List.all_eq_true] at h
  have := h (k + 1) (List.mem_range.2 hk)
  rw [List.getD_eq_getElem?_getD, List.getD_eq_getElem?_getD, List.getElem?_eq_getElem hk, List.getElem?_eq_getElem (show k + 1 - 1 < l.length by omega)] at this
  simpa using this
/-- among places that are told, rising and ascending are one -/
theorem rising_asc {n : Int} {l : List Int} (h : ∀ x ∈ l, 0 ≤ x ∧ x < n) : risingM n (-1) l = ascM l := by
  rw [Bool.eq_iff_iff]
  constructor
  · intro hr
    refine ascM_yes l fun k h0 hk => ?_
    have := rising_step l (-1) hr (k - 1) (by omega)
    simpa [show k - 1 + 1 = k from by omega] using this
  · intro ha
    exact rising_make l (-1) (fun x hx => (h x hx).2) (asc_step ha) fun h0 => by have := (h _ (List.getElem_mem h0)).1; omega

theorem all_codes {b : Book} (hv : Valid b) {l : List Nat} (hl : ∀ n ∈ l, n < b.spellings.length) (hne : l ≠ []) (c : Nat) : (∀ n ∈ l, codeOf b n c) ↔ ∃ t, All b l t ∧ codeN t = c := by
  constructor
  · intro h
    obtain ⟨m, hm⟩ := List.exists_mem_of_ne_nil l hne
    obtain ⟨t, ht, e⟩ := (codeOf_iff hv (hl m hm) c).1 (h m hm)
    refine ⟨t, fun n hn => ?_, e⟩
    obtain ⟨s, hs, e2⟩ := (codeOf_iff hv (hl n hn) c).1 (h n hn)
    rw [← codeN_inj (digits_of hv (hl n hn) hs) (digits_of hv (hl m hm) ht) (by omega)]
    exact hs
  · rintro ⟨t, ht, e⟩ n hn
    exact (codeOf_iff hv (hl n hn) c).2 ⟨t, ht n hn, e⟩
theorem all_digits {b : Book} (hv : Valid b) {l : List Nat} (hl : ∀ n ∈ l, n < b.spellings.length) (hne : l ≠ []) {t : List Int} (ht : All b l t) : Digits t ∧ codeN t < 3125 := by
  obtain ⟨m, hm⟩ := List.exists_mem_of_ne_nil l hne
  exact ⟨digits_of hv (hl m hm) (ht m hm), codeOf_lt hv (hl m hm) ((codeOf_iff hv (hl m hm) _).2 ⟨t, ht m hm, rfl⟩)⟩

set_option maxRecDepth 100000 in
set_option maxHeartbeats 2000000 in
theorem refCommon_err (bv v : Value) (b : Book) (l : List Int) (he : openM b l ≠ 0) (w : World) (hb : BookAt w bv b) (hl : IntsAt w v l) :
    Calls Try.prog 34 #[bv, v] w fun e w' => e = .returned (.tuple #[.slice none 0 0, .int .i64 (openM b l)]) ∧ Ext w w' := by
  obtain ⟨ba, bc, bs, bd, rfl, -, -, -, hsl, hsc, -⟩ := hb.open
  obtain ⟨la, lc, rfl, -⟩ := hl.shape
  have hind := fun w hb hl => indices_any (.agg #[.int .i64 b.sounds, .slice ba b.alphabets.length bc, .slice bs b.spellings.length bd]) (.slice la l.length lc) b l b.spellings.length w hb hl (by omega)
  rw [indices_open] at hind
  have he1 : (openM b l != 0) = true := by simpa using he
  have he2 : (openM b l == 0) = false := by simpa using he
  generalize openM b l = er at *
  clear he
  go_enter Try.func34, Try.ntmps34
  (go_wp2_with fail; have hB : Boxed ((w).alloc (.cells #[.int .i64 b.sounds, .slice ba b.alphabets.length bc, .slice bs b.spellings.length bd] 25)) w.heap.size b ba bc bs bd := ⟨by simp [go_sem], by simp [go_sem], by simp [go_sem], hb.ext (by first | (with_reducible exact Ext.refl _) | (with_reducible assumption) | (show Below _ _ _; go_grown; done))⟩; have hx : Ext w ((w).alloc (.cells #[.int .i64 b.sounds, .slice ba b.alphabets.length bc, .slice bs b.spellings.length bd] 25)) := ext_alloc _ _; replace hl := hl.ext hx; generalize ((w).alloc (.cells #[.int .i64 b.sounds, .slice ba b.alphabets.length bc, .slice bs b.spellings.length bd] 25)) = W at *; have c0 := hB.c0; have c1 := hB.c1; have c2 := hB.c2; have z1 := hB.lt)
  refine (hind _ hB.at_ hl).mono ?_
  rintro e w1 ⟨rfl, h1⟩
  have x1 := hx.trans h1
  go_wp2
  go_ret2
  exact ⟨rfl, x1⟩
set_option maxRecDepth 100000 in
set_option maxHeartbeats 2000000 in
theorem refCommon_arg (bv v : Value) (b : Book) (l : List Int) (he : openM b l = 0) (ha : l = [] ∨ ascM l = false) (w : World) (hb : BookAt w bv b) (hl : IntsAt w v l) :
    Calls Try.prog 34 #[bv, v] w fun e w' => e = .returned (.tuple #[.slice none 0 0, .int .i64 2]) ∧ Ext w w' := by
  have hin := (openM_zero he).2
  have hra := rising_asc hin
  obtain ⟨ba, bc, bs, bd, rfl, -, -, -, hsl, hsc, -⟩ := hb.open
  obtain ⟨la, lc, rfl, -⟩ := hl.shape
  have hind := fun w hb hl => indices_any (.agg #[.int .i64 b.sounds, .slice ba b.alphabets.length bc, .slice bs b.spellings.length bd]) (.slice la l.length lc) b l b.spellings.length w hb hl (by omega)
  rw [indices_open, he] at hind
  have hris := fun w hl => rising_any (.slice la l.length lc) b.spellings.length l w hl
  rw [hra] at hris
  by_cases h0 : l = []
  · have h1 : ((l.length : Int) == 0) = true := by rw [h0]; rfl
    clear ha h0 hris hra
    go_enter Try.func34, Try.ntmps34
    (go_wp2_with fail; have hB : Boxed ((w).alloc (.cells #[.int .i64 b.sounds, .slice ba b.alphabets.length bc, .slice bs b.spellings.length bd] 25)) w.heap.size b ba bc bs bd := ⟨by simp [go_sem], by simp [go_sem], by simp [go_sem], hb.ext (by first | (with_reducible exact Ext.refl _) | (with_reducible assumption) | (show Below _ _ _; go_grown; done))⟩; have hx : Ext w ((w).alloc (.cells #[.int .i64 b.sounds, .slice ba b.alphabets.length bc, .slice bs b.spellings.length bd] 25)) := ext_alloc _ _; replace hl := hl.ext hx; generalize ((w).alloc (.cells #[.int .i64 b.sounds, .slice ba b.alphabets.length bc, .slice bs b.spellings.length bd] 25)) = W at *; have c0 := hB.c0; have c1 := hB.c1; have c2 := hB.c2; have z1 := hB.lt)
    refine (hind _ hB.at_ hl).mono ?_
    rintro e w1 ⟨rfl, h2⟩
    have x1 := hx.trans h2
    go_wp2
    go_ret2
    exact ⟨rfl, x1⟩
  · rw [ha.resolve_left h0] at hris
    have h1 : ((l.length : Int) == 0) = false := by
      rw [beq_eq_false_iff_ne]; intro h; exact h0 (List.eq_nil_of_length_eq_zero (by omega))
    clear ha h0 hra
    go_enter Try.func34, Try.ntmps34
    (go_wp2_with fail; have hB : Boxed ((w).alloc (.cells #[.int .i64 b.sounds, .slice ba b.alphabets.length bc, .slice bs b.spellings.length bd] 25)) w.heap.size b ba bc bs bd := ⟨by simp [go_sem], by simp [go_sem], by simp [go_sem], hb.ext (by first | (with_reducible exact Ext.refl _) | (with_reducible assumption) | (show Below _ _ _; go_grown; done))⟩; have hx : Ext w ((w).alloc (.cells #[.int .i64 b.sounds, .slice ba b.alphabets.length bc, .slice bs b.spellings.length bd] 25)) := ext_alloc _ _; replace hl := hl.ext hx; generalize ((w).alloc (.cells #[.int .i64 b.sounds, .slice ba b.alphabets.length bc, .slice bs b.spellings.length bd] 25)) = W at *; have c0 := hB.c0; have c1 := hB.c1; have c2 := hB.c2; have z1 := hB.lt)
    refine (hind _ hB.at_ hl).mono ?_
    rintro e w1 ⟨rfl, h2⟩
    (replace hB := hB.ext h2; replace hl := hl.ext h2; replace c0 := hB.c0; replace c1 := hB.c1; replace c2 := hB.c2; replace z1 := hB.lt; have x1 := Ext.trans (by assumption) h2)
    clear h2 hind
    go_wp2_with fail
    refine (hris _ hl).mono ?_
    rintro e w2 ⟨rfl, h3⟩
    have x2 := x1.trans h3
    go_wp2
    go_ret2
    exact ⟨rfl, x2⟩
set_option maxRecDepth 100000 in
set_option maxHeartbeats 2000000 in
theorem refCommon_ok (bv v : Value) (b : Book) (he : errM b = 0) (L : List Nat) (hL : ∀ n ∈ L, n < b.spellings.length) (hne : L ≠ []) (ha : ascM (ints L) = true) (w : World) (hb : BookAt w bv b) (hl : IntsAt w v (ints L)) (er : Int) (k : List Int)
    (hk : (er = 9 ∧ k = [] ∧ ¬ ∃ t, All b L t) ∨ (er = 0 ∧ All b L k ∧ ∀ t, All b L t → ¬ cmpSS t k < 0)) :
    Calls Try.prog 34 #[bv, v] w fun e w' => ∃ u, e = .returned (.tuple #[u, .int .i64 er]) ∧ IntsAt w' u k ∧ Ext w w' := by
  have hv := valid_of he
  have hn5 := hv.n
  have hlI : ∀ x ∈ ints L, 0 ≤ x ∧ x < (b.spellings.length : Int) := fun x hx => by
    simp only [ints, List.mem_map] at hx
    obtain ⟨y, hy, rfl⟩ := hx
    have := hL y hy
    omega
  have hop := openM_ok he hlI
  have hra := rising_asc hlI
  obtain ⟨ba, bc, bs, bd, rfl, -, -, -, hsl, hsc, -⟩ := hb.open
  have hl0 : (ints L).length = L.length := by simp [ints]
  obtain ⟨la, lc, rfl, -⟩ := hl.shape
  rw [hl0] at hl ⊢
  have hind := fun w hb hl => indices_any (.agg #[.int .i64 b.sounds, .slice ba b.alphabets.length bc, .slice bs b.spellings.length bd]) (.slice la L.length lc) b (ints L) b.spellings.length w hb hl (by omega)
  rw [indices_open, hop] at hind
  have hris := fun w hl => rising_any (.slice la L.length lc) b.spellings.length (ints L) w hl
  rw [hra, ha] at hris
  have hsh := fun w hb hl => shared_any (.agg #[.int .i64 b.sounds, .slice ba b.alphabets.length bc, .slice bs b.spellings.length bd]) (.slice la L.length lc) b he L hL hne w hb hl
  have h1 : ((L.length : Int) == 0) = false := by
    rw [beq_eq_false_iff_ne]; intro h; exact hne (List.eq_nil_of_length_eq_zero (by omega))
  have hcodes := all_codes hv hL hne
  have hdig := fun t ht => all_digits hv hL hne (t := t) ht
  obtain ⟨m, hm, hmk⟩ : ∃ m : Int, (∀ f : Nat → Bool, (∀ c, c < 3125 → (f c = true ↔ ∀ n ∈ L, codeOf b n c)) → idxM id (marks f) = m) ∧ ((m = -1 ∧ er = 9 ∧ k = []) ∨ (0 ≤ m ∧ m = (codeN k : Nat) ∧ er = 0 ∧ codeN k < 3125 ∧ heardM (codeN k) = k)) := by
    rcases hk with ⟨h2, h3, h4⟩ | ⟨h2, h3, h4⟩
    · refine ⟨-1, fun f hf => least_none fun c hc => ?_, .inl ⟨rfl, h2, h3⟩⟩
      cases h : f c
      · rfl
      · obtain ⟨t, ht, -⟩ := (hcodes c).1 ((hf c hc).1 h)
        exact absurd ⟨t, ht⟩ h4
    · have hd := hdig k h3
      refine ⟨(codeN k : Nat), fun f hf => least_code (fun t => All b L t) hdig (fun c hc => by rw [hf c hc, hcodes c]) h3 h4, .inr ⟨by omega, rfl, h2, hd.2, heardM_code _ k rfl hd.1⟩⟩
  have hleast := fun u w h => least_mark (P := fun c => ∀ n ∈ L, codeOf b n c) (u := u) (w := w) h hm
  clear hm hk hdig hcodes hra hop hlI hl0 hne ha
  go_enter Try.func34, Try.ntmps34
  (go_wp2_with fail; have hB : Boxed ((w).alloc (.cells #[.int .i64 b.sounds, .slice ba b.alphabets.length bc, .slice bs b.spellings.length bd] 25)) w.heap.size b ba bc bs bd := ⟨by simp [go_sem], by simp [go_sem], by simp [go_sem], hb.ext (by first | (with_reducible exact Ext.refl _) | (with_reducible assumption) | (show Below _ _ _; go_grown; done))⟩; have hx : Ext w ((w).alloc (.cells #[.int .i64 b.sounds, .slice ba b.alphabets.length bc, .slice bs b.spellings.length bd] 25)) := ext_alloc _ _; replace hl := hl.ext hx; generalize ((w).alloc (.cells #[.int .i64 b.sounds, .slice ba b.alphabets.length bc, .slice bs b.spellings.length bd] 25)) = W at *; have c0 := hB.c0; have c1 := hB.c1; have c2 := hB.c2; have z1 := hB.lt)
  refine (hind _ hB.at_ hl).mono ?_
  rintro e w1 ⟨rfl, h2⟩
  (replace hB := hB.ext h2; replace hl := hl.ext h2; replace c0 := hB.c0; replace c1 := hB.c1; replace c2 := hB.c2; replace z1 := hB.lt; have x1 := Ext.trans (by assumption) h2)
  clear h2 hind hx
  go_wp2_with fail
  refine (hris _ hl).mono ?_
  rintro e w2 ⟨rfl, h3⟩
  (replace hB := hB.ext h3; replace hl := hl.ext h3; replace c0 := hB.c0; replace c1 := hB.c1; replace c2 := hB.c2; replace z1 := hB.lt; have x2 := Ext.trans (by assumption) h3)
  clear h3 hris x1
  go_wp2_with fail
  refine (hsh _ hB.at_ hl).mono ?_
  rintro e w3 ⟨u, rfl, h4, hmk3⟩
  have x3 := x2.trans h4
  clear h4 hsh hB hl c0 c1 c2 z1 x2
  go_wp2_with fail
  refine (hleast _ _ hmk3).mono ?_
  rintro e w4 ⟨rfl, rfl⟩
  clear hleast hmk3
  rcases hmk with ⟨rfl, rfl, rfl⟩ | ⟨h5, h6, rfl, h7, h8⟩
  · go_wp2
    go_ret2
    exact ⟨_, rfl, IntsAt.nothing _, x3⟩
  · have h9 : ¬ m < 0 := by omega
    have hh := fun w => heard_any (codeN k) w (by omega)
    rw [h8, ← h6] at hh
    clear h6 h7 h8
    go_wp2_with fail
    refine (hh _).mono ?_
    rintro e w5 ⟨u5, rfl, h10, h11⟩
    have x5 := x3.trans h11
    go_wp2
    go_ret2
    exact ⟨_, rfl, h10, x5⟩
end Go.Proofs.Ytagpngddaenkkaa
