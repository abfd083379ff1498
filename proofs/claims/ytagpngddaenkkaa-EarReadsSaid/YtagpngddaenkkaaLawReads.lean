/-
  EarReads returns true for any book, any whole number and any list of whole numbers, and lets all of them be as they were. No condition.
-/
import Derived.Test.YtagpngddaenkkaaBunN
import Derived.Test.YtagpngddaenkkaaBunQ
import Derived.Test.YtagpngddaenkkaaBunO
namespace Go.Proofs.Ytagpngddaenkkaa
open Go.RowKit
set_option linter.unusedVariables false

/-- the walk, for whatever the two layers answer, where they answer the same -/
theorem reads_walk (ba bs : Option Addr) (bc bd : Nat) (b : Book) (n : Int) (hn : I64 n) (ha : Option Addr) (hc : Nat) (l : List Int) (c er er2 : Int) (k : List Int) (r : Bool)
    (hb1 : ∀ w, BookAt w (.agg #[.int .i64 b.sounds, .slice ba b.alphabets.length bc, .slice bs b.spellings.length bd]) b → Calls Try.prog 22 #[(.agg #[.int .i64 b.sounds, .slice ba b.alphabets.length bc, .slice bs b.spellings.length bd]), .int .i64 n] w fun e w' => e = .returned (.tuple #[.int .i64 c, .int .i64 er]) ∧ Ext w w')
    (hb2 : ∀ w, BookAt w (.agg #[.int .i64 b.sounds, .slice ba b.alphabets.length bc, .slice bs b.spellings.length bd]) b → Calls Try.prog 23 #[(.agg #[.int .i64 b.sounds, .slice ba b.alphabets.length bc, .slice bs b.spellings.length bd]), .int .i64 n] w fun e w' => e = .returned (.tuple #[.int .i64 c, .int .i64 er]) ∧ Ext w w')
    (hf1 : ∀ w, BookAt w (.agg #[.int .i64 b.sounds, .slice ba b.alphabets.length bc, .slice bs b.spellings.length bd]) b → Calls Try.prog 24 #[(.agg #[.int .i64 b.sounds, .slice ba b.alphabets.length bc, .slice bs b.spellings.length bd]), .int .i64 n] w fun e w' => ∃ u, e = .returned (.tuple #[u, .int .i64 er]) ∧ IntsAt w' u k ∧ Ext w w')
    (hf2 : ∀ w, BookAt w (.agg #[.int .i64 b.sounds, .slice ba b.alphabets.length bc, .slice bs b.spellings.length bd]) b → Calls Try.prog 25 #[(.agg #[.int .i64 b.sounds, .slice ba b.alphabets.length bc, .slice bs b.spellings.length bd]), .int .i64 n] w fun e w' => ∃ u, e = .returned (.tuple #[u, .int .i64 er]) ∧ IntsAt w' u k ∧ Ext w w')
    (hr1 : ∀ w, BookAt w (.agg #[.int .i64 b.sounds, .slice ba b.alphabets.length bc, .slice bs b.spellings.length bd]) b → IntsAt w (.slice ha l.length hc) l → Calls Try.prog 27 #[(.agg #[.int .i64 b.sounds, .slice ba b.alphabets.length bc, .slice bs b.spellings.length bd]), .int .i64 n, .slice ha l.length hc] w fun e w' => e = .returned (.tuple #[.bool r, .int .i64 er2]) ∧ Ext w w')
    (hr2 : ∀ w, BookAt w (.agg #[.int .i64 b.sounds, .slice ba b.alphabets.length bc, .slice bs b.spellings.length bd]) b → IntsAt w (.slice ha l.length hc) l → Calls Try.prog 28 #[(.agg #[.int .i64 b.sounds, .slice ba b.alphabets.length bc, .slice bs b.spellings.length bd]), .int .i64 n, .slice ha l.length hc] w fun e w' => e = .returned (.tuple #[.bool r, .int .i64 er2]) ∧ Ext w w')
    (w : World) (hb : BookAt w (.agg #[.int .i64 b.sounds, .slice ba b.alphabets.length bc, .slice bs b.spellings.length bd]) b) (hl : IntsAt w (.slice ha l.length hc) l) :
    Calls Try.prog 4 #[(.agg #[.int .i64 b.sounds, .slice ba b.alphabets.length bc, .slice bs b.spellings.length bd]), .int .i64 n, .slice ha l.length hc] w fun e w' => e = .returned (.bool true) ∧ Ext w w' := by
  have aw := fun w => awake_any w
  go_enter Try.func4, Try.ntmps4
  go_wp2_with fail
  have hB : Boxed ((w).alloc (.cells #[.int .i64 b.sounds, .slice ba b.alphabets.length bc, .slice bs b.spellings.length bd] 25)) w.heap.size b ba bc bs bd := ⟨by simp [go_sem], by simp [go_sem], by simp [go_sem], hb.ext (by first | (with_reducible exact Ext.refl _) | (with_reducible assumption) | (show Below _ _ _; go_grown; done))⟩
  have hx : Ext w ((w).alloc (.cells #[.int .i64 b.sounds, .slice ba b.alphabets.length bc, .slice bs b.spellings.length bd] 25)) := ext_alloc _ _
  replace hl := hl.ext hx
  generalize ((w).alloc (.cells #[.int .i64 b.sounds, .slice ba b.alphabets.length bc, .slice bs b.spellings.length bd] 25)) = W at *
  have c0 := hB.c0
  have c1 := hB.c1
  have c2 := hB.c2
  have z1 := hB.lt
  refine (hb1 _ hB.at_).mono ?_
  rintro e w1 ⟨rfl, h1⟩
  (replace hB := hB.ext h1; replace hl := hl.ext h1; replace c0 := hB.c0; replace c1 := hB.c1; replace c2 := hB.c2; replace z1 := hB.lt; have x1 := Ext.trans (by assumption) h1)
  clear h1 hb1 hx
  go_wp2_with fail
  refine (hb2 _ hB.at_).mono ?_
  rintro e w2 ⟨rfl, h2⟩
  (replace hB := hB.ext h2; replace hl := hl.ext h2; replace c0 := hB.c0; replace c1 := hB.c1; replace c2 := hB.c2; replace z1 := hB.lt; have x2 := Ext.trans (by assumption) h2)
  clear h2 hb2 x1
  go_wp2_with fail
  refine (hf1 _ hB.at_).mono ?_
  rintro e w3 ⟨u, rfl, hu, h3⟩
  obtain ⟨ua, uc, rfl, -⟩ := hu.shape
  (replace hB := hB.ext h3; replace hl := hl.ext h3; replace c0 := hB.c0; replace c1 := hB.c1; replace c2 := hB.c2; replace z1 := hB.lt; have x3 := Ext.trans (by assumption) h3)
  clear h3 hf1 x2
  go_wp2_with fail
  refine (hf2 _ hB.at_).mono ?_
  rintro e w4 ⟨u2, rfl, hu2, h4⟩
  obtain ⟨va, vc, rfl, -⟩ := hu2.shape
  replace hu := hu.ext h4
  (replace hB := hB.ext h4; replace hl := hl.ext h4; replace c0 := hB.c0; replace c1 := hB.c1; replace c2 := hB.c2; replace z1 := hB.lt; have x4 := Ext.trans (by assumption) h4)
  clear h4 hf2 x3
  go_wp2_with fail
  refine (ints_any _ _ k k _ hu hu2).mono ?_
  rintro e w5 ⟨rfl, h5⟩
  rw [decide_eq_true (rfl : k = k)]
  (replace hB := hB.ext h5; replace hl := hl.ext h5; replace c0 := hB.c0; replace c1 := hB.c1; replace c2 := hB.c2; replace z1 := hB.lt; have x5 := Ext.trans (by assumption) h5)
  clear h5 hu hu2 x4
  go_wp2_with fail
  refine (hr1 _ hB.at_ hl).mono ?_
  rintro e w6 ⟨rfl, h6⟩
  (replace hB := hB.ext h6; replace hl := hl.ext h6; replace c0 := hB.c0; replace c1 := hB.c1; replace c2 := hB.c2; replace z1 := hB.lt; have x6 := Ext.trans (by assumption) h6)
  clear h6 hr1 x5
  go_wp2_with fail
  refine (hr2 _ hB.at_ hl).mono ?_
  rintro e w7 ⟨rfl, h7⟩
  have x7 := x6.trans h7
  clear h7 hr2 x6 hB c0 c1 c2 z1 hl
  go_wp2_with fail
  refine (aw _).mono ?_
  rintro e w8 ⟨rfl, h8⟩
  have x8 := x7.trans h8
  clear h8 x7
  go_wp2
  go_ret
  exact ⟨rfl, x8⟩

theorem IntsAt.nothing (w : World) : IntsAt w (.slice none 0 0) [] := ⟨none, 0, rfl, Nat.le_refl _, by decide, fun i hi => absurd hi (Nat.not_lt_zero _)⟩

theorem least_of (f : List Int → Nat) : ∀ L : List (List Int), (∃ t, t ∈ L) → ∃ k, k ∈ L ∧ ∀ t, t ∈ L → f k ≤ f t
  | [], h => by obtain ⟨t, ht⟩ := h; cases ht
  | x :: L, _ => by
    by_cases hL : ∃ t, t ∈ L
    · obtain ⟨k, hk, hm⟩ := least_of f L hL
      by_cases hx : f x ≤ f k
      · exact ⟨x, List.mem_cons_self, fun t ht => by
          rcases List.mem_cons.1 ht with rfl | ht
          · exact Nat.le_refl _
          · exact Nat.le_trans hx (hm t ht)⟩
      · exact ⟨k, List.mem_cons_of_mem _ hk, fun t ht => by
          rcases List.mem_cons.1 ht with rfl | ht
          · omega
          · exact hm t ht⟩
    · exact ⟨x, List.mem_cons_self, fun t ht => by
        rcases List.mem_cons.1 ht with rfl | ht
        · exact Nat.le_refl _
        · exact absurd ⟨t, ht⟩ hL⟩
/-- the least sound string of a spelling, and that it is what the walk over the marks finds -/
theorem first_is {b : Book} (hv : Valid b) {m : Nat} (hm : m < b.spellings.length) : ∃ k, k ∈ stringsOf b m ∧ (∀ t, t ∈ stringsOf b m → ¬ cmpSS t k < 0) ∧ ∀ f k', FirstIs (canM b [m]) (fun _ => True) (bitsM [m]) k' f → f = true ∧ k' = k := by
  have hnd := canM_nodup hv (l := [m]) (fun x hx => by rw [List.mem_singleton] at hx; rw [hx]; exact hm)
  obtain ⟨k, hk, hmin⟩ := least_of codeN (stringsOf b m) (stringsOf_some hv m hm)
  have hd := fun t (ht : t ∈ stringsOf b m) => digits_of hv hm ht
  have hmin' : ∀ t, t ∈ stringsOf b m → ¬ cmpSS t k < 0 := fun t ht h => by
    have := (codeN_cmp (hd t ht) (hd k hk)).1 h
    have := hmin t ht
    omega
  refine ⟨k, hk, hmin', fun f k' hF => ?_⟩
  cases f
  · exact absurd ⟨k, fun n hn => by rw [List.mem_singleton] at hn; rw [hn]; exact hk⟩ (first_none hnd (by simp) hF).2
  · obtain ⟨h1, h2⟩ := first_all hnd (by simp) hF
    have hk' : k' ∈ stringsOf b m := h1 m (by simp)
    refine ⟨rfl, codeN_inj (hd k' hk') (hd k hk) ?_⟩
    have h3 := h2 k fun n hn => by rw [List.mem_singleton] at hn; rw [hn]; exact hk
    have h4 : ¬ codeN k < codeN k' := fun h => h3 ((codeN_cmp (hd k hk) (hd k' hk')).2 h)
    have h5 := hmin k' hk'
    omega

theorem reads_law (bv hv : Value) (b : Book) (n : Int) (hn : I64 n) (l : List Int) (w : World) (hb : BookAt w bv b) (hl : IntsAt w hv l) :
    Calls Try.prog 4 #[bv, .int .i64 n, hv] w fun e w' => e = .returned (.bool true) ∧ Ext w w' := by
  obtain ⟨ba, bc, bs, bd, rfl, -⟩ := hb.open
  obtain ⟨ha, hc, rfl, -⟩ := hl.shape
  by_cases ho : openM b [n] = 0
  · obtain ⟨he, hin⟩ := openM_zero ho
    have hv := valid_of he
    have hin' := hin n (by simp)
    obtain ⟨m, hnm⟩ : ∃ m : Nat, n = m := ⟨n.toNat, by omega⟩
    have hm : m < b.spellings.length := by omega
    clear hin hin'
    subst hnm
    obtain ⟨k, hk, hmin, hfirst⟩ := first_is hv hm
    have hf1 : ∀ w, BookAt w (.agg #[.int .i64 b.sounds, .slice ba b.alphabets.length bc, .slice bs b.spellings.length bd]) b → Calls Try.prog 24 #[(.agg #[.int .i64 b.sounds, .slice ba b.alphabets.length bc, .slice bs b.spellings.length bd]), .int .i64 (m : Nat)] w fun e w' => ∃ u, e = .returned (.tuple #[u, .int .i64 0]) ∧ IntsAt w' u k ∧ Ext w w' := fun w hb => by
      refine (first_ok _ b he m hm w hb).mono ?_
      rintro e w' ⟨k', f, u, hF, rfl, hu, hx⟩
      obtain ⟨rfl, rfl⟩ := hfirst f k' hF
      exact ⟨u, rfl, hu, hx⟩
    by_cases hh : heardErrM b.sounds l = 0
    · exact reads_walk ba bs bc bd b m hn ha hc l _ 0 0 k _ (fun w hb => count_ok _ b he m hm w hb) (fun w hb => refCount_ok _ b he m hm w hb) hf1 (fun w hb => refFirst_ok _ b he m hm k hk hmin w hb)
        (fun w hb hl => reads_ok _ _ b he m hm l hh w hb hl) (fun w hb hl => refReads_ok _ _ b he m hm l hh w hb hl) w hb hl
    · have hz : hearsM b.sounds l (openM b [(m : Int)]) = heardErrM b.sounds l := by rw [hearsM, ho, if_neg (by simp)]
      refine reads_walk ba bs bc bd b m hn ha hc l _ 0 (heardErrM b.sounds l) k false (fun w hb => count_ok _ b he m hm w hb) (fun w hb => refCount_ok _ b he m hm w hb) hf1 (fun w hb => refFirst_ok _ b he m hm k hk hmin w hb)
        (fun w hb hl => reads_bad _ _ b he m hm l hh w hb hl) (fun w hb hl => ?_) w hb hl
      rw [← hz]
      exact refReads_no _ _ b m hn l (by rw [hz]; exact hh) w hb hl
  · have hz : hearsM b.sounds l (openM b [n]) = openM b [n] := by rw [hearsM, if_pos ho]
    refine reads_walk ba bs bc bd b n hn ha hc l 0 (openM b [n]) (openM b [n]) [] false (fun w hb => count_err _ b n hn ho w hb) (fun w hb => refCount_err _ b n hn ho w hb) (fun w hb => ?_) (fun w hb => ?_)
      (fun w hb hl => reads_err _ _ b n hn l ho w hb hl) (fun w hb hl => ?_) w hb hl
    · refine (first_err _ b n hn ho w hb).mono ?_
      rintro e w' ⟨rfl, hx⟩
      exact ⟨_, rfl, IntsAt.nothing _, hx⟩
    · refine (refFirst_err _ b n hn ho w hb).mono ?_
      rintro e w' ⟨rfl, hx⟩
      exact ⟨_, rfl, IntsAt.nothing _, hx⟩
    · have := refReads_no _ _ b n hn l (by rw [hz]; exact ho) w hb hl
      rw [hz] at this
      exact this
end Go.Proofs.Ytagpngddaenkkaa

namespace Go.Proofs.Ytagpngddaenkkaa.earReads
open Go.ChangeShapes Go.WideShapes Go.ChangeAt Go.RowKit
set_option linter.unusedVariables false

theorem own : ownKnob Try.prog.godebug = none := by kernel_rfl
theorem laid : laidOutB Try.prog = true := by kernel_rfl
theorem read0 : Try.prog.readableRec 25 = true := by kernel_rfl
theorem row0 : 25 < Try.prog.types.size := of_decide_eq_true (by kernel_rfl)
theorem read1 : Try.prog.readableRec 3 = true := by kernel_rfl
theorem row1 : 3 < Try.prog.types.size := of_decide_eq_true (by kernel_rfl)
theorem read2 : Try.prog.readableRec 32 = true := by kernel_rfl
theorem row2 : 32 < Try.prog.types.size := of_decide_eq_true (by kernel_rfl)

set_option maxRecDepth 100000 in
theorem lifted (os : Os) (started : os.Started) (H : Type) (enc : TypeId × Value → H) :
    ReturnsInHanded {} Try.checked os 4 .any (Rows.earReadsSpec.pre6 enc Try.prog Try.f4 Rows.earReadsRow.domain false) (Rows.earReadsSpec.post enc Try.prog Try.f4 false true false false) := by
  refine returnsInHanded_of_change (C := Try.checked) own started (by kernel_rfl) Try.func4
    (ChangeSpec.witness6 (enc := enc) (C := Try.checked) false ⟨#[], #[.agg #[.int .i64 0, .slice none 0 0, .slice none 0 0], .int .i64 0, .slice none 0 0], []⟩ 8 (by kernel_rfl) (by kernel_rfl) (by kernel_rfl) (by kernel_rfl)) ?_
  intro W base args ds gs before hval0 hW hcnd _
  have hval : ∀ (j : Nat) t v, Try.f4.params[j]? = some t → args[j]? = some v → Value.okWide Try.prog W .any base t v := hval0
  have hW' := hW
  obtain ⟨p, q, hA0, hV, rfl, hfz, hnd⟩ := hW
  have hA : DataW.TrodAll enc Try.prog W 0 (fun _ => true) true Try.f4.params.toList args.toList ds p := hA0
  rw [Try.params4] at hA hval
  obtain ⟨v0, vs0, d0, ds0, p0, q0, hargs0, rfl, rfl, h0, r0⟩ := trodAll_cons hA
  obtain ⟨v1, vs1, d1, ds1, p1, q1, hargs1, rfl, rfl, h1, r1⟩ := trodAll_cons r0
  obtain ⟨v2, vs2, d2, ds2, p2, q2, hargs2, rfl, rfl, h2, r2⟩ := trodAll_cons r1
  obtain ⟨rfl, rfl, rfl⟩ := trodAll_nil r2
  subst hargs2
  subst hargs1
  obtain rfl : args = #[v0, v1, v2] := by cases args; simp_all
  obtain ⟨rfl, rfl⟩ := trodVars_none hV
  obtain ⟨b, hb⟩ := book_of (hval 0 25 v0 rfl rfl) h0
  obtain ⟨n, rfl, hn⟩ := int_of (hval 1 3 v1 rfl rfl) h1
  obtain ⟨l, hl⟩ := intsArg_of (hval 2 32 v2 rfl rfl) h2
  clear hA0 hval0
  simp only [List.append_nil] at hW'
  refine (reads_law v0 v2 b n hn l W hb hl).mono fun e W' ⟨he, hg⟩ => ?_
  subst he
  have hlt := hW'.lt
  exact ⟨_, rfl, post_ext (pa := p0 ++ (p1 ++ p2)) (pv := []) hW' (fun _ _ _ => (trodAll_cons_mk (shut_bool Try.underlying4 _) trodAll_mk0))
    (fun sp hsp => by
      have g0 := Go.WideElems.Trod_stays (sp' := sp) laid read0 row0 h0 (W' := W') (fun p hp => same_of_ext hg (hlt p (List.mem_append_left _ hp))) (fun p hp => hsp p (List.mem_append_left _ hp))
      have g1 := Go.WideElems.Trod_stays (sp' := sp) laid read1 row1 h1 (W' := W') (fun p hp => same_of_ext hg (hlt p (List.mem_append_right _ (List.mem_append_left _ hp)))) (fun p hp => hsp p (List.mem_append_right _ (List.mem_append_left _ hp)))
      have g2 := Go.WideElems.Trod_stays (sp' := sp) laid read2 row2 h2 (W' := W') (fun p hp => same_of_ext hg (hlt p (List.mem_append_right _ (List.mem_append_right _ hp)))) (fun p hp => hsp p (List.mem_append_right _ (List.mem_append_right _ hp)))
      have := trodAll_cons_mk g0 (trodAll_cons_mk g1 (trodAll_cons_mk g2 (trodAll_mk0 (enc := enc) (P := Try.prog) (w := W') (base := 0) (spare := sp) (held := true))))
      rw [List.append_nil] at this
      exact this) (fun _ _ => rfl) (by simp)
    hg (ok_one (by kernel_rfl) rfl (okWide_bool_mk Try.underlying4 _))⟩

theorem over : Rows.earReadsRow.holds Try.pinned (OpenSpec.ofChange Rows.earReadsSpec) :=
  OpenClaim.holds_of_wide 4 Try.f4 rfl rfl rfl rfl rfl rfl rfl ⟨rfl, rfl, rfl, rfl, rfl⟩ rfl rfl rfl rfl rfl (by kernel_rfl) Try.func4 (by kernel_rfl)
    (of_decide_eq_true (by kernel_rfl)) (by unfold Func.isWrapper; first | (rw [if_pos (by decide +kernel)]; kernel_rfl) | (rw [if_neg (by decide +kernel)]; exact ⟨rfl, rfl⟩))
    (fun os started H enc _ => lifted os started H enc)

/-- ████ THE STATEMENT ████ -/
theorem earReads_said : Rows.EarReadsSaid :=
  over
end Go.Proofs.Ytagpngddaenkkaa.earReads
