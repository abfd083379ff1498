/-
  EarCommons returns true for any book and any list of whole numbers, and lets both be as they were. No condition.
-/
import Derived.Test.YtagpngddaenkkaaBunV
import Derived.Test.YtagpngddaenkkaaBunQ
import Derived.Test.YtagpngddaenkkaaBunO
namespace Go.Proofs.Ytagpngddaenkkaa
open Go.RowKit
set_option linter.unusedVariables false

/-- the walk, for whatever the two layers answer, where they answer the same -/
theorem commons_walk (ba bs : Option Addr) (bc bd : Nat) (b : Book) (la : Option Addr) (lc : Nat) (l : List Int) (er : Int) (k : List Int)
    (h1 : ∀ w, BookAt w (.agg #[.int .i64 b.sounds, .slice ba b.alphabets.length bc, .slice bs b.spellings.length bd]) b → IntsAt w (.slice la l.length lc) l → Calls Try.prog 33 #[(.agg #[.int .i64 b.sounds, .slice ba b.alphabets.length bc, .slice bs b.spellings.length bd]), .slice la l.length lc] w fun e w' => ∃ u, e = .returned (.tuple #[u, .int .i64 er]) ∧ IntsAt w' u k ∧ Ext w w')
    (h2 : ∀ w, BookAt w (.agg #[.int .i64 b.sounds, .slice ba b.alphabets.length bc, .slice bs b.spellings.length bd]) b → IntsAt w (.slice la l.length lc) l → Calls Try.prog 34 #[(.agg #[.int .i64 b.sounds, .slice ba b.alphabets.length bc, .slice bs b.spellings.length bd]), .slice la l.length lc] w fun e w' => ∃ u, e = .returned (.tuple #[u, .int .i64 er]) ∧ IntsAt w' u k ∧ Ext w w')
    (w : World) (hb : BookAt w (.agg #[.int .i64 b.sounds, .slice ba b.alphabets.length bc, .slice bs b.spellings.length bd]) b) (hl : IntsAt w (.slice la l.length lc) l) :
    Calls Try.prog 6 #[(.agg #[.int .i64 b.sounds, .slice ba b.alphabets.length bc, .slice bs b.spellings.length bd]), .slice la l.length lc] w fun e w' => e = .returned (.bool true) ∧ Ext w w' := by
  have aw := fun w => awake_any w
  go_enter Try.func6, Try.ntmps6
  go_wp2_with fail
  have hB : Boxed ((w).alloc (.cells #[.int .i64 b.sounds, .slice ba b.alphabets.length bc, .slice bs b.spellings.length bd] 25)) w.heap.size b ba bc bs bd := ⟨by simp [go_sem], by simp [go_sem], by simp [go_sem], hb.ext (by first | (with_reducible exact Ext.refl _) | (with_reducible assumption) | (show Below _ _ _; go_grown; done))⟩
  have hx : Ext w ((w).alloc (.cells #[.int .i64 b.sounds, .slice ba b.alphabets.length bc, .slice bs b.spellings.length bd] 25)) := ext_alloc _ _
  replace hl := hl.ext hx
  generalize ((w).alloc (.cells #[.int .i64 b.sounds, .slice ba b.alphabets.length bc, .slice bs b.spellings.length bd] 25)) = W at *
  have c0 := hB.c0
  have c1 := hB.c1
  have c2 := hB.c2
  have z1 := hB.lt
  refine (h1 _ hB.at_ hl).mono ?_
  rintro e w3 ⟨u, rfl, hu, h3⟩
  obtain ⟨ua, uc, rfl, -⟩ := hu.shape
  (replace hB := hB.ext h3; replace hl := hl.ext h3; replace c0 := hB.c0; replace c1 := hB.c1; replace c2 := hB.c2; replace z1 := hB.lt; have x3 := Ext.trans (by assumption) h3)
  clear h3 h1 hx
  go_wp2_with fail
  refine (h2 _ hB.at_ hl).mono ?_
  rintro e w4 ⟨u2, rfl, hu2, h4⟩
  obtain ⟨va, vc, rfl, -⟩ := hu2.shape
  replace hu := hu.ext h4
  (replace hB := hB.ext h4; replace hl := hl.ext h4; replace c0 := hB.c0; replace c1 := hB.c1; replace c2 := hB.c2; replace z1 := hB.lt; have x4 := Ext.trans (by assumption) h4)
  clear h4 h2 x3 hB hl c0 c1 c2 z1
  go_wp2_with fail
  refine (ints_any _ _ k k _ hu hu2).mono ?_
  rintro e w5 ⟨rfl, h5⟩
  rw [decide_eq_true (rfl : k = k)]
  have x5 := x4.trans h5
  clear h5 hu hu2 x4
  go_wp2_with fail
  refine (aw _).mono ?_
  rintro e w8 ⟨rfl, h8⟩
  have x8 := x5.trans h8
  clear h8 x5
  go_wp2
  go_ret
  exact ⟨rfl, x8⟩

theorem ints_back : ∀ (l : List Int), (∀ x ∈ l, 0 ≤ x) → l = ints (l.map Int.toNat)
  | [], _ => rfl
  | x :: l, h => by
    have h1 := ints_back l fun y hy => h y (by simp [hy])
    have h2 := h x (by simp)
    show x :: l = ((x.toNat : Nat) : Int) :: ints (l.map Int.toNat)
    rw [← h1]
    congr 1
    omega
/-- the first of the strings that all of some spellings can be -/
theorem all_first {b : Book} (hv : Valid b) {L : List Nat} (hL : ∀ n ∈ L, n < b.spellings.length) (hne : L ≠ []) (h : ∃ t, All b L t) : ∃ k, All b L k ∧ (∀ t, All b L t → ¬ cmpSS t k < 0) ∧ ∀ k', All b L k' → (∀ t, All b L t → ¬ cmpSS t k' < 0) → k' = k := by
  obtain ⟨m, hm⟩ := List.exists_mem_of_ne_nil L hne
  have hmem : ∀ t, t ∈ (stringsOf b m).filter (fun t => decide (∀ n ∈ L, t ∈ stringsOf b n)) ↔ All b L t := fun t => by
    rw [List.mem_filter, decide_eq_true_iff]
    exact ⟨fun h => h.2, fun h => ⟨h m hm, h⟩⟩
  obtain ⟨t0, ht0⟩ := h
  obtain ⟨k, hk, hmin⟩ := least_of codeN _ ⟨t0, (hmem t0).2 ht0⟩
  have hk' := (hmem k).1 hk
  have hd := fun t ht => (all_digits hv hL hne (t := t) ht).1
  have hmin' : ∀ t, All b L t → ¬ cmpSS t k < 0 := fun t ht h => by
    have := (codeN_cmp (hd t ht) (hd k hk')).1 h
    have := hmin t ((hmem t).2 ht)
    omega
  refine ⟨k, hk', hmin', fun k2 h2 h3 => codeN_inj (hd k2 h2) (hd k hk') ?_⟩
  have h4 : ¬ codeN k < codeN k2 := fun h => h3 k hk' ((codeN_cmp (hd k hk') (hd k2 h2)).2 h)
  have h5 := hmin k2 ((hmem k2).2 h2)
  omega

theorem commons_law (bv v : Value) (b : Book) (l : List Int) (w : World) (hb : BookAt w bv b) (hl : IntsAt w v l) :
    Calls Try.prog 6 #[bv, v] w fun e w' => e = .returned (.bool true) ∧ Ext w w' := by
  obtain ⟨ba, bc, bs, bd, rfl, -⟩ := hb.open
  obtain ⟨la, lc, rfl, -⟩ := hl.shape
  by_cases ho : openM b l = 0
  · obtain ⟨he, hin⟩ := openM_zero ho
    have hv := valid_of he
    by_cases h0 : l = []
    · subst h0
      exact commons_walk ba bs bc bd b la lc [] 2 [] (fun w hb hl => (common_none _ _ b he w hb hl).mono fun e w' h => ⟨_, h.1, IntsAt.nothing _, h.2⟩)
        (fun w hb hl => (refCommon_arg _ _ b [] ho (.inl rfl) w hb hl).mono fun e w' h => ⟨_, h.1, IntsAt.nothing _, h.2⟩) w hb hl
    · cases ha : ascM l
      · exact commons_walk ba bs bc bd b la lc l 2 [] (fun w hb hl => (common_arg _ _ b he l hin h0 ha w hb hl).mono fun e w' h => ⟨_, h.1, IntsAt.nothing _, h.2⟩)
          (fun w hb hl => (refCommon_arg _ _ b l ho (.inr ha) w hb hl).mono fun e w' h => ⟨_, h.1, IntsAt.nothing _, h.2⟩) w hb hl
      · obtain ⟨L, rfl⟩ : ∃ L : List Nat, l = ints L := ⟨l.map Int.toNat, ints_back l fun x hx => (hin x hx).1⟩
        have hL : ∀ n ∈ L, n < b.spellings.length := fun n hn => by
          have := hin n (List.mem_map.2 ⟨n, hn, rfl⟩)
          omega
        have hne : L ≠ [] := fun e => h0 (by rw [e]; rfl)
        have hnd := canM_nodup hv hL
        by_cases hex : ∃ t, All b L t
        · obtain ⟨k, hk, hmin, huni⟩ := all_first hv hL hne hex
          refine commons_walk ba bs bc bd b la lc (ints L) 0 k (fun w hb hl => (common_ok _ _ b he L hL hne ha w hb hl).mono ?_)
            (fun w hb hl => refCommon_ok _ _ b he L hL hne ha w hb hl 0 k (.inr ⟨rfl, hk, hmin⟩)) w hb hl
          rintro e w' ⟨k', f, u, hF, rfl, hu, hx⟩
          cases f
          · exact absurd hex (first_none hnd hne hF).2
          · obtain ⟨h1, h2⟩ := first_all hnd hne hF
            obtain rfl := huni k' h1 h2
            exact ⟨u, rfl, hu, hx⟩
        · refine commons_walk ba bs bc bd b la lc (ints L) 9 [] (fun w hb hl => (common_ok _ _ b he L hL hne ha w hb hl).mono ?_)
            (fun w hb hl => refCommon_ok _ _ b he L hL hne ha w hb hl 9 [] (.inl ⟨rfl, rfl, hex⟩)) w hb hl
          rintro e w' ⟨k', f, u, hF, rfl, hu, hx⟩
          cases f
          · obtain ⟨rfl, -⟩ := first_none hnd hne hF
            exact ⟨u, rfl, hu, hx⟩
          · exact absurd ⟨k', (first_all hnd hne hF).1⟩ hex
  · exact commons_walk ba bs bc bd b la lc l (openM b l) [] (fun w hb hl => (common_err _ _ b l ho w hb hl).mono fun e w' h => ⟨_, h.1, IntsAt.nothing _, h.2⟩)
      (fun w hb hl => (refCommon_err _ _ b l ho w hb hl).mono fun e w' h => ⟨_, h.1, IntsAt.nothing _, h.2⟩) w hb hl
end Go.Proofs.Ytagpngddaenkkaa

namespace Go.Proofs.Ytagpngddaenkkaa.earCommons
open Go.ChangeShapes Go.WideShapes Go.ChangeAt Go.RowKit
set_option linter.unusedVariables false

theorem own : ownKnob Try.prog.godebug = none := by kernel_rfl
theorem laid : laidOutB Try.prog = true := by kernel_rfl
theorem read0 : Try.prog.readableRec 25 = true := by kernel_rfl
theorem row0 : 25 < Try.prog.types.size := of_decide_eq_true (by kernel_rfl)
theorem read1 : Try.prog.readableRec 32 = true := by kernel_rfl
theorem row1 : 32 < Try.prog.types.size := of_decide_eq_true (by kernel_rfl)

set_option maxRecDepth 100000 in
theorem lifted (os : Os) (started : os.Started) (H : Type) (enc : TypeId × Value → H) :
    ReturnsInHanded {} Try.checked os 6 .any (Rows.earCommonsSpec.pre6 enc Try.prog Try.f6 Rows.earCommonsRow.domain false) (Rows.earCommonsSpec.post enc Try.prog Try.f6 false true false false) := by
  refine returnsInHanded_of_change (C := Try.checked) own started (by kernel_rfl) Try.func6
    (ChangeSpec.witness6 (enc := enc) (C := Try.checked) false ⟨#[], #[.agg #[.int .i64 0, .slice none 0 0, .slice none 0 0], .slice none 0 0], []⟩ 8 (by kernel_rfl) (by kernel_rfl) (by kernel_rfl) (by kernel_rfl)) ?_
  intro W base args ds gs before hval0 hW hcnd _
  have hval : ∀ (j : Nat) t v, Try.f6.params[j]? = some t → args[j]? = some v → Value.okWide Try.prog W .any base t v := hval0
  have hW' := hW
  obtain ⟨p, q, hA0, hV, rfl, hfz, hnd⟩ := hW
  have hA : DataW.TrodAll enc Try.prog W 0 (fun _ => true) true Try.f6.params.toList args.toList ds p := hA0
  rw [Try.params6] at hA hval
  obtain ⟨v0, vs0, d0, ds0, p0, q0, hargs0, rfl, rfl, h0, r0⟩ := trodAll_cons hA
  obtain ⟨v1, vs1, d1, ds1, p1, q1, hargs1, rfl, rfl, h1, r1⟩ := trodAll_cons r0
  obtain ⟨rfl, rfl, rfl⟩ := trodAll_nil r1
  subst hargs1
  obtain rfl : args = #[v0, v1] := by cases args; simp_all
  obtain ⟨rfl, rfl⟩ := trodVars_none hV
  obtain ⟨b, hb⟩ := book_of (hval 0 25 v0 rfl rfl) h0
  obtain ⟨l, hl⟩ := intsArg_of (hval 1 32 v1 rfl rfl) h1
  clear hA0 hval0
  simp only [List.append_nil] at hW'
  refine (commons_law v0 v1 b l W hb hl).mono fun e W' ⟨he, hg⟩ => ?_
  subst he
  have hlt := hW'.lt
  exact ⟨_, rfl, post_ext (pa := p0 ++ p1) (pv := []) hW' (fun _ _ _ => (trodAll_cons_mk (shut_bool Try.underlying4 _) trodAll_mk0))
    (fun sp hsp => by
      have g0 := Go.WideElems.Trod_stays (sp' := sp) laid read0 row0 h0 (W' := W') (fun p hp => same_of_ext hg (hlt p (List.mem_append_left _ hp))) (fun p hp => hsp p (List.mem_append_left _ hp))
      have g1 := Go.WideElems.Trod_stays (sp' := sp) laid read1 row1 h1 (W' := W') (fun p hp => same_of_ext hg (hlt p (List.mem_append_right _ hp))) (fun p hp => hsp p (List.mem_append_right _ hp))
      have := trodAll_cons_mk g0 (trodAll_cons_mk g1 (trodAll_mk0 (enc := enc) (P := Try.prog) (w := W') (base := 0) (spare := sp) (held := true)))
      rw [List.append_nil] at this
      exact this) (fun _ _ => rfl) (by simp)
    hg (ok_one (by kernel_rfl) rfl (okWide_bool_mk Try.underlying4 _))⟩

theorem over : Rows.earCommonsRow.holds Try.pinned (OpenSpec.ofChange Rows.earCommonsSpec) :=
  OpenClaim.holds_of_wide 6 Try.f6 rfl rfl rfl rfl rfl rfl rfl ⟨rfl, rfl, rfl, rfl, rfl⟩ rfl rfl rfl rfl rfl (by kernel_rfl) Try.func6 (by kernel_rfl)
    (of_decide_eq_true (by kernel_rfl)) (by unfold Func.isWrapper; first | (rw [if_pos (by decide +kernel)]; kernel_rfl) | (rw [if_neg (by decide +kernel)]; exact ⟨rfl, rfl⟩))
    (fun os started H enc _ => lifted os started H enc)

/-- ████ THE STATEMENT ████ -/
theorem earCommons_said : Rows.EarCommonsSaid :=
  over
end Go.Proofs.Ytagpngddaenkkaa.earCommons
