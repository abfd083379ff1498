/-
  EarJoined returns true for any book and any three indices, and lets both be as they were. No condition.
-/
import Derived.Test.YtagpngddaenkkaaBunL
import Derived.Test.YtagpngddaenkkaaBunQ
import Derived.Test.YtagpngddaenkkaaBunO
namespace Go.Proofs.Ytagpngddaenkkaa
open Go.RowKit
set_option linter.unusedVariables false

set_option maxRecDepth 100000 in
set_option maxHeartbeats 4000000 in
theorem joined_any (bv : Value) (b : Book) (x0 x1 x2 : Nat) (h0 : x0 ≤ 255) (h1 : x1 ≤ 255) (h2 : x2 ≤ 255) (w : World) (hb : BookAt w bv b) :
    Calls Try.prog 10 #[bv, .agg #[.int .u8 x0, .int .u8 x1, .int .u8 x2]] w fun e w' => e = .returned (.bool true) ∧ Ext w w' := by
  have hb0 := hb
  obtain ⟨ba, bc, bs, bd, rfl, -⟩ := hb.open
  go_enter Try.func10, Try.ntmps10
  go_wp2_with fail
  have hB : Boxed ((((w).alloc (.cells #[.int .i64 b.sounds, .slice ba b.alphabets.length bc, .slice bs b.spellings.length bd] 25))).alloc (.cells #[.int .u8 x0, .int .u8 x1, .int .u8 x2] 57)) w.heap.size b ba bc bs bd := ⟨by simp [go_sem], by simp [go_sem], by simp [go_sem], hb0.ext (by first | (with_reducible exact Ext.refl _) | (with_reducible assumption) | (show Below _ _ _; go_grown; done))⟩
  have hX : ((((w).alloc (.cells #[.int .i64 b.sounds, .slice ba b.alphabets.length bc, .slice bs b.spellings.length bd] 25))).alloc (.cells #[.int .u8 x0, .int .u8 x1, .int .u8 x2] 57)).cell? ⟨w.heap.size + 1, 0, none⟩ = some (.int .u8 x0) ∧ ((((w).alloc (.cells #[.int .i64 b.sounds, .slice ba b.alphabets.length bc, .slice bs b.spellings.length bd] 25))).alloc (.cells #[.int .u8 x0, .int .u8 x1, .int .u8 x2] 57)).cell? ⟨w.heap.size + 1, 1, none⟩ = some (.int .u8 x1) ∧ ((((w).alloc (.cells #[.int .i64 b.sounds, .slice ba b.alphabets.length bc, .slice bs b.spellings.length bd] 25))).alloc (.cells #[.int .u8 x0, .int .u8 x1, .int .u8 x2] 57)).cell? ⟨w.heap.size + 1, 2, none⟩ = some (.int .u8 x2) := ⟨by simp [go_sem], by simp [go_sem], by simp [go_sem]⟩
  have x0' : Ext w ((((w).alloc (.cells #[.int .i64 b.sounds, .slice ba b.alphabets.length bc, .slice bs b.spellings.length bd] 25))).alloc (.cells #[.int .u8 x0, .int .u8 x1, .int .u8 x2] 57)) := (by first | (with_reducible exact Ext.refl _) | (with_reducible assumption) | (show Below _ _ _; go_grown; done))
  generalize ((((w).alloc (.cells #[.int .i64 b.sounds, .slice ba b.alphabets.length bc, .slice bs b.spellings.length bd] 25))).alloc (.cells #[.int .u8 x0, .int .u8 x1, .int .u8 x2] 57)) = W at *
  refine (valid_any _ b _ hB.at_).mono ?_
  rintro e w1 ⟨rfl, hx1⟩
  replace hB := hB.ext hx1
  have X0 := hx1.cell hX.1
  have X1 := hx1.cell hX.2.1
  have X2 := hx1.cell hX.2.2
  have xw1 := x0'.trans hx1
  clear hX hx1 x0' hb0
  have c0 := hB.c0
  have c1 := hB.c1
  have c2 := hB.c2
  have z1 := hB.lt
  by_cases hbad : (errM b == 0) = false ∨ b.spellings.length < 2
  · have ho : openM b [0, 1] ≠ 0 := by
      intro h
      obtain ⟨h1, h2⟩ := openM_zero h
      rcases hbad with h | h
      · simp [h1] at h
      · have := h2 1 (by simp); omega
    have hal := fun w => alike_err (.agg #[.int .i64 b.sounds, .slice ba b.alphabets.length bc, .slice bs b.spellings.length bd]) b 0 1 (by unfold I64; omega) (by unfold I64; omega) ho w
    have ho' : (openM b [0, 1] != 0) = true := by simpa using ho
    generalize openM b [0, 1] = er at *
    have Ho := Lib.hid ho
    clear ho
    have hcase : (errM b == 0) = false ∨ ((errM b == 0) = true ∧ (b.spellings.length : Int) < 2) := by
      cases h : errM b == 0
      · exact .inl rfl
      · exact .inr ⟨rfl, by rcases hbad with h' | h'; rw [h] at h'; cases h'; omega⟩
    clear hbad
    rcases hcase with h | ⟨h, hl⟩
    all_goals
      rw [h]
      have H := Lib.hid h
      clear h
      go_wp2_with fail
      refine (hal _ hB.at_).mono ?_
      rintro e w2 ⟨rfl, hx2⟩
      have x2 := xw1.trans hx2
      clear hx2 hal
      go_wp2_with fail
      refine (awake_any _).mono ?_
      rintro e w3 ⟨rfl, hx3⟩
      have x3 := x2.trans hx3
      clear hx3
      go_wp2
      go_ret
      exact ⟨rfl, x3⟩
  · have he : errM b = 0 := by
      by_cases h : errM b = 0
      · exact h
      · exact absurd (.inl (by simpa using h)) hbad
    have hn2 : 2 ≤ b.spellings.length := by
      rcases Nat.lt_or_ge b.spellings.length 2 with h | h
      · exact absurd (.inr h) hbad
      · exact h
    have hv := valid_of he
    have hn5 := hv.n
    clear hbad
    have hev : (errM b == 0) = true := by simpa using he
    rw [hev]
    have hal := fun i j hi hj w => alike_two (.agg #[.int .i64 b.sounds, .slice ba b.alphabets.length bc, .slice bs b.spellings.length bd]) b he i j hi hj w
    have hl2 : ¬ ((b.spellings.length : Int) < 2) := by omega
    have t0 := mod_small x0 b.spellings.length
    have t1 := mod_small x1 b.spellings.length
    have t2 := mod_small x2 b.spellings.length
    have hi : x0 % b.spellings.length < b.spellings.length := Nat.mod_lt _ (by omega)
    have hj : x1 % b.spellings.length < b.spellings.length := Nat.mod_lt _ (by omega)
    have hk : x2 % b.spellings.length < b.spellings.length := Nat.mod_lt _ (by omega)
    generalize x0 % b.spellings.length = i at *
    generalize x1 % b.spellings.length = j at *
    generalize x2 % b.spellings.length = k at *
    have wx0 : IntKind.i64.wrap (x0 : Int) = x0 := IntWalk.i64_in _ (by omega)
    have wx1 : IntKind.i64.wrap (x1 : Int) = x1 := IntWalk.i64_in _ (by omega)
    have wx2 : IntKind.i64.wrap (x2 : Int) = x2 := IntWalk.i64_in _ (by omega)
    have wi : IntKind.i64.wrap (i : Int) = i := IntWalk.i64_in _ (by omega)
    have wj : IntKind.i64.wrap (j : Int) = j := IntWalk.i64_in _ (by omega)
    have wk : IntKind.i64.wrap (k : Int) = k := IntWalk.i64_in _ (by omega)
    have nz : ((b.spellings.length : Int) == 0) = false := by rw [beq_eq_false_iff_ne]; omega
    have nz' : ¬ b.spellings = [] := fun e => by rw [e] at hn2; simp at hn2
    go_wp2_with fail
    apply Facts.wp_region [.val _, .val _, .val _, .val _, .val _, .val _, .val _, .val _, .val _, .val _, .val _, .val _, .val _, .val _, .val _, .val _, .val _, .val _, .val _, .val _, .val _, .val _, .val _, .val _] (by kernel_rfl) (by kernel_rfl) trivial ?main
    case main =>
      iterate 24 (refine ⟨fun w1 hx hh => ?_, ?_⟩; focus (clear hh; have e0 := hx.cell X0; have e1 := hx.cell X1; have e2 := hx.cell X2; have e3 := hx.cell c2; go_simp; exact ⟨Ext.refl _, rfl⟩))
      intro w2 hx2 hh
      clear hh
      replace hB := hB.ext hx2
      replace c0 := hB.c0
      replace c1 := hB.c1
      replace c2 := hB.c2
      replace z1 := hB.lt
      have xw := xw1.trans hx2
      clear hx2 X0 X1 X2 t0 t1 t2 wx0 wx1 wx2 nz nz' xw1 hl2 hev h0 h1 h2
      go_simp
      by_cases hij : i = j
      · subst hij
        go_wp2_with fail
        refine (hal i i hi hi _ hB.at_).mono ?_
        rintro e w3 ⟨m, er, rfl, h1, -, hx3⟩
        obtain ⟨rfl, rfl⟩ := h1 rfl
        replace hB := hB.ext hx3
        replace c0 := hB.c0
        replace c1 := hB.c1
        replace c2 := hB.c2
        replace z1 := hB.lt
        replace xw := xw.trans hx3
        clear hx3 h1
        go_wp2_with fail
        refine (hal i i hi hi _ hB.at_).mono ?_
        rintro e w4 ⟨m, er, rfl, h1, -, hx3⟩
        obtain ⟨rfl, rfl⟩ := h1 rfl
        replace xw := xw.trans hx3
        clear hx3 h1 hB c0 c1 c2 z1 hal
        go_wp2_with fail
        refine (awake_any _).mono ?_
        rintro e w3 ⟨rfl, hx3⟩
        replace xw := xw.trans hx3
        clear hx3
        go_wp2
        go_ret
        exact ⟨rfl, xw⟩
      · have hne : ((i : Int) == (j : Int)) = false := by rw [beq_eq_false_iff_ne]; omega
        have Hij := Lib.hid hij
        clear hij
        go_wp2_with fail
        refine (hal i j hi hj _ hB.at_).mono ?_
        rintro e w3 ⟨m, er, rfl, -, h1, hx3⟩
        obtain ⟨rfl, hm⟩ := h1 Hij.out
        replace hB := hB.ext hx3
        replace c0 := hB.c0
        replace c1 := hB.c1
        replace c2 := hB.c2
        replace z1 := hB.lt
        replace xw := xw.trans hx3
        clear hx3 h1
        go_wp2_with fail
        refine (hal j i hj hi _ hB.at_).mono ?_
        rintro e w4 ⟨n, er, rfl, -, h1, hx3⟩
        obtain ⟨rfl, hn⟩ := h1 (fun e => Hij.out e.symm)
        have hmn := hm.comm hn
        subst hmn
        replace hB := hB.ext hx3
        replace c0 := hB.c0
        replace c1 := hB.c1
        replace c2 := hB.c2
        replace z1 := hB.lt
        replace xw := xw.trans hx3
        clear hx3 h1 hn
        have hcm : ∀ lo hi : Nat, lo < hi → (lo = i ∧ hi = j ∨ lo = j ∧ hi = i) → ∀ w v, BookAt w (.agg #[.int .i64 b.sounds, .slice ba b.alphabets.length bc, .slice bs b.spellings.length bd]) b → IntsAt w v [(lo : Int), (hi : Int)] → Calls Try.prog 33 #[(.agg #[.int .i64 b.sounds, .slice ba b.alphabets.length bc, .slice bs b.spellings.length bd]), v] w fun e w' => ∃ u er, e = .returned (.tuple #[u, .int .i64 er]) ∧ (er = 0 ∧ m ≠ 2 ∨ er = 9 ∧ m = 2) ∧ Ext w w' := by
          intro lo hi hlt hlh w v hb hvv
          have hmem : ∀ n ∈ [lo, hi], n < b.spellings.length := by
            intro n hn
            simp only [List.mem_cons, List.not_mem_nil, or_false] at hn
            omega
          refine (common_ok _ v b he [lo, hi] hmem (by simp) (by simp [ascM, ints]; intro x hx; have : x = 0 ∨ x = 1 := by omega
                                                                 rcases this with rfl | rfl <;> simp; omega) w hb hvv).mono ?_
          rintro e w' ⟨k', f, u, hF, rfl, -, hx⟩
          have hnd := canM_nodup hv hmem
          have hall : ∀ x, All b [lo, hi] x ↔ x ∈ stringsOf b i ∧ x ∈ stringsOf b j := fun x => by
            rcases hlh with ⟨rfl, rfl⟩ | ⟨rfl, rfl⟩
            · simp [All]
            · simp [All, And.comm]
          refine ⟨u, _, rfl, ?_, hx⟩
          cases f
          · obtain ⟨-, hno⟩ := first_none hnd (by simp) hF
            simp only [hall] at hno
            exact .inr ⟨rfl, hm.never.2 hno⟩
          · obtain ⟨hk, -⟩ := first_all hnd (by simp) hF
            rw [hall] at hk
            exact .inl ⟨rfl, fun e => hm.never.1 e ⟨k', hk⟩⟩
        have Hm := Lib.hid hm
        clear hm
        rcases Nat.lt_or_gt_of_ne Hij.out with hlt | hlt
        · have l1 : (i : Int) < (j : Int) := by omega
          have l2 : (i : Int) ≤ (j : Int) := by omega
          have l3 : ¬ (j : Int) < (i : Int) := by omega
          have l4 : ¬ (j : Int) ≤ (i : Int) := by omega
          have hcm := hcm i j hlt (.inl ⟨rfl, rfl⟩)
          go_wp2_with fail
          refine (hcm _ _ (hB.at_.ext (ext_alloc _ _)) (IntsAt.twoAt (m := (j : Int)) (n := (i : Int)) (by simp) (by omega) (by omega))).mono ?_
          rintro e w5 ⟨u, er, rfl, her, hx3⟩
          replace hx3 := hx3.of_alloc
          replace hB := hB.ext hx3
          replace c0 := hB.c0
          replace c1 := hB.c1
          replace c2 := hB.c2
          replace z1 := hB.lt
          replace xw := xw.trans hx3
          clear hx3 hcm
          rcases her with ⟨rfl, hm2⟩ | ⟨rfl, hm2⟩
          · have m2 : (m == 2) = false := by simpa using hm2
            have Hm2 := Lib.hid hm2
            clear hm2
            by_cases hik : i = k ∨ j = k
            · have hik' : ((i : Int) == (k : Int)) = true ∨ (((i : Int) == (k : Int)) = false ∧ ((j : Int) == (k : Int)) = true) := by
                simp only [beq_iff_eq, beq_eq_false_iff_ne]; omega
              clear hik
              rcases hik' with h1 | ⟨h1, h2⟩
              all_goals
                go_wp2_with fail
                refine (awake_any _).mono ?_
                rintro e w6 ⟨rfl, hx3⟩
                replace xw := xw.trans hx3
                clear hx3
                go_wp2
                go_ret
                exact ⟨rfl, xw⟩
            · have hi1 : ((i : Int) == (k : Int)) = false := by rw [beq_eq_false_iff_ne]; omega
              have hj1 : ((j : Int) == (k : Int)) = false := by rw [beq_eq_false_iff_ne]; omega
              have ni : i ≠ k := by omega
              have nj : j ≠ k := by omega
              have Ni := Lib.hid ni
              have Nj := Lib.hid nj
              clear hik ni nj
              go_wp2_with fail
              refine (hal j k hj hk _ hB.at_).mono ?_
              rintro e w6 ⟨o, er, rfl, -, h1, hx3⟩
              obtain ⟨rfl, ho⟩ := h1 Nj.out
              replace hB := hB.ext hx3
              replace c0 := hB.c0
              replace c1 := hB.c1
              replace c2 := hB.c2
              replace z1 := hB.lt
              replace xw := xw.trans hx3
              clear hx3 h1
              go_wp2_with fail
              refine (hal i k hi hk _ hB.at_).mono ?_
              rintro e w7 ⟨p, er, rfl, -, h1, hx3⟩
              obtain ⟨rfl, hp⟩ := h1 Ni.out
              replace xw := xw.trans hx3
              clear hx3 h1 hB c0 c1 c2 z1 hal
              have hj3 : m = 1 → o = p := fun e => by subst e; exact Hm.out.join ho hp
              clear ho hp
              by_cases hm1 : m = 1
              · have hop := hj3 hm1
                subst hop
                have m1 : (m != 1) = false := by simpa using hm1
                clear hj3 hm1
                go_wp2_with fail
                refine (awake_any _).mono ?_
                rintro e w6 ⟨rfl, hx3⟩
                replace xw := xw.trans hx3
                clear hx3
                go_wp2
                go_ret
                exact ⟨rfl, xw⟩
              · have m1 : (m != 1) = true := by simpa using hm1
                clear hj3 hm1
                go_wp2_with fail
                refine (awake_any _).mono ?_
                rintro e w6 ⟨rfl, hx3⟩
                replace xw := xw.trans hx3
                clear hx3
                go_wp2
                go_ret
                exact ⟨rfl, xw⟩
          · subst hm2
            by_cases hik : i = k ∨ j = k
            · have hik' : ((i : Int) == (k : Int)) = true ∨ (((i : Int) == (k : Int)) = false ∧ ((j : Int) == (k : Int)) = true) := by
                simp only [beq_iff_eq, beq_eq_false_iff_ne]; omega
              clear hik
              rcases hik' with h1 | ⟨h1, h2⟩
              all_goals
                go_wp2_with fail
                refine (awake_any _).mono ?_
                rintro e w6 ⟨rfl, hx3⟩
                replace xw := xw.trans hx3
                clear hx3
                go_wp2
                go_ret
                exact ⟨rfl, xw⟩
            · have hi1 : ((i : Int) == (k : Int)) = false := by rw [beq_eq_false_iff_ne]; omega
              have hj1 : ((j : Int) == (k : Int)) = false := by rw [beq_eq_false_iff_ne]; omega
              have ni : i ≠ k := by omega
              have nj : j ≠ k := by omega
              have Ni := Lib.hid ni
              have Nj := Lib.hid nj
              clear hik ni nj
              go_wp2_with fail
              refine (hal j k hj hk _ hB.at_).mono ?_
              rintro e w6 ⟨o, er, rfl, -, h1, hx3⟩
              obtain ⟨rfl, ho⟩ := h1 Nj.out
              replace hB := hB.ext hx3
              replace c0 := hB.c0
              replace c1 := hB.c1
              replace c2 := hB.c2
              replace z1 := hB.lt
              replace xw := xw.trans hx3
              clear hx3 h1
              go_wp2_with fail
              refine (hal i k hi hk _ hB.at_).mono ?_
              rintro e w7 ⟨p, er, rfl, -, h1, hx3⟩
              obtain ⟨rfl, hp⟩ := h1 Ni.out
              replace xw := xw.trans hx3
              clear hx3 h1 hB c0 c1 c2 z1 hal ho hp
              go_wp2_with fail
              refine (awake_any _).mono ?_
              rintro e w6 ⟨rfl, hx3⟩
              replace xw := xw.trans hx3
              clear hx3
              go_wp2
              go_ret
              exact ⟨rfl, xw⟩
        · have l1 : (j : Int) < (i : Int) := by omega
          have l2 : (j : Int) ≤ (i : Int) := by omega
          have l3 : ¬ (i : Int) < (j : Int) := by omega
          have l4 : ¬ (i : Int) ≤ (j : Int) := by omega
          have hcm := hcm j i hlt (.inr ⟨rfl, rfl⟩)
          go_wp2_with fail
          refine (hcm _ _ (hB.at_.ext (ext_alloc _ _)) (IntsAt.twoAt (m := (i : Int)) (n := (j : Int)) (by simp) (by omega) (by omega))).mono ?_
          rintro e w5 ⟨u, er, rfl, her, hx3⟩
          replace hx3 := hx3.of_alloc
          replace hB := hB.ext hx3
          replace c0 := hB.c0
          replace c1 := hB.c1
          replace c2 := hB.c2
          replace z1 := hB.lt
          replace xw := xw.trans hx3
          clear hx3 hcm
          rcases her with ⟨rfl, hm2⟩ | ⟨rfl, hm2⟩
          · have m2 : (m == 2) = false := by simpa using hm2
            have Hm2 := Lib.hid hm2
            clear hm2
            by_cases hik : i = k ∨ j = k
            · have hik' : ((i : Int) == (k : Int)) = true ∨ (((i : Int) == (k : Int)) = false ∧ ((j : Int) == (k : Int)) = true) := by
                simp only [beq_iff_eq, beq_eq_false_iff_ne]; omega
              clear hik
              rcases hik' with h1 | ⟨h1, h2⟩
              all_goals
                go_wp2_with fail
                refine (awake_any _).mono ?_
                rintro e w6 ⟨rfl, hx3⟩
                replace xw := xw.trans hx3
                clear hx3
                go_wp2
                go_ret
                exact ⟨rfl, xw⟩
            · have hi1 : ((i : Int) == (k : Int)) = false := by rw [beq_eq_false_iff_ne]; omega
              have hj1 : ((j : Int) == (k : Int)) = false := by rw [beq_eq_false_iff_ne]; omega
              have ni : i ≠ k := by omega
              have nj : j ≠ k := by omega
              have Ni := Lib.hid ni
              have Nj := Lib.hid nj
              clear hik ni nj
              go_wp2_with fail
              refine (hal j k hj hk _ hB.at_).mono ?_
              rintro e w6 ⟨o, er, rfl, -, h1, hx3⟩
              obtain ⟨rfl, ho⟩ := h1 Nj.out
              replace hB := hB.ext hx3
              replace c0 := hB.c0
              replace c1 := hB.c1
              replace c2 := hB.c2
              replace z1 := hB.lt
              replace xw := xw.trans hx3
              clear hx3 h1
              go_wp2_with fail
              refine (hal i k hi hk _ hB.at_).mono ?_
              rintro e w7 ⟨p, er, rfl, -, h1, hx3⟩
              obtain ⟨rfl, hp⟩ := h1 Ni.out
              replace xw := xw.trans hx3
              clear hx3 h1 hB c0 c1 c2 z1 hal
              have hj3 : m = 1 → o = p := fun e => by subst e; exact Hm.out.join ho hp
              clear ho hp
              by_cases hm1 : m = 1
              · have hop := hj3 hm1
                subst hop
                have m1 : (m != 1) = false := by simpa using hm1
                clear hj3 hm1
                go_wp2_with fail
                refine (awake_any _).mono ?_
                rintro e w6 ⟨rfl, hx3⟩
                replace xw := xw.trans hx3
                clear hx3
                go_wp2
                go_ret
                exact ⟨rfl, xw⟩
              · have m1 : (m != 1) = true := by simpa using hm1
                clear hj3 hm1
                go_wp2_with fail
                refine (awake_any _).mono ?_
                rintro e w6 ⟨rfl, hx3⟩
                replace xw := xw.trans hx3
                clear hx3
                go_wp2
                go_ret
                exact ⟨rfl, xw⟩
          · subst hm2
            by_cases hik : i = k ∨ j = k
            · have hik' : ((i : Int) == (k : Int)) = true ∨ (((i : Int) == (k : Int)) = false ∧ ((j : Int) == (k : Int)) = true) := by
                simp only [beq_iff_eq, beq_eq_false_iff_ne]; omega
              clear hik
              rcases hik' with h1 | ⟨h1, h2⟩
              all_goals
                go_wp2_with fail
                refine (awake_any _).mono ?_
                rintro e w6 ⟨rfl, hx3⟩
                replace xw := xw.trans hx3
                clear hx3
                go_wp2
                go_ret
                exact ⟨rfl, xw⟩
            · have hi1 : ((i : Int) == (k : Int)) = false := by rw [beq_eq_false_iff_ne]; omega
              have hj1 : ((j : Int) == (k : Int)) = false := by rw [beq_eq_false_iff_ne]; omega
              have ni : i ≠ k := by omega
              have nj : j ≠ k := by omega
              have Ni := Lib.hid ni
              have Nj := Lib.hid nj
              clear hik ni nj
              go_wp2_with fail
              refine (hal j k hj hk _ hB.at_).mono ?_
              rintro e w6 ⟨o, er, rfl, -, h1, hx3⟩
              obtain ⟨rfl, ho⟩ := h1 Nj.out
              replace hB := hB.ext hx3
              replace c0 := hB.c0
              replace c1 := hB.c1
              replace c2 := hB.c2
              replace z1 := hB.lt
              replace xw := xw.trans hx3
              clear hx3 h1
              go_wp2_with fail
              refine (hal i k hi hk _ hB.at_).mono ?_
              rintro e w7 ⟨p, er, rfl, -, h1, hx3⟩
              obtain ⟨rfl, hp⟩ := h1 Ni.out
              replace xw := xw.trans hx3
              clear hx3 h1 hB c0 c1 c2 z1 hal ho hp
              go_wp2_with fail
              refine (awake_any _).mono ?_
              rintro e w6 ⟨rfl, hx3⟩
              replace xw := xw.trans hx3
              clear hx3
              go_wp2
              go_ret
              exact ⟨rfl, xw⟩
end Go.Proofs.Ytagpngddaenkkaa

namespace Go.Proofs.Ytagpngddaenkkaa.earJoined
open Go.ChangeShapes Go.WideShapes Go.ChangeAt Go.RowKit
set_option linter.unusedVariables false

theorem own : ownKnob Try.prog.godebug = none := by kernel_rfl
theorem laid : laidOutB Try.prog = true := by kernel_rfl
theorem read0 : Try.prog.readableRec 25 = true := by kernel_rfl
theorem row0 : 25 < Try.prog.types.size := of_decide_eq_true (by kernel_rfl)
theorem read1 : Try.prog.readableRec 57 = true := by kernel_rfl
theorem row1 : 57 < Try.prog.types.size := of_decide_eq_true (by kernel_rfl)

set_option maxRecDepth 100000 in
theorem lifted (os : Os) (started : os.Started) (H : Type) (enc : TypeId × Value → H) :
    ReturnsInHanded {} Try.checked os 10 .any (Rows.earJoinedSpec.pre6 enc Try.prog Try.f10 Rows.earJoinedRow.domain false) (Rows.earJoinedSpec.post enc Try.prog Try.f10 false true false false) := by
  refine returnsInHanded_of_change (C := Try.checked) own started (by kernel_rfl) Try.func10
    (ChangeSpec.witness6 (enc := enc) (C := Try.checked) false ⟨#[], #[.agg #[.int .i64 0, .slice none 0 0, .slice none 0 0], .agg #[.int .u8 0, .int .u8 0, .int .u8 0]], []⟩ 8 (by kernel_rfl) (by kernel_rfl) (by kernel_rfl) (by kernel_rfl)) ?_
  intro W base args ds gs before hval0 hW hcnd _
  have hval : ∀ (j : Nat) t v, Try.f10.params[j]? = some t → args[j]? = some v → Value.okWide Try.prog W .any base t v := hval0
  have hW' := hW
  obtain ⟨p, q, hA0, hV, rfl, hfz, hnd⟩ := hW
  have hA : DataW.TrodAll enc Try.prog W 0 (fun _ => true) true Try.f10.params.toList args.toList ds p := hA0
  rw [Try.params10] at hA hval
  obtain ⟨v0, vs0, d0, ds0, p0, q0, hargs0, rfl, rfl, h0, r0⟩ := trodAll_cons hA
  obtain ⟨v1, vs1, d1, ds1, p1, q1, hargs1, rfl, rfl, h1, r1⟩ := trodAll_cons r0
  obtain ⟨rfl, rfl, rfl⟩ := trodAll_nil r1
  subst hargs1
  obtain rfl : args = #[v0, v1] := by cases args; simp_all
  obtain ⟨rfl, rfl⟩ := trodVars_none hV
  obtain ⟨b, hb⟩ := book_of (hval 0 25 v0 rfl rfl) h0
  obtain ⟨x, y, z, rfl, hx, hy, hz⟩ := bytes3_of (hval 1 57 v1 rfl rfl) h1
  clear hA0 hval0
  simp only [List.append_nil] at hW'
  refine (joined_any v0 b x y z hx hy hz W hb).mono fun e W' ⟨he, hg⟩ => ?_
  subst he
  have hlt := hW'.lt
  exact ⟨_, rfl, post_ext (pa := p0 ++ p1) (pv := []) hW' (fun _ _ _ => (trodAll_cons_mk (shut_bool Try.underlying4 _) trodAll_mk0))
    (fun sp hsp => by
      have g0 := Go.WideElems.Trod_stays (sp' := sp) laid read0 row0 h0 (W' := W') (fun p hp => same_of_ext hg (hlt p (List.mem_append_left _ hp))) (fun p hp => hsp p (List.mem_append_left _ hp))
      have g1 := Go.WideElems.Trod_stays (sp' := sp) laid read1 row1 h1 (W' := W') (fun p hp => same_of_ext hg (hlt p (List.mem_append_right _ hp))) (fun p hp => hsp p (List.mem_append_right _ hp))
      have := trodAll_cons_mk g0 (trodAll_cons_mk g1 (trodAll_mk0 (enc := enc) (P := Try.prog) (w := W') (base := 0) (spare := sp) (held := true)))
      rw [List.append_nil] at this
      exact this) (fun _ _ => rfl) (by simp)
    hg (ok_one (by kernel_rfl) rfl (okWide_bool_mk Try.underlying4 _))⟩

theorem over : Rows.earJoinedRow.holds Try.pinned (OpenSpec.ofChange Rows.earJoinedSpec) :=
  OpenClaim.holds_of_wide 10 Try.f10 rfl rfl rfl rfl rfl rfl rfl ⟨rfl, rfl, rfl, rfl, rfl⟩ rfl rfl rfl rfl rfl (by kernel_rfl) Try.func10 (by kernel_rfl)
    (of_decide_eq_true (by kernel_rfl)) (by unfold Func.isWrapper; first | (rw [if_pos (by decide +kernel)]; kernel_rfl) | (rw [if_neg (by decide +kernel)]; exact ⟨rfl, rfl⟩))
    (fun os started H enc _ => lifted os started H enc)

/-- ████ THE STATEMENT ████ -/
theorem earJoined_said : Rows.EarJoinedSaid :=
  over
end Go.Proofs.Ytagpngddaenkkaa.earJoined
