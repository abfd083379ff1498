/-
  EarCommon returns true for any book and any two bytes, and lets both be as they were. No condition.
-/
import Derived.Test.YtagpngddaenkkaaBunL
import Derived.Test.YtagpngddaenkkaaBunQ
import Derived.Test.YtagpngddaenkkaaBunO
namespace Go.Proofs.Ytagpngddaenkkaa
open Go.RowKit
set_option linter.unusedVariables false

theorem Boxed.grown {w w' : World} {B : Nat} {b : Book} {ba bs : Option Addr} {bc bd : Nat} (h : Boxed w B b ba bc bs bd) (x : Value) (t : TypeId) {row : Option Nat} (hg : (w.alloc (.cells #[x] t)).grownBy w' row) (hr : row ≠ some B) (hx : Ext w w' ) : Boxed w' B b ba bc bs bd := h.ext hx

set_option maxRecDepth 100000 in
set_option maxHeartbeats 1000000 in
theorem common_law (bv : Value) (b : Book) (bits which : Nat) (hbits : bits ≤ 255) (hwhich : which ≤ 255) (w : World) (hb : BookAt w bv b) :
    Calls Try.prog 15 #[bv, .int .u8 bits, .int .u8 which] w fun e w' => e = .returned (.bool true) ∧ Ext w w' := by
  have hb0 := hb
  obtain ⟨ba, bc, bs, bd, rfl, -, -, -, hsl, hsc, -⟩ := hb.open
  obtain ⟨i0, hi, hz0, hz1, hz2⟩ := info_parts infoInt
  have wb : IntKind.i64.wrap (bits : Int) = bits := IntWalk.i64_in _ (by omega)
  have ww : IntKind.i64.wrap (which : Int) = which := IntWalk.i64_in _ (by omega)
  go_enter Try.func15, Try.ntmps15
  go_wp2
  have hB0 : Boxed ((w).alloc (.cells #[.int .i64 b.sounds, .slice ba b.alphabets.length bc, .slice bs b.spellings.length bd] 25)) w.heap.size b ba bc bs bd := ⟨by simp [go_sem], by simp [go_sem], by simp [go_sem], hb0.ext (by first | (with_reducible exact Ext.refl _) | (with_reducible assumption) | (show Below _ _ _; go_grown; done))⟩
  have x0 : Ext w ((w).alloc (.cells #[.int .i64 b.sounds, .slice ba b.alphabets.length bc, .slice bs b.spellings.length bd] 25)) := ext_alloc _ _
  have hs0 : (((w).alloc (.cells #[.int .i64 b.sounds, .slice ba b.alphabets.length bc, .slice bs b.spellings.length bd] 25))).heap.size = w.heap.size + 1 := by simp
  generalize ((w).alloc (.cells #[.int .i64 b.sounds, .slice ba b.alphabets.length bc, .slice bs b.spellings.length bd] 25)) = W at *
  go_loopw [7, 8] (fun v i wr => ∃ k : Nat, k ≤ b.spellings.length ∧ k ≤ 8 ∧ i = .int .i64 k ∧ Ext w wr ∧ Boxed wr w.heap.size b ba bc bs bd ∧ wr.ownsRow (w.heap.size + 1) 3 1 v (ints (pickTo bits k)).length ((ints (pickTo bits k)).map (Value.int .i64))) (fun _ i _ => 8 - (intOf i).toNat)
  case atStart => exact ⟨0, Nat.zero_le _, Nat.zero_le _, rfl, x0, hB0, World.ownsRow_nil _ _ _ _⟩
  case round =>
    obtain ⟨k, hk, hk8, rfl, hx, hB, hown⟩ := hrel
    have c0 := hB.c0
    have c1 := hB.c1
    have c2 := hB.c2
    have z1 := hB.lt
    have hsz := hx.size
    by_cases hlt : k < b.spellings.length ∧ k < 8
    · obtain ⟨h1, h2⟩ := hlt
      have k1 : (k : Int) < (b.spellings.length : Int) := by omega
      have k2 : (k : Int) < 8 := by omega
      have hlen : (ints (pickTo bits k)).length ≤ k := by have := pickTo_len bits k; simpa [ints] using this
      go_wp2_with fail
      refine (bit_any bits k (by unfold I64; omega) (by omega) wr).mono ?_
      rintro e w1 ⟨rfl, rfl⟩
      cases hm : bitM k (bits : Int)
      · have Hst := Lib.hid (pickTo_no bits k hm)
        clear hm
        go_wp2
        go_roundw
        case rel => exact ⟨k + 1, by omega, by omega, by go_num, hx, hB, by rw [Hst.out]; exact hown⟩
        case measure => simp [intOf]; omega
      · have Hst := Lib.hid (pickTo_yes bits k hm)
        clear hm
        go_wp2_with ((at_builtin; refine wpList_append_own _ rfl _ _ 32 rfl (w.heap.size + 1) 3 i0 (.int .i64 0) 1 8 Try.underlying32 hi hz0 hz1 hz2 rfl (by decide) _ _ _ rfl (hown.alloc _) ⟨wr.heap.size, 0, none⟩ 1 1 [.int .i64 k] rfl rfl (cell_one_new _ _ _) (by simp [Value.oneCell']) (by unfold maxLen; omega) (by omega) (by simp; omega) ?_; intro v' w2' hown' hgrow _))
        have hx3 : Ext w w2' := Ext.grown (hx.alloc _) hgrow fun k hk => Nat.le_trans (by omega) (hown.lt k hk).1
        have hB2 : Boxed w2' w.heap.size b ba bc bs bd := by
          refine ⟨hgrow.cell (by simpa [go_sem, z1] using c0) (fun e => by have := (hown.lt w.heap.size e.symm).1; omega), hgrow.cell (by simpa [go_sem, z1] using c1) (fun e => by have := (hown.lt w.heap.size e.symm).1; omega), hgrow.cell (by simpa [go_sem, z1] using c2) (fun e => by have := (hown.lt w.heap.size e.symm).1; omega), hb0.ext hx3⟩
        go_roundw
        case rel => exact ⟨k + 1, by omega, by omega, by go_num, hx3, hB2, by rw [Hst.out]; simpa [ints] using hown'⟩
        case measure => simp [intOf]; omega
    · have hcase : ((k : Int) < (b.spellings.length : Int) ∧ ¬ (k : Int) < 8) ∨ k = b.spellings.length := by omega
      have hil : ∀ n ∈ pickTo bits k, n < b.spellings.length := fun n hn => by have := pickTo_lt hn; omega
      have hso := pickTo_sorted bits k
      have hl8 : (pickTo bits k).length ≤ 8 := by have := pickTo_len bits k; omega
      have hlI : ∀ n ∈ ints (pickTo bits k), I64 n := ints_I64 fun n hn => by have := pickTo_lt hn; omega
      have hlv := IntsAt.of_own hown hlI
      generalize pickTo bits k = l at *
      have hl0 : (ints l).length = l.length := by simp [ints]
      obtain ⟨la, lc, rfl, -⟩ := hlv.shape
      rw [hl0] at hlv ⊢
      have Hl0 := Lib.hid hl0
      clear hown hlt hlI hl0
      have aw := fun w => awake_any w
      by_cases he : errM b = 0
      rotate_left
      · have ho : openM b (ints l) ≠ 0 := by unfold openM; rw [if_pos he]; exact he
        have hal := fun w hb hv => common_err (.agg #[.int .i64 b.sounds, .slice ba b.alphabets.length bc, .slice bs b.spellings.length bd]) (.slice la l.length lc) b (ints l) ho w hb hv
        have ho' : (openM b (ints l) != 0) = true := by simpa using ho
        have hev : (errM b == 0) = false := by simpa using he
        generalize openM b (ints l) = er at *
        have Ho := Lib.hid ho
        have He := Lib.hid he
        clear ho he
        rcases hcase with ⟨k1, k2⟩ | rfl
        all_goals
          go_wp2_with fail
          refine (hal _ hB.at_ hlv).mono ?_
          rintro e w2 ⟨rfl, hx2⟩
          have x2 := hx.trans hx2
          replace hB := hB.ext hx2
          replace c0 := hB.c0
          replace c1 := hB.c1
          replace c2 := hB.c2
          replace z1 := hB.lt
          clear hx2 hal
          go_wp2_with fail
          refine (valid_any _ b _ hB.at_).mono ?_
          rintro e w3 ⟨rfl, hx3⟩
          rw [hev]
          have x3 := x2.trans hx3
          clear hx3 hB c0 c1 c2 z1
          go_wp2_with fail
          refine (aw _).mono ?_
          rintro e w4 ⟨rfl, hx4⟩
          have x4 := x3.trans hx4
          clear hx4
          go_wp2
          go_ret
          exact ⟨rfl, x4⟩
      have hv := valid_of he
      have hev : (errM b == 0) = true := by simpa using he
      have hn5 := hv.n
      obtain rfl : k = b.spellings.length := by omega
      clear hcase
      have hal := fun w hb hv => common_all (.slice la l.length lc) b (.agg #[.int .i64 b.sounds, .slice ba b.alphabets.length bc, .slice bs b.spellings.length bd]) he l hil hso w hb hv
      have He := Lib.hid he
      clear he
      by_cases hl1 : l = []
      · have Hl1 := Lib.hid hl1
        have hll : ((l.length : Int) == 0) = true := by rw [hl1]; rfl
        clear hl1
        go_wp2_with fail
        refine (hal _ hB.at_ hlv).mono ?_
        rintro e w2 ⟨u, er, kk, rfl, hu, hx2, hcs⟩
        obtain ⟨rfl, rfl⟩ : er = 2 ∧ kk = [] := by
          rcases hcs with ⟨-, h⟩ | ⟨h, -⟩ | ⟨h, -⟩
          · exact h
          · exact absurd Hl1.out h
          · exact absurd Hl1.out h
        have x2 := hx.trans hx2
        replace hB := hB.ext hx2
        replace c0 := hB.c0
        replace c1 := hB.c1
        replace c2 := hB.c2
        replace z1 := hB.lt
        obtain ⟨ua, uc, rfl, -⟩ := hu.shape
        clear hx2 hcs hal
        go_wp2_with fail
        refine (valid_any _ b _ hB.at_).mono ?_
        rintro e w3 ⟨rfl, hx3⟩
        rw [hev]
        have x3 := x2.trans hx3
        clear hx3 hB c0 c1 c2 z1
        go_wp2_with fail
        refine (aw _).mono ?_
        rintro e w4 ⟨rfl, hx4⟩
        have x4 := x3.trans hx4
        clear hx4
        go_wp2
        go_ret
        exact ⟨rfl, x4⟩
      have hl1' : l.length ≠ 0 := fun h => hl1 (List.eq_nil_of_length_eq_zero h)
      have hll : ((l.length : Int) == 0) = false := by rw [beq_eq_false_iff_ne]; omega
      have Hl1 := Lib.hid hl1
      clear hl1
      go_wp2_with fail
      refine (hal _ hB.at_ hlv).mono ?_
      rintro e w2 ⟨u, er, kk, rfl, hu, hx2, hcs⟩
      have x2 := hx.trans hx2
      replace hB := hB.ext hx2
      replace c0 := hB.c0
      replace c1 := hB.c1
      replace c2 := hB.c2
      replace z1 := hB.lt
      replace hlv := hlv.ext hx2
      obtain ⟨ua, uc, rfl, -⟩ := hu.shape
      clear hx2
      go_wp2_with fail
      refine (valid_any _ b _ hB.at_).mono ?_
      rintro e w3 ⟨rfl, hx3⟩
      rw [hev]
      have x3 := x2.trans hx3
      replace hB := hB.ext hx3
      replace c0 := hB.c0
      replace c1 := hB.c1
      replace c2 := hB.c2
      replace z1 := hB.lt
      replace hlv := hlv.ext hx3
      replace hu := hu.ext hx3
      clear hx3
      have hm := mod_small which l.length
      have hqq : which % l.length < l.length := Nat.mod_lt _ (by omega)
      generalize which % l.length = q at *
      have wq : IntKind.i64.wrap (q : Int) = q := IntWalk.i64_in _ (by omega)
      have nz2 : ¬ l = [] := Hl1.out
      go_wp2
      have hz3 := x3.size
      go_loopw [11, 12] (fun v i wr => ∃ k : Nat, k ≤ l.length ∧ i = .int .i64 k ∧ Ext w3 wr ∧ wr.ownsRow w3.heap.size 3 1 v (ints (dropTo l q k)).length ((ints (dropTo l q k)).map (Value.int .i64))) (fun _ i _ => l.length - (intOf i).toNat)
      case atStart => exact ⟨0, Nat.zero_le _, rfl, Ext.refl _, World.ownsRow_nil _ _ _ _⟩
      case round =>
        obtain ⟨k, hk, rfl, hxr, hown⟩ := hrel
        have hszr := hxr.size
        by_cases hlt : k < l.length
        · have k1 : (k : Int) < (l.length : Int) := by omega
          have hlen : (ints (dropTo l q k)).length ≤ k := by have := dropTo_len l q k; simpa [ints] using this
          by_cases hkq : k = q
          · have hne : ((k : Int) != (q : Int)) = false := by subst hkq; simp
            have Hst : Hid (dropTo l q (k + 1) = dropTo l q k) := Lib.hid (by subst hkq; exact dropTo_no l k)
            clear hkq
            go_wp2
            go_roundw
            case rel => exact ⟨k + 1, by omega, by go_num, hxr, by rw [Hst.out]; exact hown⟩
            case measure => simp [intOf]; omega
          · have hne : ((k : Int) != (q : Int)) = true := by rw [bne_iff_ne]; omega
            have Hst : Hid (dropTo l q (k + 1) = dropTo l q k ++ [l[k]]) := Lib.hid (dropTo_yes l q k hlt hkq)
            obtain ⟨_, _, hea, -, -, hh⟩ := hlv.ext hxr
            obtain ⟨bb, off, rfl, cc, -⟩ := hh k (by rw [Hl0.out]; exact hlt)
            have ce : (ints l)[k]'(by rw [Hl0.out]; exact hlt) = ((l[k] : Nat) : Int) := by simp [ints]
            rw [ce] at cc
            have hea1 := (Value.slice.inj hea).1
            subst hea1
            clear hea
            simp only [Nat.mul_one] at cc
            generalize l[k] = y at *
            clear hkq hh ce
            go_wp2_with ((at_builtin; refine wpList_append_own _ rfl _ _ 32 rfl (w3.heap.size) 3 i0 (.int .i64 0) 1 8 Try.underlying32 hi hz0 hz1 hz2 rfl (by decide) _ _ _ rfl (hown.alloc _) ⟨wr.heap.size, 0, none⟩ 1 1 [.int .i64 y] rfl rfl (cell_one_new _ _ _) (by simp [Value.oneCell']) (by unfold maxLen; omega) (by omega) (by simp; omega) ?_; intro v' w2' hown' hgrow _))
            have hx4 : Ext w3 w2' := Ext.grown (hxr.alloc _) hgrow fun k hk => (hown.lt k hk).1
            go_roundw
            case rel => exact ⟨k + 1, by omega, by go_num, hx4, by rw [Hst.out]; simpa [ints] using hown'⟩
            case measure => simp [intOf]; omega
        · obtain rfl : k = l.length := by omega
          have hds := fun n (h : n ∈ dropTo l q l.length) => dropTo_sub (Nat.le_refl _) h
          have hdso := dropTo_sorted hso q l.length (Nat.le_refl _)
          have hdl : ∀ n ∈ dropTo l q l.length, n < b.spellings.length := fun n h => hil n (hds n h)
          have hlv2 := IntsAt.of_own hown (ints_I64 fun n hn => by have := hdl n hn; omega)
          generalize dropTo l q l.length = less at *
          have hl2 : (ints less).length = less.length := by simp [ints]
          obtain ⟨da, dc, rfl, -⟩ := hlv2.shape
          rw [hl2] at hlv2 ⊢
          have Hl2 := Lib.hid hl2
          replace hB := hB.ext hxr
          replace c0 := hB.c0
          replace c1 := hB.c1
          replace c2 := hB.c2
          replace z1 := hB.lt
          replace hlv := hlv.ext hxr
          replace hu := hu.ext hxr
          have x4 := x3.trans hxr
          clear hown hl2 hxr hlt
          rcases hcs with ⟨h, -⟩ | ⟨-, rfl, rfl, hno⟩ | ⟨-, rfl, hall, hmin⟩
          · exact absurd h Hl1.out
          · have h2 : (1 : Int) < (l.length : Int) := by
              rcases Nat.lt_or_ge 1 l.length with h | h
              · omega
              · exfalso
                have h1 : l.length = 1 := by omega
                match l, h1, hil, hno with
                | [n], _, hil, hno =>
                  obtain ⟨t, ht⟩ := stringsOf_some hv n (hil n (by simp))
                  exact hno ⟨t, fun m hm => by
                    obtain rfl : m = n := by simpa using hm
                    exact ht⟩
            clear hno hB c0 c1 c2 z1
            go_wp2_with fail
            refine (aw _).mono ?_
            rintro e w5 ⟨rfl, hx5⟩
            have x5 := x4.trans hx5
            clear hx5
            go_wp2
            go_ret
            exact ⟨rfl, x5⟩
          · have hall2 : All b less kk := fun n hn => hall n (hds n hn)
            have hk5 : kk.length ≤ 5 ∧ ∀ x ∈ kk, 0 ≤ x ∧ x < b.sounds := by
              obtain ⟨n, hn⟩ := List.exists_mem_of_ne_nil l Hl1.out
              have := stringsOf_fine hv n (hil n hn) kk (hall n hn)
              have hs := hv.s
              exact ⟨this.1, fun x hx => by have := this.2 x hx; omega⟩
            have hh0 : heardErrM b.sounds kk = 0 := by
              unfold heardErrM
              rw [if_neg (by omega), if_neg]
              rw [Bool.not_eq_false, withinM, List.all_eq_true]
              intro x hx
              have := hk5.2 x hx
              simp [inM]; omega
            have hrd := fun n (hn : n ∈ l) w hb hw => reads_ok (.agg #[.int .i64 b.sounds, .slice ba b.alphabets.length bc, .slice bs b.spellings.length bd]) (.slice ua kk.length uc) b He.out n (hil n hn) kk hh0 w hb hw
            have hrt : ∀ n ∈ l, (getT kk (canM b [n])).isSome = true := fun n hn => (getT_keys _ _).2 (canM_keys.2 ⟨n, by simp, hall n hn⟩)
            have Hmin := Lib.hid hmin
            have Hall2 := Lib.hid hall2
            clear hall hmin hall2 hh0 hk5
            go_wp2
            go_loopw [13] (fun i wr => ∃ k : Nat, k ≤ l.length ∧ i = .int .i64 k ∧ Ext w wr ∧ Boxed wr w.heap.size b ba bc bs bd ∧ IntsAt wr (.slice la l.length lc) (ints l) ∧ IntsAt wr (.slice ua kk.length uc) kk ∧ IntsAt wr (.slice da less.length dc) (ints less)) (fun i _ => l.length - (intOf i).toNat)
            case atStart => exact ⟨0, Nat.zero_le _, rfl, x4, hB, hlv, hu, hlv2⟩
            case round =>
              obtain ⟨k, hk, rfl, hx, hB, hlv, hu, hlv2⟩ := hrel
              replace c0 := hB.c0
              replace c1 := hB.c1
              replace c2 := hB.c2
              replace z1 := hB.lt
              by_cases hlt : k < l.length
              · have k1 : (k : Int) < (l.length : Int) := by omega
                have hlvk := hlv
                obtain ⟨_, _, hea, -, -, hh⟩ := hlv
                obtain ⟨bb, off, rfl, cc, -⟩ := hh k (by rw [Hl0.out]; exact hlt)
                have ce : (ints l)[k]'(by rw [Hl0.out]; exact hlt) = ((l[k] : Nat) : Int) := by simp [ints]
                rw [ce] at cc
                have hea1 := (Value.slice.inj hea).1
                subst hea1
                simp only [Nat.mul_one] at cc
                have hrdk := hrd l[k] (List.getElem_mem hlt)
                have hrtk := hrt l[k] (List.getElem_mem hlt)
                rw [hrtk] at hrdk
                clear hea hh ce hrtk
                generalize l[k] = y at *
                go_wp2_with fail
                apply Facts.wp_region [.val _, .val _, .val _, .val _, .val _, .val _, .val (.tuple #[.bool true, .int .i64 0]), .val _, .val _, .val _, .val _, .val _] (by kernel_rfl) (by kernel_rfl) trivial ?main
                case main =>
                  iterate 6 (refine ⟨fun w1 hx hh => ?_, ?_⟩; focus (clear hh; have e0 := hx.cell c0; have e1 := hx.cell c1; have e2 := hx.cell c2; have e3 := hx.cell cc; go_simp; exact ⟨Ext.refl _, rfl⟩))
                  refine ⟨fun w1 hx hh => ?_, ?_⟩
                  · clear hh
                    go_simp
                    refine (hrdk w1 (hB.at_.ext hx) (hu.ext hx)).mono ?_
                    rintro e w' ⟨rfl, hx2⟩
                    exact ⟨_, rfl, hx2, rfl⟩
                  iterate 5 (refine ⟨fun w1 hx hh => ?_, ?_⟩; focus (clear hh; skip; go_simp; exact ⟨Ext.refl _, rfl⟩))
                  intro w5 hx5 hh
                  have x5 := hx.trans hx5
                  have hB5 := hB.ext hx5
                  have hlv5 := hlvk.ext hx5
                  have hu5 := hu.ext hx5
                  have hd5 := hlv2.ext hx5
                  clear hh hx5 hrdk cc hB hlvk hu hlv2 c0 c1 c2 z1 hx
                  go_simp
                  go_wp2
                  go_roundw
                  case rel => exact ⟨k + 1, by omega, by go_num, x5, hB5, hlv5, hu5, hd5⟩
                  case measure => simp [intOf]; omega
              · obtain rfl : k = l.length := by omega
                clear hrd hrt hlt
                have hcm := fun w hb hv => common_all (.slice da less.length dc) b (.agg #[.int .i64 b.sounds, .slice ba b.alphabets.length bc, .slice bs b.spellings.length bd]) He.out less hdl hdso w hb hv
                by_cases hd0 : less = []
                · have hd1 : ((less.length : Int) == 0) = true := by rw [hd0]; rfl
                  clear hd0 hcm hB c0 c1 c2 z1
                  go_wp2_with fail
                  refine (aw _).mono ?_
                  rintro e w5 ⟨rfl, hx5⟩
                  have x5 := hx.trans hx5
                  clear hx5
                  go_wp2
                  go_ret
                  exact ⟨rfl, x5⟩
                · have hd1 : ((less.length : Int) == 0) = false := by
                    rw [beq_eq_false_iff_ne]
                    intro h
                    exact hd0 (List.eq_nil_of_length_eq_zero (by omega))
                  have Hd0 := Lib.hid hd0
                  clear hd0
                  go_wp2_with fail
                  refine (hcm _ hB.at_ hlv2).mono ?_
                  rintro e w5 ⟨tv, er, t, rfl, ht, hx5, hct⟩
                  have x5 := hx.trans hx5
                  replace hu := hu.ext hx5
                  obtain ⟨rfl, hmin2⟩ : er = 0 ∧ ∀ k', All b less k' → ¬ cmpSS k' t < 0 := by
                    rcases hct with ⟨h, -⟩ | ⟨-, -, -, h⟩ | ⟨-, h, -, h2⟩
                    · exact absurd h Hd0.out
                    · exact absurd ⟨kk, Hall2.out⟩ h
                    · exact ⟨h, fun k' hk' => by have := h2 k' hk'; omega⟩
                  have hfw : fewerM kk t = false := by
                    cases hf : fewerM kk t
                    · rfl
                    · exact absurd ((fewerM_cmp _ _).1 hf) (hmin2 kk Hall2.out)
                  obtain ⟨ta, tc, rfl, -⟩ := ht.shape
                  have hfew := fun w hl hm => fewer_any (.slice ua kk.length uc) (.slice ta t.length tc) kk t w hl hm
                  rw [hfw] at hfew
                  clear hx5 hct hmin2 hfw hcm hB c0 c1 c2 z1
                  go_wp2_with fail
                  refine (hfew _ hu ht).mono ?_
                  rintro e w6 ⟨rfl, hx6⟩
                  have x6 := x5.trans hx6
                  clear hx6 hfew
                  go_wp2_with fail
                  refine (aw _).mono ?_
                  rintro e w7 ⟨rfl, hx7⟩
                  have x7 := x6.trans hx7
                  clear hx7
                  go_wp2
                  go_ret
                  exact ⟨rfl, x7⟩
end Go.Proofs.Ytagpngddaenkkaa

namespace Go.Proofs.Ytagpngddaenkkaa.earCommon
open Go.ChangeShapes Go.WideShapes Go.ChangeAt Go.RowKit
set_option linter.unusedVariables false

theorem own : ownKnob Try.prog.godebug = none := by kernel_rfl
theorem laid : laidOutB Try.prog = true := by kernel_rfl
theorem read0 : Try.prog.readableRec 25 = true := by kernel_rfl
theorem row0 : 25 < Try.prog.types.size := of_decide_eq_true (by kernel_rfl)
theorem read1 : Try.prog.readableRec 5 = true := by kernel_rfl
theorem row1 : 5 < Try.prog.types.size := of_decide_eq_true (by kernel_rfl)
theorem read2 : Try.prog.readableRec 5 = true := by kernel_rfl
theorem row2 : 5 < Try.prog.types.size := of_decide_eq_true (by kernel_rfl)

set_option maxRecDepth 100000 in
theorem lifted (os : Os) (started : os.Started) (H : Type) (enc : TypeId × Value → H) :
    ReturnsInHanded {} Try.checked os 15 .any (Rows.earCommonSpec.pre6 enc Try.prog Try.f15 Rows.earCommonRow.domain false) (Rows.earCommonSpec.post enc Try.prog Try.f15 false true false false) := by
  refine returnsInHanded_of_change (C := Try.checked) own started (by kernel_rfl) Try.func15
    (ChangeSpec.witness6 (enc := enc) (C := Try.checked) false ⟨#[], #[.agg #[.int .i64 0, .slice none 0 0, .slice none 0 0], .int .u8 0, .int .u8 0], []⟩ 8 (by kernel_rfl) (by kernel_rfl) (by kernel_rfl) (by kernel_rfl)) ?_
  intro W base args ds gs before hval0 hW hcnd _
  have hval : ∀ (j : Nat) t v, Try.f15.params[j]? = some t → args[j]? = some v → Value.okWide Try.prog W .any base t v := hval0
  have hW' := hW
  obtain ⟨p, q, hA0, hV, rfl, hfz, hnd⟩ := hW
  have hA : DataW.TrodAll enc Try.prog W 0 (fun _ => true) true Try.f15.params.toList args.toList ds p := hA0
  rw [Try.params15] at hA hval
  obtain ⟨v0, vs0, d0, ds0, p0, q0, hargs0, rfl, rfl, h0, r0⟩ := trodAll_cons hA
  obtain ⟨v1, vs1, d1, ds1, p1, q1, hargs1, rfl, rfl, h1, r1⟩ := trodAll_cons r0
  obtain ⟨v2, vs2, d2, ds2, p2, q2, hargs2, rfl, rfl, h2, r2⟩ := trodAll_cons r1
  obtain ⟨rfl, rfl, rfl⟩ := trodAll_nil r2
  subst hargs2
  subst hargs1
  obtain rfl : args = #[v0, v1, v2] := by cases args; simp_all
  obtain ⟨rfl, rfl⟩ := trodVars_none hV
  obtain ⟨b, hb⟩ := book_of (hval 0 25 v0 rfl rfl) h0
  obtain ⟨x, rfl, hx⟩ := byte_of (hval 1 5 v1 rfl rfl) h1
  obtain ⟨y, rfl, hy⟩ := byte_of (hval 2 5 v2 rfl rfl) h2
  clear hA0 hval0
  simp only [List.append_nil] at hW'
  refine (common_law v0 b x y hx hy W hb).mono fun e W' ⟨he, hg⟩ => ?_
  subst he
  have hlt := hW'.lt
  exact ⟨_, rfl, post_ext (pa := p0 ++ (p1 ++ p2)) (pv := []) hW' (fun _ _ _ => (trodAll_cons_mk (shut_bool Try.underlying4 _) trodAll_mk0))
    (fun sp hsp => by
      have g0 := Go.WideElems.Trod_stays (sp' := sp) laid read0 row0 h0 (W' := W') (fun p hp => same_of_ext hg (hlt p (List.mem_append_left _ hp))) (fun p hp => hsp p (List.mem_append_left _ hp))
      have g1 := Go.WideElems.Trod_stays (sp' := sp) laid read1 row1 h1 (W' := W') (fun p hp => same_of_ext hg (hlt p (List.mem_append_right _ (List.mem_append_left _ hp)))) (fun p hp => hsp p (List.mem_append_right _ (List.mem_append_left _ hp)))
      have g2 := Go.WideElems.Trod_stays (sp' := sp) laid read2 row2 h2 (W' := W') (fun p hp => same_of_ext hg (hlt p (List.mem_append_right _ (List.mem_append_right _ hp)))) (fun p hp => hsp p (List.mem_append_right _ (List.mem_append_right _ hp)))
      have := trodAll_cons_mk g0 (trodAll_cons_mk g1 (trodAll_cons_mk g2 (trodAll_mk0 (enc := enc) (P := Try.prog) (w := W') (base := 0) (spare := sp) (held := true))))
      rw [List.append_nil] at this
      exact this) (fun _ _ => rfl) (by simp)
    hg (ok_one (by kernel_rfl) rfl (okWide_bool_mk Try.underlying4 _))⟩

theorem over : Rows.earCommonRow.holds Try.pinned (OpenSpec.ofChange Rows.earCommonSpec) :=
  OpenClaim.holds_of_wide 15 Try.f15 rfl rfl rfl rfl rfl rfl rfl ⟨rfl, rfl, rfl, rfl, rfl⟩ rfl rfl rfl rfl rfl (by kernel_rfl) Try.func15 (by kernel_rfl)
    (of_decide_eq_true (by kernel_rfl)) (by unfold Func.isWrapper; first | (rw [if_pos (by decide +kernel)]; kernel_rfl) | (rw [if_neg (by decide +kernel)]; exact ⟨rfl, rfl⟩))
    (fun os started H enc _ => lifted os started H enc)

/-- ████ THE STATEMENT ████ -/
theorem earCommon_said : Rows.EarCommonSaid :=
  over
end Go.Proofs.Ytagpngddaenkkaa.earCommon
