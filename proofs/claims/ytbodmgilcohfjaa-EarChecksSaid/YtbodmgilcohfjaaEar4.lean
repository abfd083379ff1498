/-
  WHAT fewestOdd AND Odd RETURN where there is no error.
-/
import Derived.Test.YtbodmgilcohfjaaEar3
namespace Go.Proofs.Ytbodmgilcohfjaa
open Go.RowKit
set_option linter.unusedVariables false

/-- whether some string has all of these bits -/
def sharedB (M : Tally) (n : Nat) : Bool := M.any fun p => p.2 &&& n == n
theorem FirstIs.shared {M : Tally} {n : Nat} {k : List Int} {f : Bool} (h : FirstIs M (fun _ => True) n k f) : f = sharedB M n := by
  unfold sharedB
  cases f
  · symm
    rw [List.any_eq_false]
    intro p hp
    obtain ⟨i, hi, rfl⟩ := List.getElem_of_mem hp
    simpa using (h.no rfl).2 i hi trivial
  · symm
    obtain ⟨i, hi, -, e⟩ := (h.yes rfl).1
    rw [List.any_eq_true]
    exact ⟨M[i], List.getElem_mem hi, by simpa using e⟩
def oddStep (M : Tally) (all : Nat) (best : List Nat) (odd : Nat) : List Nat :=
  let l := membersM odd
  if best.length < l.length ∨ (l.length = best.length ∧ 0 < cmpL (ints l) (ints best)) then best else if sharedB M (all ^^^ (all &&& odd)) then l else best
def oddF (M : Tally) (all : Nat) (l : List Nat) (k : Nat) : List Nat := (List.range k).foldl (oddStep M all) l
theorem oddF_succ (M : Tally) (all : Nat) (l : List Nat) (k : Nat) : oddF M all l (k + 1) = oddStep M all (oddF M all l k) k := by simp [oddF, List.range_succ]
def oddM (M : Tally) (all k : Nat) : List Nat := oddF M all (membersM all) k
def allOf (b : Book) : Nat := 2 ^ b.spellings.length - 1
theorem andNot_small : ∀ (a b : Fin 32), bits BinOp.andNot IntKind.i64 ((a.1 : Nat) : Int) ((b.1 : Nat) : Int) = ((a.1 ^^^ (a.1 &&& b.1) : Nat) : Int) := by decide +kernel
theorem xor_lt : ∀ (a b : Fin 32), a.1 ^^^ (a.1 &&& b.1) < 32 := by decide +kernel
theorem allOf_lt {b : Book} (h : b.spellings.length ≤ 5) : allOf b < 32 := by
  unfold allOf
  have : 2 ^ b.spellings.length ≤ 2 ^ 5 := Nat.pow_le_pow_right (by decide) h
  have h0 : 0 < 2 ^ b.spellings.length := Nat.two_pow_pos _
  omega
theorem membersM_mem {n m : Nat} (h : m ∈ membersM n) : n.testBit m = true ∧ m < 5 := by
  simp only [membersM, membersTo, List.mem_filter, List.mem_range] at h
  exact ⟨h.2, h.1⟩
theorem members_all {b : Book} {n : Nat} (h : n ∈ membersM (allOf b)) : n < b.spellings.length := by
  have := (membersM_mem h).1
  unfold allOf at this
  rw [Nat.testBit_two_pow_sub_one] at this
  simpa using this

theorem shl_all : ∀ n : Fin 6, wrap64 (wrap64 (2 ^ n.1) - 1) = ((2 ^ n.1 - 1 : Nat) : Int) := by decide +kernel
def MapV (M : Tally) (u : Value) (w : World) : Prop := ∃ B, u = .map (some B) ∧ MapIs w B M
theorem MapV.ext {M : Tally} {u : Value} {w w' : World} (hx : Ext w w') (h : MapV M u w) : MapV M u w' := by
  obtain ⟨B, e, hm⟩ := h; exact ⟨B, e, hm.kept (Below.block hx _ hm.lt)⟩
def ListV (l : List Int) (u : Value) (w : World) : Prop := IntsAt w u l
set_option maxRecDepth 100000 in
set_option maxHeartbeats 4000000 in
theorem fewestOdd_ok (bv : Value) (b : Book) (hv : Valid b) (w : World) (hb : BookAt w bv b) :
    Calls Try.prog 72 #[bv] w fun e w' => ∃ u, e = .returned u ∧ IntsAt w' u (ints (oddF (canM b (membersM (allOf b))) (allOf b) (membersM (allOf b)) (allOf b))) ∧ Ext w w' := by
  have hn := hv.n
  have hS := hv.s
  have hb0 := hb
  obtain ⟨ba, bc, bs, bd, rfl, -⟩ := hb.open
  have hall := allOf_lt hn
  go_enter Try.func72, Try.ntmps72
  obtain ⟨all, hA⟩ : ∃ all, all = allOf b := ⟨_, rfl⟩
  have hsh : wrap64 (wrap64 (2 ^ b.spellings.length) - 1) = ((all : Nat) : Int) := by rw [hA]; exact shl_all ⟨b.spellings.length, by omega⟩
  go_wp2_with fail
  rw [hsh]
  have hml : ∀ n ∈ membersM (allOf b), n < b.spellings.length := fun n h => members_all h
  have hfin : FineT (b.sounds.toNat + 1) (canM b (membersM (allOf b))) := canM_fine hv _ [] hml (FineT.nil _)
  have hmem := fun w => members_any (allOf b) hall w
  have hcan := fun v w (hb : BookAt w (.agg #[.int .i64 b.sounds, .slice ba b.alphabets.length bc, .slice bs b.spellings.length bd]) b) hl => canBe_any _ v b hv (membersM (allOf b)) hml w hb hl
  obtain ⟨M, hM⟩ : ∃ M, M = canM b (membersM (allOf b)) := ⟨_, rfl⟩
  obtain ⟨lm, hlm⟩ : ∃ lm, lm = membersM (allOf b) := ⟨_, rfl⟩
  have HF : Hid (oddF (canM b (membersM (allOf b))) (allOf b) (membersM (allOf b)) (allOf b) = oddF M all lm all) := Lib.hid (by rw [hM, hlm, hA])
  simp only [← hM] at hfin hcan
  simp only [← hlm] at hmem hcan hml
  rw [← hA] at hmem hall
  clear hM hlm hA
  apply Facts.wp_region [.val _, .val _, .fact (ListV (ints lm)), .fact (MapV M), .fact (MapV M)] (by kernel_rfl) (by kernel_rfl) ?keep ?main
  case keep => exact ⟨fun u a c hx h => IntsAt.ext h hx, fun u a c hx h => MapV.ext hx h, fun u a c hx h => MapV.ext hx h, trivial⟩
  case main =>
    refine ⟨fun w1 hx hh => ?_, ?_⟩
    · clear hh
      have e0 := hx.cell (show (w.alloc (.cells #[.int .i64 b.sounds, .slice ba b.alphabets.length bc, .slice bs b.spellings.length bd] 75)).cell? ⟨w.heap.size, 0, none⟩ = some (.int .i64 b.sounds) by simp [go_sem])
      have e1 := hx.cell (show (w.alloc (.cells #[.int .i64 b.sounds, .slice ba b.alphabets.length bc, .slice bs b.spellings.length bd] 75)).cell? ⟨w.heap.size, 1, none⟩ = some (.slice ba b.alphabets.length bc) by simp [go_sem])
      have e2 := hx.cell (show (w.alloc (.cells #[.int .i64 b.sounds, .slice ba b.alphabets.length bc, .slice bs b.spellings.length bd] 75)).cell? ⟨w.heap.size, 2, none⟩ = some (.slice bs b.spellings.length bd) by simp [go_sem])
      go_simp
      exact ⟨Ext.refl _, rfl⟩
    refine ⟨fun w1 hx hh => ?_, ?_⟩
    · clear hh; go_simp; exact ⟨Ext.refl _, rfl⟩
    refine ⟨fun w1 hx hh => ?_, ?_⟩
    · clear hh
      go_simp
      refine (hmem _).mono ?_
      rintro e w' ⟨v, rfl, h1, hx2⟩
      exact ⟨_, rfl, hx2, h1⟩
    intro u18
    refine ⟨fun w1 hx hh => ?_, ?_⟩
    · have h2 : ListV (ints lm) u18 w1 := hh 2 _ List.mem_cons_self (by kernel_rfl)
      clear hh
      go_simp
      refine (hcan _ _ (hb0.ext (hx.of_alloc)) h2).mono ?_
      rintro e w' ⟨B, rfl, -, h1, hx2⟩
      exact ⟨_, rfl, hx2, ⟨B, rfl, h1⟩⟩
    intro u19
    refine ⟨fun w1 hx hh => ?_, ?_⟩
    · have h3 : MapV M u19 w1 := hh 3 _ List.mem_cons_self (by kernel_rfl)
      clear hh
      go_simp
      first | exact ⟨Ext.refl _, h3⟩ | exact Ext.refl _
    intro u4 w1 hx1 hh
    have h4 : MapV M u4 w1 := hh 4 _ List.mem_cons_self
    clear hh
    obtain ⟨B, e4, hm⟩ := h4
    rw [e4]
    have x1 : Ext w w1 := hx1.of_alloc
    clear hx1 hcan e4
    go_simp
    go_wp2_with fail
    refine (hmem _).mono ?_
    rintro e w2 ⟨v, rfl, hlv, hx2⟩
    replace hm := hm.kept (Below.block hx2 _ hm.lt)
    have x2 := x1.trans hx2
    clear hx2 hmem
    obtain ⟨va, vc, rfl, -⟩ := hlv.shape
    go_wp2
    go_loopw [5, 23] (fun v i wr => ∃ k : Nat, k ≤ all ∧ i = .int .i64 k ∧ IntsAt wr v (ints (oddF M (all) lm k)) ∧ MapIs wr B M ∧ Ext w wr) (fun _ i _ => all - (intOf i).toNat)
    case atStart => exact ⟨0, Nat.zero_le _, rfl, hlv, hm, x2⟩
    case round =>
      obtain ⟨k, hk, rfl, hv, hm, hx⟩ := hrel
      by_cases hlt : k < all
      · have hst := oddF_succ M (all) lm k
        have hk32 : k < 32 := by omega
        have hmk := fun w => members_any k hk32 w
        have hand := andNot_small ⟨all, hall⟩ ⟨k, hk32⟩
        have hxor := xor_lt ⟨all, hall⟩ ⟨k, hk32⟩
        simp only at hand hxor
        have hfo := fun w h => firstOf_any B M (b.sounds.toNat + 1) hfin (by omega) (all ^^^ (all &&& k)) hxor w h
        unfold oddStep at hst
        generalize oddF M (all) lm k = best at *
        generalize membersM k = l at *
        generalize hxx : all ^^^ (all &&& k) = sub at *
        have kk : (k : Int) < (all : Int) := by omega
        have Hst := Lib.hid hst
        clear hst hxx
        obtain ⟨ba', bc', rfl, -⟩ := hv.shape
        go_wp2_with fail
        refine (hmk _).mono ?_
        rintro e w3 ⟨u, rfl, hu, hx3⟩
        replace hm := hm.kept (Below.block hx3 _ hm.lt)
        replace hv := hv.ext hx3
        have x3 := hx.trans hx3
        obtain ⟨ua, uc, rfl, -⟩ := hu.shape
        clear hx3 hmk
        have il : ∀ l : List Nat, (ints l).length = l.length := fun l => by simp [ints]
        simp only [il best, il l] at hv hu ⊢
        clear il
        by_cases h1 : best.length < l.length
        · have Hst2 : Hid (oddF M all lm (k + 1) = best) := Lib.hid (by rw [Hst.out, if_pos (.inl h1)])
          have j1 : (best.length : Int) < (l.length : Int) := by omega
          clear h1
          generalize best.length = bl at *
          generalize l.length = ll at *
          go_wp2
          go_roundw
          case rel => exact ⟨k + 1, by omega, by go_num, by rw [Hst2.out]; exact hv, hm, x3⟩
          case measure => simp [intOf]; omega
        · by_cases h2 : l.length = best.length
          · have j1 : ¬ ((best.length : Int) < (l.length : Int)) := by omega
            have j2 : ((l.length : Int) == (best.length : Int)) = true := by rw [beq_iff_eq]; omega
            have hcmp := compareL_any _ _ (ints l) (ints best) w3 hu hv
            have Hc : Hid (oddF M all lm (k + 1) = if 0 < cmpL (ints l) (ints best) then best else if sharedB M sub = true then l else best) := Lib.hid (by
              rw [Hst.out]
              by_cases h0 : 0 < cmpL (ints l) (ints best)
              · rw [if_pos (.inr ⟨h2, h0⟩), if_pos h0]
              · rw [if_neg (by rintro (h | ⟨-, h⟩); exact h1 h; exact h0 h), if_neg h0])
            clear h1 h2
            generalize hcv : cmpL (ints l) (ints best) = cv at *
            clear hcv
            generalize best.length = bl at *
            generalize l.length = ll at *
            go_wp2_with fail
            refine hcmp.mono ?_
            rintro e w' ⟨rfl, rfl⟩
            clear hcmp
            by_cases h0 : 0 < cv
            · have Hst2 : Hid (oddF M all lm (k + 1) = best) := Lib.hid (by rw [Hc.out, if_pos h0])
              go_wp2
              go_roundw
              case rel => exact ⟨k + 1, by omega, by go_num, by rw [Hst2.out]; exact hv, hm, x3⟩
              case measure => simp [intOf]; omega
            · have Hst1 : Hid (oddF M all lm (k + 1) = if sharedB M sub = true then l else best) := Lib.hid (by rw [Hc.out, if_neg h0])
              go_wp2_with fail
              refine (hfo _ hm).mono ?_
              rintro e w4 ⟨q, f, rfl, hF, hx4⟩
              have hf := hF.shared
              rw [← hf] at Hst1
              clear hfo hf hF
              replace hm := (hm.kept (Below.block hx4 _ hm.lt))
              replace hm := hm.kept (Below.block (ext_alloc w4 (.cells #[.int .i64 q.length, .int .i64 (q.getD 0 0), .int .i64 (q.getD 1 0), .int .i64 (q.getD 2 0), .int .i64 (q.getD 3 0), .int .i64 (q.getD 4 0)] 100)) _ hm.lt)
              have x4 := (x3.trans hx4).alloc (.cells #[.int .i64 q.length, .int .i64 (q.getD 0 0), .int .i64 (q.getD 1 0), .int .i64 (q.getD 2 0), .int .i64 (q.getD 3 0), .int .i64 (q.getD 4 0)] 100)
              replace hv := (hv.ext hx4).ext (ext_alloc w4 (.cells #[.int .i64 q.length, .int .i64 (q.getD 0 0), .int .i64 (q.getD 1 0), .int .i64 (q.getD 2 0), .int .i64 (q.getD 3 0), .int .i64 (q.getD 4 0)] 100))
              replace hu := (hu.ext hx4).ext (ext_alloc w4 (.cells #[.int .i64 q.length, .int .i64 (q.getD 0 0), .int .i64 (q.getD 1 0), .int .i64 (q.getD 2 0), .int .i64 (q.getD 3 0), .int .i64 (q.getD 4 0)] 100))
              clear hx4
              unfold ssV ssRaw
              generalize (q.length : Int) = qn at *
              generalize q.getD 0 0 = q0 at *
              generalize q.getD 1 0 = q1 at *
              generalize q.getD 2 0 = q2 at *
              generalize q.getD 3 0 = q3 at *
              generalize q.getD 4 0 = q4 at *
              cases f
              · go_wp2
                go_roundw
                case rel => exact ⟨k + 1, by omega, by go_num, by rw [Hst1.out]; exact hv, hm, x4⟩
                case measure => simp [intOf]; omega
              · go_wp2
                go_roundw
                case rel => exact ⟨k + 1, by omega, by go_num, by rw [Hst1.out]; exact hu, hm, x4⟩
                case measure => simp [intOf]; omega
          · have j1 : ¬ ((best.length : Int) < (l.length : Int)) := by omega
            have j2 : ((l.length : Int) == (best.length : Int)) = false := by rw [beq_eq_false_iff_ne]; omega
            have Hst1 : Hid (oddF M all lm (k + 1) = if sharedB M sub = true then l else best) := Lib.hid (by rw [Hst.out, if_neg (by rintro (h | ⟨h, -⟩) <;> omega)])
            clear h1 h2
            generalize best.length = bl at *
            generalize l.length = ll at *
            go_wp2_with fail
            refine (hfo _ hm).mono ?_
            rintro e w4 ⟨q, f, rfl, hF, hx4⟩
            have hf := hF.shared
            rw [← hf] at Hst1
            clear hfo hf hF
            replace hm := (hm.kept (Below.block hx4 _ hm.lt))
            replace hm := hm.kept (Below.block (ext_alloc w4 (.cells #[.int .i64 q.length, .int .i64 (q.getD 0 0), .int .i64 (q.getD 1 0), .int .i64 (q.getD 2 0), .int .i64 (q.getD 3 0), .int .i64 (q.getD 4 0)] 100)) _ hm.lt)
            have x4 := (x3.trans hx4).alloc (.cells #[.int .i64 q.length, .int .i64 (q.getD 0 0), .int .i64 (q.getD 1 0), .int .i64 (q.getD 2 0), .int .i64 (q.getD 3 0), .int .i64 (q.getD 4 0)] 100)
            replace hv := (hv.ext hx4).ext (ext_alloc w4 (.cells #[.int .i64 q.length, .int .i64 (q.getD 0 0), .int .i64 (q.getD 1 0), .int .i64 (q.getD 2 0), .int .i64 (q.getD 3 0), .int .i64 (q.getD 4 0)] 100))
            replace hu := (hu.ext hx4).ext (ext_alloc w4 (.cells #[.int .i64 q.length, .int .i64 (q.getD 0 0), .int .i64 (q.getD 1 0), .int .i64 (q.getD 2 0), .int .i64 (q.getD 3 0), .int .i64 (q.getD 4 0)] 100))
            clear hx4
            unfold ssV ssRaw
            generalize (q.length : Int) = qn at *
            generalize q.getD 0 0 = q0 at *
            generalize q.getD 1 0 = q1 at *
            generalize q.getD 2 0 = q2 at *
            generalize q.getD 3 0 = q3 at *
            generalize q.getD 4 0 = q4 at *
            cases f
            · go_wp2
              go_roundw
              case rel => exact ⟨k + 1, by omega, by go_num, by rw [Hst1.out]; exact hv, hm, x4⟩
              case measure => simp [intOf]; omega
            · go_wp2
              go_roundw
              case rel => exact ⟨k + 1, by omega, by go_num, by rw [Hst1.out]; exact hu, hm, x4⟩
              case measure => simp [intOf]; omega
      · have hke : k = all := by omega
        subst hke
        obtain ⟨ba', bc', rfl, -⟩ := hv.shape
        go_wp2
        go_ret
        exact ⟨_, rfl, by rw [HF.out]; exact hv, hx⟩
end Go.Proofs.Ytbodmgilcohfjaa
