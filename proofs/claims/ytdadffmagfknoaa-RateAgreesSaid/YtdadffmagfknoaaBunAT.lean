/-
  WHAT Choices OF THE REFERENCE RETURNS (as Ear/RefCho, without what that imports).
  WHAT Wrong OF THE REFERENCE RETURNS: the same as that of rate.
  RateAgrees: Agree and Wrong return what the reference does.
-/
import Derived.Test.YtdadffmagfknoaaBunAS
import Derived.Test.YtdadffmagfknoaaBunAQ
import Derived.Test.YtdadffmagfknoaaBunAJ
import Derived.Test.YtdadffmagfknoaaBunAM
import Derived.Test.YtdadffmagfknoaaBunAL
namespace Go.Proofs.Ytdadffmagfknoaa
set_option linter.unusedSimpArgs false
set_option linter.unusedVariables false
open Go.RowKit
set_option linter.unusedVariables false

theorem chR_next (n : Nat) (LL : List (List Nat)) (q : Nat) (h : q < LL.length) : (LL.take (q + 1)).flatMap (chStepR n) = (LL.take q).flatMap (chStepR n) ++ chStepR n LL[q] := by
  rw [List.take_succ_eq_append_getElem h, List.flatMap_append]
  simp
theorem chR_len (n : Nat) : ∀ LL : List (List Nat), n ≤ 5 → (LL.flatMap (chStepR n)).length ≤ 5 * LL.length
  | [], _ => by simp
  | L :: LL, h => by
    have := chR_len n LL h
    rw [List.flatMap_cons, List.length_append, List.length_cons]
    have : (chStepR n L).length ≤ 5 := by unfold chStepR; rw [List.length_map, List.length_range']; omega
    omega
theorem chR_snoc (n : Nat) (L : List Nat) (m : Nat) (h : leastR L ≤ m) : (List.range' (leastR L) (m + 1 - leastR L)).map (fun x => L ++ [x]) = (List.range' (leastR L) (m - leastR L)).map (fun x => L ++ [x]) ++ [L ++ [m]] := by
  rw [show m + 1 - leastR L = (m - leastR L) + 1 from by omega, List.range'_1_concat, List.map_append]
  rw [show leastR L + (m - leastR L) = m from by omega]
  rfl
theorem leastR_last (L : List Nat) (k : Nat) (h : L.length = k + 1) : leastR L = L[k] + 1 := by
  have e : L.getLast? = some L[k] := by
    rw [List.getLast?_eq_getElem?, show L.length - 1 = k from by omega, List.getElem?_eq_getElem (by omega)]
  unfold leastR
  rw [e]

set_option maxRecDepth 100000 in
set_option maxHeartbeats 8000000 in
theorem choicesR_any (n many : Nat) (hn : n ≤ 5) (hm : many ≤ 5) (w : World) :
    Calls Try.prog 88 #[.int .i64 n, .int .i64 many] w fun e w' => ∃ v, e = .returned v ∧ ListsAtL w' v (chToR n many) ∧ Ext w w' := by
  have hfine : ∀ k, k ≤ 5 → ∀ L ∈ chToR n k, L.length = k ∧ ∀ x ∈ L, x < n := fun k hk L hL => by
    have h := chR_fine ⟨n, by omega⟩ ⟨k, by omega⟩ L hL
    exact ⟨h.1, h.2.2⟩
  have hfew : ∀ k, k ≤ 5 → (chToR n k).length ≤ 10 := fun k hk => chR_few ⟨n, by omega⟩ ⟨k, by omega⟩
  have Hfine := Lib.hid hfine
  have Hfew := Lib.hid hfew
  clear hfine hfew
  obtain ⟨i0, hi, hz0, hz1, hz2⟩ := info_parts infoInt
  obtain ⟨j0, hj, hy0, hy1, hy2⟩ := info_parts infoIntsL
  go_enter Try.func88, Try.ntmps88
  go_wp2
  go_loopw [5, 6] (fun v i wr => ∃ k : Nat, k ≤ many ∧ i = .int .i64 k ∧ Ext w wr ∧ ListsZL wr v (chToR n k)) (fun _ i _ => many - (intOf i).toNat)
  case atStart =>
    refine ⟨0, Nat.zero_le _, rfl, ext_alloc _ _, some ⟨w.heap.size, 0, none⟩, 1, rfl, Nat.le_refl _, by omega, fun i hi => ?_⟩
    have hi' : i < 1 := hi
    obtain rfl : i = 0 := by omega
    exact ⟨_, _, rfl, .slice none 0 0, by simp [go_sem], IntsAt.nothingL _, fun _ => rfl⟩
  case round =>
    obtain ⟨k, hk, rfl, hx, hLL⟩ := hrel
    obtain ⟨R, hR⟩ : ∃ R : World, R = wr := ⟨_, rfl⟩
    subst hR
    by_cases hlt : k < many
    · have k1 : (k : Int) < (many : Int) := by omega
      have hf := Hfine.out k (by omega)
      have hl10 := Hfew.out k (by omega)
      have hch : chToR n (k + 1) = (chToR n k).flatMap (chStepR n) := rfl
      have hf2 := Hfine.out (k + 1) (by omega)
      rw [hch] at hf2
      obtain ⟨LL, hLLe⟩ : ∃ LL, LL = chToR n k := ⟨_, rfl⟩
      rw [← hLLe] at hLL hf hl10 hch hf2
      have Hch := Lib.hid hch
      have Hf2 := Lib.hid hf2
      clear hch hLLe hf2
      obtain ⟨oa, oc, rfl, -⟩ := hLL.shape
      have Hf := Lib.hid hf
      clear hf
      go_wp2
      go_loopw [7, 8] (fun v i wr => ∃ q : Nat, q ≤ LL.length ∧ i = .int .i64 q ∧ Ext R wr ∧ ListsOwnL wr R.heap.size v ((LL.take q).flatMap (chStepR n))) (fun _ i _ => LL.length - (intOf i).toNat)
      case atStart => exact ⟨0, Nat.zero_le _, rfl, Ext.refl _, ListsOwnL.nil _ _⟩
      case round =>
        obtain ⟨q, hq, rfl, hxr, hown⟩ := hrel
        obtain ⟨R1, hR1⟩ : ∃ R1 : World, R1 = wr := ⟨_, rfl⟩
        subst hR1
        by_cases hql : q < LL.length
        · have k2 : (q : Int) < (LL.length : Int) := by omega
          have hnx := chR_next n LL q hql
          have hplen := chR_len n (LL.take q) hn
          have hplen2 : (LL.take q).length ≤ 10 := by rw [List.length_take]; omega
          have hLf := Hf.out LL[q] (List.getElem_mem hql)
          have hLL0 := hLL
          obtain ⟨_, _, hea, -, -, hh⟩ := hLL0
          obtain ⟨ob, oo, rfl, s, cs, hs, hs0⟩ := hh q hql
          have hea1 := (Value.slice.inj hea).1
          subst hea1
          simp only [Nat.mul_one] at cs
          clear hea hh
          generalize LL[q] = L at *
          generalize (LL.take q).flatMap (chStepR n) = pre at *
          have hpre : pre.length ≤ 50 := by omega
          have Hnx := Lib.hid hnx
          clear hnx hplen hplen2
          have hll : leastR L ≤ n := by
            rcases Nat.eq_zero_or_pos L.length with h0 | h0
            · rw [List.eq_nil_of_length_eq_zero h0]; exact Nat.zero_le _
            · rw [leastR_last L (L.length - 1) (by omega)]
              have := hLf.2 _ (List.getElem_mem (show L.length - 1 < L.length by omega))
              omega
          by_cases hk0 : k = 0
          · have hL0 : L = [] := List.eq_nil_of_length_eq_zero (by rw [hLf.1, hk0])
            obtain rfl := hs0 hL0
            have hl0 : leastR L = 0 := by rw [hL0]; rfl
            have HL0 := Lib.hid hL0
            have Hl0 := Lib.hid hl0
            have hkz : ¬ (0 : Int) < (k : Int) := by omega
            have hkz2 : k = 0 := hk0
            clear hs0 hL0 hl0 hk0
            have c0 := hxr.cell cs
            have z1 := cell_lt c0
            go_wp2
            clear c0 z1
            go_loopw [7, 10] (fun v i wr => ∃ m : Nat, leastR L ≤ m ∧ m ≤ n ∧ i = .int .i64 m ∧ Ext R wr ∧ ListsOwnL wr R.heap.size v (pre ++ (List.range' (leastR L) (m - leastR L)).map (fun x => L ++ [x]))) (fun _ i _ => n - (intOf i).toNat)
            case atStart => exact ⟨leastR L, Nat.le_refl _, hll, by (rw [Hl0.out]; rfl), hxr, by rw [Nat.sub_self]; simpa using hown⟩
            case round =>
              obtain ⟨m, hm1, hm2, rfl, hxr, hown⟩ := hrel
              have c0 := hxr.cell cs
              have hsr := hs.ext hxr
              have z1 := cell_lt c0
              by_cases hmn : m < n
              · have k3 : (m : Int) < (n : Int) := by omega
                have hsn := chR_snoc n L m hm1
                have hcl : (pre ++ (List.range' (leastR L) (m - leastR L)).map (fun x => L ++ [x])).length ≤ 60 := by
                  rw [List.length_append, List.length_map, List.length_range']; omega
                have hsn2 : pre ++ (List.range' (leastR L) (m + 1 - leastR L)).map (fun x => L ++ [x]) = (pre ++ (List.range' (leastR L) (m - leastR L)).map (fun x => L ++ [x])) ++ [L ++ [m]] := by rw [hsn, List.append_assoc]
                have Hsn := Lib.hid hsn2
                generalize pre ++ (List.range' (leastR L) (m - leastR L)).map (fun x => L ++ [x]) = cur at *
                clear hsn hsn2
                obtain ⟨vs, hrow, helem⟩ := hown
                have hszr := hxr.size
                have hvl := hrow.1
                have Hvl := Lib.hid hvl
                have Helem := Lib.hid helem
                clear hvl helem
                have hIL : ∀ x ∈ ints (L ++ [m]), I64 x := fun x hx => by
                  simp only [ints, List.mem_map] at hx
                  obtain ⟨y, hy, rfl⟩ := hx
                  rcases List.mem_append.1 hy with h | h
                  · have := hLf.2 y h
                    unfold I64; omega
                  · rw [List.mem_singleton] at h; subst h; unfold I64; omega
                have HIL := Lib.hid hIL
                have hil : (ints (L ++ [m])).length = (L ++ [m]).length := by simp [ints]
                have Hil := Lib.hid hil
                have hL5 : L.length ≤ 5 := by have := hLf.1; omega
                clear hIL hil
                go_wp2_with (at_builtin; first | (refine wpList_append_own_none rfl _ _ 30 rfl (wr.heap.size) 3 i0 1 Try.underlying30 hi _ _ _ rfl (World.ownsRow_made wr #[] 0 (Nat.le_refl _) (by unfold maxLen; omega) rfl) rfl ?_; have hown1 := World.ownsRow_made (base := wr.heap.size) (e := 3) (size := 1) wr #[] 0 (Nat.le_refl _) (by unfold maxLen; omega) rfl; have x1 : Ext wr (wr.alloc (.cells #[] 3)) := ext_alloc _ _; have x1s := x1.size; generalize wr.alloc (.cells #[] 3) = w1 at *) | (refine wpList_append_own _ rfl _ _ 30 rfl (wr.heap.size) 3 i0 (.int .i64 0) 1 8 Try.underlying30 hi hz0 hz1 hz2 rfl (by decide) _ _ _ rfl (hown1.alloc _) ⟨w1.heap.size, 0, none⟩ 1 1 [.int .i64 m] rfl rfl (cell_one_new _ _ _) (by simp [Value.oneCell']) (by unfold maxLen; omega) (by omega) (by simp; omega) ?_; intro v2 w2 hown2 hgrow2 _; have hl2 : IntsAt w2 v2 (ints (L ++ [m])) := IntsAt.of_own (by simpa [ints, HL0.out] using hown2) HIL.out; have x2 : Ext wr w2 := Ext.grown (x1.alloc _) hgrow2 (fun k hk => (hown1.lt k hk).1); have hx2s := x2.size; have hlt2 := hown2.lt; obtain ⟨sa2, sc2, rfl, -⟩ := hl2.shape; rw [Hil.out] at hl2 hlt2 ⊢; obtain ⟨nl, hnl⟩ : ∃ nl, nl = (L ++ [m]).length := ⟨_, rfl⟩; rw [← hnl] at hl2 hlt2 ⊢; have Hnl := Lib.hid hnl; clear hown2 hgrow2 hnl) | (refine wpList_append_own_at _ rfl _ _ 67 rfl R.heap.size 30 j0 (.slice none 0 0) 1 24 Try.underlying67 hj hy0 hy1 hy2 rfl (by decide) _ _ _ rfl ((Ext.owns hrow x2).alloc _) ⟨w2.heap.size, 0, none⟩ 1 1 [.slice sa2 nl sc2] rfl rfl (cell_one_new _ _ _) (by simp [Value.oneCell']) (by unfold maxLen; omega) (by omega) (by simp; omega) ?_; intro v3 w3 hown3 hgrow3 _ hblk))
                have x3 : Ext R w3 := Ext.grown ((hxr.trans x2).alloc _) hgrow3 fun k hk => (hrow.lt k hk).1
                have hnew := ListsOwnL.push hrow Helem.out x2 ⟨sa2, sc2, (by rw [Hnl.out]), hl2, fun ad e => hlt2 ad.block (by rw [e]; rfl)⟩ hown3 hgrow3 (hblk.elim .inl (fun e => .inr (e.trans (by simp))))
                go_roundw
                case rel => exact ⟨m + 1, by omega, by omega, by go_num, x3, by rw [Hsn.out]; exact hnew⟩
                case measure => simp [intOf]; omega
              · obtain rfl : m = n := by omega
                have Hfin : Hid ((LL.take (q + 1)).flatMap (chStepR m) = pre ++ (List.range' (leastR L) (m - leastR L)).map (fun x => L ++ [x])) := Lib.hid (by rw [Hnx.out]; rfl)
                clear hmn
                go_wp2
                go_roundw
                case rel => first | exact ⟨q + 1, by omega, by go_num, hxr, by rw [Hfin.out]; exact hown⟩ | exact ⟨q + 1, by omega, by go_num, by rw [Hfin.out]; exact hown⟩ | exact ⟨q + 1, by omega, hxr, by rw [Hfin.out]; exact hown⟩
                case measure => simp [intOf]; omega
          · obtain ⟨k', hk'⟩ : ∃ k', k = k' + 1 := ⟨k - 1, by omega⟩
            have hlast := leastR_last L k' (by rw [hLf.1, hk'])
            have hs1 := hs.ext hxr
            obtain ⟨sa0, sc, rfl, hsc1, hsc2⟩ := hs.shape
            obtain ⟨_, _, hea, -, -, hh⟩ := hs1
            have hil0 : (ints L).length = L.length := by simp [ints]
            obtain ⟨sb, so, rfl, sv, -⟩ := hh k' (by rw [hil0, hLf.1]; omega)
            have hea1 := (Value.slice.inj hea).1
            subst hea1
            have ce : (ints L)[k']'(by rw [hil0, hLf.1]; omega) = ((L[k']'(by rw [hLf.1]; omega) : Nat) : Int) := by simp [ints]
            rw [ce] at sv
            simp only [Nat.mul_one] at sv
            have hyn := hLf.2 (L[k']'(by rw [hLf.1]; omega)) (List.getElem_mem _)
            generalize L[k']'(by rw [hLf.1]; omega) = y at *
            rw [hil0] at hs cs hsc1
            obtain ⟨n0, hn0⟩ : ∃ n0, n0 = L.length := ⟨_, rfl⟩
            rw [← hn0] at hs cs hsc1
            have hn05 : n0 ≤ 5 := by rw [hn0, hLf.1]; omega
            have Hn0 := Lib.hid hn0
            have kc : (k : Int) = (k' : Int) + 1 := by omega
            have hgt : (0 : Int) < (k : Int) := by omega
            have wk : IntKind.i64.wrap ((k : Int) - 1) = (k' : Int) := by rw [kc, show (k' : Int) + 1 - 1 = (k' : Int) from by omega]; exact IntWalk.i64_in _ (by omega)
            have wy : IntKind.i64.wrap ((y : Int) + 1) = (y : Int) + 1 := IntWalk.i64_in _ (by omega)
            have hkL : (k' : Int) < (n0 : Int) := by rw [hn0, hLf.1]; omega
            have Hlast := Lib.hid hlast
            have Kc := Lib.hid kc
            have Hk' := Lib.hid hk'
            have c0 := hxr.cell cs
            have z1 := cell_lt c0
            have z2 := cell_lt sv
            clear hs0 hlast kc hk' hea hh ce hil0 hn0
            go_wp2
            clear c0 z1 sv z2
            go_loopw [7, 10] (fun v i wr => ∃ m : Nat, leastR L ≤ m ∧ m ≤ n ∧ i = .int .i64 m ∧ Ext R wr ∧ ListsOwnL wr R.heap.size v (pre ++ (List.range' (leastR L) (m - leastR L)).map (fun x => L ++ [x]))) (fun _ i _ => n - (intOf i).toNat)
            case atStart => exact ⟨leastR L, Nat.le_refl _, hll, by (rw [Hlast.out]; go_num), hxr, by rw [Nat.sub_self]; simpa using hown⟩
            case round =>
              obtain ⟨m, hm1, hm2, rfl, hxr, hown⟩ := hrel
              have c0 := hxr.cell cs
              have hsr := hs.ext hxr
              have z1 := cell_lt c0
              by_cases hmn : m < n
              · have k3 : (m : Int) < (n : Int) := by omega
                have hsn := chR_snoc n L m hm1
                have hcl : (pre ++ (List.range' (leastR L) (m - leastR L)).map (fun x => L ++ [x])).length ≤ 60 := by
                  rw [List.length_append, List.length_map, List.length_range']; omega
                have hsn2 : pre ++ (List.range' (leastR L) (m + 1 - leastR L)).map (fun x => L ++ [x]) = (pre ++ (List.range' (leastR L) (m - leastR L)).map (fun x => L ++ [x])) ++ [L ++ [m]] := by rw [hsn, List.append_assoc]
                have Hsn := Lib.hid hsn2
                generalize pre ++ (List.range' (leastR L) (m - leastR L)).map (fun x => L ++ [x]) = cur at *
                clear hsn hsn2
                obtain ⟨vs, hrow, helem⟩ := hown
                have hszr := hxr.size
                have hvl := hrow.1
                have Hvl := Lib.hid hvl
                have Helem := Lib.hid helem
                clear hvl helem
                have hIL : ∀ x ∈ ints (L ++ [m]), I64 x := fun x hx => by
                  simp only [ints, List.mem_map] at hx
                  obtain ⟨y, hy, rfl⟩ := hx
                  rcases List.mem_append.1 hy with h | h
                  · have := hLf.2 y h
                    unfold I64; omega
                  · rw [List.mem_singleton] at h; subst h; unfold I64; omega
                have HIL := Lib.hid hIL
                have hil : (ints (L ++ [m])).length = (L ++ [m]).length := by simp [ints]
                have Hil := Lib.hid hil
                have hL5 : L.length ≤ 5 := by have := hLf.1; omega
                clear hIL hil
                go_wp2_with (at_builtin; first | (refine wpList_append_own _ rfl _ _ 30 rfl (wr.heap.size) 3 i0 (.int .i64 0) 1 8 Try.underlying30 hi hz0 hz1 hz2 rfl (by decide) _ _ _ rfl (World.ownsRow_made wr #[] 0 (Nat.le_refl _) (by unfold maxLen; omega) rfl) ⟨sb, so, none⟩ n0 sc ((ints L).map (Value.int .i64)) rfl (by have := Hn0.out; simp [ints]; omega) (intsL_news (hsr.ext (ext_alloc _ _))) (intsL_cells _) (by unfold maxLen; omega) (by omega) (by simp) ?_; intro v1 w1 hown1 hgrow1 _; have x1 : Ext wr w1 := Ext.grown (ext_alloc _ _) hgrow1 (fun k hk => Nat.le_of_eq (Option.some.inj (show some wr.heap.size = some k from hk))); have x1s := x1.size) | (refine wpList_append_own _ rfl _ _ 30 rfl (wr.heap.size) 3 i0 (.int .i64 0) 1 8 Try.underlying30 hi hz0 hz1 hz2 rfl (by decide) _ _ _ rfl (hown1.alloc _) ⟨w1.heap.size, 0, none⟩ 1 1 [.int .i64 m] rfl rfl (cell_one_new _ _ _) (by simp [Value.oneCell']) (by unfold maxLen; omega) (by omega) (by simp; omega) ?_; intro v2 w2 hown2 hgrow2 _; have hl2 : IntsAt w2 v2 (ints (L ++ [m])) := IntsAt.of_own (by have h0 := Hn0.out; subst h0; simpa [ints] using hown2) HIL.out; have x2 : Ext wr w2 := Ext.grown (x1.alloc _) hgrow2 (fun k hk => (hown1.lt k hk).1); have hx2s := x2.size; have hlt2 := hown2.lt; obtain ⟨sa2, sc2, rfl, -⟩ := hl2.shape; rw [Hil.out] at hl2 hlt2 ⊢; obtain ⟨nl, hnl⟩ : ∃ nl, nl = (L ++ [m]).length := ⟨_, rfl⟩; rw [← hnl] at hl2 hlt2 ⊢; have Hnl := Lib.hid hnl; clear hown2 hgrow2 hnl) | (refine wpList_append_own_at _ rfl _ _ 67 rfl R.heap.size 30 j0 (.slice none 0 0) 1 24 Try.underlying67 hj hy0 hy1 hy2 rfl (by decide) _ _ _ rfl ((Ext.owns hrow x2).alloc _) ⟨w2.heap.size, 0, none⟩ 1 1 [.slice sa2 nl sc2] rfl rfl (cell_one_new _ _ _) (by simp [Value.oneCell']) (by unfold maxLen; omega) (by omega) (by simp; omega) ?_; intro v3 w3 hown3 hgrow3 _ hblk))
                have x3 : Ext R w3 := Ext.grown ((hxr.trans x2).alloc _) hgrow3 fun k hk => (hrow.lt k hk).1
                have hnew := ListsOwnL.push hrow Helem.out x2 ⟨sa2, sc2, (by rw [Hnl.out]), hl2, fun ad e => hlt2 ad.block (by rw [e]; rfl)⟩ hown3 hgrow3 (hblk.elim .inl (fun e => .inr (e.trans (by simp))))
                go_roundw
                case rel => exact ⟨m + 1, by omega, by omega, by go_num, x3, by rw [Hsn.out]; exact hnew⟩
                case measure => simp [intOf]; omega
              · obtain rfl : m = n := by omega
                have Hfin : Hid ((LL.take (q + 1)).flatMap (chStepR m) = pre ++ (List.range' (leastR L) (m - leastR L)).map (fun x => L ++ [x])) := Lib.hid (by rw [Hnx.out]; rfl)
                clear hmn
                go_wp2
                go_roundw
                case rel => first | exact ⟨q + 1, by omega, by go_num, hxr, by rw [Hfin.out]; exact hown⟩ | exact ⟨q + 1, by omega, by go_num, by rw [Hfin.out]; exact hown⟩ | exact ⟨q + 1, by omega, hxr, by rw [Hfin.out]; exact hown⟩
                case measure => simp [intOf]; omega
        · obtain rfl : q = LL.length := by omega
          rw [List.take_length] at hown
          have hlists := ListsZL.of hown.at_ fun L hL e => by
            have := (Hf2.out L hL).1
            rw [e] at this; simp at this
          rw [← Hch.out] at hlists
          have x3 := hx.trans hxr
          clear hql
          go_wp2
          go_roundw
          case rel => exact ⟨k + 1, by omega, by go_num, x3, hlists⟩
          case measure => simp [intOf]; omega
    · obtain rfl : k = many := by omega
      have hres := hLL.at_
      obtain ⟨oa, oc, rfl, -⟩ := hLL.shape
      clear hlt
      go_wp2
      go_ret
      exact ⟨_, rfl, hres, hx⟩
end Go.Proofs.Ytdadffmagfknoaa

namespace Go.Proofs.Ytdadffmagfknoaa
set_option linter.unusedSimpArgs false
set_option linter.unusedVariables false
open Go.RowKit
set_option linter.unusedVariables false
set_option maxRecDepth 100000

set_option maxHeartbeats 8000000 in
theorem refWrong_any (hv : Value) (h : House) (w : World) (hh : HouseAt w hv h) :
    Calls Try.prog 31 #[hv] w fun e w' => ∃ v, e = .returned (.tuple #[v, .int .i64 (wrongErr h)]) ∧ IntsAt w' v (ints (wrongL h)) ∧ Ext w w' := by
  have hck := fun w1 (hx : Ext w w1) => refCheck8_any hv h w1 (hh.ext hx)
  have htr := fun hV bv but w1 (hx : Ext w w1) hb => refTruths_any hv bv h hV but w1 (hh.ext hx) hb
  obtain ⟨ra, rc, aa, ac, ea, ec, rfl, -⟩ := hh
  have hre : (raCheck h).2.2 = raErr h := rfl
  rw [hre] at hck
  by_cases h0 : raErr h = 0
  rotate_left
  · obtain ⟨e1, e2⟩ := wrong_bad h0
    rw [e1, e2]
    have h0' : (raErr h != 0) = true := by simpa using h0
    generalize raErr h = er at *
    clear h0 e1 e2 htr
    go_enter Try.func31, Try.ntmps31
    go_wp2_with fail
    refine (hck _ (ext_alloc _ _)).mono ?_
    rintro e w1 ⟨rfl, hx⟩
    clear hck
    go_wp2
    go_ret2
    exact ⟨_, rfl, SliceAt.nil, hx.of_alloc⟩
  have hV := validH_of h0
  have hn5 := hV.entries
  have hwe : wrongErr h = if (fewTo (trueP h) (2 ^ h.entries.length)).isSome = true then 0 else 9 := by unfold wrongErr; rw [if_neg (fun g => g h0)]
  have hwl : wrongL h = (fewTo (trueP h) (2 ^ h.entries.length)).getD [] := by unfold wrongL; rw [if_neg (fun g => g h0)]
  have hP := trueP_list h
  have htr2 := htr hV
  rw [h0] at hck
  have hhit := fun (many i : Nat) hm hi h1 h2 hp => few_hit (P := trueP h) (n := h.entries.length) (many := many) (i := i) (by omega) hm hi h1 h2 hp
  have hmiss := fun h1 => few_miss (P := trueP h) (n := h.entries.length) (by omega) h1
  have hcho := fun many (hm : many ≤ 5) w => choicesR_any h.entries.length many (by omega) hm w
  have hfin := fun m (hm : m ≤ 5) => chR_fine ⟨h.entries.length, by omega⟩ ⟨m, by omega⟩
  have hfew := fun m (hm : m ≤ 5) => chR_few ⟨h.entries.length, by omega⟩ ⟨m, by omega⟩
  generalize trueP h = P at *
  generalize wrongErr h = we at *
  generalize wrongL h = wl at *
  simp only at hfin hfew
  have HWE := Lib.hid hwe
  have HWL := Lib.hid hwl
  have HP := Lib.hid hP
  have HTR := Lib.hid htr2
  have HHIT := Lib.hid hhit
  have HMISS := Lib.hid hmiss
  have HCHO := Lib.hid hcho
  have HFEW := Lib.hid hfew
  clear hwe hwl hP htr htr2 hhit hmiss hcho hfin hfew hV h0
  go_enter Try.func31, Try.ntmps31
  go_wp2_with fail
  refine (hck _ (ext_alloc _ _)).mono ?_
  rintro e w1 ⟨rfl, hx⟩
  have x1 : Ext w w1 := hx.of_alloc
  have p0 : w1.cell? ⟨w.heap.size, 0, none⟩ = some (.int .i64 h.days) := hx.cell (by simp [go_sem])
  have p1 : w1.cell? ⟨w.heap.size, 1, none⟩ = some (.slice ra h.rates.length rc) := hx.cell (by simp [go_sem])
  have p2 : w1.cell? ⟨w.heap.size, 2, none⟩ = some (.int .i64 h.step) := hx.cell (by simp [go_sem])
  have p3 : w1.cell? ⟨w.heap.size, 3, none⟩ = some (.slice aa h.agents.length ac) := hx.cell (by simp [go_sem])
  have p4 : w1.cell? ⟨w.heap.size, 4, none⟩ = some (.slice ea h.entries.length ec) := hx.cell (by simp [go_sem])
  clear hx hck
  go_wp2
  go_loopw [7] (fun i wr => ∃ k : Nat, k ≤ h.entries.length + 1 ∧ i = .int .i64 k ∧ Ext w1 wr ∧ Hid (∀ m, m < k → ∀ L ∈ chToR h.entries.length m, P (bitsM L) = false)) (fun i _ => h.entries.length + 1 - (intOf i).toNat)
  case atStart => exact ⟨0, Nat.zero_le _, rfl, Ext.refl _, Lib.hid fun m hm => absurd hm (Nat.not_lt_zero _)⟩
  case round =>
    obtain ⟨k, hk, rfl, hx, hno⟩ := hrel
    have q4 := hx.cell p4
    have z0 := cell_lt q4
    by_cases hlt : k ≤ h.entries.length
    · have k1 : (k : Int) ≤ (h.entries.length : Int) := by omega
      have hch := fun w => HCHO.out k (by omega) w
      have hfew := HFEW.out k (by omega)
      go_wp2_with fail
      refine (hch _).mono ?_
      rintro e w2 ⟨u, rfl, hLL, hx2⟩
      obtain ⟨LL, hLLe⟩ : ∃ LL, LL = chToR h.entries.length k := ⟨_, rfl⟩
      rw [← hLLe] at hLL hfew
      have HLLe := Lib.hid hLLe
      obtain ⟨la, lc, rfl, -⟩ := hLL.shape
      have hxx := hx.trans hx2
      obtain ⟨nn, hnn⟩ : ∃ nn, nn = LL.length := ⟨_, rfl⟩
      rw [← hnn] at hLL hfew ⊢
      have Hnn := Lib.hid hnn
      clear hLLe hch hnn q4 z0 hx hx2
      go_wp2
      go_loopw [9] (fun i wr => ∃ q : Nat, q ≤ nn ∧ i = .int .i64 q ∧ Ext w2 wr ∧ Hid (∀ j (hj : j < LL.length), j < q → P (bitsM LL[j]) = false)) (fun i _ => nn - (intOf i).toNat)
      case atStart => exact ⟨0, Nat.zero_le _, rfl, Ext.refl _, Lib.hid fun j _ hj => absurd hj (Nat.not_lt_zero _)⟩
      case round =>
        obtain ⟨q, hq, rfl, hxr, hnq⟩ := hrel
        by_cases hql : q < nn
        · have k2 : (q : Int) < (nn : Int) := by omega
          obtain ⟨ob, oo, rfl, s, cs, hs⟩ := SliceAt.get hLL (by rw [← Hnn.out]; exact hql)
          rw [Nat.mul_one] at cs
          have hxz := hxx.trans hxr
          have q0 := hxz.cell p0
          have q1 := hxz.cell p1
          have q2 := hxz.cell p2
          have q3 := hxz.cell p3
          have q4 := hxz.cell p4
          have c0 := hxr.cell cs
          have hsr := hs.ext hxr
          have z0 := cell_lt q4
          have z1 := cell_lt c0
          have hpl := HP.out (LL[q]'(by rw [← Hnn.out]; exact hql))
          have htq := fun w3 (hx3 : Ext wr w3) => HTR.out s (ints (LL[q]'(by rw [← Hnn.out]; exact hql))) w3 (x1.trans (hxz.trans hx3)) (hsr.ext hx3)
          generalize truL h (outL (ints (LL[q]'(by rw [← Hnn.out]; exact hql)))) = T at *
          have HPL := Lib.hid hpl
          have HTQ := Lib.hid htq
          have HSR := Lib.hid hsr
          obtain ⟨sa, sc, rfl, -⟩ := hs.shape
          clear hs hsr hpl htq cs
          go_wp2_with fail
          apply Facts.wp_region [.val _, .val _, .val _, .val _, .val _, .fact (fun u w => ListsAtI w u T), .val (.int .i64 T.length), .val _] (by kernel_rfl) (by kernel_rfl) ⟨fun u a c hx h => h.ext hx, trivial⟩ ?main
          case main =>
          iterate 4 (refine ⟨fun w1 hx hh => ?_, ?_⟩; focus (clear hh; have j0 := hx.cell q0; have j1 := hx.cell q1; have j2 := hx.cell q2; have j3 := hx.cell q3; have j4 := hx.cell q4; go_simp; first | exact ⟨Ext.refl _, rfl⟩ | exact Ext.refl _))
          iterate 1 (refine ⟨fun w1 hx hh => ?_, ?_⟩; focus (clear hh; have j0 := hx.cell c0; go_simp; first | exact ⟨Ext.refl _, rfl⟩ | exact Ext.refl _))
          refine ⟨fun w3 hx hh => ?_, ?_⟩
          · clear hh
            have hc := HTQ.out w3 hx
            go_simp
            refine hc.mono ?_
            rintro e w' ⟨u, rfl, hu, hx2⟩
            exact ⟨_, rfl, hx2, hu⟩
          intro u5
          refine ⟨fun w3 hx hh => ?_, ?_⟩
          · have h5 : ListsAtI w3 u5 T := hh 5 _ List.mem_cons_self (by kernel_rfl)
            obtain ⟨ta, tc, rfl, -⟩ := h5.shape
            clear hh h5
            go_simp
            first | exact ⟨Ext.refl _, rfl⟩ | exact Ext.refl _
          iterate 1 (refine ⟨fun w1 hx hh => ?_, ?_⟩; focus (clear hh; skip; go_simp; first | exact ⟨Ext.refl _, rfl⟩ | exact Ext.refl _))
          intro w5 hx5 hh
          clear hh
          have c5 := hx5.cell c0
          have z5 := cell_lt c5
          have hx5r := hxr.trans hx5
          have hx5w := x1.trans (hxz.trans hx5)
          have HC5 := Lib.hid c5
          go_simp
          by_cases hT : T = []
          · have hd : decide (0 < T.length) = false := by rw [hT]; rfl
            have hpf : P (bitsM (LL[q]'(by rw [← Hnn.out]; exact hql))) = false := by rw [HPL.out, hT]; rfl
            have HPF := Lib.hid hpf
            rw [hd]
            clear hT hd hpf q0 q1 q2 q3 q4 z0 z1 c0 c5 z5
            go_wp2
            go_roundw
            case rel => exact ⟨q + 1, by omega, by go_num, hx5r, Lib.hid fun j hj hjq => by
              rcases Nat.lt_or_ge j q with h | h
              · exact hnq.out j hj h
              · obtain rfl : j = q := by omega
                exact HPF.out⟩
            case measure => simp [intOf]; omega
          · have hd : decide (0 < T.length) = true := by have := List.length_pos_iff.2 hT; simpa using this
            have hpf : P (bitsM (LL[q]'(by rw [← Hnn.out]; exact hql))) = true := by rw [HPL.out]; simpa using hT
            have hres := HHIT.out k q hlt (by rw [← HLLe.out, ← Hnn.out]; exact hql) hno.out (fun i' hi' => by
              have := hnq.out i' (by rw [← Hnn.out]; omega) hi'
              simpa only [HLLe.out] using this) (by simpa only [HLLe.out] using hpf)
            have hwe : we = 0 := by rw [HWE.out, hres]; rfl
            have hwl : wl = LL[q]'(by rw [← Hnn.out]; exact hql) := by rw [HWL.out, hres]; simp only [HLLe.out]; rfl
            have HR := Lib.hid hwl
            have hs5 := HSR.out.ext hx5
            have HS5 := Lib.hid hs5
            subst hwe
            rw [hd]
            clear hT hd hpf hres hwl hs5 q0 q1 q2 q3 q4 z0 z1 c0
            go_wp2
            go_ret2
            exact ⟨_, rfl, by rw [HR.out]; exact HS5.out, hx5w⟩
        · obtain rfl : q = nn := by omega
          have hxz := hxx.trans hxr
          have hall : ∀ m, m < k + 1 → ∀ L ∈ chToR h.entries.length m, P (bitsM L) = false := fun m hm L hL => by
            rcases Nat.lt_or_ge m k with h | h
            · exact hno.out m h L hL
            · obtain rfl : m = k := by omega
              rw [← HLLe.out] at hL
              obtain ⟨j, hj, rfl⟩ := List.getElem_of_mem hL
              exact hnq.out j hj (by rw [Hnn.out]; exact hj)
          have HALL := Lib.hid hall
          clear hall
          go_wp2
          go_roundw
          case rel => exact ⟨k + 1, by omega, by go_num, hxz, HALL⟩
          case measure => simp [intOf]; omega
    · obtain rfl : k = h.entries.length + 1 := by omega
      have hres := HMISS.out (fun m hm => hno.out m (by omega))
      have hwe : we = 9 := by rw [HWE.out, hres]; rfl
      have hwl : wl = [] := by rw [HWL.out, hres]; rfl
      have hxw := x1.trans hx
      subst hwe hwl
      clear hres
      go_wp2
      go_ret2
      exact ⟨_, rfl, SliceAt.nil, hxw⟩
end Go.Proofs.Ytdadffmagfknoaa

namespace Go.Proofs.Ytdadffmagfknoaa
set_option linter.unusedSimpArgs false
set_option linter.unusedVariables false
open Go.RowKit
set_option linter.unusedVariables false
set_option maxRecDepth 100000

set_option maxHeartbeats 8000000 in
theorem agrees8_any (hv : Value) (h : House) (n : Int) (hn : I64 n) (w : World) (hh : HouseAt w hv h) :
    Calls Try.prog 5 #[hv, .int .i64 n] w fun e w' => e = .returned (.bool true) ∧ Ext w w' := by
  have c1 := fun w1 (hx : Ext w w1) => agreePub_any hv h n hn w1 (hh.ext hx)
  have c2 := fun w1 (hx : Ext w w1) => refAgree_any hv h n hn w1 (hh.ext hx)
  have c3 := fun w1 (hx : Ext w w1) => wrong_any hv h w1 (hh.ext hx)
  have c4 := fun w1 (hx : Ext w w1) => refWrong_any hv h w1 (hh.ext hx)
  obtain ⟨ra, rc, aa, ac, ea, ec, rfl, -⟩ := hh
  generalize agreeHow h [⟨n, entsM h, 4⟩] n.toNat = ah at *
  generalize agreeErr h [⟨n, entsM h, 4⟩] n.toNat = ae at *
  generalize wrongErr h = we at *
  generalize ints (wrongL h) = wl at *
  go_enter Try.func5, Try.ntmps5
  go_wp2_with fail
  refine (c1 _ (ext_alloc _ _)).mono ?_
  rintro e w1 ⟨rfl, hx⟩
  have x1 : Ext w w1 := hx.of_alloc
  have p0 : w1.cell? ⟨w.heap.size, 0, none⟩ = some (.int .i64 h.days) := hx.cell (by simp [go_sem])
  have p1 : w1.cell? ⟨w.heap.size, 1, none⟩ = some (.slice ra h.rates.length rc) := hx.cell (by simp [go_sem])
  have p2 : w1.cell? ⟨w.heap.size, 2, none⟩ = some (.int .i64 h.step) := hx.cell (by simp [go_sem])
  have p3 : w1.cell? ⟨w.heap.size, 3, none⟩ = some (.slice aa h.agents.length ac) := hx.cell (by simp [go_sem])
  have p4 : w1.cell? ⟨w.heap.size, 4, none⟩ = some (.slice ea h.entries.length ec) := hx.cell (by simp [go_sem])
  have z0 := cell_lt p0
  clear hx c1
  go_wp2_with fail
  refine (c2 _ x1).mono ?_
  rintro e w2 ⟨rfl, hx⟩
  (replace p0 := Ext.cell hx p0; replace p1 := Ext.cell hx p1; replace p2 := Ext.cell hx p2; replace p3 := Ext.cell hx p3; replace p4 := Ext.cell hx p4; replace z0 := cell_lt p0; replace x1 := Ext.trans x1 hx)
  clear hx c2
  go_wp2_with fail
  refine (c3 _ x1).mono ?_
  rintro e w3 ⟨u1, rfl, hu1, hx⟩
  (replace p0 := Ext.cell hx p0; replace p1 := Ext.cell hx p1; replace p2 := Ext.cell hx p2; replace p3 := Ext.cell hx p3; replace p4 := Ext.cell hx p4; replace z0 := cell_lt p0; replace x1 := Ext.trans x1 hx)
  clear hx c3
  obtain ⟨ua, uc, rfl, -⟩ := hu1.shape
  go_wp2_with fail
  refine (c4 _ x1).mono ?_
  rintro e w4 ⟨u2, rfl, hu2, hx⟩
  (replace p0 := Ext.cell hx p0; replace p1 := Ext.cell hx p1; replace p2 := Ext.cell hx p2; replace p3 := Ext.cell hx p3; replace p4 := Ext.cell hx p4; replace z0 := cell_lt p0; replace x1 := Ext.trans x1 hx)
  replace hu1 := hu1.ext hx
  clear hx c4
  obtain ⟨va, vc, rfl, -⟩ := hu2.shape
  go_wp2_with fail
  refine (ints_any _ _ wl wl _ hu1 hu2).mono ?_
  rintro e w5 ⟨rfl, hx⟩
  rw [decide_eq_true rfl]
  (replace p0 := Ext.cell hx p0; replace p1 := Ext.cell hx p1; replace p2 := Ext.cell hx p2; replace p3 := Ext.cell hx p3; replace p4 := Ext.cell hx p4; replace z0 := cell_lt p0; replace x1 := Ext.trans x1 hx)
  clear hx hu1 hu2
  go_wp2_with fail
  (refine (awakeR_any _).mono ?_; rintro e w9 ⟨rfl, hx9⟩; have x9 := Ext.trans x1 hx9; clear hx9)
  go_wp2
  go_ret
  exact ⟨rfl, x9⟩
end Go.Proofs.Ytdadffmagfknoaa
