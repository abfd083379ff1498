/-
  WHAT counts OF THE REFERENCE RETURNS.
  Mends of the reference: the fewest corrections to a form.
  Mend and Nearest of the reference.
  NUMBERS AND BYTES that are handed in, opened.
-/
import Derived.Test.YtcamegaimleomaaGreatBunAQ
import Derived.Test.YtcamegaimleomaaGreatBunAO
import Derived.Test.YtcamegaimleomaaGreatBunAJ
import Derived.Test.YtcamegaimleomaaGreatBunAN
namespace Go.Proofs.YtcamegaimleomaaGreat
set_option linter.unusedSimpArgs false
set_option linter.unusedVariables false
open Go.RowKit
set_option linter.unusedVariables false
set_option linter.unusedSimpArgs false

set_option maxRecDepth 100000 in
set_option maxHeartbeats 8000000 in
theorem counts_any (rv : Value) (rooms : List Part) (w : World) (hr : SpansAt w rv rooms) (hok : ∀ p ∈ rooms, RoomOk p) (h5 : rooms.length ≤ 5) :
    Calls Tryz.prog 102 #[rv] w fun e w' => ∃ u, e = .returned u ∧ ListsAtL w' u (countsM rooms) ∧ Ext w w' := by
  obtain ⟨ra, rc, rfl, -⟩ := hr.shape
  have Hok := Lib.hid hok
  clear hok
  obtain ⟨i0, hi, hz0, hz1, hz2⟩ := info_parts infoInt
  obtain ⟨j0, hj, hy0, hy1, hy2⟩ := info_parts infoIntsL
  go_enter Tryz.func102, Tryz.ntmps102
  go_wp2
  go_loopw [3, 4] (fun v i wr => ∃ k : Nat, k ≤ rooms.length ∧ i = .int .i64 k ∧ Ext w wr ∧ ListsZL wr v (cntTo rooms k)) (fun _ i _ => rooms.length - (intOf i).toNat)
  case atStart =>
    refine ⟨0, Nat.zero_le _, rfl, ext_alloc _ _, some ⟨w.heap.size, 0, none⟩, 1, rfl, Nat.le_refl _, by omega, fun i hi => ?_⟩
    have hi' : i < 1 := hi
    obtain rfl : i = 0 := by omega
    exact ⟨_, _, rfl, .slice none 0 0, by simp [go_sem], IntsAt.nothingL _, fun _ => rfl⟩
  case round =>
    obtain ⟨k, hk, rfl, hx, hLL⟩ := hrel
    obtain ⟨R, hR⟩ : ∃ R : World, R = wr := ⟨_, rfl⟩
    subst hR
    by_cases hlt : k < rooms.length
    · have k1 : (k : Int) < (rooms.length : Int) := by omega
      have hf := cntTo_fine Hok.out k
      have hll := cntTo_len Hok.out k
      have h4k : 4 ^ k ≤ 4 ^ 4 := Nat.pow_le_pow_right (by decide) (by omega)
      have hch : cntTo rooms (k + 1) = (cntTo rooms k).flatMap (cntStep (rooms.getD k noPart)) := rfl
      have hf2 := cntTo_fine Hok.out (k + 1)
      rw [hch] at hf2
      have hpo := getD_ok Hok.out k
      have hpe : rooms.getD k noPart = rooms[k] := by rw [List.getD_eq_getElem?_getD, List.getElem?_eq_getElem hlt]; rfl
      obtain ⟨rb, ro, rfl, d0, d1, -⟩ := SliceAt.get (hr.ext hx) hlt
      rw [← hpe] at d0 d1
      obtain ⟨p, hp⟩ : ∃ p, p = rooms.getD k noPart := ⟨_, rfl⟩
      rw [← hp] at hch hf2 hpo d0 d1
      obtain ⟨o1, o2, o3⟩ := hpo
      obtain ⟨a, ha⟩ : ∃ a : Nat, p.lo = a := ⟨p.lo.toNat, by omega⟩
      obtain ⟨b, hb⟩ : ∃ b : Nat, p.hi = b := ⟨p.hi.toNat, by omega⟩
      rw [ha] at d0
      rw [hb] at d1
      have hab : a ≤ b := by omega
      have hb3 : b ≤ 3 := by omega
      have hstp : ∀ L, cntStep p L = cntBelow a (b + 1) L := fun L => by unfold cntStep cntBelow; rw [ha, hb]; rfl
      obtain ⟨LL, hLLe⟩ : ∃ LL, LL = cntTo rooms k := ⟨_, rfl⟩
      rw [← hLLe] at hLL hf hll hch hf2
      have hl256 : LL.length ≤ 256 := by omega
      have hfl : ∀ q, ((LL.take q).flatMap (cntStep p)).length ≤ 4 * 256 := fun q => by
        have h1 := cntFlat_len (p := p) ⟨o1, o2, o3⟩ (LL.take q)
        have h2 : (LL.take q).length ≤ LL.length := by rw [List.length_take]; omega
        omega
      have Hfl := Lib.hid hfl
      have Hch := Lib.hid hch
      have Hf2 := Lib.hid hf2
      have Hstp := Lib.hid hstp
      clear hch hLLe hf2 hpe hp o1 o2 o3 ha hb hstp hll h4k hfl
      obtain ⟨oa, oc, rfl, -⟩ := hLL.shape
      have Hf := Lib.hid hf
      clear hf
      go_wp2
      go_loopw [5, 6] (fun v i wr => ∃ q : Nat, q ≤ LL.length ∧ i = .int .i64 q ∧ Ext R wr ∧ ListsOwnL wr R.heap.size v ((LL.take q).flatMap (cntStep p))) (fun _ i _ => LL.length - (intOf i).toNat)
      case atStart => exact ⟨0, Nat.zero_le _, rfl, Ext.refl _, ListsOwnL.nil _ _⟩
      case round =>
        obtain ⟨q, hq, rfl, hxr, hown⟩ := hrel
        obtain ⟨R1, hR1⟩ : ∃ R1 : World, R1 = wr := ⟨_, rfl⟩
        subst hR1
        have e0 := hxr.cell d0
        have y0 := cell_lt e0
        by_cases hql : q < LL.length
        · have k2 : (q : Int) < (LL.length : Int) := by omega
          have hnx := cnt_next p LL q hql
          rw [Hstp.out] at hnx
          have hplen := Hfl.out q
          have hLf := Hf.out LL[q] (List.getElem_mem hql)
          have hLL0 := hLL
          obtain ⟨_, _, hea, -, -, hh⟩ := hLL0
          obtain ⟨ob, oo, rfl, s, cs, hs, hs0⟩ := hh q hql
          have hea1 := (Value.slice.inj hea).1
          subst hea1
          simp only [Nat.mul_one] at cs
          clear hea hh
          generalize LL[q] = L at *
          generalize (LL.take q).flatMap (cntStep p) = pre at *
          have Hnx := Lib.hid hnx
          clear hnx
          go_wp2
          clear e0 y0
          go_loopw [5, 7] (fun v i wr => ∃ m : Nat, a ≤ m ∧ m ≤ b + 1 ∧ i = .int .i64 m ∧ Ext R wr ∧ ListsOwnL wr R.heap.size v (pre ++ cntBelow a m L)) (fun _ i _ => b + 1 - (intOf i).toNat)
          case atStart => exact ⟨a, Nat.le_refl _, by omega, rfl, hxr, by unfold cntBelow; rw [Nat.sub_self]; simpa using hown⟩
          case round =>
            obtain ⟨m, hm1, hm2, rfl, hxr, hown⟩ := hrel
            have c0 := hxr.cell cs
            have hsr := hs.ext hxr
            have z1 := cell_lt c0
            have e1 := hxr.cell d1
            have y1 := cell_lt e1
            by_cases hmn : m ≤ b
            · have k3 : (m : Int) ≤ (b : Int) := by omega
              have hsn := cntBelow_snoc a m L hm1
              have hcl : (pre ++ cntBelow a m L).length ≤ 1100 := by
                rw [List.length_append, cntBelow_len]; omega
              have hsn2 : pre ++ cntBelow a (m + 1) L = (pre ++ cntBelow a m L) ++ [L ++ [m]] := by rw [hsn, List.append_assoc]
              have Hsn := Lib.hid hsn2
              generalize pre ++ cntBelow a m L = cur at *
              clear hsn hsn2
              obtain ⟨vs, hrow, helem⟩ := hown
              have hszr := hxr.size
              have hvl := hrow.1
              have Hvl := Lib.hid hvl
              have Helem := Lib.hid helem
              clear hvl helem
              have hIL : ∀ x ∈ ints (L ++ [m]), I64 x := fun x hx => by
                simp only [ints, List.mem_map] at hx
                obtain ⟨y, hy, rfl⟩ := hx
                rcases List.mem_append.1 hy with h | h
                · have := hLf.2 y h
                  unfold I64; omega
                · rw [List.mem_singleton] at h; subst h; unfold I64; omega
              have HIL := Lib.hid hIL
              have hil : (ints (L ++ [m])).length = (L ++ [m]).length := by simp [ints]
              have Hil := Lib.hid hil
              have hL5 : L.length ≤ 5 := by have := hLf.1; omega
              clear hIL hil
              by_cases hL0 : L = []
              · obtain rfl := hs0 hL0
                have HL0 := Lib.hid hL0
                clear hs0 hL0
                go_wp2_with (at_builtin; first | (refine wpList_append_own_none rfl _ _ 26 rfl (wr.heap.size) 3 i0 1 Tryz.underlying26 hi _ _ _ rfl (World.ownsRow_made wr #[] 0 (Nat.le_refl _) (by unfold maxLen; omega) rfl) rfl ?_; have hown1 := World.ownsRow_made (base := wr.heap.size) (e := 3) (size := 1) wr #[] 0 (Nat.le_refl _) (by unfold maxLen; omega) rfl; have x1 : Ext wr (wr.alloc (.cells #[] 3)) := ext_alloc _ _; have x1s := x1.size; generalize wr.alloc (.cells #[] 3) = w1 at *) | (refine wpList_append_own _ rfl _ _ 26 rfl (wr.heap.size) 3 i0 (.int .i64 0) 1 8 Tryz.underlying26 hi hz0 hz1 hz2 rfl (by decide) _ _ _ rfl (hown1.alloc _) ⟨w1.heap.size, 0, none⟩ 1 1 [.int .i64 m] rfl rfl (cell_one_new _ _ _) (by simp [Value.oneCell']) (by unfold maxLen; omega) (by omega) (by simp; omega) ?_; intro v2 w2 hown2 hgrow2 _; have hl2 : IntsAt w2 v2 (ints (L ++ [m])) := IntsAt.of_own (by simpa [ints, HL0.out] using hown2) HIL.out; have x2 : Ext wr w2 := Ext.grown (x1.alloc _) hgrow2 (fun k hk => (hown1.lt k hk).1); have hx2s := x2.size; have hlt2 := hown2.lt; obtain ⟨sa2, sc2, rfl, -⟩ := hl2.shape; rw [Hil.out] at hl2 hlt2 ⊢; obtain ⟨nl, hnl⟩ : ∃ nl, nl = (L ++ [m]).length := ⟨_, rfl⟩; rw [← hnl] at hl2 hlt2 ⊢; have Hnl := Lib.hid hnl; clear hown2 hgrow2 hnl) | (refine wpList_append_own_at _ rfl _ _ 176 rfl R.heap.size 26 j0 (.slice none 0 0) 1 24 Tryz.underlying176 hj hy0 hy1 hy2 rfl (by decide) _ _ _ rfl ((Ext.owns hrow x2).alloc _) ⟨w2.heap.size, 0, none⟩ 1 1 [.slice sa2 nl sc2] rfl rfl (cell_one_new _ _ _) (by simp [Value.oneCell']) (by unfold maxLen; omega) (by omega) (by simp; omega) ?_; intro v3 w3 hown3 hgrow3 _ hblk))
                have x3 : Ext R w3 := Ext.grown ((hxr.trans x2).alloc _) hgrow3 fun k hk => (hrow.lt k hk).1
                have hnew := ListsOwnL.push hrow Helem.out x2 ⟨sa2, sc2, (by rw [Hnl.out]), hl2, fun ad e => hlt2 ad.block (by rw [e]; rfl)⟩ hown3 hgrow3 (hblk.elim .inl (fun e => .inr (e.trans (by simp))))
                go_roundw
                case rel => exact ⟨m + 1, by omega, by omega, by go_num, x3, by rw [Hsn.out]; exact hnew⟩
                case measure => simp [intOf]; omega
              · have hil0 : (ints L).length = L.length := by simp [ints]
                have hL1 : 0 < L.length := List.length_pos_iff.2 hL0
                obtain ⟨sa0, sc, rfl, hsc1, hsc2⟩ := hs.shape
                obtain ⟨sb, so, rfl, -⟩ := SliceAt.get hsr (by rw [hil0]; exact hL1)
                rw [hil0] at hs cs hsc1 hsr c0
                obtain ⟨n0, hn0⟩ : ∃ n0, n0 = L.length := ⟨_, rfl⟩
                rw [← hn0] at hs cs hsc1 hsr c0
                have hn05 : n0 ≤ 5 := by omega
                have Hn0 := Lib.hid hn0
                clear hs0 hil0 hn0 hL0
                go_wp2_with (at_builtin; first | (refine wpList_append_own _ rfl _ _ 26 rfl (wr.heap.size) 3 i0 (.int .i64 0) 1 8 Tryz.underlying26 hi hz0 hz1 hz2 rfl (by decide) _ _ _ rfl (World.ownsRow_made wr #[] 0 (Nat.le_refl _) (by unfold maxLen; omega) rfl) ⟨sb, so, none⟩ n0 sc ((ints L).map (Value.int .i64)) rfl (by have := Hn0.out; simp [ints]; omega) (intsL_news (hsr.ext (ext_alloc _ _))) (intsL_cells _) (by unfold maxLen; omega) (by omega) (by simp) ?_; intro v1 w1 hown1 hgrow1 _; have x1 : Ext wr w1 := Ext.grown (ext_alloc _ _) hgrow1 (fun k hk => Nat.le_of_eq (Option.some.inj (show some wr.heap.size = some k from hk))); have x1s := x1.size) | (refine wpList_append_own _ rfl _ _ 26 rfl (wr.heap.size) 3 i0 (.int .i64 0) 1 8 Tryz.underlying26 hi hz0 hz1 hz2 rfl (by decide) _ _ _ rfl (hown1.alloc _) ⟨w1.heap.size, 0, none⟩ 1 1 [.int .i64 m] rfl rfl (cell_one_new _ _ _) (by simp [Value.oneCell']) (by unfold maxLen; omega) (by omega) (by simp; omega) ?_; intro v2 w2 hown2 hgrow2 _; have hl2 : IntsAt w2 v2 (ints (L ++ [m])) := IntsAt.of_own (by have h0 := Hn0.out; subst h0; simpa [ints] using hown2) HIL.out; have x2 : Ext wr w2 := Ext.grown (x1.alloc _) hgrow2 (fun k hk => (hown1.lt k hk).1); have hx2s := x2.size; have hlt2 := hown2.lt; obtain ⟨sa2, sc2, rfl, -⟩ := hl2.shape; rw [Hil.out] at hl2 hlt2 ⊢; obtain ⟨nl, hnl⟩ : ∃ nl, nl = (L ++ [m]).length := ⟨_, rfl⟩; rw [← hnl] at hl2 hlt2 ⊢; have Hnl := Lib.hid hnl; clear hown2 hgrow2 hnl) | (refine wpList_append_own_at _ rfl _ _ 176 rfl R.heap.size 26 j0 (.slice none 0 0) 1 24 Tryz.underlying176 hj hy0 hy1 hy2 rfl (by decide) _ _ _ rfl ((Ext.owns hrow x2).alloc _) ⟨w2.heap.size, 0, none⟩ 1 1 [.slice sa2 nl sc2] rfl rfl (cell_one_new _ _ _) (by simp [Value.oneCell']) (by unfold maxLen; omega) (by omega) (by simp; omega) ?_; intro v3 w3 hown3 hgrow3 _ hblk))
                have x3 : Ext R w3 := Ext.grown ((hxr.trans x2).alloc _) hgrow3 fun k hk => (hrow.lt k hk).1
                have hnew := ListsOwnL.push hrow Helem.out x2 ⟨sa2, sc2, (by rw [Hnl.out]), hl2, fun ad e => hlt2 ad.block (by rw [e]; rfl)⟩ hown3 hgrow3 (hblk.elim .inl (fun e => .inr (e.trans (by simp))))
                go_roundw
                case rel => exact ⟨m + 1, by omega, by omega, by go_num, x3, by rw [Hsn.out]; exact hnew⟩
                case measure => simp [intOf]; omega
            · obtain rfl : m = b + 1 := by omega
              have k3 : ¬ ((b : Int) + 1 ≤ (b : Int)) := by omega
              have Hfin : Hid ((LL.take (q + 1)).flatMap (cntStep p) = pre ++ cntBelow a (b + 1) L) := Lib.hid Hnx.out
              clear hmn
              go_wp2
              go_roundw
              case rel => exact ⟨q + 1, by omega, by go_num, hxr, by rw [Hfin.out]; exact hown⟩
              case measure => simp [intOf]; omega
        · obtain rfl : q = LL.length := by omega
          rw [List.take_length] at hown
          have hlists := ListsZL.of hown.at_ fun L hL e => by
            have := (Hf2.out L hL).1
            rw [e] at this; simp at this
          rw [← Hch.out] at hlists
          have x3 := hx.trans hxr
          clear hql e0 y0
          go_wp2
          go_roundw
          case rel => exact ⟨k + 1, by omega, by go_num, x3, hlists⟩
          case measure => simp [intOf]; omega
    · obtain rfl : k = rooms.length := by omega
      have hres := hLL.at_
      obtain ⟨oa, oc, rfl, -⟩ := hLL.shape
      clear hlt
      go_wp2
      go_ret
      exact ⟨_, rfl, hres, hx⟩
end Go.Proofs.YtcamegaimleomaaGreat

namespace Go.Proofs.YtcamegaimleomaaGreat
set_option linter.unusedSimpArgs false
set_option linter.unusedVariables false
open Go.RowKit
set_option linter.unusedVariables false
set_option linter.unusedSimpArgs false

theorem shape_len : ∀ (ps : List Part) (ns : List Nat), (∀ p ∈ ps, p.words.length ≤ 3) → (∀ n ∈ ns, n ≤ 3) → (shapeR ps ns).length ≤ 3 * ps.length
  | [], ns, _, _ => by simp [shapeR, builtR]
  | p :: ps, ns, h, hn => by
    have hq := fun q hq => h q (List.mem_cons_of_mem _ hq)
    unfold shapeR
    rw [builtR]
    cases roomyM p
    · have ih := shape_len ps ns hq hn
      have := h p List.mem_cons_self
      unfold shapeR at ih
      simp only [Bool.false_eq_true, if_false, List.length_append, List.length_cons]
      omega
    · simp only [if_true, List.length_append, List.length_cons]
      cases ns with
      | nil =>
        have ih := shape_len ps [] hq (by simp)
        unfold shapeR at ih
        simp only [List.map_nil, List.headD_nil, List.tail_nil, List.length_nil] at ih ⊢
        omega
      | cons n ns =>
        have ih := shape_len ps ns hq fun m hm => hn m (List.mem_cons_of_mem _ hm)
        have := hn n List.mem_cons_self
        unfold shapeR at ih
        simp only [List.map_cons, List.headD_cons, List.tail_cons]
        have e : (blank n).length = n := by simp [blank]
        omega
def StrV (l : List ByteArray) (u : Value) (w : World) : Prop := StrsAt w u l
set_option maxRecDepth 100000 in
set_option maxHeartbeats 4000000 in
theorem mends_any (fv lv : Value) (f : Form) (l : List ByteArray) (w : World) (hV : ValidForm f) (hf : FormV w fv f) (hl : StrsAt w lv l) (h15 : l.length ≤ 15) :
    Calls Tryz.prog 63 #[fv, lv] w fun e w' => e = .returned (.int .i64 ((costM l (formSlotsM f.parts)).2 : Nat)) ∧ Ext w w' := by
  have hf0 := hf
  obtain ⟨pv, rfl, hns, hp⟩ := hf
  obtain ⟨pa, pc, rfl, -⟩ := hp.shape
  obtain ⟨la, lc, rfl, -⟩ := hl.shape
  have h5 := hV.n
  have hro := rooms_ok hV.parts
  have hr5 : (roomsM f.parts).length ≤ 5 := Nat.le_trans (List.length_filter_le _ _) h5
  have hcs := cost_shapes hV.parts l
  have hfine := cntTo_fine hro (roomsM f.parts).length
  have hclen := cntTo_len hro (roomsM f.parts).length
  have hpow : 4 ^ (roomsM f.parts).length ≤ 4 ^ 5 := Nat.pow_le_pow_right (by decide) hr5
  have hcne := List.length_pos_iff.2 (cntTo_ne hro (roomsM f.parts).length)
  change 0 < (countsM (roomsM f.parts)).length at hcne
  change (countsM (roomsM f.parts)).length ≤ _ at hclen
  have hsh : ∀ L ∈ countsM (roomsM f.parts), (roomsM f.parts).length = L.length ∧ (∀ x ∈ L, x ≤ 3) ∧ (shapeR f.parts L).length ≤ 15 := fun L hL => by
    have h := hfine L hL
    refine ⟨h.1.symm, h.2, ?_⟩
    have := shape_len f.parts L (fun p hp => (hV.parts p hp).n) h.2
    omega
  obtain ⟨CC, hCC⟩ : ∃ CC, CC = countsM (roomsM f.parts) := ⟨_, rfl⟩
  rw [← hCC] at hcs hcne hclen hsh
  have hcnt := fun v w' (h : SpansAt w' v (roomsM f.parts)) => counts_any v (roomsM f.parts) w' h hro hr5
  rw [← hCC] at hcnt
  obtain ⟨g, hg⟩ : ∃ g : Nat → Nat, g = fun j => lsM l (shapeR f.parts (CC.getD j [])) := ⟨_, rfl⟩
  rw [← hg] at hcs
  have hgj : ∀ j (hj : j < CC.length), g j = lsM l (shapeR f.parts CC[j]) := fun j hj => by rw [hg]; show lsM l (shapeR f.parts (CC.getD j [])) = _; rw [List.getD_eq_getElem?_getD, List.getElem?_eq_getElem hj]; rfl
  have hgb : ∀ j, j < CC.length → g j ≤ 30 := fun j hj => by
    have h1 := ls_le l (shapeR f.parts CC[j])
    have h2 := (hsh _ (List.getElem_mem hj)).2.2
    rw [hgj j hj]; omega
  have hbb : ∀ k, 0 < k → k ≤ CC.length → bestF g k ≤ 30 := fun k h1 h2 => by
    obtain ⟨j, hj, e⟩ := bestF_is g k h1
    rw [e]; exact hgb j (by omega)
  rw [hcs]
  have hcl : CC.length ≤ 1024 := Nat.le_trans hclen hpow
  have Hsh := Lib.hid hsh
  have Hgj := Lib.hid hgj
  have Hgb := Lib.hid hgb
  have Hbb := Lib.hid hbb
  clear hfine hCC hg hcs hsh hgj hgb hbb hpow hclen
  go_enter Tryz.func63, Tryz.ntmps63
  go_wp2_with fail
  obtain ⟨W, hW⟩ : ∃ W, W = w.alloc (.cells #[.string f.name, .slice pa f.parts.length pc] 55) := ⟨_, rfl⟩
  have xW : Ext w W := by rw [hW]; exact ext_alloc _ _
  have b0 : W.cell? ⟨w.heap.size, 0, none⟩ = some (.string f.name) := by rw [hW]; simp [go_sem]
  have b1 : W.cell? ⟨w.heap.size, 1, none⟩ = some (.slice pa f.parts.length pc) := by rw [hW]; simp [go_sem]
  rw [← hW]
  clear hW
  replace hf0 := hf0.ext xW
  replace hl := hl.ext xW
  refine (refRooms_any _ f h5 _ hf0).mono ?_
  rintro e w1 ⟨u1, rfl, hu1, hx⟩
  obtain ⟨ra, rc, rfl, -⟩ := hu1.shape
  replace b0 := hx.cell b0
  replace b1 := hx.cell b1
  replace xW := xW.trans hx
  replace hf0 := hf0.ext hx
  replace hl := hl.ext hx
  have z1 := cell_lt b0
  clear hx
  go_wp2_with fail
  refine (hcnt _ _ hu1).mono ?_
  rintro e w2 ⟨u2, rfl, hall, hx⟩
  replace b0 := hx.cell b0
  replace b1 := hx.cell b1
  replace xW := xW.trans hx
  replace hf0 := hf0.ext hx
  replace hl := hl.ext hx
  replace z1 := cell_lt b0
  obtain ⟨oa, oc, rfl, -⟩ := hall.shape
  clear hx hu1 hcnt hp
  have hel : ∀ j (hj : j < CC.length), ∃ ob oo s, oa = some ⟨ob, oo, none⟩ ∧ w2.cell? ⟨ob, oo + j, none⟩ = some s ∧ IntsAt w2 s (ints CC[j]) := fun j hj => by
    obtain ⟨ob, oo, e, s, h1, h2⟩ := hall.get hj
    exact ⟨ob, oo, s, e, by rw [Nat.mul_one] at h1; exact h1, h2⟩
  have Hel := Lib.hid hel
  obtain ⟨ob, oo, s0, rfl, c0, i0⟩ := hel 0 hcne
  rw [Nat.add_zero] at c0
  obtain ⟨hs1, hs2, hs3⟩ := Hsh.out CC[0] (List.getElem_mem hcne)
  have hg0 := Hgj.out 0 hcne
  generalize CC[0] = L0 at *
  have l0 : (0 : Int) < (CC.length : Int) := by omega
  have shp := fun w' (hx' : Ext w2 w') => shape_any (.agg #[.string f.name, .slice pa f.parts.length pc]) s0 f L0 w' hV (hf0.ext hx') (i0.ext hx') hs1 hs2
  have Shp := Lib.hid shp
  have HV := Lib.hid hV
  have Hs2 := Lib.hid hs2
  obtain ⟨S0, hS0⟩ : ∃ S0, shapeR f.parts L0 = S0 := ⟨_, rfl⟩
  rw [hS0] at hs3 hg0 Shp
  have Hg0 := Lib.hid hg0
  clear shp hs2 hel hS0 hg0
  go_wp2_with fail
  apply Facts.wp_region [.val _, .val _, .val _, .val _, .val s0, .fact (StrV S0), .val (.int .i64 (g 0 : Nat)), .val _] (by kernel_rfl) (by kernel_rfl) ⟨fun u a c hx h => StrsAt.ext h hx, trivial⟩ ?main
  case main =>
    iterate 5 (refine ⟨fun w1 hx hh => ?_, ?_⟩; focus (clear hh; have e0 := hx.cell b0; have e1 := hx.cell b1; have e2 := hx.cell c0; go_simp; first | exact ⟨Ext.refl _, rfl⟩ | exact Ext.refl _))
    refine ⟨fun w3 hx hh => ?_, ?_⟩
    · clear hh
      go_simp
      refine (Shp.out _ hx).mono ?_
      rintro e w' ⟨u, rfl, hu, hx'⟩
      exact ⟨_, rfl, hx', hu⟩
    intro u5
    refine ⟨fun w3 hx hh => ?_, ?_⟩
    · have h5 : StrV S0 u5 w3 := hh 5 _ List.mem_cons_self (by kernel_rfl)
      clear hh
      go_simp
      refine (far_any _ _ l S0 _ (hl.ext hx) h5 (by omega) (by omega)).mono ?_
      rw [← Hg0.out]
      rintro e w' ⟨rfl, hx'⟩
      exact ⟨_, rfl, hx', rfl⟩
    (refine ⟨fun w1 hx hh => ?_, ?_⟩; focus (clear hh; skip; go_simp; first | exact ⟨Ext.refl _, rfl⟩ | exact Ext.refl _))
    intro w3 hx hh
    clear hh
    go_simp
    replace b0 := hx.cell b0
    replace b1 := hx.cell b1
    replace xW := xW.trans hx
    replace hf0 := hf0.ext hx
    replace hl := hl.ext hx
    replace z1 := cell_lt b0
    have HE : ∀ j (hj : j < CC.length), ∃ s, w3.cell? ⟨ob, oo + j, none⟩ = some s ∧ IntsAt w3 s (ints CC[j]) := fun j hj => by
      obtain ⟨ob', oo', s, e, h1, h2⟩ := Hel.out j hj
      obtain ⟨rfl, rfl, -⟩ := Addr.mk.inj (Option.some.inj e)
      exact ⟨s, hx.cell h1, h2.ext hx⟩
    have HE' := Lib.hid HE
    clear hall c0 i0 hs1 hs3 l0 hx Shp HE
    go_wp2_with fail
    go_loopw [6, 7] (fun bv iv wr => ∃ i : Nat, 1 ≤ i ∧ i ≤ CC.length ∧ iv = .int .i64 i ∧ bv = .int .i64 (bestF g i : Nat) ∧ Ext w3 wr) (fun _ i _ => CC.length - (intOf i).toNat)
    case atStart => exact ⟨1, Nat.le_refl _, hcne, rfl, by rw [bestF_one], Ext.refl _⟩
    case round =>
      obtain ⟨i, hi1, hi2, rfl, rfl, hxr⟩ := hrel
      by_cases hlt : i < CC.length
      · have l1 : (i : Int) < (CC.length : Int) := by omega
        obtain ⟨si, ci, ii⟩ := HE'.out i hlt
        obtain ⟨hs1, hs2, hs3⟩ := Hsh.out CC[i] (List.getElem_mem hlt)
        have hgi := Hgj.out i hlt
        have hbi := Hbb.out i hi1 hi2
        have hgib := Hgb.out i hlt
        have hbs : bestF g (i + 1) = min (bestF g i) (g i) := rfl
        generalize CC[i] = Li at *
        have shp := fun w' (hx' : Ext wr w') => shape_any (.agg #[.string f.name, .slice pa f.parts.length pc]) si f Li w' HV.out ((hf0.ext hxr).ext hx') ((ii.ext hxr).ext hx') hs1 hs2
        have Shp := Lib.hid shp
        obtain ⟨Si, hSi⟩ : ∃ Si, shapeR f.parts Li = Si := ⟨_, rfl⟩
        rw [hSi] at hs3 hgi Shp
        have a0 := hxr.cell b0
        have a1 := hxr.cell b1
        have ci' := hxr.cell ci
        have hl' := hl.ext hxr
        have zr := cell_lt a0
        obtain ⟨bi, hbi'⟩ : ∃ bi, bestF g i = bi := ⟨_, rfl⟩
        obtain ⟨bn, hbn⟩ : ∃ bn, bestF g (i + 1) = bn := ⟨_, rfl⟩
        rw [hbi'] at hbs hbi ⊢
        rw [hbn] at hbs
        have Hbn := Lib.hid hbn
        have Hbs := Lib.hid hbs
        have Hgi := Lib.hid hgi
        clear shp hs2 hSi hbn hbs hbi' ci ii hgi
        go_wp2_with fail
        apply Facts.wp_region [.val _, .val _, .val _, .val _, .val _, .val _, .val si, .fact (StrV Si), .val (.int .i64 (g i : Nat)), .val (.int .i64 (bn : Nat)), .val _] (by kernel_rfl) (by kernel_rfl) ⟨fun u a c hx h => StrsAt.ext h hx, trivial⟩ ?main
        case main =>
          iterate 7 (refine ⟨fun w1 hx hh => ?_, ?_⟩; focus (clear hh; have e0 := hx.cell a0; have e1 := hx.cell a1; have e2 := hx.cell ci'; go_simp; first | exact ⟨Ext.refl _, rfl⟩ | exact Ext.refl _))
          refine ⟨fun w4 hx hh => ?_, ?_⟩
          · clear hh
            go_simp
            refine (Shp.out _ hx).mono ?_
            rintro e w' ⟨u, rfl, hu, hx'⟩
            exact ⟨_, rfl, hx', hu⟩
          intro u7'
          refine ⟨fun w4 hx hh => ?_, ?_⟩
          · have h5 : StrV Si u7' w4 := hh 7 _ List.mem_cons_self (by kernel_rfl)
            clear hh
            go_simp
            refine (far_any _ _ l Si _ (hl'.ext hx) h5 (by omega) (by omega)).mono ?_
            rw [← Hgi.out]
            rintro e w' ⟨rfl, hx'⟩
            exact ⟨_, rfl, hx', rfl⟩
          refine ⟨fun w4 hx hh => ?_, ?_⟩
          · clear hh hx
            go_simp
            exact ⟨Ext.refl _, by have := Hbs.out; congr 1; first | omega | (split <;> omega)⟩
          (refine ⟨fun w1 hx hh => ?_, ?_⟩; focus (clear hh; skip; go_simp; first | exact ⟨Ext.refl _, rfl⟩ | exact Ext.refl _))
          intro w4 hx hh
          clear hh
          go_simp
          go_wp2
          go_roundw
          case rel => exact ⟨i + 1, by omega, by omega, by go_num, by rw [Hbn.out], hxr.trans hx⟩
          case measure => simp [intOf]; omega
      · obtain rfl : i = CC.length := by omega
        go_wp2
        go_ret
        exact ⟨rfl, xW.trans hxr⟩
end Go.Proofs.YtcamegaimleomaaGreat

namespace Go.Proofs.YtcamegaimleomaaGreat
set_option linter.unusedSimpArgs false
set_option linter.unusedVariables false
open Go.RowKit
set_option linter.unusedVariables false
set_option linter.unusedSimpArgs false

/-- the box of a shelf -/
theorem box_one {w : World} {fa : Option Addr} {fc : Nat} {s : Shelf} (hb : ShelfAt w (.agg #[.int .i64 s.width, .slice fa s.forms.length fc]) s) :
    ∃ W, W = w.alloc (.cells #[.int .i64 s.width, .slice fa s.forms.length fc] 24) ∧ ShelfAt W (.agg #[.int .i64 s.width, .slice fa s.forms.length fc]) s ∧ W.cell? ⟨w.heap.size, 0, none⟩ = some (.int .i64 s.width) ∧ W.cell? ⟨w.heap.size, 1, none⟩ = some (.slice fa s.forms.length fc) ∧ Ext w W :=
  ⟨_, rfl, hb.ext (ext_alloc _ _), by simp [go_sem], by simp [go_sem], ext_alloc _ _⟩
set_option maxRecDepth 100000 in
set_option maxHeartbeats 2000000 in
theorem refMend_any (sv v : Value) (s : Shelf) (n : Int) (hn : I64 n) (l : List ByteArray) (w : World) (hs : ShelfAt w sv s) (hl : StrsAt w v l) :
    Calls Tryz.prog 22 #[sv, .int .i64 n, v] w fun e w' => e = .returned (.tuple #[.int .i64 (mendM s n l), .int .i64 (openForErrM s n l)]) ∧ Ext w w' := by
  obtain ⟨fa, fc, rfl, -⟩ := hs.open
  obtain ⟨la, lc, rfl, -⟩ := hl.shape
  obtain ⟨W, hW, hb, q0, q1, x1⟩ := box_one hs
  replace hl := hl.ext x1
  have z1 := cell_lt q0
  have HW := Lib.hid hW
  clear hs hW
  have hoe : (if openErrM s n ≠ 0 then openErrM s n else letterErrL l) = openForErrM s n l := rfl
  go_enter Tryz.func22, Tryz.ntmps22
  go_wp2_with fail
  rw [← HW.out]
  clear HW
  refine (refForm_any _ s n hn _ hb).mono ?_
  rintro e w3 ⟨rfl, hx⟩
  (replace hb := hb.ext hx; replace q0 := hx.cell q0; replace q1 := hx.cell q1; replace z1 := cell_lt q0; replace x1 := x1.trans hx; replace hl := hl.ext hx; clear hx)
  have hbe := refBehind_any _ l (openErrM s n) w3 hl
  rw [hoe] at hbe
  go_wp2_with fail
  refine hbe.mono ?_
  rintro e w4 ⟨rfl, hx⟩
  (replace hb := hb.ext hx; replace q0 := hx.cell q0; replace q1 := hx.cell q1; replace z1 := cell_lt q0; replace x1 := x1.trans hx; replace hl := hl.ext hx; clear hx)
  clear hbe hoe
  by_cases he : openForErrM s n l = 0
  · have he1 : openErrM s n = 0 := by
      unfold openForErrM at he
      by_cases h : openErrM s n = 0
      · exact h
      · rw [if_pos h] at he; exact absurd he h
    have he2 : letterErrL l = 0 := by
      unfold openForErrM at he
      rw [if_neg (by rw [he1]; simp)] at he; exact he
    have he3 : errS s = 0 ∧ inM n 0 (s.forms.length - 1) = true := by
      unfold openErrM at he1
      split at he1
      · rename_i h; exact absurd he1 h
      · rename_i h
        split at he1
        · exact absurd he1 (by decide)
        · rename_i h2; exact ⟨Decidable.not_not.1 h, by simpa using h2⟩
    obtain ⟨he3, hin⟩ := he3
    unfold inM at hin
    rw [Bool.and_eq_true] at hin
    have g1 := of_decide_eq_true hin.1
    have g2 := of_decide_eq_true hin.2
    obtain ⟨k, rfl⟩ : ∃ k : Nat, n = k := ⟨n.toNat, by omega⟩
    have hkl : k < s.forms.length := by omega
    have k1 : (k : Int) < (s.forms.length : Int) := by omega
    have hmm : mendM s k l = (costM l (formSlotsM s.forms[k].parts)).2 := by
      unfold mendM
      rw [if_pos he, Int.toNat_natCast, List.getElem?_eq_getElem hkl]
    have hV := (errS_ok he3).forms _ (List.getElem_mem hkl)
    obtain ⟨h15, -⟩ := lettErr_ok he2
    obtain ⟨fb, fo, rfl, f0, fsz, pu, f1, hps⟩ : ∃ b o, fa = some ⟨b, o, none⟩ ∧ w4.cell? ⟨b, o + k * 2, none⟩ = some (.string s.forms[k].name) ∧ s.forms[k].name.size ≤ 9223372036854775807 ∧ ∃ u, w4.cell? ⟨b, o + k * 2 + 1, none⟩ = some u ∧ PartsAt w4 u s.forms[k].parts := by
      obtain ⟨u, e, -, h⟩ := hb
      obtain rfl : u = .slice fa s.forms.length fc := by simpa using e.symm
      exact h.get hkl
    obtain ⟨pa, pc, rfl, -⟩ := hps.shape
    have hform : FormV w4 (.agg #[.string s.forms[k].name, .slice pa s.forms[k].parts.length pc]) s.forms[k] := ⟨_, rfl, fsz, hps⟩
    have Hmm := Lib.hid hmm
    have He := Lib.hid he
    rw [he]
    generalize s.forms[k] = f at *
    have HV := Lib.hid hV
    clear he he1 he2 he3 hin g1 g2 hmm hps hV
    go_wp2_with fail
    refine (mends_any _ _ f l _ HV.out hform hl h15).mono ?_
    rintro e w5 ⟨rfl, hx⟩
    rw [← Hmm.out]
    go_wp2
    go_ret2
    exact ⟨by rw [He.out]; rfl, x1.trans hx⟩
  · have he' : (openForErrM s n l != 0) = true := by simpa using he
    have hm0 : mendM s n l = 0 := by unfold mendM; rw [if_neg he]
    have Hm0 := Lib.hid hm0
    clear hm0
    obtain ⟨er, her⟩ : ∃ er, openForErrM s n l = er := ⟨_, rfl⟩
    rw [her] at he' ⊢
    have Her := Lib.hid her
    clear he her
    go_wp2
    go_ret2
    exact ⟨by rw [Hm0.out, Her.out]; rfl, x1⟩
theorem needs_step (fs : List Form) (l : List ByteArray) (n : Nat) : pickC (needsTo fs l (n + 1)) = if n = 0 ∨ fewCh (n, costOf fs l n) (pickC (needsTo fs l n)) = true then (n, costOf fs l n) else pickC (needsTo fs l n) := by
  rw [needsTo_step]
  unfold pickC
  rw [pickB_snoc, pickB_many, needsTo_len]
theorem needs_next (fs : List Form) (l : List ByteArray) (n : Nat) (h : 1 ≤ n) : pickC (needsTo fs l (n + 1)) = if fewCh (n, costOf fs l n) (pickC (needsTo fs l n)) = true then (n, costOf fs l n) else pickC (needsTo fs l n) := by
  rw [needs_step]
  by_cases hf : fewCh (n, costOf fs l n) (pickC (needsTo fs l n)) = true
  · rw [if_pos (.inr hf), if_pos hf]
  · rw [if_neg (by rintro (h0 | h0); omega; exact hf h0), if_neg hf]
set_option maxRecDepth 100000 in
set_option maxHeartbeats 4000000 in
theorem refNearest_any (sv v : Value) (s : Shelf) (l : List ByteArray) (w : World) (hs : ShelfAt w sv s) (hl : StrsAt w v l) :
    Calls Tryz.prog 24 #[sv, v] w fun e w' => e = .returned (.tuple #[.int .i64 ((nearV s l).1 : Nat), .int .i64 ((nearV s l).2 : Nat), .int .i64 (nearErrM s l)]) ∧ Ext w w' := by
  obtain ⟨fa, fc, rfl, -⟩ := hs.open
  obtain ⟨la, lc, rfl, -⟩ := hl.shape
  obtain ⟨W, hW, hb, q0, q1, x1⟩ := box_one hs
  replace hl := hl.ext x1
  have z1 := cell_lt q0
  have HW := Lib.hid hW
  clear hs hW
  have hoe : (if errS s ≠ 0 then errS s else letterErrL l) = shelfErrM s l := rfl
  have hcE : (checkS s).2.2 = errS s := rfl
  go_enter Tryz.func24, Tryz.ntmps24
  go_wp2_with fail
  rw [← HW.out]
  clear HW
  refine (refCheckS_any _ s _ hb).mono ?_
  rw [hcE]
  rintro e w3 ⟨rfl, hx⟩
  (replace hb := hb.ext hx; replace q0 := hx.cell q0; replace q1 := hx.cell q1; replace z1 := cell_lt q0; replace x1 := x1.trans hx; replace hl := hl.ext hx; clear hx)
  generalize (checkS s).2.1 = at1
  generalize (checkS s).1 = part1
  have hbe := refBehind_any _ l (errS s) w3 hl
  rw [hoe] at hbe
  go_wp2_with fail
  refine hbe.mono ?_
  rintro e w4 ⟨rfl, hx⟩
  (replace hb := hb.ext hx; replace q0 := hx.cell q0; replace q1 := hx.cell q1; replace z1 := cell_lt q0; replace x1 := x1.trans hx; replace hl := hl.ext hx; clear hx)
  clear hbe hoe hcE
  by_cases he : shelfErrM s l = 0
  · by_cases h0 : s.forms.length = 0
    · have h0' : ((s.forms.length : Int) == 0) = true := by rw [h0]; rfl
      have hne : nearErrM s l = 9 := by unfold nearErrM; rw [if_neg (by rw [he]; simp), if_pos h0]
      have hnv : nearV s l = (0, 0) := by unfold nearV; rw [if_neg (by rw [hne]; decide)]
      have Hne := Lib.hid hne
      have Hnv := Lib.hid hnv
      rw [he]
      clear he h0 hne hnv
      go_wp2
      go_ret3
      exact ⟨by rw [Hne.out, Hnv.out]; rfl, x1⟩
    · have h0' : ((s.forms.length : Int) == 0) = false := by simpa using h0
      have he1 : errS s = 0 := by
        unfold shelfErrM at he
        by_cases h : errS s = 0
        · exact h
        · rw [if_pos h] at he; exact absurd he h
      have he2 : letterErrL l = 0 := by
        unfold shelfErrM at he
        rw [if_neg (by rw [he1]; simp)] at he; exact he
      have hne : nearErrM s l = 0 := by unfold nearErrM; rw [if_neg (by rw [he]; simp), if_neg h0]
      have hnv : nearV s l = pickC (needsTo s.forms l s.forms.length) := by unfold nearV; rw [if_pos hne]; rfl
      have hVs := (errS_ok he1).forms
      have hn4 := (errS_ok he1).n
      obtain ⟨h15, -⟩ := lettErr_ok he2
      have hpos : 0 < s.forms.length := by omega
      have hfms : FormsAt w4 (.slice fa s.forms.length fc) s.forms := by
        obtain ⟨u, e, -, h⟩ := hb
        obtain rfl : u = .slice fa s.forms.length fc := by simpa using e.symm
        exact h
      have hget : ∀ k (hk : k < s.forms.length), ∃ b o pa pc, fa = some ⟨b, o, none⟩ ∧ w4.cell? ⟨b, o + k * 2, none⟩ = some (.string s.forms[k].name) ∧ w4.cell? ⟨b, o + k * 2 + 1, none⟩ = some (.slice pa s.forms[k].parts.length pc) ∧ FormV w4 (.agg #[.string s.forms[k].name, .slice pa s.forms[k].parts.length pc]) s.forms[k] := fun k hk => by
        obtain ⟨b, o, e, g0, g1, pu, g2, g3⟩ := hfms.get hk
        obtain ⟨pa, pc, rfl, -⟩ := g3.shape
        exact ⟨b, o, pa, pc, e, g0, g2, _, rfl, g1, g3⟩
      have hco : ∀ k (hk : k < s.forms.length), costOf s.forms l k = (costM l (formSlotsM s.forms[k].parts)).2 := fun k hk => by simp [costOf, hk]
      obtain ⟨b, o, pa, pc, rfl, g0, g1, gV⟩ := hget 0 hpos
      rw [Nat.zero_mul, Nat.add_zero] at g0 g1
      have hc0 := hco 0 hpos
      have hp1 : pickC (needsTo s.forms l 1) = (0, costOf s.forms l 0) := by rw [needs_step, if_pos (.inl rfl)]
      have Hget := Lib.hid hget
      have Hco := Lib.hid hco
      have Hne := Lib.hid hne
      have Hnv := Lib.hid hnv
      have HVs := Lib.hid hVs
      have hV0 := hVs _ (List.getElem_mem hpos)
      generalize s.forms[0] = f0 at *
      have HV0 := Lib.hid hV0
      have Hc0 := Lib.hid hc0
      have Hp1 := Lib.hid hp1
      have l0 : (0 : Int) < (s.forms.length : Int) := by omega
      rw [he]
      clear he h0 he1 he2 hne hnv hVs hfms hget hco hc0 hp1 hV0
      go_wp2_with fail
      refine (mends_any _ _ f0 l _ HV0.out gV hl h15).mono ?_
      rintro e w5 ⟨rfl, hx⟩
      rw [← Hc0.out]
      have Hx5 := Lib.hid hx
      (replace hb := hb.ext hx; replace q0 := hx.cell q0; replace q1 := hx.cell q1; replace z1 := cell_lt q0; replace x1 := x1.trans hx; replace hl := hl.ext hx; clear hx)
      clear g0 g1 gV
      go_wp2_with fail
      go_loopw [10, 11, 12, 13] (fun bv mv iv _ wr => ∃ i : Nat, 1 ≤ i ∧ i ≤ s.forms.length ∧ iv = .int .i64 i ∧ bv = .int .i64 ((pickC (needsTo s.forms l i)).1 : Nat) ∧ mv = .int .i64 ((pickC (needsTo s.forms l i)).2 : Nat) ∧ Ext w5 wr) (fun _ _ i _ _ => s.forms.length - (intOf i).toNat)
      case atStart => exact ⟨1, Nat.le_refl _, hpos, rfl, by rw [Hp1.out]; rfl, by rw [Hp1.out], Ext.refl _⟩
      case round =>
        obtain ⟨i, hi1, hi2, rfl, rfl, rfl, hxr⟩ := hrel
        have a0 := hxr.cell q0
        have a1 := hxr.cell q1
        have za := cell_lt a0
        by_cases hlt : i < s.forms.length
        · have l1 : (i : Int) < (s.forms.length : Int) := by omega
          obtain ⟨b', o', pa', pc', e, g0, g1, gV⟩ := Hget.out i hlt
          obtain ⟨rfl, rfl, -⟩ := Addr.mk.inj (Option.some.inj e)
          have x45 := Hx5.out.trans hxr
          have g0' := x45.cell g0
          have g1' := x45.cell g1
          have gV' := gV.ext x45
          have hci := Hco.out i hlt
          have hVi := HVs.out _ (List.getElem_mem hlt)
          have hst := needs_next s.forms l i hi1
          generalize s.forms[i] = fi at *
          have HVi := Lib.hid hVi
          have Hci := Lib.hid hci
          have Hst := Lib.hid hst
          obtain ⟨PP, hPP⟩ : ∃ PP, pickC (needsTo s.forms l i) = PP := ⟨_, rfl⟩
          obtain ⟨PQ, hPQ⟩ : ∃ PQ, pickC (needsTo s.forms l (i + 1)) = PQ := ⟨_, rfl⟩
          obtain ⟨ci, hcI⟩ : ∃ ci, costOf s.forms l i = ci := ⟨_, rfl⟩
          rw [hPP, hPQ, hcI] at Hst
          rw [hPP]
          rw [hcI] at Hci
          have HPQ := Lib.hid hPQ
          clear hci hVi hst hPP hPQ hcI e g0 g1 gV
          go_wp2_with fail
          refine (mends_any _ _ fi l _ HVi.out gV' (hl.ext hxr) h15).mono ?_
          rintro e w6 ⟨rfl, hx⟩
          rw [← Hci.out]
          have a0' := hx.cell a0
          have za' := cell_lt a0'
          by_cases hf : ci < PP.2
          · have hf' : (ci : Int) < (PP.2 : Int) := by omega
            have hq : PQ = (i, ci) := by rw [Hst.out, if_pos (by unfold fewCh; exact decide_eq_true hf)]
            have Hq := Lib.hid hq
            clear hq hf
            go_wp2
            go_roundw
            case rel => exact ⟨i + 1, by omega, by omega, by go_num, by rw [HPQ.out, Hq.out], by rw [HPQ.out, Hq.out], hxr.trans hx⟩
            case measure => simp [intOf]; omega
          · have hf' : ¬ (ci : Int) < (PP.2 : Int) := by omega
            have hq : PQ = PP := by rw [Hst.out, if_neg (by unfold fewCh; simp; omega)]
            have Hq := Lib.hid hq
            clear hq hf
            go_wp2
            go_roundw
            case rel => exact ⟨i + 1, by omega, by omega, by go_num, by rw [HPQ.out, Hq.out], by rw [HPQ.out, Hq.out], hxr.trans hx⟩
            case measure => simp [intOf]; omega
        · obtain rfl : i = s.forms.length := by omega
          go_wp2
          go_ret3
          exact ⟨by rw [Hne.out, Hnv.out]; rfl, x1.trans hxr⟩
  · have he' : (shelfErrM s l != 0) = true := by simpa using he
    have he'' : (shelfErrM s l == 0) = false := by simpa using he
    have hne : nearErrM s l = shelfErrM s l := by unfold nearErrM; rw [if_pos he]
    have hnv : nearV s l = (0, 0) := by unfold nearV; rw [if_neg (by rw [hne]; exact he)]
    obtain ⟨er, her⟩ : ∃ er, shelfErrM s l = er := ⟨_, rfl⟩
    rw [her] at he' he'' hne ⊢
    have Hne := Lib.hid hne
    have Hnv := Lib.hid hnv
    clear he her hne hnv
    go_wp2
    go_ret3
    exact ⟨by rw [Hne.out, Hnv.out]; rfl, x1⟩
set_option maxRecDepth 100000 in
set_option maxHeartbeats 2000000 in
theorem mendsL_any (sv v : Value) (s : Shelf) (n : Int) (hn : I64 n) (l : List ByteArray) (w : World) (hs : ShelfAt w sv s) (hl : StrsAt w v l) :
    Calls Tryz.prog 5 #[sv, .int .i64 n, v] w fun e w' => e = .returned (.bool true) ∧ Ext w w' := by
  obtain ⟨fa, fc, rfl, -⟩ := hs.open
  obtain ⟨la, lc, rfl, -⟩ := hl.shape
  obtain ⟨W, hW, hb, q0, q1, x1⟩ := box_one hs
  replace hl := hl.ext x1
  have z1 := cell_lt q0
  have HW := Lib.hid hW
  clear hs hW
  go_enter Tryz.func5, Tryz.ntmps5
  go_wp2_with fail
  rw [← HW.out]
  clear HW
  refine (Mend_any _ _ s n hn l _ hb hl).mono ?_
  rintro e w3 ⟨rfl, hx⟩
  (replace hb := hb.ext hx; replace q0 := hx.cell q0; replace q1 := hx.cell q1; replace z1 := cell_lt q0; replace x1 := x1.trans hx; replace hl := hl.ext hx; clear hx)
  go_wp2_with fail
  refine (refMend_any _ _ s n hn l _ hb hl).mono ?_
  rintro e w4 ⟨rfl, hx⟩
  (replace hb := hb.ext hx; replace q0 := hx.cell q0; replace q1 := hx.cell q1; replace z1 := cell_lt q0; replace x1 := x1.trans hx; replace hl := hl.ext hx; clear hx)
  generalize mendM s n l = mm at *
  generalize openForErrM s n l = oe at *
  go_wp2_with fail
  refine (Nearest_any _ _ s l _ hb hl).mono ?_
  rintro e w5 ⟨rfl, hx⟩
  (replace hb := hb.ext hx; replace q0 := hx.cell q0; replace q1 := hx.cell q1; replace z1 := cell_lt q0; replace x1 := x1.trans hx; replace hl := hl.ext hx; clear hx)
  go_wp2_with fail
  refine (refNearest_any _ _ s l _ hb hl).mono ?_
  rintro e w6 ⟨rfl, hx⟩
  (replace hb := hb.ext hx; replace q0 := hx.cell q0; replace q1 := hx.cell q1; replace z1 := cell_lt q0; replace x1 := x1.trans hx; replace hl := hl.ext hx; clear hx)
  generalize (nearV s l).1 = n1 at *
  generalize (nearV s l).2 = n2 at *
  generalize nearErrM s l = ne at *
  go_wp2_with fail
  refine (awakeL_any _).mono ?_
  rintro e w7 ⟨rfl, hx⟩
  go_wp2
  go_ret
  exact ⟨rfl, x1.trans hx⟩
end Go.Proofs.YtcamegaimleomaaGreat

namespace Go.Proofs.YtcamegaimleomaaGreat
set_option linter.unusedSimpArgs false
set_option linter.unusedVariables false
open Go.ChangeShapes Go.WideShapes Go.RowKit
set_option maxRecDepth 100000
section
variable {H : Type} {enc : TypeId × Value → H} {w : World} {base : Nat} {sp : Nat → Bool} {held : Bool}
/-- one byte -/
theorem byteL_of {r : Reach} {b0 : Nat} {v : Value} {d : DataW H} {ps : List MemPlace} (hval : Value.okWide Tryz.prog w r b0 5 v) (hd : DataW.Trod enc Tryz.prog w base sp held 5 v d ps) : ∃ x : Nat, v = .int .u8 x ∧ x ≤ 255 := by
  obtain ⟨a, rfl, -, -, wa⟩ := Go.ChangeShapes.open_int Tryz.underlying5 hval hd
  have ha := wf_u8 wa
  unfold U8 at ha
  exact ⟨a.toNat, by rw [show ((a.toNat : Nat) : Int) = a from by omega], by omega⟩
/-- one number -/
theorem intL_of {r : Reach} {b0 : Nat} {v : Value} {d : DataW H} {ps : List MemPlace} (hval : Value.okWide Tryz.prog w r b0 3 v) (hd : DataW.Trod enc Tryz.prog w base sp held 3 v d ps) : ∃ x : Int, v = .int .i64 x ∧ I64 x := by
  obtain ⟨a, rfl, -, -, wa⟩ := Go.ChangeShapes.open_int Tryz.underlying3 hval hd
  exact ⟨a, rfl, wf_i64 wa⟩
end
end Go.Proofs.YtcamegaimleomaaGreat
