/-
  WHAT Rates OF THE REFERENCE RETURNS: all rates of a house, in order.
  WHAT AN AGENT PAYS, by the reference.
  WHETHER AN ENTRY AGREES WITH RATES, by the reference.
  WHAT THE SMALL FUNCTIONS OF THE REFERENCE RETURN: whether a list has a number, ascending numbers, the bits of so many sounds.
  WHAT Truths OF THE REFERENCE RETURNS: all truths of a house, in order, if some entries were not there.
  WHAT THE SMALL FUNCTIONS OF THE REFERENCE RETURN: a bit of some bits; the first index of a string; whether a string is a name; whether a name is fresh.
  WHAT Name AND Fresh OF THE REFERENCE RETURN, for any string: the same as that of ear.
  THE ERRORS OF A SPAN AND OF AN AGENT, by the reference.
  WHAT Check OF RATE'S REFERENCE RETURNS: the same as that of rate. For any house.
-/
import Derived.Test.YtpflfincedllgaaBunAK
import Derived.RegionTactic
import Derived.BigRegion
import Derived.Test.YtpflfincedllgaaBunAC
import Derived.Test.YtpflfincedllgaaBunAB
import Derived.Test.YtpflfincedllgaaBunAD
namespace Go.Proofs.Ytpflfincedllgaa
set_option linter.unusedSimpArgs false
set_option linter.unusedVariables false
open Go.RowKit
set_option linter.unusedVariables false
set_option linter.unusedSimpArgs false
set_option maxRecDepth 100000

set_option maxHeartbeats 16000000 in
theorem refRates_any (hv : Value) (h : House) (hV : ValidH h) (w : World) (hh : HouseAt w hv h) :
    Calls Try.prog 89 #[hv] w fun e w' => ∃ u, e = .returned u ∧ ListsAtI w' u (ratesL h) ∧ Ext w w' := by
  rw [ratesL_levels]
  obtain ⟨ra, rc, aa, ac, ea, ec, rfl, hdi, hsi, hr, -, -⟩ := hh
  have hR := Lib.hid hr
  have HV := Lib.hid hV
  have hdays := hV.days
  have hmany := hV.many
  have hstep := hV.step
  obtain ⟨dn, hdn⟩ : ∃ dn : Nat, dn = h.days.toNat := ⟨_, rfl⟩
  have hdn2 : h.days = (dn : Int) := by omega
  have hdn3 : dn ≤ 3 := by omega
  have hrl : h.rates.length = dn := by omega
  rw [← hdn]
  have HD := Lib.hid hdn
  have HRL := Lib.hid hrl
  clear hr hV hdn hmany hrl hdays
  obtain ⟨i0, hi, hz0, hz1, hz2⟩ := info_parts infoInt
  obtain ⟨j0, hj, hy0, hy1, hy2⟩ := info_parts infoIntsI
  go_enter Try.func89, Try.ntmps89
  go_wp2
  rw [hdn2]
  go_loopw [3, 4] (fun v i wr => ∃ d : Nat, d ≤ dn ∧ i = .int .i64 d ∧ Ext w wr ∧ wr.cell? ⟨w.heap.size, 0, none⟩ = some (.int .i64 dn) ∧ wr.cell? ⟨w.heap.size, 1, none⟩ = some (.slice ra h.rates.length rc) ∧ wr.cell? ⟨w.heap.size, 2, none⟩ = some (.int .i64 h.step) ∧ ListsZI wr v (levelsR h d)) (fun _ i _ => dn - (intOf i).toNat)
  case atStart =>
    refine ⟨0, Nat.zero_le _, rfl, (by first | (with_reducible exact Ext.refl _) | (with_reducible assumption) | (show Below _ _ _; go_grown; done)), by simp [go_sem], by simp [go_sem], by simp [go_sem], some ⟨w.heap.size + 1, 0, none⟩, 1, rfl, Nat.le_refl _, by omega, fun i hi => ?_⟩
    have hi' : i < 1 := hi
    obtain rfl : i = 0 := by omega
    exact ⟨_, _, rfl, .slice none 0 0, by simp [go_sem], IntsAt.nothingI _, fun _ => rfl⟩
  case round =>
    obtain ⟨d, hd, rfl, hx, p0, p1, p2, hLL⟩ := hrel
    obtain ⟨R, hR0⟩ : ∃ R : World, R = wr := ⟨_, rfl⟩
    subst hR0
    have z0 := cell_lt p0
    by_cases hlt : d < dn
    · have k1 : (d : Int) < (dn : Int) := by omega
      have hch := levels_succ h d
      have hf := levels_mem HV.out (d := d) (by have := HD.out; omega)
      have hf2 := levels_mem HV.out (d := d + 1) (by have := HD.out; omega)
      have hll := levels_len HV.out (d := d) (by have := HD.out; omega)
      have hfl : ∀ q, (((levelsR h d).take q).flatMap (rExt h d)).length ≤ 8000 * 20 := fun q => by
        have h1 := rExt_flat HV.out (d := d) (by have := HD.out; omega) ((levelsR h d).take q)
        have h2 : ((levelsR h d).take q).length ≤ (levelsR h d).length := by rw [List.length_take]; omega
        omega
      rw [hch] at hf2
      have hsp := HV.out.span (d := d) (by have := HRL.out; omega)
      have hrd : d < h.rates.length := by have := HRL.out; omega
      obtain ⟨rb, ro, rfl, c0, c1, -⟩ := SliceAt.get (hR.out.ext hx) hrd
      have hsd : h.rates[d] = spanAt h d := by unfold spanAt; rw [List.getD_eq_getElem?_getD, List.getElem?_eq_getElem hrd]; rfl
      rw [hsd] at c0 c1
      have hstp : ∀ L, extTo h d L (spanAt h d).1 = [] := fun L => extTo_first h d L
      have hall : ∀ L, extTo h d L ((spanAt h d).2 + 1) = rExt h d L := fun L => extTo_all h d L
      have hlen : ∀ L (m : Int), m ≤ (spanAt h d).2 → (extTo h d L m).length ≤ 20 := fun L m hm => extTo_len h d L m hsp.1 (by omega)
      have hyes : ∀ L (m : Int), (spanAt h d).1 ≤ m → stepOk h d L m = true → extTo h d L (m + 1) = extTo h d L m ++ [L ++ [m]] := fun L m hm => extTo_yes h d L m hm
      have hno : ∀ L (m : Int), (spanAt h d).1 ≤ m → stepOk h d L m = false → extTo h d L (m + 1) = extTo h d L m := fun L m hm => extTo_no h d L m hm
      obtain ⟨LL, hLLe⟩ : ∃ LL, LL = levelsR h d := ⟨_, rfl⟩
      rw [← hLLe] at hLL hf hll hch hf2
      simp only [← hLLe] at hfl
      obtain ⟨s1, hs1⟩ : ∃ s1, s1 = (spanAt h d).1 := ⟨_, rfl⟩
      obtain ⟨s2, hs2⟩ : ∃ s2, s2 = (spanAt h d).2 := ⟨_, rfl⟩
      simp only [← hs1, ← hs2] at c0 c1 hsp hstp hall hlen hyes hno
      obtain ⟨g1, g2, g3⟩ := hsp
      have Hfl := Lib.hid hfl
      have Hch := Lib.hid hch
      have Hf2 := Lib.hid hf2
      have Hf := Lib.hid hf
      have Hstp := Lib.hid hstp
      have Hall := Lib.hid hall
      have Hlen := Lib.hid hlen
      have Hyes := Lib.hid hyes
      have Hno := Lib.hid hno
      have HRD : Hid (d < h.rates.length) := Lib.hid hrd
      have k9 : (d : Int) < (h.rates.length : Int) := by omega
      clear hch hLLe hf2 hf hs1 hs2 hstp hall hlen hyes hno hfl hsd hrd
      obtain ⟨oa, oc, rfl, -⟩ := hLL.shape
      have z1 := cell_lt c0
      go_wp2
      go_loopw [5, 6, 7] (fun v i n wr => ∃ q : Nat, q ≤ LL.length ∧ i = .int .i64 q ∧ Ext R wr ∧ ListsOwnI wr R.heap.size v ((LL.take q).flatMap (rExt h d))) (fun _ i _ _ => LL.length - (intOf i).toNat)
      case atStart => exact ⟨0, Nat.zero_le _, rfl, Ext.refl _, ListsOwnI.nil _ _⟩
      case round =>
        obtain ⟨q, hq, rfl, hxr, hown⟩ := hrel
        have e0 := hxr.cell p0
        have e1 := hxr.cell p1
        have f0 := hxr.cell c0
        have f1 := hxr.cell c1
        have y0 := cell_lt e0
        have y1 := cell_lt f0
        by_cases hql : q < LL.length
        · have k2 : (q : Int) < (LL.length : Int) := by omega
          have hnx := rExt_next h d LL q hql
          have hplen := Hfl.out q
          have hLf := Hf.out LL[q] (List.getElem_mem hql)
          have hLL0 := hLL
          obtain ⟨_, _, hea, -, -, hh⟩ := hLL0
          obtain ⟨ob, oo, rfl, s, cs, hs, hs0⟩ := hh q hql
          have hea1 := (Value.slice.inj hea).1
          subst hea1
          simp only [Nat.mul_one] at cs
          clear hea hh
          generalize LL[q] = L at *
          generalize (LL.take q).flatMap (rExt h d) = pre at *
          have Hnx := Lib.hid hnx
          clear hnx
          go_wp2
          clear e0 e1 f0 f1 y0 y1
          go_loopw [5, 7] (fun v n wr => ∃ m : Int, s1 ≤ m ∧ m ≤ s2 + 1 ∧ n = .int .i64 m ∧ Ext R wr ∧ ListsOwnI wr R.heap.size v (pre ++ extTo h d L m)) (fun _ n _ => (s2 + 1 - intOf n).toNat)
          case atStart => exact ⟨s1, Int.le_refl _, by omega, rfl, hxr, by rw [Hstp.out, List.append_nil]; exact hown⟩
          case round =>
            clear hxr hown
            obtain ⟨m, hm1, hm2, rfl, hxr, hown⟩ := hrel
            have e0 := hxr.cell p0
            have e1 := hxr.cell p1
            have e2 := hxr.cell p2
            have f1 := hxr.cell c1
            have t0 := hxr.cell cs
            have hsr := hs.ext hxr
            have y0 := cell_lt e0
            have y1 := cell_lt f1
            have y2 := cell_lt t0
            by_cases hmn : m ≤ s2
            · have hm64 : I64 m := by unfold I64; omega
              have wm : IntKind.i64.wrap (m + 1) = m + 1 := IntWalk.i64_in _ (by omega)
              have hyes := Hyes.out L m hm1
              have hno := Hno.out L m hm1
              have hcl : (pre ++ extTo h d L m).length ≤ 160020 := by
                rw [List.length_append]; have := Hlen.out L m hmn; omega
              have hil : (L ++ [m]).length = L.length + 1 := by simp
              by_cases hd0 : d = 0
              · have hL0 : L = [] := List.eq_nil_of_length_eq_zero (by rw [hLf.1, hd0])
                have hso : stepOk h d L m = true := by unfold stepOk; rw [if_pos hd0]
                obtain rfl := hs0 hL0
                have hsn2 : pre ++ extTo h d L (m + 1) = (pre ++ extTo h d L m) ++ [L ++ [m]] := by rw [hyes hso, List.append_assoc]
                have Hsn := Lib.hid hsn2
                have HL0 := Lib.hid hL0
                have Hn0 : Hid (0 = L.length) := Lib.hid (by rw [hL0]; rfl)
                have HIL : Hid (∀ x ∈ L ++ [m], I64 x) := Lib.hid (by rw [hL0]; intro x hx; simp at hx; subst hx; exact hm64)
                generalize pre ++ extTo h d L m = cur at *
                clear hsn2 hyes hno hso hs0 hL0 hil
                subst hd0
                simp only [Nat.zero_mul, Nat.add_zero] at f1 c0 c1
                go_wp2_with fail
                apply Facts.wp_region (.val _ :: .val _ :: .val _ :: .val _ :: .val _ :: .val _ :: .val _ :: .val _ :: .val _ :: .val _ :: .val _ :: .val _ :: .val _ :: .val _ :: .val _ :: .val _ :: .val _ :: .val _ :: .val _ :: .val _ :: .val _ :: []) (by kernel_rfl) (by kernel_rfl) trivial ?main
                case main =>
                  iterate 21 (refine ⟨fun w1 hx hh => ?_, ?_⟩; focus (clear hh; skip; go_simp; first | exact ⟨Ext.refl _, rfl⟩ | exact Ext.refl _))
                  intro w5 hx5 hh
                  clear hh
                  replace hxr := hxr.trans hx5
                  replace e0 := hx5.cell e0
                  replace e1 := hx5.cell e1
                  replace f1 := hx5.cell f1
                  replace t0 := hx5.cell t0
                  replace hown := hown.ext hx5
                  clear hx5 hsr y0 y1 y2
                  have y0 := cell_lt e0
                  have y1 := cell_lt f1
                  have y2 := cell_lt t0
                  obtain ⟨wr, hwr⟩ : ∃ wr : World, wr = w5 := ⟨_, rfl⟩
                  subst hwr
                  obtain ⟨vs, hrow, helem⟩ := hown
                  have hszr := hxr.size
                  have hvl := hrow.1
                  have Hvl := Lib.hid hvl
                  have Helem := Lib.hid helem
                  clear hvl helem
                  go_simp
                  go_wp2_with (at_builtin; first | (refine wpList_append_own_none rfl _ _ 30 rfl (wr.heap.size) 3 i0 1 Try.underlying30 hi _ _ _ rfl (World.ownsRow_made wr #[] 0 (Nat.le_refl _) (by unfold maxLen; omega) rfl) rfl ?_; have hown1 := World.ownsRow_made (base := wr.heap.size) (e := 3) (size := 1) wr #[] 0 (Nat.le_refl _) (by unfold maxLen; omega) rfl; have x1 : Ext wr (wr.alloc (.cells #[] 3)) := ext_alloc _ _; have x1s := x1.size; generalize wr.alloc (.cells #[] 3) = w1 at *) | (refine wpList_append_own _ rfl _ _ 30 rfl (wr.heap.size) 3 i0 (.int .i64 0) 1 8 Try.underlying30 hi hz0 hz1 hz2 rfl (by decide) _ _ _ rfl (hown1.alloc _) ⟨w1.heap.size, 0, none⟩ 1 1 [.int .i64 m] rfl rfl (cell_one_new _ _ _) (by simp [Value.oneCell']) (by unfold maxLen; omega) (by omega) (by simp; omega) ?_; intro v2 w2 hown2 hgrow2 _; have hl2 : IntsAt w2 v2 (L ++ [m]) := IntsAt.of_own (by simpa [HL0.out] using hown2) HIL.out; have x2 : Ext wr w2 := Ext.grown (x1.alloc _) hgrow2 (fun k hk => (hown1.lt k hk).1); have hx2s := x2.size; have hlt2 := hown2.lt; obtain ⟨sa2, sc2, rfl, -⟩ := hl2.shape; obtain ⟨nl, hnl⟩ : ∃ nl, nl = (L ++ [m]).length := ⟨_, rfl⟩; rw [← hnl] at hl2 hlt2 ⊢; have Hnl := Lib.hid hnl; clear hown2 hgrow2 hnl) | (refine wpList_append_own_at _ rfl _ _ 67 rfl R.heap.size 30 j0 (.slice none 0 0) 1 24 Try.underlying67 hj hy0 hy1 hy2 rfl (by decide) _ _ _ rfl ((Ext.owns hrow x2).alloc _) ⟨w2.heap.size, 0, none⟩ 1 1 [.slice sa2 nl sc2] rfl rfl (cell_one_new _ _ _) (by simp [Value.oneCell']) (by unfold maxLen; omega) (by omega) (by simp; omega) ?_; intro v3 w3 hown3 hgrow3 _ hblk))
                  (have x3 : Ext R w3 := Ext.grown ((hxr.trans x2).alloc _) hgrow3 (fun k hk => (hrow.lt k hk).1); have hnew := ListsOwnI.push hrow Helem.out x2 ⟨sa2, sc2, (by rw [Hnl.out]), hl2, fun ad e => hlt2 ad.block (by rw [e]; rfl)⟩ hown3 hgrow3 (hblk.elim .inl (fun e => .inr (e.trans (by simp)))))
                  go_roundw
                  case rel => exact ⟨m + 1, by omega, by omega, by go_num, x3, by rw [Hsn.out]; exact hnew⟩
                  case measure => simp [intOf]; omega
              · obtain ⟨d', hdd⟩ : ∃ d', d = d' + 1 := ⟨d - 1, by omega⟩
                have hLd : d' < L.length := by rw [hLf.1]; omega
                obtain ⟨sa0, sc, rfl, hsc1, hsc2⟩ := hs.shape
                obtain ⟨sb, so, rfl, sv, -⟩ := SliceAt.get hsr hLd
                have hp : L.getD (d - 1) 0 = L[d'] := by
                  rw [hdd, Nat.add_sub_cancel, List.getD_eq_getElem?_getD, List.getElem?_eq_getElem hLd]; rfl
                have hpr := hLf.2 _ (List.getElem_mem hLd)
                generalize L[d'] = p at *
                have hso : stepOk h d L m = inM (m - p) (-h.step) h.step := by unfold stepOk; rw [if_neg hd0, hp, Int.zero_sub]
                obtain ⟨b, hb⟩ : ∃ b, inM (m - p) (-h.step) h.step = b := ⟨_, rfl⟩
                rw [hb] at hso
                have HIL : Hid (∀ x ∈ L ++ [m], I64 x) := Lib.hid (by
                  intro x hx
                  rcases List.mem_append.1 hx with h | h
                  · have := hLf.2 x h; unfold I64; omega
                  · rw [List.mem_singleton] at h; subst h; exact hm64)
                obtain ⟨n0, hn0⟩ : ∃ n0, n0 = L.length := ⟨_, rfl⟩
                rw [← hn0] at hs cs hsc1 hsr t0
                have hn05 : n0 ≤ 5 := by rw [hn0, hLf.1]; omega
                have Hn0 := Lib.hid hn0
                have hkL : (d' : Int) < (n0 : Int) := by rw [hn0]; omega
                have wd : IntKind.i64.wrap ((d : Int) - 1) = (d' : Int) := by rw [hdd, show ((d' + 1 : Nat) : Int) - 1 = (d' : Int) from by omega]; exact IntWalk.i64_in _ (by omega)
                have wp : IntKind.i64.wrap (m - p) = m - p := IntWalk.i64_in _ (by omega)
                have ws : IntKind.i64.wrap (-h.step) = -h.step := IntWalk.i64_in _ (by omega)
                have kd : (0 : Int) < (d : Int) := by omega
                have kn : 0 < d := by omega
                have Hso := Lib.hid hso
                have Hyes1 := Lib.hid hyes
                have Hno1 := Lib.hid hno
                have HB := Lib.hid hb
                have y3 := cell_lt sv
                rw [Nat.mul_one] at sv
                generalize hcur : pre ++ extTo h d L m = cur at *
                have Hcur := Lib.hid hcur
                clear hs0 hp hdd hLd hn0 hso hyes hno hil hd0 hb hcur
                go_wp2_with fail
                apply Facts.wp_region (.val _ :: .val _ :: .val _ :: .val _ :: .val _ :: .val _ :: .val _ :: .val _ :: .val _ :: .val _ :: .val _ :: .val _ :: .val _ :: .val _ :: .val _ :: .val _ :: .val _ :: .val _ :: .val _ :: .val _ :: .val _ :: []) (by kernel_rfl) (by kernel_rfl) trivial ?main
                case main =>
                  iterate 18 (refine ⟨fun w1 hx hh => ?_, ?_⟩; focus (clear hh; have j0 := hx.cell e0; have j1 := hx.cell e1; have j2 := hx.cell e2; have j3 := hx.cell t0; have j4 := hx.cell sv; go_simp; first | exact ⟨Ext.refl _, rfl⟩ | exact Ext.refl _))
                  refine ⟨fun w1 hx hh => ?_, ?_⟩
                  · clear hh
                    go_simp
                    refine (In_any _ _ _ _).mono ?_
                    rintro e w' ⟨rfl, rfl⟩
                    rw [HB.out]
                    exact ⟨_, rfl, Ext.refl _, rfl⟩
                  iterate 2 (refine ⟨fun w1 hx hh => ?_, ?_⟩; focus (clear hh; skip; go_simp; first | exact ⟨Ext.refl _, rfl⟩ | exact Ext.refl _))
                  intro w5 hx5 hh
                  clear hh
                  replace hxr := hxr.trans hx5
                  replace e0 := hx5.cell e0
                  replace e1 := hx5.cell e1
                  replace f1 := hx5.cell f1
                  replace t0 := hx5.cell t0
                  replace hsr := hsr.ext hx5
                  replace hown := hown.ext hx5
                  clear hx5 sv y0 y1 y2 y3 e2
                  have y0 := cell_lt e0
                  have y1 := cell_lt f1
                  have y2 := cell_lt t0
                  obtain ⟨wr, hwr⟩ : ∃ wr : World, wr = w5 := ⟨_, rfl⟩
                  subst hwr
                  go_simp
                  cases b
                  · go_wp2
                    go_roundw
                    case rel => exact ⟨m + 1, by omega, by omega, by go_num, hxr, by rw [Hno1.out Hso.out, Hcur.out]; exact hown⟩
                    case measure => simp [intOf]; omega
                  have Hsn : Hid (pre ++ extTo h d L (m + 1) = cur ++ [L ++ [m]]) := Lib.hid (by rw [Hyes1.out Hso.out, ← List.append_assoc, Hcur.out])
                  obtain ⟨vs, hrow, helem⟩ := hown
                  have hszr := hxr.size
                  have hvl := hrow.1
                  have Hvl := Lib.hid hvl
                  have Helem := Lib.hid helem
                  clear hvl helem
                  go_wp2_with (at_builtin; first | (refine wpList_append_own _ rfl _ _ 30 rfl (wr.heap.size) 3 i0 (.int .i64 0) 1 8 Try.underlying30 hi hz0 hz1 hz2 rfl (by decide) _ _ _ rfl (World.ownsRow_made wr #[] 0 (Nat.le_refl _) (by unfold maxLen; omega) rfl) ⟨sb, so, none⟩ n0 sc (L.map (Value.int .i64)) rfl (by have := Hn0.out; simp; omega) (intsI_news (hsr.ext (ext_alloc _ _))) (intsI_cells _) (by unfold maxLen; omega) (by omega) (by simp) ?_; intro v1 w1 hown1 hgrow1 _; have x1 : Ext wr w1 := Ext.grown (ext_alloc _ _) hgrow1 (fun k hk => Nat.le_of_eq (Option.some.inj (show some wr.heap.size = some k from hk))); have x1s := x1.size) | (refine wpList_append_own _ rfl _ _ 30 rfl (wr.heap.size) 3 i0 (.int .i64 0) 1 8 Try.underlying30 hi hz0 hz1 hz2 rfl (by decide) _ _ _ rfl (hown1.alloc _) ⟨w1.heap.size, 0, none⟩ 1 1 [.int .i64 m] rfl rfl (cell_one_new _ _ _) (by simp [Value.oneCell']) (by unfold maxLen; omega) (by omega) (by simp; omega) ?_; intro v2 w2 hown2 hgrow2 _; have hl2 : IntsAt w2 v2 (L ++ [m]) := IntsAt.of_own (by have h0 := Hn0.out; subst h0; simpa using hown2) HIL.out; have x2 : Ext wr w2 := Ext.grown (x1.alloc _) hgrow2 (fun k hk => (hown1.lt k hk).1); have hx2s := x2.size; have hlt2 := hown2.lt; obtain ⟨sa2, sc2, rfl, -⟩ := hl2.shape; obtain ⟨nl, hnl⟩ : ∃ nl, nl = (L ++ [m]).length := ⟨_, rfl⟩; rw [← hnl] at hl2 hlt2 ⊢; have Hnl := Lib.hid hnl; clear hown2 hgrow2 hnl) | (refine wpList_append_own_at _ rfl _ _ 67 rfl R.heap.size 30 j0 (.slice none 0 0) 1 24 Try.underlying67 hj hy0 hy1 hy2 rfl (by decide) _ _ _ rfl ((Ext.owns hrow x2).alloc _) ⟨w2.heap.size, 0, none⟩ 1 1 [.slice sa2 nl sc2] rfl rfl (cell_one_new _ _ _) (by simp [Value.oneCell']) (by unfold maxLen; omega) (by omega) (by simp; omega) ?_; intro v3 w3 hown3 hgrow3 _ hblk))
                  (have x3 : Ext R w3 := Ext.grown ((hxr.trans x2).alloc _) hgrow3 (fun k hk => (hrow.lt k hk).1); have hnew := ListsOwnI.push hrow Helem.out x2 ⟨sa2, sc2, (by rw [Hnl.out]), hl2, fun ad e => hlt2 ad.block (by rw [e]; rfl)⟩ hown3 hgrow3 (hblk.elim .inl (fun e => .inr (e.trans (by simp)))))
                  go_roundw
                  case rel => exact ⟨m + 1, by omega, by omega, by go_num, x3, by rw [Hsn.out]; exact hnew⟩
                  case measure => simp [intOf]; omega
            · obtain rfl : m = s2 + 1 := by omega
              have k3 : ¬ (s2 + 1 ≤ s2) := by omega
              have Hfin : Hid ((LL.take (q + 1)).flatMap (rExt h d) = pre ++ extTo h d L (s2 + 1)) := Lib.hid (by rw [Hnx.out, Hall.out])
              clear hmn
              go_wp2
              go_roundw
              case rel => exact ⟨q + 1, by omega, by go_num, hxr, by rw [Hfin.out]; exact hown⟩
              case measure => simp [intOf]; omega
        · obtain rfl : q = LL.length := by omega
          rw [List.take_length] at hown
          have hlists := ListsZI.of hown.at_ fun L hL e => by
            have := (Hf2.out L hL).1
            rw [e] at this; simp at this
          rw [← Hch.out] at hlists
          have x3 := hx.trans hxr
          have e2 := hxr.cell p2
          clear hql f0 f1 y1
          go_wp2
          go_roundw
          case rel => exact ⟨d + 1, by omega, by go_num, x3, e0, e1, e2, hlists⟩
          case measure => simp [intOf]; omega
    · obtain rfl : d = dn := by omega
      have hres := hLL.at_
      obtain ⟨oa, oc, rfl, -⟩ := hLL.shape
      clear hlt
      go_wp2
      go_ret
      exact ⟨_, rfl, hres, hx⟩
end Go.Proofs.Ytpflfincedllgaa

namespace Go.Proofs.Ytpflfincedllgaa
set_option linter.unusedSimpArgs false
set_option linter.unusedVariables false
open Go.RowKit
set_option linter.unusedVariables false
set_option maxRecDepth 100000

set_option maxHeartbeats 1000000 in
theorem refPays_any (v : Value) (a : Agt) (near rate : Int) (hv : AgentV v a) (hf : 0 ≤ a.fee ∧ a.fee ≤ 20) (hr : 0 ≤ a.round ∧ a.round ≤ 2) (hn : 0 ≤ near ∧ near ≤ 99) (h20 : 0 ≤ rate ∧ rate ≤ 20) (w : World) :
    Calls Try.prog 47 #[v, .int .i64 near, .int .i64 rate] w fun r w' => r = .returned (.int .i64 (payM a near rate)) ∧ Ext w w' := by
  obtain ⟨rfl, -, -, -⟩ := hv
  have w1 : IntKind.i64.wrap (near - a.fee) = near - a.fee := IntWalk.i64_in _ (by omega)
  have p0 : 0 ≤ near - a.fee → 0 ≤ (near - a.fee) * rate := fun h => Int.mul_nonneg h h20.1
  have p1 : 0 ≤ near - a.fee → (near - a.fee) * rate ≤ 99 * 20 := fun h => Int.mul_le_mul (by omega) h20.2 h20.1 (by omega)
  have hr3 : a.round = 0 ∨ a.round = 1 ∨ a.round = 2 := by omega
  have w0 : wrap64 0 = 0 := by kernel_rfl
  unfold payM
  by_cases hneg : near ≤ a.fee
  · rw [show max (near - a.fee) 0 = 0 from by omega, Int.zero_mul]
    clear p0 p1
    rcases hr3 with h0 | h0 | h0
    · have b1 : (a.round == 1) = false := by rw [h0]; rfl
      have b2 : (a.round == 2) = false := by rw [h0]; rfl
      rw [h0, if_neg (by decide), if_neg (by decide)]
      clear h0 hr
      (go_enter Try.func47, Try.ntmps47; go_wp2; go_ret; exact ⟨ret_int (by first | rfl | omega), (by first | (with_reducible exact Ext.refl _) | (with_reducible assumption) | (show Below _ _ _; go_grown; done))⟩)
    · have b1 : (a.round == 1) = true := by rw [h0]; rfl
      rw [h0, if_pos rfl]
      clear h0 hr
      (go_enter Try.func47, Try.ntmps47; go_wp2; go_ret; exact ⟨ret_int (by first | rfl | omega), (by first | (with_reducible exact Ext.refl _) | (with_reducible assumption) | (show Below _ _ _; go_grown; done))⟩)
    · have b1 : (a.round == 1) = false := by rw [h0]; rfl
      have b2 : (a.round == 2) = true := by rw [h0]; rfl
      rw [h0, if_neg (by decide), if_pos rfl]
      clear h0 hr
      (go_enter Try.func47, Try.ntmps47; go_wp2; go_ret; exact ⟨ret_int (by first | rfl | omega), (by first | (with_reducible exact Ext.refl _) | (with_reducible assumption) | (show Below _ _ _; go_grown; done))⟩)
  · rw [show max (near - a.fee) 0 = near - a.fee from by omega]
    have q0 := p0 (by omega)
    have q1 := p1 (by omega)
    clear p0 p1
    have w2 : wrap64 ((near - a.fee) * rate) = (near - a.fee) * rate := IntWalk.wrap64_in _ (by omega)
    have e1 : wrap64 ((near - a.fee) * rate + 10) = (near - a.fee) * rate + 10 := IntWalk.wrap64_in _ (by omega)
    have e2 : wrap64 ((near - a.fee) * rate + 10 - 1) = (near - a.fee) * rate + 9 := by rw [show (near - a.fee) * rate + 10 - 1 = (near - a.fee) * rate + 9 from by omega]; exact IntWalk.wrap64_in _ (by omega)
    have e3 : wrap64 (Int.tdiv ((near - a.fee) * rate + 9) 10) = ((near - a.fee) * rate + 9) / 10 := by rw [quo10 (by omega)]; exact IntWalk.wrap64_in _ (by omega)
    have e4 : wrap64 ((near - a.fee) * rate + 5) = (near - a.fee) * rate + 5 := IntWalk.wrap64_in _ (by omega)
    have e5 : wrap64 (Int.tdiv ((near - a.fee) * rate + 5) 10) = ((near - a.fee) * rate + 5) / 10 := by rw [quo10 (by omega)]; exact IntWalk.wrap64_in _ (by omega)
    have e6 : wrap64 (Int.tdiv ((near - a.fee) * rate) 10) = (near - a.fee) * rate / 10 := by rw [quo10 (by omega)]; exact IntWalk.wrap64_in _ (by omega)
    rcases hr3 with h0 | h0 | h0
    · have b1 : (a.round == 1) = false := by rw [h0]; rfl
      have b2 : (a.round == 2) = false := by rw [h0]; rfl
      rw [h0, if_neg (by decide), if_neg (by decide)]
      clear h0 hr
      (go_enter Try.func47, Try.ntmps47; go_wp2; go_ret; exact ⟨ret_int (by first | rfl | omega), (by first | (with_reducible exact Ext.refl _) | (with_reducible assumption) | (show Below _ _ _; go_grown; done))⟩)
    · have b1 : (a.round == 1) = true := by rw [h0]; rfl
      rw [h0, if_pos rfl]
      clear h0 hr
      (go_enter Try.func47, Try.ntmps47; go_wp2; go_ret; exact ⟨ret_int (by first | rfl | omega), (by first | (with_reducible exact Ext.refl _) | (with_reducible assumption) | (show Below _ _ _; go_grown; done))⟩)
    · have b1 : (a.round == 1) = false := by rw [h0]; rfl
      have b2 : (a.round == 2) = true := by rw [h0]; rfl
      rw [h0, if_neg (by decide), if_pos rfl]
      clear h0 hr
      (go_enter Try.func47, Try.ntmps47; go_wp2; go_ret; exact ⟨ret_int (by first | rfl | omega), (by first | (with_reducible exact Ext.refl _) | (with_reducible assumption) | (show Below _ _ _; go_grown; done))⟩)
end Go.Proofs.Ytpflfincedllgaa

namespace Go.Proofs.Ytpflfincedllgaa
set_option linter.unusedSimpArgs false
set_option linter.unusedVariables false
open Go.RowKit
set_option linter.unusedVariables false
set_option maxRecDepth 100000

set_option maxHeartbeats 4000000 in
theorem refAgrees_any (hv xv rv : Value) (h : House) (hV : ValidH h) (x : Ent) (r : List Int) (w : World) (hh : HouseAt w hv h) (hx : EntV xv x) (hr : IntsAt w rv r)
    (ha : 0 ≤ x.agent ∧ x.agent < h.agents.length) (hd : 0 ≤ x.day ∧ x.day < r.length) (hn : 0 ≤ x.near ∧ x.near ≤ 99) (hg : ∀ y ∈ r, 1 ≤ y ∧ y ≤ 20) :
    Calls Try.prog 84 #[hv, xv, rv] w fun e w' => e = .returned (.bool (!toldE x || agreesM h x r)) ∧ Ext w w' := by
  obtain ⟨ra, rc, aa, ac, ea, ec, rfl, hdi, hsi, -, hag, -⟩ := hh
  obtain ⟨rfl, -, -, -, -⟩ := hx
  obtain ⟨i, hi⟩ : ∃ i : Nat, x.agent = i := ⟨x.agent.toNat, by omega⟩
  obtain ⟨j, hj⟩ : ∃ j : Nat, x.day = j := ⟨x.day.toNat, by omega⟩
  unfold entV
  rw [hi, hj]
  have hil : i < h.agents.length := by omega
  have hjl : j < r.length := by omega
  have xB : Ext w ((w.alloc (.cells #[.int .i64 h.days, .slice ra h.rates.length rc, .int .i64 h.step, .slice (aa) h.agents.length ac, .slice ea h.entries.length ec] 26)).alloc (.cells #[.int .i64 i, .int .i64 j, .int .i64 x.near, .int .i64 x.far] 58)) := (ext_alloc _ _).alloc _
  have hagr := hV.agent _ (agtAt_mem (h := h) (i := x.agent) ha.1 ha.2)
  have hag1 : h.agents[i] = agtAt h x.agent := by unfold agtAt; rw [hi, Int.toNat_natCast, List.getD_eq_getElem?_getD, List.getElem?_eq_getElem hil]; rfl
  have hrj : r.getD x.day.toNat 0 = r[j] := by rw [hj, Int.toNat_natCast, List.getD_eq_getElem?_getD, List.getElem?_eq_getElem hjl]; rfl
  have hgj := hg _ (List.getElem_mem hjl)
  have hagree : agreesM h x r = (payM (agtAt h x.agent) x.near r[j] == x.far) := by unfold agreesM entPay; rw [hrj]
  obtain ⟨ab, ao, rfl, a0, a1, a2, gs, gf, gr⟩ := SliceAt.get (hag.ext xB) hil
  obtain ⟨sa0, sc, rfl, hsc1, hsc2⟩ := hr.shape
  obtain ⟨sb, so, rfl, sv, -⟩ := SliceAt.get (hr.ext xB) hjl
  rw [hag1] at a0 a1 a2 gs gf gr
  generalize agtAt h x.agent = a at *
  generalize r[j] = p at *
  have b0 : (((w.alloc (.cells #[.int .i64 h.days, .slice ra h.rates.length rc, .int .i64 h.step, .slice (some ⟨ab, ao, none⟩) h.agents.length ac, .slice ea h.entries.length ec] 26)).alloc (.cells #[.int .i64 i, .int .i64 j, .int .i64 x.near, .int .i64 x.far] 58))).cell? ⟨w.heap.size, 3, none⟩ = some (.slice (some ⟨ab, ao, none⟩) h.agents.length ac) := by simp [go_sem]
  have b1 : (((w.alloc (.cells #[.int .i64 h.days, .slice ra h.rates.length rc, .int .i64 h.step, .slice (some ⟨ab, ao, none⟩) h.agents.length ac, .slice ea h.entries.length ec] 26)).alloc (.cells #[.int .i64 i, .int .i64 j, .int .i64 x.near, .int .i64 x.far] 58))).cell? ⟨w.heap.size + 1, 0, none⟩ = some (.int .i64 i) := by simp [go_sem]
  have b2 : (((w.alloc (.cells #[.int .i64 h.days, .slice ra h.rates.length rc, .int .i64 h.step, .slice (some ⟨ab, ao, none⟩) h.agents.length ac, .slice ea h.entries.length ec] 26)).alloc (.cells #[.int .i64 i, .int .i64 j, .int .i64 x.near, .int .i64 x.far] 58))).cell? ⟨w.heap.size + 1, 1, none⟩ = some (.int .i64 j) := by simp [go_sem]
  have b3 : (((w.alloc (.cells #[.int .i64 h.days, .slice ra h.rates.length rc, .int .i64 h.step, .slice (some ⟨ab, ao, none⟩) h.agents.length ac, .slice ea h.entries.length ec] 26)).alloc (.cells #[.int .i64 i, .int .i64 j, .int .i64 x.near, .int .i64 x.far] 58))).cell? ⟨w.heap.size + 1, 2, none⟩ = some (.int .i64 x.near) := by simp [go_sem]
  have b4 : (((w.alloc (.cells #[.int .i64 h.days, .slice ra h.rates.length rc, .int .i64 h.step, .slice (some ⟨ab, ao, none⟩) h.agents.length ac, .slice ea h.entries.length ec] 26)).alloc (.cells #[.int .i64 i, .int .i64 j, .int .i64 x.near, .int .i64 x.far] 58))).cell? ⟨w.heap.size + 1, 3, none⟩ = some (.int .i64 x.far) := by simp [go_sem]
  rw [Nat.mul_one] at sv
  have B0 := Lib.hid b0
  have B1 := Lib.hid b1
  have B2 := Lib.hid b2
  have B3 := Lib.hid b3
  have B4 := Lib.hid b4
  have A0 := Lib.hid a0
  have A1 := Lib.hid a1
  have A2 := Lib.hid a2
  have SV := Lib.hid sv
  have XB := Lib.hid xB
  have ki : (i : Int) < (h.agents.length : Int) := by omega
  have kj : (j : Int) < (r.length : Int) := by omega
  have HA := Lib.hid hagree
  have Hagr := Lib.hid hagr
  have Hgj := Lib.hid hgj
  have Hn := Lib.hid hn
  clear b0 b1 b2 b3 b4 a0 a1 a2 sv xB hagree hagr hgj hag1 hrj hag hr hV hg hi hj ha hd hn hsc1 hsc2
  obtain ⟨t, ht⟩ : ∃ t, (x.far == -1) = t := ⟨_, rfl⟩
  have htold : toldE x = !t := by unfold toldE; rw [← ht]; rfl
  rw [htold]
  clear htold
  go_enter Try.func84, Try.ntmps84
  go_wp2_with fail
  obtain ⟨W, hW⟩ : ∃ W, W = ((w.alloc (.cells #[.int .i64 h.days, .slice ra h.rates.length rc, .int .i64 h.step, .slice (some ⟨ab, ao, none⟩) h.agents.length ac, .slice ea h.entries.length ec] 26)).alloc (.cells #[.int .i64 i, .int .i64 j, .int .i64 x.near, .int .i64 x.far] 58)) := ⟨_, rfl⟩
  rw [← hW]
  have b0 := B0.out
  have b1 := B1.out
  have b2 := B2.out
  have b3 := B3.out
  have b4 := B4.out
  have a0 := A0.out
  have a1 := A1.out
  have a2 := A2.out
  have sv := SV.out
  have xB := XB.out
  rw [← hW] at b0 b1 b2 b3 b4 a0 a1 a2 sv xB
  clear B0 B1 B2 B3 B4 A0 A1 A2 SV XB hW
  cases t
  · apply Facts.wp_region (.val _ :: .val _ :: .val _ :: .val _ :: .val _ :: .val _ :: .val _ :: .val _ :: .val _ :: .val _ :: .val _ :: .val _ :: .val _ :: .val _ :: .val _ :: .val _ :: .val _ :: .val _ :: .val _ :: .val _ :: .val _ :: .val _ :: .val _ :: []) (by kernel_rfl) (by kernel_rfl) trivial ?main
    case main =>
      iterate 17 (refine ⟨fun w1 hx hh => ?_, ?_⟩; focus (clear hh; have j0 := hx.cell b0; have j1 := hx.cell b1; have j2 := hx.cell b2; have j3 := hx.cell b3; have j4 := hx.cell b4; have j5 := hx.cell a0; have j6 := hx.cell a1; have j7 := hx.cell a2; have j8 := hx.cell sv; go_simp; first | exact ⟨Ext.refl _, rfl⟩ | exact Ext.refl _))
      refine ⟨fun w1 hx hh => ?_, ?_⟩
      · clear hh
        go_simp
        refine (refPays_any _ a x.near p ⟨rfl, gs, gf, gr⟩ Hagr.out.1 Hagr.out.2 Hn.out ⟨by have := Hgj.out; omega, Hgj.out.2⟩ _).mono ?_
        rintro e w' ⟨rfl, hx2⟩
        exact ⟨_, rfl, hx2, rfl⟩
      iterate 2 (refine ⟨fun w1 hx hh => ?_, ?_⟩; focus (clear hh; have j4 := hx.cell b4; go_simp; first | exact ⟨Ext.refl _, rfl⟩ | exact Ext.refl _))
      iterate 1 (refine ⟨fun w1 hx hh => ?_, ?_⟩; focus (clear hh; skip; go_simp; first | exact ⟨Ext.refl _, rfl⟩ | exact Ext.refl _))
      iterate 2 (refine ⟨fun w1 hx hh => ?_, ?_⟩; focus (clear hh; skip; go_simp; first | exact ⟨Ext.refl _, rfl⟩ | exact Ext.refl _))
      intro w5 hx5 hh
      clear hh
      go_simp
      go_wp2
      go_ret
      exact ⟨ret_bool (by rw [HA.out]; rfl), xB.trans hx5⟩
  · apply Facts.wp_region (.val _ :: .val _ :: .val _ :: .val _ :: .val _ :: .val _ :: .val _ :: .val _ :: .val _ :: .val _ :: .val _ :: .val _ :: .val _ :: .val _ :: .val _ :: .val _ :: .val _ :: .val _ :: .val _ :: .val _ :: .val _ :: .val _ :: .val _ :: []) (by kernel_rfl) (by kernel_rfl) trivial ?main
    case main =>
      iterate 23 (refine ⟨fun w1 hx hh => ?_, ?_⟩; focus (clear hh; have j4 := hx.cell b4; go_simp; first | exact ⟨Ext.refl _, rfl⟩ | exact Ext.refl _))
      intro w5 hx5 hh
      clear hh
      go_simp
      go_wp2
      go_ret
      exact ⟨rfl, xB.trans hx5⟩
end Go.Proofs.Ytpflfincedllgaa

namespace Go.Proofs.Ytpflfincedllgaa
set_option linter.unusedSimpArgs false
set_option linter.unusedVariables false
open Go.RowKit

theorem mem_take_step (l : List Int) (k : Nat) (n x : Int) (h : k < l.length) (hx : l[k] = x) : decide (n ∈ l.take (k + 1)) = (decide (n ∈ l.take k) || (x == n)) := by
  rw [List.take_succ_eq_append_getElem h, hx]
  by_cases h1 : n ∈ l.take k <;> by_cases h2 : x = n
  · simp [h1, h2]
  · simp [h1]
  · simp [h1, h2]
  · simp [h1, h2, Ne.symm h2]
set_option maxHeartbeats 1000000 in
set_option maxRecDepth 100000 in
theorem has_any (v : Value) (n : Int) (l : List Int) (w : World) (hl : IntsAt w v l) :
    Calls Try.prog 90 #[v, .int .i64 n] w fun r w' => r = .returned (.bool (decide (n ∈ l))) ∧ Ext w w' := by
  obtain ⟨a, cap, rfl, hlc, hcm⟩ := hl.shape
  go_enter Try.func90, Try.ntmps90
  go_wp2
  go_loopw [5, 6] (fun m i wr => ∃ k : Nat, ∃ met : Bool, k ≤ l.length ∧ m = .bool met ∧ i = .int .i64 k ∧ Ext w wr ∧ decide (n ∈ l.take k) = met) (fun _ i _ => l.length - (intOf i).toNat)
  case atStart => exact ⟨0, false, Nat.zero_le _, rfl, rfl, Ext.refl _, by simp⟩
  case round =>
    obtain ⟨k, met, hk, rfl, rfl, hx, hd⟩ := hrel
    have Hd := Lib.hid hd; clear hd
    by_cases h1 : k < l.length
    · have k1 : (k : Int) < (l.length : Int) := by omega
      obtain ⟨_, _, he, -, -, hh⟩ := hl.ext hx
      obtain ⟨b, off, rfl, c0, -⟩ := hh k h1
      cases he
      clear hh
      generalize hx' : l[k] = x at *
      have hst := mem_take_step l k n x h1 hx'
      have Hst := Lib.hid hst
      clear hx' hst
      simp only [Nat.mul_one] at c0
      cases met
      · cases h0 : x == n
        all_goals
          have H0 := Lib.hid h0
          go_wp2
          go_roundw
          case rel => exact ⟨k + 1, _, by omega, rfl, by go_num, hx, by rw [Hst.out, Hd.out, H0.out]; rfl⟩
          case measure => simp [intOf]; omega
      · go_wp2
        go_roundw
        case rel => exact ⟨k + 1, true, by omega, rfl, by go_num, hx, by rw [Hst.out, Hd.out]; rfl⟩
        case measure => simp [intOf]; omega
    · go_wp2
      go_ret
      have := Hd.out
      rw [List.take_of_length_le (by omega)] at this
      exact ⟨ret_bool this.symm, hx⟩

def risingM (below : Int) : Int → List Int → Bool
  | _, [] => true
  | last, x :: l => decide (last < x) && decide (x < below) && risingM below x l
set_option maxHeartbeats 1000000 in
set_option maxRecDepth 100000 in
theorem rising_any (v : Value) (below : Int) (l : List Int) (w : World) (hl : IntsAt w v l) :
    Calls Try.prog 41 #[v, .int .i64 below] w fun r w' => r = .returned (.bool (risingM below (-1) l)) ∧ Ext w w' := by
  obtain ⟨a, cap, rfl, hlc, hcm⟩ := hl.shape
  go_enter Try.func41, Try.ntmps41
  go_wp2
  go_loopw [5, 6] (fun m i wr => ∃ k : Nat, ∃ last : Int, k ≤ l.length ∧ m = .int .i64 last ∧ i = .int .i64 k ∧ Ext w wr ∧ risingM below last (l.drop k) = risingM below (-1) l) (fun _ i _ => l.length - (intOf i).toNat)
  case atStart => exact ⟨0, -1, Nat.zero_le _, rfl, rfl, Ext.refl _, rfl⟩
  case round =>
    obtain ⟨k, last, hk, rfl, rfl, hx, hd⟩ := hrel
    have Hd := Lib.hid hd; clear hd
    by_cases h1 : k < l.length
    · have k1 : (k : Int) < (l.length : Int) := by omega
      obtain ⟨_, _, he, -, -, hh⟩ := hl.ext hx
      obtain ⟨b, off, rfl, c0, -⟩ := hh k h1
      cases he
      clear hh
      have hst : risingM below last (l.drop k) = (decide (last < l[k]) && decide (l[k] < below) && risingM below l[k] (l.drop (k + 1))) := by rw [List.drop_eq_getElem_cons h1, risingM]
      generalize hx' : l[k] = x at *
      have Hst := Lib.hid hst
      clear hx' hst
      simp only [Nat.mul_one] at c0
      by_cases h2 : x ≤ last
      · go_wp2
        go_ret
        exact ⟨ret_bool (by rw [← Hd.out, Hst.out, decide_eq_false (show ¬ last < x by omega)]; rfl), hx⟩
      · by_cases h3 : below ≤ x
        · go_wp2
          go_ret
          exact ⟨ret_bool (by rw [← Hd.out, Hst.out, decide_eq_false (show ¬ x < below by omega)]; simp), hx⟩
        · go_wp2
          go_roundw
          case rel => exact ⟨k + 1, x, by omega, rfl, by go_num, hx, by rw [← Hd.out, Hst.out, decide_eq_true (show last < x by omega), decide_eq_true (show x < below by omega)]; rfl⟩
          case measure => simp [intOf]; omega
    · go_wp2
      go_ret
      have := Hd.out
      rw [List.drop_eq_nil_of_le (by omega)] at this
      exact ⟨ret_bool this, hx⟩

end Go.Proofs.Ytpflfincedllgaa

namespace Go.Proofs.Ytpflfincedllgaa
set_option linter.unusedSimpArgs false
set_option linter.unusedVariables false
open Go.RowKit
set_option linter.unusedVariables false
set_option linter.unusedSimpArgs false
set_option maxRecDepth 100000

/-- one more list at the end, that was there before -/
theorem ListsOwnI.pushO {w wA w' : World} {base : Nat} {v v' x : Value} {LL : List (List Int)} {L : List Int} {vs : List Value} (h1 : w.ownsRow base 30 1 v LL.length vs) (h2 : ∀ (i : Nat) (x : Value) (L : List Int), vs[i]? = some x → LL[i]? = some L → ElemAtI w v.ownBlock x L) (hx : Ext w wA) {t : TypeId}
    (hv : ∃ sa sc, x = .slice sa L.length sc ∧ IntsAt wA x L ∧ ∀ ad, sa = some ad → ad.block < wA.heap.size ∧ some ad.block ≠ v.ownBlock)
    (hown : w'.ownsRow base 30 1 v' (LL.length + 1) (vs ++ [x])) (hg : (wA.alloc (.cells #[x] t)).grownBy w' v.ownBlock) (hb : v'.ownBlock = v.ownBlock ∨ v'.ownBlock = some (wA.heap.size + 1)) :
    ListsOwnI w' base v' (LL ++ [L]) := by
  have hlt := fun k hk => h1.lt k hk
  have h2A : ∀ (i : Nat) (x : Value) (L : List Int), vs[i]? = some x → LL[i]? = some L → ElemAtI wA v.ownBlock x L := fun i x L hi hL => by
    obtain ⟨sa, sc, rfl, h3, h4⟩ := h2 i x L hi hL
    exact ⟨sa, sc, rfl, h3.ext hx, fun ad e => ⟨Nat.lt_of_lt_of_le (h4 ad e).1 hx.size, (h4 ad e).2⟩⟩
  have hlen : vs.length = LL.length := by have := h1.1; omega
  have hg0 : wA.grownBy (wA.alloc (.cells #[x] t)) v.ownBlock := World.grownBy_alloc _ _ _
  have hsz : (wA.alloc (.cells #[x] t)).heap.size = wA.heap.size + 1 := by simp
  have hsz2 := hg.size
  have keep : ∀ (sa : Option Addr) (n sc : Nat) (l : List Int), IntsAt wA (.slice sa n sc) l → (∀ ad, sa = some ad → ad.block < wA.heap.size ∧ some ad.block ≠ v.ownBlock) → IntsAt w' (.slice sa n sc) l ∧ ∀ ad, sa = some ad → ad.block < w'.heap.size ∧ some ad.block ≠ v'.ownBlock := fun sa n sc l hi hne => by
    refine ⟨(hi.grownByI hg0 fun ad e => (hne ad e).2).grownByI hg fun ad e => (hne ad e).2, fun ad e => ⟨by have := (hne ad e).1; omega, ?_⟩⟩
    rcases hb with hb | hb
    · rw [hb]; exact (hne ad e).2
    · rw [hb]; intro e2; have := (hne ad e).1; have := Option.some.inj e2; omega
  refine ⟨vs ++ [x], by rw [List.length_append]; exact hown, fun i y M hi hM => ?_⟩
  rcases Nat.lt_or_ge i vs.length with h3 | h3
  · rw [List.getElem?_append_left h3] at hi
    rw [List.getElem?_append_left (by omega)] at hM
    obtain ⟨sa, sc, rfl, h4, h5⟩ := h2A i y M hi hM
    obtain ⟨k1, k2⟩ := keep sa _ sc _ h4 h5
    exact ⟨sa, sc, rfl, k1, k2⟩
  · rw [List.getElem?_append_right h3] at hi
    rw [List.getElem?_append_right (by omega)] at hM
    have hi0 : i - vs.length = 0 := by
      rcases Nat.eq_zero_or_pos (i - vs.length) with h6 | h6
      · exact h6
      · rw [List.getElem?_eq_none (by simp; omega)] at hi; cases hi
    rw [hi0] at hi
    rw [show i - LL.length = 0 from by omega] at hM
    obtain rfl : x = y := by simpa using hi
    obtain rfl : L = M := by simpa using hM
    obtain ⟨sa, sc, rfl, h4, h5⟩ := hv
    obtain ⟨k1, k2⟩ := keep sa _ sc _ h4 fun ad e => h5 ad e
    exact ⟨sa, sc, rfl, k1, k2⟩

def outL (but : List Int) : Nat → Bool := fun i => decide ((i : Int) ∈ but)
def okTo (h : House) (out : Nat → Bool) (q : List Int) (k : Nat) : Bool := (List.range k).all fun i => out i || !toldE (entAt h i) || agreesM h (entAt h i) q
theorem okTo_succ (h : House) (out : Nat → Bool) (q : List Int) (k : Nat) : okTo h out q (k + 1) = (okTo h out q k && (out k || (!toldE (entAt h k) || agreesM h (entAt h k) q))) := by
  unfold okTo
  rw [List.range_succ, List.all_append, List.all_cons, List.all_nil, Bool.and_true, Bool.or_assoc]
theorem filter_take_next (f : List Int → Bool) (l : List (List Int)) (n : Nat) (hn : n < l.length) : (l.take (n + 1)).filter f = (l.take n).filter f ++ (if f l[n] = true then [l[n]] else []) := by
  rw [List.take_succ_eq_append_getElem hn, List.filter_append]
  cases h : f l[n] <;> simp [h]
set_option maxHeartbeats 16000000 in
theorem refTruths_any (hv bv : Value) (h : House) (hV : ValidH h) (but : List Int) (w : World) (hh : HouseAt w hv h) (hb : IntsAt w bv but) :
    Calls Try.prog 45 #[hv, bv] w fun e w' => ∃ u, e = .returned u ∧ ListsAtI w' u (truL h (outL but)) ∧ Ext w w' := by
  rw [truL_all hV]
  have hrates := fun w1 (hx : Ext w w1) => refRates_any hv h hV w1 (hh.ext hx)
  have hHH := Lib.hid hh
  obtain ⟨ra, rc, aa, ac, ea, ec, rfl, hdi, hsi, -, -, hent⟩ := hh
  have hE := Lib.hid hent
  have HV := Lib.hid hV
  have hgood : ∀ q ∈ ratesL h, q.length = h.days.toNat ∧ ∀ x ∈ q, 1 ≤ x ∧ x ≤ 20 := by rw [ratesL_levels]; exact levels_mem hV (Nat.le_refl _)
  have hmany := ratesL_many hV
  have hen := hV.entries
  have hokall : ∀ q, okTo h (outL but) q h.entries.length = okAll h (outL but) q := fun q => rfl
  have hsucc := okTo_succ h (outL but)
  obtain ⟨all, hall⟩ : ∃ all, all = ratesL h := ⟨_, rfl⟩
  rw [← hall] at hgood hmany ⊢
  simp only [← hall] at hrates
  have Hgood := Lib.hid hgood
  have Hokall := Lib.hid hokall
  have Hsucc := Lib.hid hsucc
  have HB := Lib.hid hb
  clear hent hV hgood hokall hsucc hall hb
  obtain ⟨j0, hj, hy0, hy1, hy2⟩ := info_parts infoIntsI
  go_enter Try.func45, Try.ntmps45
  go_wp2_with fail
  refine (hrates _ (ext_alloc _ _)).mono ?_
  rintro e w1 ⟨u, rfl, hAll, hx0⟩
  clear hrates
  have x1 : Ext w w1 := hx0.of_alloc
  have p0 : w1.cell? ⟨w.heap.size, 0, none⟩ = some (.int .i64 h.days) := hx0.cell (by simp [go_sem])
  have p1 : w1.cell? ⟨w.heap.size, 1, none⟩ = some (.slice ra h.rates.length rc) := hx0.cell (by simp [go_sem])
  have p2 : w1.cell? ⟨w.heap.size, 2, none⟩ = some (.int .i64 h.step) := hx0.cell (by simp [go_sem])
  have p3 : w1.cell? ⟨w.heap.size, 3, none⟩ = some (.slice aa h.agents.length ac) := hx0.cell (by simp [go_sem])
  have p4 : w1.cell? ⟨w.heap.size, 4, none⟩ = some (.slice ea h.entries.length ec) := hx0.cell (by simp [go_sem])
  clear hx0
  obtain ⟨oa, oc, rfl, -⟩ := hAll.shape
  go_wp2
  go_loopw [6, 7, 8, 9] (fun v i b k wr => ∃ n : Nat, n ≤ all.length ∧ i = .int .i64 n ∧ Ext w1 wr ∧ ListsOwnI wr w1.heap.size v ((all.take n).filter (okAll h (outL but)))) (fun _ i _ _ _ => all.length - (intOf i).toNat)
  case atStart => exact ⟨0, Nat.zero_le _, rfl, Ext.refl _, ListsOwnI.nil _ _⟩
  case round =>
    obtain ⟨n, hn, rfl, hx, hown⟩ := hrel
    obtain ⟨R, hR0⟩ : ∃ R : World, R = wr := ⟨_, rfl⟩
    subst hR0
    have q4 := hx.cell p4
    have z0 := cell_lt q4
    by_cases hlt : n < all.length
    · have k1 : (n : Int) < (all.length : Int) := by omega
      obtain ⟨ob, oo, rfl, s, cs, hs⟩ := SliceAt.get hAll hlt
      have hnx := filter_take_next (okAll h (outL but)) all n hlt
      have hLf := Hgood.out all[n] (List.getElem_mem hlt)
      have hlen : ((all.take n).filter (okAll h (outL but))).length ≤ 8000 := by
        have h1 := List.length_filter_le (okAll h (outL but)) (all.take n)
        rw [List.length_take] at h1
        omega
      generalize all[n] = L at *
      generalize (all.take n).filter (okAll h (outL but)) = pre at *
      rw [Nat.mul_one] at cs
      have hL0 : 0 < L.length := by rw [hLf.1]; have := HV.out.days; omega
      obtain ⟨sa0, sc, rfl, hsc1, hsc2⟩ := hs.shape
      obtain ⟨sb, so, rfl, sv, -⟩ := SliceAt.get hs hL0
      have hsb := cell_lt sv
      obtain ⟨nl, hnl⟩ : ∃ nl, nl = L.length := ⟨_, rfl⟩
      rw [← hnl] at cs hsc1 hs
      have Hnl := Lib.hid hnl
      have Hnx := Lib.hid hnx
      have HS := Lib.hid hs
      have HLf := Lib.hid hLf
      clear hnl hnx hs sv hLf hL0
      have c0 := hx.cell cs
      have z1 := cell_lt c0
      go_wp2
      go_loopw [8, 9] (fun b k wr => ∃ m : Nat, m ≤ h.entries.length ∧ k = .int .i64 m ∧ b = .bool (okTo h (outL but) L m) ∧ Ext R wr) (fun _ k _ => h.entries.length - (intOf k).toNat)
      case atStart => exact ⟨0, Nat.zero_le _, rfl, rfl, Ext.refl _⟩
      case round =>
        obtain ⟨m, hm, rfl, rfl, hxr⟩ := hrel
        clear q4 z0 c0 z1
        have hxx := hx.trans hxr
        have q0 := hxx.cell p0
        have q1 := hxx.cell p1
        have q2 := hxx.cell p2
        have q3 := hxx.cell p3
        have q4 := hxx.cell p4
        have c0 := hxx.cell cs
        have z0 := cell_lt q4
        have z1 := cell_lt c0
        by_cases hmt : m < h.entries.length
        · have k2 : (m : Int) < (h.entries.length : Int) := by omega
          have hst := Hsucc.out L m
          generalize okTo h (outL but) L m = b at *
          cases b
          · have hst' : Hid (okTo h (outL but) L (m + 1) = false) := Lib.hid (by rw [hst, Bool.false_and])
            clear hst
            go_wp2_with fail
            apply Facts.wp_region (.val _ :: .val _ :: .val _ :: .val _ :: .val _ :: .val _ :: .val _ :: .val _ :: .val _ :: .val _ :: .val _ :: .val _ :: .val _ :: .val _ :: .val _ :: .val _ :: .val _ :: .val _ :: .val _ :: .val _ :: []) (by kernel_rfl) (by kernel_rfl) trivial ?main
            case main =>
              iterate 20 (refine ⟨fun w1 hx hh => ?_, ?_⟩; focus (clear hh; skip; go_simp; first | exact ⟨Ext.refl _, rfl⟩ | exact Ext.refl _))
              intro w5 hx5 hh
              clear hh
              go_simp
              go_wp2
              go_roundw
              case rel => exact ⟨m + 1, by omega, by go_num, by rw [hst'.out], hxr.trans hx5⟩
              case measure => simp [intOf]; omega
          · rw [Bool.true_and] at hst
            have hhas : outL but m = decide ((m : Int) ∈ but) := rfl
            obtain ⟨y, hy⟩ : ∃ y, decide ((m : Int) ∈ but) = y := ⟨_, rfl⟩
            rw [hhas, hy] at hst
            have HY := Lib.hid hy
            clear hhas hy
            cases y
            · rw [Bool.false_or] at hst
              obtain ⟨eb, eo, rfl, d0, d1, d2, d3, g0, g1, g2, g3⟩ := SliceAt.get (hE.out.ext (x1.trans hxx)) hmt
              have hem := entAt_get (h := h) hmt
              rw [← hem] at d0 d1 d2 d3 g0 g1 g2 g3
              have hev := HV.out.entry _ (entAt_mem (h := h) hmt)
              generalize entAt h m = x at *
              have hday : 0 ≤ x.day ∧ x.day < L.length := by have := HLf.out.1; have := HV.out.days; omega
              have Hst := Lib.hid hst
              have Hev := Lib.hid hev
              have Hday := Lib.hid hday
              have z2 := cell_lt d0
              clear hst hem hev hday
              go_wp2_with fail
              apply Facts.wp_region (.val _ :: .val _ :: .val _ :: .val _ :: .val _ :: .val _ :: .val _ :: .val _ :: .val _ :: .val _ :: .val _ :: .val _ :: .val _ :: .val _ :: .val _ :: .val _ :: .val _ :: .val _ :: .val _ :: .val _ :: []) (by kernel_rfl) (by kernel_rfl) trivial ?main
              case main =>
                iterate 4 (refine ⟨fun w1 hx hh => ?_, ?_⟩; focus (clear hh; skip; go_simp; first | exact ⟨Ext.refl _, rfl⟩ | exact Ext.refl _))
                refine ⟨fun w2 hx hh => ?_, ?_⟩
                · clear hh
                  go_simp
                  refine (has_any _ _ but _ (HB.out.ext (x1.trans (hxx.trans hx)))).mono ?_
                  rintro e w' ⟨rfl, hx2⟩
                  rw [HY.out]
                  exact ⟨_, rfl, hx2, rfl⟩
                iterate 10 (refine ⟨fun w1 hx hh => ?_, ?_⟩; focus (clear hh; have j0 := hx.cell q0; have j1 := hx.cell q1; have j2 := hx.cell q2; have j3 := hx.cell q3; have j4 := hx.cell q4; have j5 := hx.cell d0; have j6 := hx.cell d1; have j7 := hx.cell d2; have j8 := hx.cell d3; go_simp; first | exact ⟨Ext.refl _, rfl⟩ | exact Ext.refl _))
                iterate 1 (refine ⟨fun w1 hx hh => ?_, ?_⟩; focus (clear hh; have j0 := hx.cell c0; go_simp; first | exact ⟨Ext.refl _, rfl⟩ | exact Ext.refl _))
                refine ⟨fun w2 hx hh => ?_, ?_⟩
                · clear hh
                  have hxA := x1.trans (hxx.trans hx)
                  have hsA := HS.out.ext (hxx.trans hx)
                  go_simp
                  refine (refAgrees_any _ _ _ h HV.out x L _ (hHH.out.ext hxA) ⟨rfl, g0, g1, g2, g3⟩ hsA Hev.out.1 Hday.out Hev.out.2.2.1 HLf.out.2).mono ?_
                  rintro e w' ⟨rfl, hx2⟩
                  exact ⟨_, rfl, hx2, rfl⟩
                iterate 3 (refine ⟨fun w1 hx hh => ?_, ?_⟩; focus (clear hh; skip; go_simp; first | exact ⟨Ext.refl _, rfl⟩ | exact Ext.refl _))
                intro w5 hx5 hh
                clear hh
                go_simp
                go_wp2
                go_roundw
                case rel => exact ⟨m + 1, by omega, by go_num, by rw [Hst.out], hxr.trans hx5⟩
                case measure => simp [intOf]; omega
            · have hst' : Hid (okTo h (outL but) L (m + 1) = true) := Lib.hid (by rw [hst, Bool.true_or])
              clear hst
              go_wp2_with fail
              apply Facts.wp_region (.val _ :: .val _ :: .val _ :: .val _ :: .val _ :: .val _ :: .val _ :: .val _ :: .val _ :: .val _ :: .val _ :: .val _ :: .val _ :: .val _ :: .val _ :: .val _ :: .val _ :: .val _ :: .val _ :: .val _ :: []) (by kernel_rfl) (by kernel_rfl) trivial ?main
              case main =>
                iterate 4 (refine ⟨fun w1 hx hh => ?_, ?_⟩; focus (clear hh; skip; go_simp; first | exact ⟨Ext.refl _, rfl⟩ | exact Ext.refl _))
                refine ⟨fun w2 hx hh => ?_, ?_⟩
                · clear hh
                  go_simp
                  refine (has_any _ _ but _ (HB.out.ext (x1.trans (hxx.trans hx)))).mono ?_
                  rintro e w' ⟨rfl, hx2⟩
                  rw [HY.out]
                  exact ⟨_, rfl, hx2, rfl⟩
                iterate 15 (refine ⟨fun w1 hx hh => ?_, ?_⟩; focus (clear hh; skip; go_simp; first | exact ⟨Ext.refl _, rfl⟩ | exact Ext.refl _))
                intro w5 hx5 hh
                clear hh
                go_simp
                go_wp2
                go_roundw
                case rel => exact ⟨m + 1, by omega, by go_num, by rw [hst'.out], hxr.trans hx5⟩
                case measure => simp [intOf]; omega
        · obtain rfl : m = h.entries.length := by omega
          have hok := Hokall.out L
          have Hok := Lib.hid hok
          obtain ⟨b, hb⟩ : ∃ b, okTo h (outL but) L h.entries.length = b := ⟨_, rfl⟩
          rw [hb] at hok ⊢
          have Hb := Lib.hid hok
          clear hok hb Hok hmt
          cases b
          · have hfin : Hid ((all.take (n + 1)).filter (okAll h (outL but)) = pre) := Lib.hid (by rw [Hnx.out, ← Hb.out]; simp)
            go_wp2
            go_roundw
            case rel => exact ⟨n + 1, by omega, by go_num, hxx, by rw [hfin.out]; exact hown.ext hxr⟩
            case measure => simp [intOf]; omega
          · have hfin : Hid ((all.take (n + 1)).filter (okAll h (outL but)) = pre ++ [L]) := Lib.hid (by rw [Hnx.out, ← Hb.out]; simp)
            have hown2 := hown.ext hxr
            obtain ⟨vs, hrow, helem⟩ := hown2
            have hszr := hxx.size
            have hvl := hrow.1
            have Hvl := Lib.hid hvl
            have Helem := Lib.hid helem
            have hlt2 := hrow.lt
            clear hvl helem hown
            obtain ⟨wr, hwr⟩ : ∃ w' : World, w' = wr := ⟨_, rfl⟩
            subst hwr
            go_wp2_with (at_builtin; refine wpList_append_own_at _ rfl _ _ 67 rfl w1.heap.size 30 j0 (.slice none 0 0) 1 24 Try.underlying67 hj hy0 hy1 hy2 rfl (by decide) _ _ _ rfl (hrow.alloc _) ⟨wr.heap.size, 0, none⟩ 1 1 [.slice (some ⟨sb, so, none⟩) nl sc] rfl rfl (cell_one_new _ _ _) (by simp [Value.oneCell']) (by unfold maxLen; omega) (by omega) (by simp; omega) ?_; intro v3 w3 hown3 hgrow3 _ hblk)
            have x3 : Ext w1 w3 := Ext.grown (hxx.alloc _) hgrow3 (fun k hk => (hrow.lt k hk).1)
            have hnew := ListsOwnI.pushO (L := L) hrow Helem.out (Ext.refl _) ⟨some ⟨sb, so, none⟩, sc, (by rw [← Hnl.out]), HS.out.ext hxx, fun ad e => by obtain rfl := Option.some.inj e; exact ⟨show sb < wr.heap.size from by omega, fun e2 => by have := (hlt2 sb e2.symm).1; omega⟩⟩ hown3 hgrow3 (hblk.elim .inl (fun e => .inr (e.trans (by simp))))
            go_roundw
            case rel => exact ⟨n + 1, by omega, by go_num, x3, by rw [hfin.out]; exact hnew⟩
            case measure => simp [intOf]; omega
    · obtain rfl : n = all.length := by omega
      have hres := hown.at_
      rw [List.take_length] at hres
      obtain ⟨va, vc, rfl, -⟩ := hres.shape
      have x2 := x1.trans hx
      go_wp2
      go_ret
      exact ⟨_, rfl, hres, x2⟩
end Go.Proofs.Ytpflfincedllgaa

namespace Go.Proofs.Ytpflfincedllgaa
set_option linter.unusedSimpArgs false
set_option linter.unusedVariables false
open Go.RowKit

def bitM : Nat → Int → Bool
  | 0, c => c.tmod 2 == 1
  | n + 1, c => bitM n (c.tdiv 2)
theorem tdiv2_in (c : Int) (h : I64 c) : I64 (c.tdiv 2) := by
  unfold I64 at *
  rcases Int.le_total 0 c with h0 | h0
  · rw [Int.tdiv_eq_ediv_of_nonneg h0]; omega
  · have e : c.tdiv 2 = -((-c) / 2) := by
      rw [← Int.tdiv_eq_ediv_of_nonneg (by omega), Int.neg_tdiv, Int.neg_neg]
    rw [e]; omega
def whereM (s : ByteArray) : List ByteArray → Nat → Int
  | [], _ => -1
  | x :: l, k => if (x.toList == s.toList) = true then k else whereM s l (k + 1)
theorem whereM_step (s : ByteArray) (l : List ByteArray) (k : Nat) (h : k < l.length) (x : ByteArray) (hx : l[k] = x) : whereM s (l.drop k) k = if (x.toList == s.toList) = true then (k : Int) else whereM s (l.drop (k + 1)) (k + 1) := by
  rw [List.drop_eq_getElem_cons h, hx, whereM]
theorem whereM_ge (s : ByteArray) (l : List ByteArray) : ∀ k : Nat, decide (0 ≤ whereM s l k) = l.any fun y => y.toList == s.toList := by
  induction l with
  | nil => intro k; simp [whereM]
  | cons x l ih =>
    intro k
    rw [whereM, List.any_cons]
    cases h : x.toList == s.toList
    · simp only [Bool.false_eq_true, if_false, Bool.false_or]; exact ih _
    · simp only [if_true, Bool.true_or, decide_eq_true_eq]; exact Int.natCast_nonneg k
set_option maxHeartbeats 1000000 in
set_option maxRecDepth 100000 in
theorem where_any (v : Value) (s : ByteArray) (l : List ByteArray) (w : World) (hl : StrsAt w v l) :
    Calls Try.prog 96 #[v, .string s] w fun r w' => r = .returned (.int .i64 (whereM s l 0)) ∧ w = w' := by
  obtain ⟨a, cap, rfl, hlc, hcm, hc⟩ := hl
  go_enter Try.func96, Try.ntmps96
  go_wp2
  go_loop [5] (fun i => ∃ k : Nat, k ≤ l.length ∧ i = .int .i64 k ∧ whereM s (l.drop k) k = whereM s l 0) (fun i => l.length - (intOf i).toNat)
  case atStart => exact ⟨0, Nat.zero_le _, rfl, rfl⟩
  case round =>
    obtain ⟨k, hk, rfl, hd⟩ := hrel
    have Hd := Lib.hid hd; clear hd
    by_cases h1 : k < l.length
    · have k1 : (k : Int) < (l.length : Int) := by omega
      have n1 : ((k : Int) == (l.length : Int)) = false := by simp; omega
      obtain ⟨b, off, rfl, c0, -⟩ := hc k h1
      clear hc
      have hst := fun x hx => whereM_step s l k h1 x hx
      generalize hx : l[k] = x at *
      have Hst := Lib.hid (hst x rfl)
      clear hx hst
      simp only [Nat.mul_one] at c0
      cases h2 : x.toList == s.toList
      all_goals
        have H2 := Lib.hid h2
        go_wp2
        first
          | (go_ret
             exact ⟨ret_int (by rw [← Hd.out, Hst.out, if_pos H2.out]), rfl⟩)
          | (go_round
             case rel => exact ⟨k + 1, by omega, by go_num, by rw [← Hd.out, Hst.out, if_neg (by rw [H2.out]; decide)]⟩
             case measure => simp [intOf]; omega)
    · obtain rfl : k = l.length := by omega
      go_wp2
      go_ret
      have := Hd.out
      rw [List.drop_eq_nil_of_le (Nat.le_refl _)] at this
      exact ⟨ret_int this, rfl⟩
end Go.Proofs.Ytpflfincedllgaa

namespace Go.Proofs.Ytpflfincedllgaa
set_option linter.unusedSimpArgs false
set_option linter.unusedVariables false
open Go.RowKit

def nameTo (s : ByteArray) (k : Nat) : Bool := inM s.size 1 16 && (List.range k).all fun k => okByte k (byteAt s k)
theorem nameTo_step (s : ByteArray) (k : Nat) : nameTo s (k + 1) = (nameTo s k && okByte k (byteAt s k)) := by
  simp [nameTo, List.range_succ, Bool.and_assoc]

set_option maxHeartbeats 1000000 in
set_option maxRecDepth 100000 in
theorem refName_any (s : ByteArray) (w : World) (hs : s.size ≤ 9223372036854775807) :
    Calls Try.prog 97 #[.string s] w fun e w' => e = .returned (.bool (nameM s)) ∧ w = w' := by
  go_enter Try.func97, Try.ntmps97
  go_wp2_with (go_at_call 46; refine (In_any _ _ _ _).mono ?_; rintro e w' ⟨rfl, rfl⟩)
  go_loop [3, 4, 5] (fun f i _ => ∃ k : Nat, ∃ fine : Bool, k ≤ s.size ∧ f = .bool fine ∧ i = .int .i64 k ∧ nameTo s k = fine) (fun _ i _ => s.size - (intOf i).toNat)
  case atStart => exact ⟨0, _, Nat.zero_le _, rfl, rfl, by simp [nameTo]⟩
  case round =>
    obtain ⟨k, fine, hk, rfl, rfl, hd⟩ := hrel
    have Hd := Lib.hid hd; clear hd
    by_cases h1 : k < s.size
    · have k1 : (k : Int) < (s.size : Int) := by omega
      have Hst : Hid (nameTo s (k + 1) = (nameTo s k && okByte k ((s[k]'h1).toNat : Int))) := Lib.hid (by rw [nameTo_step, byteAt_eq s k h1])
      by_cases i2 : ((s[k]'h1).toNat : Int) = 46
      · have I2 := Lib.hid i2
        have i1 : inM 46 97 122 = false := by decide
        cases fine
        all_goals
          by_cases hk0 : k = 0
          · subst hk0
            go_wp2_with (go_at_call 46; refine (In_any _ _ _ _).mono ?_; rintro e w' ⟨rfl, rfl⟩)
            go_round
            case rel => exact ⟨1, _, by omega, rfl, by go_num, by rw [Hst.out, Hd.out, I2.out]; rfl⟩
            case measure => simp [intOf]; omega
          · have k0 : (0 : Int) < (k : Int) := by omega
            have K0 := Lib.hid hk0
            go_wp2_with (go_at_call 46; refine (In_any _ _ _ _).mono ?_; rintro e w' ⟨rfl, rfl⟩)
            go_round
            case rel => exact ⟨k + 1, _, by omega, rfl, by go_num, by
              rw [Hst.out, Hd.out, I2.out]
              first
                | rfl
                | (simp [okByte, K0.out]; done)⟩
            case measure => simp [intOf]; omega
      · have I2 := Lib.hid i2
        have wc : IntKind.i64.wrap ((s[k]'h1).toNat : Int) = ((s[k]'h1).toNat : Int) := IntWalk.i64_in _ (by have := (s[k]'h1).toNat_lt; omega)
        cases i1 : inM ((s[k]'h1).toNat : Int) 97 122
        all_goals
          have I1 := Lib.hid i1
          cases fine
          all_goals
            by_cases hk0 : k = 0
            · subst hk0
              go_wp2_with (go_at_call 46; refine (In_any _ _ _ _).mono ?_; rintro e w' ⟨rfl, rfl⟩)
              go_round
              case rel => exact ⟨1, _, by omega, rfl, by go_num, by rw [Hst.out, Hd.out]; first | rfl | (rw [okByte, I1.out]; rfl)⟩
              case measure => simp [intOf]; omega
            · have k0 : (0 : Int) < (k : Int) := by omega
              have K0 := Lib.hid hk0
              go_wp2_with (go_at_call 46; refine (In_any _ _ _ _).mono ?_; rintro e w' ⟨rfl, rfl⟩)
              go_round
              case rel => exact ⟨k + 1, _, by omega, rfl, by go_num, by
                rw [Hst.out, Hd.out]
                first
                  | rfl
                  | (rw [okByte, I1.out]; rfl)
                  | (rw [okByte, I1.out]; simp [K0.out]; exact Bool.or_comm _ _)⟩
              case measure => simp [intOf]; omega
    · obtain rfl : k = s.size := by omega
      go_wp2
      go_ret
      exact ⟨ret_bool Hd.out.symm, rfl⟩

def freshM (s : ByteArray) (l : List ByteArray) : Int := if nameM s = false then 6 else if (l.any fun y => y.toList == s.toList) = true then 5 else 0
theorem fresh_any (v : Value) (s : ByteArray) (l : List ByteArray) (w : World) (hs : s.size ≤ 9223372036854775807) (hl : StrsAt w v l) :
    Calls Try.prog 57 #[.string s, v] w fun r w' => r = .returned (.int .i64 (freshM s l)) ∧ w = w' := by
  obtain ⟨a, cap, rfl, hlc, hcm⟩ := hl.shape
  have hw := whereM_ge s l 0
  generalize hm : whereM s l 0 = m at *
  have HM := Lib.hid hm; clear hm
  have HW := Lib.hid hw; clear hw
  by_cases h0 : 0 ≤ m
  all_goals
    have H0 := Lib.hid h0
    cases hn : nameM s
    all_goals
      have HN := Lib.hid hn
      go_enter Try.func57, Try.ntmps57
      go_wp2_with (first | (go_at_call 96; refine (where_any _ s l _ hl).mono ?_; rintro e w' ⟨rfl, rfl⟩; rw [HM.out]) | (go_at_call 97; refine (refName_any s _ hs).mono ?_; rintro e w' ⟨rfl, rfl⟩))
      go_ret
      first
        | exact ⟨ret_int (by rw [freshM, if_pos HN.out]), rfl⟩
        | exact ⟨ret_int (by rw [freshM, if_neg (by rw [HN.out]; decide), if_pos (by rw [← HW.out]; exact decide_eq_true H0.out)]), rfl⟩
        | exact ⟨ret_int (by rw [freshM, if_neg (by rw [HN.out]; decide), if_neg (by rw [← HW.out, decide_eq_true_eq]; have := H0.out; omega)]), rfl⟩
end Go.Proofs.Ytpflfincedllgaa

namespace Go.Proofs.Ytpflfincedllgaa
set_option linter.unusedSimpArgs false
set_option linter.unusedVariables false
open Go.RowKit
set_option linter.unusedVariables false
set_option maxRecDepth 100000

theorem refEnds_any (lo hi a b : Int) (w : World) :
    Calls Try.prog 56 #[.agg #[.int .i64 a, .int .i64 b], .int .i64 lo, .int .i64 hi] w fun e w' => e = .returned (.int .i64 (spanErrM lo hi a b)) ∧ Ext w w' := by
  unfold spanErrM
  cases h1 : inM a lo hi
  · rw [if_pos (.inl rfl)]
    go_enter Try.func56, Try.ntmps56
    go_wp2_with fail
    (refine (In_any _ _ _ _).mono ?_; rintro e w' ⟨rfl, rfl⟩)
    rw [h1]
    go_wp2
    go_ret
    exact ⟨rfl, (by first | (with_reducible exact Ext.refl _) | (with_reducible assumption) | (show Below _ _ _; go_grown; done))⟩
  cases h2 : inM b lo hi
  · rw [if_pos (.inr rfl)]
    go_enter Try.func56, Try.ntmps56
    go_wp2_with fail
    (refine (In_any _ _ _ _).mono ?_; rintro e w' ⟨rfl, rfl⟩)
    rw [h1]
    go_wp2_with fail
    (refine (In_any _ _ _ _).mono ?_; rintro e w' ⟨rfl, rfl⟩)
    rw [h2]
    go_wp2
    go_ret
    exact ⟨rfl, (by first | (with_reducible exact Ext.refl _) | (with_reducible assumption) | (show Below _ _ _; go_grown; done))⟩
  rw [if_neg (by simp)]
  by_cases h3 : b < a
  · rw [if_pos h3]
    go_enter Try.func56, Try.ntmps56
    go_wp2_with fail
    (refine (In_any _ _ _ _).mono ?_; rintro e w' ⟨rfl, rfl⟩)
    rw [h1]
    go_wp2_with fail
    (refine (In_any _ _ _ _).mono ?_; rintro e w' ⟨rfl, rfl⟩)
    rw [h2]
    go_wp2
    go_ret
    exact ⟨rfl, (by first | (with_reducible exact Ext.refl _) | (with_reducible assumption) | (show Below _ _ _; go_grown; done))⟩
  · rw [if_neg h3]
    go_enter Try.func56, Try.ntmps56
    go_wp2_with fail
    (refine (In_any _ _ _ _).mono ?_; rintro e w' ⟨rfl, rfl⟩)
    rw [h1]
    go_wp2_with fail
    (refine (In_any _ _ _ _).mono ?_; rintro e w' ⟨rfl, rfl⟩)
    rw [h2]
    go_wp2
    go_ret
    exact ⟨rfl, (by first | (with_reducible exact Ext.refl _) | (with_reducible assumption) | (show Below _ _ _; go_grown; done))⟩
def agtE (a : Agt) : Int := if inM a.fee 0 20 = false ∨ inM a.round 0 2 = false then 7 else 0
theorem refAgent_any (v : Value) (a : Agt) (hv : AgentV v a) (w : World) :
    Calls Try.prog 58 #[v] w fun e w' => e = .returned (.int .i64 (agtE a)) ∧ Ext w w' := by
  obtain ⟨rfl, -, -, -⟩ := hv
  unfold agtE
  cases h1 : inM a.fee 0 20
  · rw [if_pos (.inl rfl)]
    go_enter Try.func58, Try.ntmps58
    go_wp2_with fail
    (refine (In_any _ _ _ _).mono ?_; rintro e w' ⟨rfl, rfl⟩)
    rw [h1]
    go_wp2
    go_ret
    exact ⟨rfl, (by first | (with_reducible exact Ext.refl _) | (with_reducible assumption) | (show Below _ _ _; go_grown; done))⟩
  cases h2 : inM a.round 0 2
  · rw [if_pos (.inr rfl)]
    go_enter Try.func58, Try.ntmps58
    go_wp2_with fail
    (refine (In_any _ _ _ _).mono ?_; rintro e w' ⟨rfl, rfl⟩)
    rw [h1]
    go_wp2_with fail
    (refine (In_any _ _ _ _).mono ?_; rintro e w' ⟨rfl, rfl⟩)
    rw [h2]
    go_wp2
    go_ret
    exact ⟨rfl, (by first | (with_reducible exact Ext.refl _) | (with_reducible assumption) | (show Below _ _ _; go_grown; done))⟩
  · rw [if_neg (by simp)]
    go_enter Try.func58, Try.ntmps58
    go_wp2_with fail
    (refine (In_any _ _ _ _).mono ?_; rintro e w' ⟨rfl, rfl⟩)
    rw [h1]
    go_wp2_with fail
    (refine (In_any _ _ _ _).mono ?_; rintro e w' ⟨rfl, rfl⟩)
    rw [h2]
    go_wp2
    go_ret
    exact ⟨rfl, (by first | (with_reducible exact Ext.refl _) | (with_reducible assumption) | (show Below _ _ _; go_grown; done))⟩
end Go.Proofs.Ytpflfincedllgaa

namespace Go.Proofs.Ytpflfincedllgaa
set_option linter.unusedSimpArgs false
set_option linter.unusedVariables false
open Go.RowKit
set_option linter.unusedVariables false
set_option maxRecDepth 100000

theorem StrsAt.of_ownR {w : World} {B : Nat} {e : TypeId} {v : Value} {l : List ByteArray} (h : w.ownsRow B e 1 v l.length (l.map Value.string)) (hI : ∀ x ∈ l, x.size ≤ 9223372036854775807) : StrsAt w v l := by
  rcases h.2 with ⟨rfl, hn⟩ | ⟨g, cap, cur, rfl, hb, hg, hnc, hcm, hcs, htake⟩
  · have : l = [] := List.eq_nil_of_length_eq_zero hn
    subst this; exact SliceAt.nil
  · refine ⟨_, _, rfl, hnc, by simpa [maxLen] using hcm, fun i hi => ⟨g, 0, rfl, ?_, hI _ (List.getElem_mem hi)⟩⟩
    have := h.cells (g := g) rfl i (.string l[i]) (by simp [hi])
    have e : (⟨g, 0, none⟩ : Addr).add i = ⟨g, 0 + i * 1, none⟩ := by unfold Addr.add; split <;> simp_all
    rw [e] at this; exact this
def agtNm (l : List Agt) (k : Nat) : List ByteArray := (l.take k).map (·.name)
theorem agtNm_succ (l : List Agt) (k : Nat) (h : k < l.length) (y : Agt) (hy : l[k] = y) : agtNm l (k + 1) = agtNm l k ++ [y.name] := by
  rw [agtNm, List.take_succ_eq_append_getElem h, hy, List.map_append]; rfl
theorem agtNm_len (l : List Agt) (k : Nat) (h : k ≤ l.length) : (agtNm l k).length = k := by simp [agtNm]; omega
theorem AgentsAt.names {w : World} {v : Value} {l : List Agt} (h : AgentsAt w v l) (k : Nat) : ∀ x ∈ agtNm l k, x.size ≤ 9223372036854775807 := by
  obtain ⟨_, _, -, -, -, hh⟩ := h
  intro x hx
  obtain ⟨y, hy, rfl⟩ := List.mem_map.1 hx
  obtain ⟨i, hi, rfl⟩ := List.getElem_of_mem (List.mem_of_mem_take hy)
  obtain ⟨_, _, -, hr⟩ := hh i hi
  exact hr.2.2.2.1
theorem snoc_agtNm {w : World} {B : Nat} {e : TypeId} {v : Value} {l : List Agt} {k m : Nat} {y : Agt} (hb : agtNm l (k + 1) = agtNm l k ++ [y.name]) (hm : m = (agtNm l k).length + 1)
    (h : w.ownsRow B e 1 v m ((agtNm l k).map Value.string ++ [.string y.name])) : w.ownsRow B e 1 v (agtNm l (k + 1)).length ((agtNm l (k + 1)).map Value.string) := by
  subst hm
  rw [hb]
  simpa using h
theorem rinfoStr : (Try.prog.info? 9).map (fun i => (i.zero, i.size, i.bytes)) = some (some (.string ByteArray.empty), 1, 16) := by kernel_rfl
theorem agentErr_eq (l : List Agt) (k : Nat) (x : Agt) : agentErrM (l.take k) x = if freshM x.name (agtNm l k) = 0 then agtE x else freshM x.name (agtNm l k) := by
  unfold agentErrM agtE agtNm
  have e : nameErrM ((l.take k).map (·.name)) x.name = freshM x.name ((l.take k).map (·.name)) := rfl
  rw [e]
  generalize freshM x.name ((l.take k).map (·.name)) = f
  by_cases h : f = 0
  · rw [if_neg (fun g => g h), if_pos h]
  · rw [if_pos h, if_neg h]
set_option maxHeartbeats 8000000 in
theorem refCheck8_any (hv : Value) (h : House) (w : World) (hh : HouseAt w hv h) :
    Calls Try.prog 17 #[hv] w fun e w' => e = .returned (.tuple #[.int .i64 (raCheck h).1, .int .i64 (raCheck h).2.1, .int .i64 (raCheck h).2.2]) ∧ Ext w w' := by
  obtain ⟨ra, rc, aa, ac, ea, ec, rfl, hdi, hsi, hr, ha, he⟩ := hh
  have hle := hr.le
  have hR := Lib.hid hr
  have hA := Lib.hid ha
  have hE := Lib.hid he
  clear hr ha he
  obtain ⟨i0, hi, hz0, hz1, hz2⟩ := info_parts rinfoStr
  go_enter Try.func17, Try.ntmps17
  go_wp2_with fail
  (refine (In_any _ _ _ _).mono ?_; rintro e w' ⟨rfl, rfl⟩)
  cases h1 : inM h.days 1 3
  · have H1 := Lib.hid h1; clear h1
    go_wp2_with fail
    go_ret3
    exact ⟨ret_threeR (by rw [raCheck, if_pos H1.out]), (by first | (with_reducible exact Ext.refl _) | (with_reducible assumption) | (show Below _ _ _; go_grown; done))⟩
  have hD : 1 ≤ h.days ∧ h.days ≤ 3 := by simpa [inM] using h1
  have H1 := Lib.hid h1; clear h1
  by_cases h2 : (h.rates.length : Int) = h.days
  rotate_left
  · have k2 : ((h.rates.length : Int) != h.days) = true := by simpa using h2
    have H2 := Lib.hid h2; clear h2
    go_wp2_with fail
    go_ret3
    exact ⟨ret_threeR (by rw [raCheck, if_neg (by rw [H1.out]; decide), if_pos H2.out]), (by first | (with_reducible exact Ext.refl _) | (with_reducible assumption) | (show Below _ _ _; go_grown; done))⟩
  have k2 : ((h.rates.length : Int) != h.days) = false := by simpa using h2
  have H2 := Lib.hid h2; clear h2
  go_wp2
  clear k2
  go_loopw [5, 6] (fun i x wr => ∃ k : Nat, k ≤ h.rates.length ∧ i = .int .i64 k ∧ Ext w wr ∧ (wr.cell? ⟨w.heap.size, 0, none⟩ = some (.int .i64 h.days) ∧ wr.cell? ⟨w.heap.size, 1, none⟩ = some (.slice ra h.rates.length rc) ∧ wr.cell? ⟨w.heap.size, 2, none⟩ = some (.int .i64 h.step) ∧ wr.cell? ⟨w.heap.size, 3, none⟩ = some (.slice aa h.agents.length ac) ∧ wr.cell? ⟨w.heap.size, 4, none⟩ = some (.slice ea h.entries.length ec)) ∧ firstErrFrom spanE (h.rates.take k) (h.rates.drop k) = firstErr spanE h.rates) (fun i _ _ => h.rates.length - (intOf i).toNat)
  case atStart => exact ⟨0, Nat.zero_le _, rfl, (by first | (with_reducible exact Ext.refl _) | (with_reducible assumption) | (show Below _ _ _; go_grown; done)), ⟨by simp [go_sem], by simp [go_sem], by simp [go_sem], by simp [go_sem], by simp [go_sem]⟩, rfl⟩
  case round =>
    obtain ⟨k, hk, rfl, hx, ⟨p0, p1, p2, p3, p4⟩, hd⟩ := hrel
    have Hd := Lib.hid hd; clear hd
    have z0 := cell_lt p0
    by_cases hlt : k < h.rates.length
    · have m1 : (k : Int) < (h.rates.length : Int) := by omega
      obtain ⟨rb, ro, rfl, c0, c1, g1, g2⟩ := SliceAt.get (hR.out.ext hx) hlt
      generalize hy : h.rates[k] = y at *
      have Hy := Lib.hid hy; clear hy
      have z1 := cell_lt c0
      go_wp2_with fail
      refine (refEnds_any 1 20 y.1 y.2 _).mono ?_
      rintro e w2 ⟨rfl, hx2⟩
      replace p0 := hx2.cell p0
      replace p1 := hx2.cell p1
      replace p2 := hx2.cell p2
      replace p3 := hx2.cell p3
      replace p4 := hx2.cell p4
      replace hx := hx.trans hx2
      clear hx2 c0 c1 z0 z1
      have hse : spanE (h.rates.take k) y = spanErrM 1 20 y.1 y.2 := rfl
      generalize spanErrM 1 20 y.1 y.2 = e1 at *
      have Hse := Lib.hid hse; clear hse
      by_cases h0 : e1 = 0
      · subst h0
        go_wp2
        go_roundw
        case rel => exact ⟨k + 1, by omega, by go_num, hx, ⟨p0, p1, p2, p3, p4⟩, (firstErrFrom_step _ _ k hlt y Hy.out Hse.out).trans Hd.out⟩
        case measure => simp [intOf]; omega
      · have h0' : (e1 != 0) = true := by simpa using h0
        have H0 := Lib.hid h0; clear h0
        go_wp2
        go_ret3
        have e2 : firstErr spanE h.rates = ((k : Int), spanE (h.rates.take k) y) := by
          rw [← Hd.out]; exact firstErrFrom_hit _ _ k hlt y Hy.out (by rw [Hse.out]; exact H0.out)
        exact ⟨ret_threeR (by rw [raCheck, if_neg (by rw [H1.out]; decide), if_neg (by rw [H2.out]; simp), e2, Hse.out, if_pos H0.out]), hx⟩
    · have e1 : firstErr spanE h.rates = (0, 0) := by rw [← Hd.out]; exact firstErrFrom_end _ _ _ (by omega)
      have E1 := Lib.hid e1; clear e1
      have m1 : ¬ (k : Int) < (h.rates.length : Int) := by omega
      go_wp2_with fail
      (refine (In_any _ _ _ _).mono ?_; rintro e w' ⟨rfl, rfl⟩)
      cases h4 : inM h.step 0 20
      · have H4 := Lib.hid h4; clear h4
        go_wp2_with fail
        go_ret3
        exact ⟨ret_threeR (by rw [raCheck, if_neg (by rw [H1.out]; decide), if_neg (by rw [H2.out]; simp), E1.out, if_neg (by simp), if_pos H4.out]), hx⟩
      have H4 := Lib.hid h4; clear h4
      by_cases h5 : (3 : Int) < h.agents.length
      · have e5 : agtErr h = (0, 3) := by unfold agtErr listErr; rw [if_pos (by omega)]
        have E5 := Lib.hid e5; clear e5
        go_wp2
        go_ret3
        exact ⟨ret_threeR (by rw [raCheck, if_neg (by rw [H1.out]; decide), if_neg (by rw [H2.out]; simp), E1.out, if_neg (by simp), if_neg (by rw [H4.out]; decide), E5.out, if_pos (by simp)]), hx⟩
      have hA3 : h.agents.length ≤ 3 := by omega
      have e5 : agtErr h = firstErr agentErrM h.agents := by unfold agtErr listErr; rw [if_neg (by omega)]
      have E5 := Lib.hid e5; clear e5
      go_wp2
      go_loopw [7, 8, 9] (fun v i x wq => ∃ m : Nat, m ≤ h.agents.length ∧ i = .int .i64 m ∧ Ext w wq ∧ (wq.cell? ⟨w.heap.size, 0, none⟩ = some (.int .i64 h.days) ∧ wq.cell? ⟨w.heap.size, 1, none⟩ = some (.slice ra h.rates.length rc) ∧ wq.cell? ⟨w.heap.size, 2, none⟩ = some (.int .i64 h.step) ∧ wq.cell? ⟨w.heap.size, 3, none⟩ = some (.slice aa h.agents.length ac) ∧ wq.cell? ⟨w.heap.size, 4, none⟩ = some (.slice ea h.entries.length ec)) ∧ wq.ownsRow (w.heap.size + 1) 9 1 v (agtNm h.agents m).length ((agtNm h.agents m).map Value.string) ∧ firstErrFrom agentErrM (h.agents.take m) (h.agents.drop m) = firstErr agentErrM h.agents) (fun _ i _ _ => h.agents.length - (intOf i).toNat)
      case atStart => exact ⟨0, Nat.zero_le _, rfl, hx, ⟨p0, p1, p2, p3, p4⟩, World.ownsRow_nil _ _ _ _, rfl⟩
      case round =>
        clear hx p0 p1 p2 p3 p4 z0 m1
        obtain ⟨m, hm, rfl, hx, ⟨p0, p1, p2, p3, p4⟩, hown, hd⟩ := hrel
        have Hd2 := Lib.hid hd; clear hd
        have z0 := cell_lt p0
        by_cases hmt : m < h.agents.length
        · have m1 : (m : Int) < (h.agents.length : Int) := by omega
          have hlen := agtNm_len h.agents m hm
          have hnm := hA.out.names m
          obtain ⟨ab, ao, rfl, c0, c1, c2, gs, gf, gr⟩ := SliceAt.get (hA.out.ext hx) hmt
          have hsucc := fun y hy => agtNm_succ h.agents m hmt y hy
          generalize hy : h.agents[m] = y at *
          have Hy := Lib.hid hy
          have Hsucc := Lib.hid (hsucc y rfl)
          clear hy hsucc
          have z1 := cell_lt c0
          have Hlen := Lib.hid hlen; clear hlen
          have hst := StrsAt.of_ownR hown hnm
          have hml : (agtNm h.agents m).length ≤ 3 := by rw [Hlen.out]; omega
          go_wp2_with fail
          refine (fresh_any _ y.name (agtNm h.agents m) wr gs hst).mono ?_
          rintro e w' ⟨rfl, rfl⟩
          clear hst
          have heq := agentErr_eq h.agents m y
          generalize freshM y.name (agtNm h.agents m) = f at *
          have Heq := Lib.hid heq; clear heq
          by_cases h0 : f = 0
          · subst h0
            have Heq0 : Hid (agentErrM (h.agents.take m) y = agtE y) := Lib.hid (by rw [Heq.out, if_pos rfl])
            clear Heq
            go_wp2_with ((at_builtin; refine wpList_append_own _ rfl _ _ 89 rfl (w.heap.size + 1) 9 i0 (.string ByteArray.empty) 1 16 Try.underlying89 hi hz0 hz1 hz2 rfl (by decide) _ _ _ rfl (hown.alloc _) ⟨wr.heap.size, 0, none⟩ 1 1 [.string y.name] rfl rfl (cell_one_new _ _ _) (by simp [Value.oneCell']) (by unfold maxLen; omega) (by omega) (by simp; omega) ?_; intro v' w2 hown' hgrow _); have hx3 : Ext w w2 := Ext.grown (hx.alloc _) hgrow (fun k hk => Nat.le_trans (by omega) (hown.lt k hk).1); have r0 : w2.cell? ⟨w.heap.size, 0, none⟩ = some (.int .i64 h.days) := hgrow.cell (by simpa [go_sem, z0] using p0) (fun e => by have := (hown.lt w.heap.size e.symm).1; omega); have r1 : w2.cell? ⟨w.heap.size, 1, none⟩ = some (.slice ra h.rates.length rc) := hgrow.cell (by simpa [go_sem, z0] using p1) (fun e => by have := (hown.lt w.heap.size e.symm).1; omega); have r2 : w2.cell? ⟨w.heap.size, 2, none⟩ = some (.int .i64 h.step) := hgrow.cell (by simpa [go_sem, z0] using p2) (fun e => by have := (hown.lt w.heap.size e.symm).1; omega); have r3 : w2.cell? ⟨w.heap.size, 3, none⟩ = some (.slice (some ⟨ab, ao, none⟩) h.agents.length ac) := hgrow.cell (by simpa [go_sem, z0] using p3) (fun e => by have := (hown.lt w.heap.size e.symm).1; omega); have r4 : w2.cell? ⟨w.heap.size, 4, none⟩ = some (.slice ea h.entries.length ec) := hgrow.cell (by simpa [go_sem, z0] using p4) (fun e => by have := (hown.lt w.heap.size e.symm).1; omega); obtain ⟨ab', ao', e9, d0, d1, d2, -⟩ := SliceAt.get (hA.out.ext hx3) hmt; obtain ⟨rfl, rfl⟩ : ab = ab' ∧ ao = ao' := (by cases e9; exact ⟨rfl, rfl⟩); rw [Hy.out] at d0 d1 d2; have y0 := cell_lt r0; have y1 := cell_lt d0; clear e9 c0 c1 c2 p0 p1 p2 p3 p4 z0 z1 hown hgrow hx)
            refine (refAgent_any _ y ⟨rfl, gs, gf, gr⟩ _).mono ?_
            rintro e w3 ⟨rfl, hx4⟩
            have hx5 := hx3.trans hx4
            have cs := And.intro (hx4.cell r0) (And.intro (hx4.cell r1) (And.intro (hx4.cell r2) (And.intro (hx4.cell r3) (hx4.cell r4))))
            have hown3 := Ext.owns hown' hx4
            clear r0 r1 r2 r3 r4 d0 d1 d2 hown' hx3 hx4 y0 y1
            generalize agtE y = g at *
            by_cases hg : g = 0
            · subst hg
              go_wp2
              go_roundw
              case rel => exact ⟨m + 1, by omega, by go_num, hx5, cs, snoc_agtNm Hsucc.out rfl hown3, (firstErrFrom_step _ _ m hmt y Hy.out Heq0.out).trans Hd2.out⟩
              case measure => simp [intOf]; omega
            · have hg' : (g != 0) = true := by simpa using hg
              have Hg := Lib.hid hg; clear hg
              go_wp2
              go_ret3
              have e2 : firstErr agentErrM h.agents = ((m : Int), agentErrM (h.agents.take m) y) := by
                rw [← Hd2.out]; exact firstErrFrom_hit _ _ m hmt y Hy.out (by rw [Heq0.out]; exact Hg.out)
              exact ⟨ret_threeR (by rw [raCheck, if_neg (by rw [H1.out]; decide), if_neg (by rw [H2.out]; simp), E1.out, if_neg (by simp), if_neg (by rw [H4.out]; decide), E5.out, e2, Heq0.out, if_pos Hg.out]), hx5⟩
          · have h0' : (f == 0) = false := by simpa using h0
            have h0'' : (f != 0) = true := by simpa using h0
            have H0 := Lib.hid h0; clear h0
            go_wp2_with ((at_builtin; refine wpList_append_own _ rfl _ _ 89 rfl (w.heap.size + 1) 9 i0 (.string ByteArray.empty) 1 16 Try.underlying89 hi hz0 hz1 hz2 rfl (by decide) _ _ _ rfl (hown.alloc _) ⟨wr.heap.size, 0, none⟩ 1 1 [.string y.name] rfl rfl (cell_one_new _ _ _) (by simp [Value.oneCell']) (by unfold maxLen; omega) (by omega) (by simp; omega) ?_; intro v' w2 hown' hgrow _))
            have hx3 : Ext w w2 := Ext.grown (hx.alloc _) hgrow fun k hk => Nat.le_trans (by omega) (hown.lt k hk).1
            go_ret3
            have e2 : firstErr agentErrM h.agents = ((m : Int), agentErrM (h.agents.take m) y) := by
              rw [← Hd2.out]; exact firstErrFrom_hit _ _ m hmt y Hy.out (by rw [Heq.out, if_neg H0.out]; exact H0.out)
            exact ⟨ret_threeR (by rw [raCheck, if_neg (by rw [H1.out]; decide), if_neg (by rw [H2.out]; simp), E1.out, if_neg (by simp), if_neg (by rw [H4.out]; decide), E5.out, e2, Heq.out, if_neg H0.out, if_pos H0.out]), hx3⟩
        · have e2 : firstErr agentErrM h.agents = (0, 0) := by rw [← Hd2.out]; exact firstErrFrom_end _ _ _ (by omega)
          have m1 : ¬ (m : Int) < (h.agents.length : Int) := by omega
          have E2 : Hid (agtErr h = (0, 0)) := Lib.hid (by rw [E5.out, e2])
          clear e2 E5 hown Hd2 Hd
          by_cases h6 : (5 : Int) < h.entries.length
          · have e5 : entErr h = (0, 3) := by unfold entErr listErr; rw [if_pos (by omega)]
            have E5 := Lib.hid e5; clear e5
            go_wp2
            go_ret3
            exact ⟨ret_threeR (by rw [raCheck, if_neg (by rw [H1.out]; decide), if_neg (by rw [H2.out]; simp), E1.out, if_neg (by simp), if_neg (by rw [H4.out]; decide), E2.out, if_neg (by simp), E5.out, if_pos (by simp)]), hx⟩
          have e5 : entErr h = firstErr (rentE h.agents.length h.days) h.entries := by unfold entErr listErr; rw [if_neg (by omega)]
          have E5 := Lib.hid e5; clear e5
          have hE5 : h.entries.length ≤ 5 := by omega
          go_wp2
          clear z0
          go_loopw [10, 11] (fun i x wq => ∃ n : Nat, n ≤ h.entries.length ∧ i = .int .i64 n ∧ Ext w wq ∧ (wq.cell? ⟨w.heap.size, 0, none⟩ = some (.int .i64 h.days) ∧ wq.cell? ⟨w.heap.size, 1, none⟩ = some (.slice ra h.rates.length rc) ∧ wq.cell? ⟨w.heap.size, 2, none⟩ = some (.int .i64 h.step) ∧ wq.cell? ⟨w.heap.size, 3, none⟩ = some (.slice aa h.agents.length ac) ∧ wq.cell? ⟨w.heap.size, 4, none⟩ = some (.slice ea h.entries.length ec)) ∧ firstErrFrom (rentE h.agents.length h.days) (h.entries.take n) (h.entries.drop n) = firstErr (rentE h.agents.length h.days) h.entries) (fun i _ _ => h.entries.length - (intOf i).toNat)
          case atStart => exact ⟨0, Nat.zero_le _, rfl, hx, ⟨p0, p1, p2, p3, p4⟩, rfl⟩
          case round =>
            clear hx p0 p1 p2 p3 p4 m1
            obtain ⟨n, hn, rfl, hx, ⟨p0, p1, p2, p3, p4⟩, hd⟩ := hrel
            have Hd3 := Lib.hid hd; clear hd
            have z0 := cell_lt p0
            by_cases hnt : n < h.entries.length
            · have m2 : (n : Int) < (h.entries.length : Int) := by omega
              obtain ⟨eb, eo, rfl, c0, c1, c2, c3, -⟩ := SliceAt.get (hE.out.ext hx) hnt
              generalize hy : h.entries[n] = y at *
              have Hy := Lib.hid hy; clear hy
              have z1 := cell_lt c0
              have wa : IntKind.i64.wrap ((h.agents.length : Int) - 1) = (h.agents.length : Int) - 1 := IntWalk.i64_in _ (by omega)
              have wd : IntKind.i64.wrap (h.days - 1) = h.days - 1 := IntWalk.i64_in _ (by omega)
              have hre : rentE h.agents.length h.days (h.entries.take n) y = if inM y.agent 0 ((h.agents.length : Int) - 1) = false ∨ inM y.day 0 (h.days - 1) = false then 4 else if inM y.near 0 99 = false ∨ inM y.far (-1) 198 = false then 7 else 0 := rfl
              have Hre := Lib.hid hre; clear hre
              go_wp2_with fail
              (refine (In_any _ _ _ _).mono ?_; rintro e w' ⟨rfl, rfl⟩)
              cases t1 : inM y.agent 0 ((h.agents.length : Int) - 1)
              · have T1 := Lib.hid t1; clear t1
                go_wp2
                go_ret3
                have ee : rentE h.agents.length h.days (h.entries.take n) y = 4 := by rw [Hre.out, if_pos (.inl T1.out)]
                have e2 : firstErr (rentE h.agents.length h.days) h.entries = ((n : Int), 4) := by
                  rw [← Hd3.out, ← ee]; exact firstErrFrom_hit _ _ n hnt y Hy.out (by rw [ee]; decide)
                exact ⟨ret_threeR (by rw [raCheck, if_neg (by rw [H1.out]; decide), if_neg (by rw [H2.out]; simp), E1.out, if_neg (by simp), if_neg (by rw [H4.out]; decide), E2.out, if_neg (by simp), E5.out, e2, if_pos (by simp)]), hx.alloc _⟩
              have T1 := Lib.hid t1; clear t1
              go_wp2_with fail
              (refine (In_any _ _ _ _).mono ?_; rintro e w' ⟨rfl, rfl⟩)
              cases t2 : inM y.day 0 (h.days - 1)
              · have T2 := Lib.hid t2; clear t2
                go_wp2
                go_ret3
                have ee : rentE h.agents.length h.days (h.entries.take n) y = 4 := by rw [Hre.out, if_pos (.inr T2.out)]
                have e2 : firstErr (rentE h.agents.length h.days) h.entries = ((n : Int), 4) := by
                  rw [← Hd3.out, ← ee]; exact firstErrFrom_hit _ _ n hnt y Hy.out (by rw [ee]; decide)
                exact ⟨ret_threeR (by rw [raCheck, if_neg (by rw [H1.out]; decide), if_neg (by rw [H2.out]; simp), E1.out, if_neg (by simp), if_neg (by rw [H4.out]; decide), E2.out, if_neg (by simp), E5.out, e2, if_pos (by simp)]), hx.alloc _⟩
              have T2 := Lib.hid t2; clear t2
              go_wp2_with fail
              (refine (In_any _ _ _ _).mono ?_; rintro e w' ⟨rfl, rfl⟩)
              cases t3 : inM y.near 0 99
              · have T3 := Lib.hid t3; clear t3
                go_wp2
                go_ret3
                have ee : rentE h.agents.length h.days (h.entries.take n) y = 7 := by rw [Hre.out, if_neg (by rw [T1.out, T2.out]; simp), if_pos (.inl T3.out)]
                have e2 : firstErr (rentE h.agents.length h.days) h.entries = ((n : Int), 7) := by
                  rw [← Hd3.out, ← ee]; exact firstErrFrom_hit _ _ n hnt y Hy.out (by rw [ee]; decide)
                exact ⟨ret_threeR (by rw [raCheck, if_neg (by rw [H1.out]; decide), if_neg (by rw [H2.out]; simp), E1.out, if_neg (by simp), if_neg (by rw [H4.out]; decide), E2.out, if_neg (by simp), E5.out, e2, if_pos (by simp)]), hx.alloc _⟩
              have T3 := Lib.hid t3; clear t3
              go_wp2_with fail
              (refine (In_any _ _ _ _).mono ?_; rintro e w' ⟨rfl, rfl⟩)
              cases t4 : inM y.far (-1) 198
              · have T4 := Lib.hid t4; clear t4
                go_wp2
                go_ret3
                have ee : rentE h.agents.length h.days (h.entries.take n) y = 7 := by rw [Hre.out, if_neg (by rw [T1.out, T2.out]; simp), if_pos (.inr T4.out)]
                have e2 : firstErr (rentE h.agents.length h.days) h.entries = ((n : Int), 7) := by
                  rw [← Hd3.out, ← ee]; exact firstErrFrom_hit _ _ n hnt y Hy.out (by rw [ee]; decide)
                exact ⟨ret_threeR (by rw [raCheck, if_neg (by rw [H1.out]; decide), if_neg (by rw [H2.out]; simp), E1.out, if_neg (by simp), if_neg (by rw [H4.out]; decide), E2.out, if_neg (by simp), E5.out, e2, if_pos (by simp)]), hx.alloc _⟩
              have T4 := Lib.hid t4; clear t4
              go_wp2
              go_roundw
              case rel => exact ⟨n + 1, by omega, by go_num, hx.alloc _, ⟨(ext_alloc _ _).cell p0, (ext_alloc _ _).cell p1, (ext_alloc _ _).cell p2, (ext_alloc _ _).cell p3, (ext_alloc _ _).cell p4⟩, (firstErrFrom_step _ _ n hnt y Hy.out (by rw [Hre.out, if_neg (by rw [T1.out, T2.out]; simp), if_neg (by rw [T3.out, T4.out]; simp)])).trans Hd3.out⟩
              case measure => simp [intOf]; omega
            · have e2 : firstErr (rentE h.agents.length h.days) h.entries = (0, 0) := by rw [← Hd3.out]; exact firstErrFrom_end _ _ _ (by omega)
              have m2 : ¬ (n : Int) < (h.entries.length : Int) := by omega
              have E3 := Lib.hid e2; clear e2
              go_wp2
              go_ret3
              exact ⟨ret_threeR (by rw [raCheck, if_neg (by rw [H1.out]; decide), if_neg (by rw [H2.out]; simp), E1.out, if_neg (by simp), if_neg (by rw [H4.out]; decide), E2.out, if_neg (by simp), E5.out, E3.out, if_neg (by simp)]), hx⟩
end Go.Proofs.Ytpflfincedllgaa
