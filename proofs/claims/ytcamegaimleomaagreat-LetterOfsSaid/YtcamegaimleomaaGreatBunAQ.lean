/-
  Of and Fills of the reference, and the law LetterOfs.
-/
import Derived.Test.YtcamegaimleomaaGreatBunAP
import Derived.Test.YtcamegaimleomaaGreatBunAF
import Derived.Test.YtcamegaimleomaaGreatBunAK
import Derived.Test.YtcamegaimleomaaGreatBunAN
import Derived.Test.YtcamegaimleomaaGreatBunAM
import Derived.Test.YtcamegaimleomaaGreatBunAL
namespace Go.Proofs.YtcamegaimleomaaGreat
set_option linter.unusedSimpArgs false
set_option linter.unusedVariables false
open Go.RowKit
set_option linter.unusedVariables false
set_option linter.unusedSimpArgs false

/-- the box of a shelf -/
theorem box_ofs {w : World} {fa : Option Addr} {fc : Nat} {s : Shelf} (hb : ShelfAt w (.agg #[.int .i64 s.width, .slice fa s.forms.length fc]) s) :
    ∃ W, W = w.alloc (.cells #[.int .i64 s.width, .slice fa s.forms.length fc] 24) ∧ ShelfAt W (.agg #[.int .i64 s.width, .slice fa s.forms.length fc]) s ∧ W.cell? ⟨w.heap.size, 0, none⟩ = some (.int .i64 s.width) ∧ W.cell? ⟨w.heap.size, 1, none⟩ = some (.slice fa s.forms.length fc) ∧ Ext w W :=
  ⟨_, rfl, hb.ext (ext_alloc _ _), by simp [go_sem], by simp [go_sem], ext_alloc _ _⟩
/-- the list of a ListI, with an error or without -/
def ofL (s : Shelf) (l : List ByteArray) : List Int := if shelfErrM s l = 0 then ofM s l else []
theorem allM_len {f : Form} (hV : ValidForm f) (l : List ByteArray) : (allM f.parts l).length ≤ 1024 := by
  have hro := rooms_ok hV.parts
  have hr5 : (roomsM f.parts).length ≤ 5 := Nat.le_trans (List.length_filter_le _ _) hV.n
  have hclen : (countsM (roomsM f.parts)).length ≤ _ := cntTo_len hro (roomsM f.parts).length
  have hpow : 4 ^ (roomsM f.parts).length ≤ 4 ^ 5 := Nat.pow_le_pow_right (by decide) hr5
  unfold allM
  rw [List.length_map]
  refine Nat.le_trans (List.length_filter_le _ _) ?_
  omega
set_option maxRecDepth 100000 in
set_option maxHeartbeats 2000000 in
theorem refOf_any (sv v : Value) (s : Shelf) (l : List ByteArray) (w : World) (hs : ShelfAt w sv s) (hl : StrsAt w v l) :
    Calls Tryz.prog 9 #[sv, v] w fun e w' => ∃ u, e = .returned (.tuple #[u, .int .i64 (shelfErrM s l)]) ∧ IntsAt w' u (ofL s l) ∧ Ext w w' := by
  obtain ⟨fa, fc, rfl, -⟩ := hs.open
  obtain ⟨la, lc, rfl, -⟩ := hl.shape
  obtain ⟨W, hW, hb, q0, q1, x1⟩ := box_ofs hs
  replace hl := hl.ext x1
  have z1 := cell_lt q0
  obtain ⟨i0, hi, hz0, hz1, hz2⟩ := info_parts infoInt
  have HW := Lib.hid hW
  clear hs hW
  have hoe : (if errS s ≠ 0 then errS s else letterErrL l) = shelfErrM s l := rfl
  have hcE : (checkS s).2.2 = errS s := rfl
  go_enter Tryz.func9, Tryz.ntmps9
  go_wp2_with fail
  rw [← HW.out]
  clear HW
  refine (refCheckS_any _ s _ hb).mono ?_
  rw [hcE]
  rintro e w3 ⟨rfl, hx⟩
  (replace hb := hb.ext hx; replace q0 := hx.cell q0; replace q1 := hx.cell q1; replace z1 := cell_lt q0; replace x1 := x1.trans hx; replace hl := hl.ext hx; clear hx)
  generalize (checkS s).2.1 = at1
  generalize (checkS s).1 = part1
  have hbe := refBehind_any _ l (errS s) w3 hl
  rw [hoe] at hbe
  go_wp2_with fail
  refine hbe.mono ?_
  rintro e w4 ⟨rfl, hx⟩
  (replace hb := hb.ext hx; replace q0 := hx.cell q0; replace q1 := hx.cell q1; replace z1 := cell_lt q0; replace x1 := x1.trans hx; replace hl := hl.ext hx; clear hx)
  clear hbe hoe hcE
  by_cases he : shelfErrM s l = 0
  · have he1 : errS s = 0 := by
      unfold shelfErrM at he
      by_cases h : errS s = 0
      · exact h
      · rw [if_pos h] at he; exact absurd he h
    have he2 : letterErrL l = 0 := by
      unfold shelfErrM at he
      rw [if_neg (by rw [he1]; simp)] at he; exact he
    have hVs := (errS_ok he1).forms
    have hn4 := (errS_ok he1).n
    obtain ⟨h15, -⟩ := lettErr_ok he2
    have hol : ofL s l = ofTo s.forms l s.forms.length := by unfold ofL; rw [if_pos he]; rfl
    have hfms : FormsAt w4 (.slice fa s.forms.length fc) s.forms := by
      obtain ⟨u, e, -, h⟩ := hb
      obtain rfl : u = .slice fa s.forms.length fc := by simpa using e.symm
      exact h
    have HVs := Lib.hid hVs
    have Hol := Lib.hid hol
    have He := Lib.hid he
    rw [he]
    clear he he1 he2 hVs hol
    go_wp2_with fail
    go_loopw [9, 10] (fun ov iv wr => ∃ k : Nat, k ≤ s.forms.length ∧ iv = .int .i64 k ∧ Ext w4 wr ∧ wr.ownsRow w4.heap.size 3 1 ov (ofTo s.forms l k).length ((ofTo s.forms l k).map (Value.int .i64))) (fun _ i _ => s.forms.length - (intOf i).toNat)
    case atStart => exact ⟨0, Nat.zero_le _, rfl, Ext.refl _, World.ownsRow_nil _ _ _ _⟩
    case round =>
      obtain ⟨k, hk, rfl, hxr, hown⟩ := hrel
      have a0 := hxr.cell q0
      have a1 := hxr.cell q1
      have za := cell_lt a0
      by_cases hlt : k < s.forms.length
      · have k1 : (k : Int) < (s.forms.length : Int) := by omega
        obtain ⟨fb, fo, rfl, g0, gsz, u, g1, hps⟩ := (hfms.ext hxr).get hlt
        have hVf := HVs.out _ (List.getElem_mem hlt)
        have hst : ofTo s.forms l (k + 1) = ofTo s.forms l k ++ if 0 < (formWays (s.forms[k]).parts l).length then [(k : Int)] else [] := by
          rw [ofTo, List.getD_eq_getElem?_getD, List.getElem?_eq_getElem hlt]; rfl
        have hlk := ofTo_len s.forms l k
        generalize s.forms[k] = f at *
        rw [(all_ways hVf l).1] at hst
        obtain ⟨pa, pc, rfl, -⟩ := hps.shape
        generalize ofTo s.forms l k = O at *
        have hw4 := allM_len hVf l
        have hform : FormV wr (.agg #[.string f.name, .slice pa f.parts.length pc]) f := ⟨_, rfl, gsz, hps⟩
        have hall := refAll_any _ _ f l wr hVf hform (hl.ext hxr) h15
        generalize allM f.parts l = A at *
        have Hst := Lib.hid hst
        have Hown := Lib.hid hown
        clear hst hown hVf hps hform
        go_wp2_with fail
        refine hall.mono ?_
        rintro e w2 ⟨uA, rfl, hA, hx2⟩
        obtain ⟨aa, ac, rfl, -⟩ := hA.shape
        have hx3 : Ext w4 w2 := hxr.trans hx2
        have own2 := Ext.owns Hown.out hx2
        have Own2 := Lib.hid own2
        have hsz2 := hx3.size
        replace a0 := hx2.cell a0
        replace a1 := hx2.cell a1
        replace za := cell_lt a0
        clear own2 hall hA
        by_cases hm0 : 0 < A.length
        · have km : (0 : Int) < (A.length : Int) := by omega
          have hst2 := Hst.out
          rw [if_pos hm0] at hst2
          have Hst2 := Lib.hid hst2
          clear hst2 hm0
          go_wp2_with (at_builtin; go_loud (refine wpList_append_own_at _ rfl _ _ 26 rfl w4.heap.size 3 i0 (.int .i64 0) 1 8 Tryz.underlying26 hi hz0 hz1 hz2 rfl (by decide) u9 O.length (O.map (Value.int .i64)) rfl (World.ownsRow.alloc Own2.out _) ⟨w2.heap.size, 0, none⟩ 1 1 [.int .i64 k] rfl rfl (cell_one_at (by simp [go_sem])) (by simp [Value.oneCell']) (by unfold maxLen; omega) (by omega) (by simp; omega) ?_; intro v' w3 hown' hgrow _ _))
          have hx4 : Ext w4 w3 := Ext.grown (hx3.alloc _) hgrow fun k hk => (Own2.out.lt k hk).1
          go_roundw
          case rel => exact ⟨k + 1, by omega, by go_num, hx4, by rw [Hst2.out, List.length_append, List.map_append]; exact hown'⟩
          case measure => simp [intOf]; omega
        · have km : ¬ (0 : Int) < (A.length : Int) := by omega
          have hst2 := Hst.out
          rw [if_neg hm0, List.append_nil] at hst2
          have Hst2 := Lib.hid hst2
          clear hst2 hm0
          go_wp2
          go_roundw
          case rel => exact ⟨k + 1, by omega, by go_num, hx3, by rw [Hst2.out]; exact Own2.out⟩
          case measure => simp [intOf]; omega
      · obtain rfl : k = s.forms.length := by omega
        have hI := IntsAt.of_own hown (ofTo_I64 _ _ _ (by omega))
        rw [← Hol.out] at hI
        have hsh := hI.shape
        have hll : (ofTo s.forms l s.forms.length).length = (ofL s l).length := by rw [Hol.out]
        obtain ⟨va, vc, rfl, -⟩ := hsh
        clear hown
        go_wp2
        go_ret2
        exact ⟨_, by rw [He.out]; rfl, hI, x1.trans hxr⟩
  · have he' : (shelfErrM s l != 0) = true := by simpa using he
    have hol : ofL s l = [] := by unfold ofL; rw [if_neg he]
    obtain ⟨er, her⟩ : ∃ er, shelfErrM s l = er := ⟨_, rfl⟩
    have Her := Lib.hid her
    have Hol := Lib.hid hol
    rw [her] at he' ⊢
    clear he her hol
    go_wp2
    go_ret2
    exact ⟨_, by rw [Her.out]; rfl, by rw [Hol.out]; exact SliceAt.nil, x1⟩
theorem head_fills {w : World} {a : Option Addr} {n c : Nat} {A : List (List (List ByteArray))} (h : SliceAt 1 fillsLR w (.slice a n c) A) (hA : 0 < A.length) : ∃ b o u, a = some ⟨b, o, none⟩ ∧ w.cell? ⟨b, o, none⟩ = some u ∧ FillsAt w u (A.headD []) := by
  obtain ⟨b, o, rfl, u, h1, h2⟩ := h.get hA
  rw [Nat.zero_mul, Nat.add_zero] at h1
  refine ⟨b, o, u, rfl, h1, ?_⟩
  cases A with
  | nil => simp at hA
  | cons x r => exact h2
set_option maxRecDepth 100000 in
set_option maxHeartbeats 2000000 in
theorem refFills_any (sv v : Value) (s : Shelf) (n : Int) (hn : I64 n) (l : List ByteArray) (w : World) (hs : ShelfAt w sv s) (hl : StrsAt w v l) :
    Calls Tryz.prog 12 #[sv, .int .i64 n, v] w fun e w' => ∃ u, e = .returned (.tuple #[u, .int .i64 (fillRes s n l).many, .int .i64 (fillRes s n l).err]) ∧ FillsAt w' u (fillRes s n l).fills ∧ Ext w w' := by
  obtain ⟨fa, fc, rfl, -⟩ := hs.open
  obtain ⟨la, lc, rfl, -⟩ := hl.shape
  obtain ⟨W, hW, hb, q0, q1, x1⟩ := box_ofs hs
  replace hl := hl.ext x1
  have z1 := cell_lt q0
  have HW := Lib.hid hW
  clear hs hW
  have hoe : (if openErrM s n ≠ 0 then openErrM s n else letterErrL l) = openForErrM s n l := rfl
  obtain ⟨R, hR⟩ : ∃ R, fillRes s n l = R := ⟨_, rfl⟩
  obtain ⟨F, mn, ee⟩ := R
  rw [hR]
  have HR := Lib.hid hR
  clear hR
  simp only
  go_enter Tryz.func12, Tryz.ntmps12
  go_wp2_with fail
  rw [← HW.out]
  clear HW
  refine (refForm_any _ s n hn _ hb).mono ?_
  rintro e w3 ⟨rfl, hx⟩
  (replace hb := hb.ext hx; replace q0 := hx.cell q0; replace q1 := hx.cell q1; replace z1 := cell_lt q0; replace x1 := x1.trans hx; replace hl := hl.ext hx; clear hx)
  have hbe := refBehind_any _ l (openErrM s n) w3 hl
  rw [hoe] at hbe
  go_wp2_with fail
  refine hbe.mono ?_
  rintro e w4 ⟨rfl, hx⟩
  (replace hb := hb.ext hx; replace q0 := hx.cell q0; replace q1 := hx.cell q1; replace z1 := cell_lt q0; replace x1 := x1.trans hx; replace hl := hl.ext hx; clear hx)
  clear hbe hoe
  by_cases he : openForErrM s n l = 0
  · have he1 : openErrM s n = 0 := by
      unfold openForErrM at he
      by_cases h : openErrM s n = 0
      · exact h
      · rw [if_pos h] at he; exact absurd he h
    have he2 : letterErrL l = 0 := by
      unfold openForErrM at he
      rw [if_neg (by rw [he1]; simp)] at he; exact he
    have he3 : errS s = 0 ∧ inM n 0 (s.forms.length - 1) = true := by
      unfold openErrM at he1
      split at he1
      · rename_i h; exact absurd he1 h
      · rename_i h
        split at he1
        · exact absurd he1 (by decide)
        · rename_i h2; exact ⟨Decidable.not_not.1 h, by simpa using h2⟩
    obtain ⟨he3, hin⟩ := he3
    unfold inM at hin
    rw [Bool.and_eq_true] at hin
    have g1 := of_decide_eq_true hin.1
    have g2 := of_decide_eq_true hin.2
    obtain ⟨k, rfl⟩ : ∃ k : Nat, n = k := ⟨n.toNat, by omega⟩
    have hkl : k < s.forms.length := by omega
    have k1 : (k : Int) < (s.forms.length : Int) := by omega
    have hm : fillRes s k l = if (formWays s.forms[k].parts l).length = 0 then ⟨[], 0, 9⟩ else ⟨fillsM s.forms[k].parts (firstWayM s.forms[k].parts l) l, (formWays s.forms[k].parts l).length, 0⟩ := by
      unfold fillRes
      rw [if_neg (by rw [he]; simp)]
      simp [hkl]
    have hV := (errS_ok he3).forms _ (List.getElem_mem hkl)
    obtain ⟨h15, -⟩ := lettErr_ok he2
    obtain ⟨fb, fo, rfl, f0, fsz, pu, f1, hps⟩ : ∃ b o, fa = some ⟨b, o, none⟩ ∧ w4.cell? ⟨b, o + k * 2, none⟩ = some (.string s.forms[k].name) ∧ s.forms[k].name.size ≤ 9223372036854775807 ∧ ∃ u, w4.cell? ⟨b, o + k * 2 + 1, none⟩ = some u ∧ PartsAt w4 u s.forms[k].parts := by
      obtain ⟨u, e, -, h⟩ := hb
      obtain rfl : u = .slice fa s.forms.length fc := by simpa using e.symm
      exact h.get hkl
    obtain ⟨pa, pc, rfl, -⟩ := hps.shape
    have hform : FormV w4 (.agg #[.string s.forms[k].name, .slice pa s.forms[k].parts.length pc]) s.forms[k] := ⟨_, rfl, fsz, hps⟩
    have Hm := Lib.hid (HR.out.symm.trans hm)
    rw [he]
    generalize s.forms[k] = f at *
    obtain ⟨hw1, hw2⟩ := all_ways hV l
    have hall := refAll_any _ _ f l w4 hV hform hl h15
    have hA4 := allM_len hV l
    generalize (formWays f.parts l).length = N at *
    generalize fillsM f.parts (firstWayM f.parts l) l = fl at *
    generalize allM f.parts l = A at *
    clear he he1 he2 he3 hin g1 g2 hm hps hV HR hform
    go_wp2_with fail
    refine hall.mono ?_
    rintro e w5 ⟨uA, rfl, hA, hx⟩
    obtain ⟨aa, ac, rfl, -⟩ := hA.shape
    replace x1 := x1.trans hx
    clear hx hall
    by_cases hz : N = 0
    · have hA0 : ((A.length : Int) == 0) = true := by rw [← hw1, hz]; rfl
      have hm2 := Hm.out
      rw [if_pos hz] at hm2
      obtain ⟨rfl, rfl, rfl⟩ := FillR.mk.inj hm2
      clear hw1 hw2 hz Hm hm2
      go_wp2
      go_ret3
      exact ⟨_, rfl, SliceAt.nil, x1⟩
    · have hAp : 0 < A.length := by omega
      have hA0 : ((A.length : Int) == 0) = false := beq_eq_false_iff_ne.2 (by omega)
      have hm2 := Hm.out
      rw [if_neg hz, hw2 hz] at hm2
      obtain ⟨rfl, rfl, rfl⟩ := FillR.mk.inj hm2
      obtain ⟨b, o, u, rfl, c0, hF⟩ := head_fills hA hAp
      have l0 : (0 : Int) < (A.length : Int) := by omega
      subst hw1
      have HF := Lib.hid hF
      clear hw2 hz Hm hm2 hA hF
      go_wp2
      go_ret3
      exact ⟨_, rfl, HF.out, x1⟩
  · have he' : (openForErrM s n l != 0) = true := by simpa using he
    have hm : fillRes s n l = ⟨[], 0, openForErrM s n l⟩ := by unfold fillRes; rw [if_pos he]
    obtain ⟨er, her⟩ : ∃ er, openForErrM s n l = er := ⟨_, rfl⟩
    rw [her] at he' hm ⊢
    obtain ⟨rfl, rfl, rfl⟩ := FillR.mk.inj (HR.out.symm.trans hm)
    clear he her hm HR
    go_wp2
    go_ret3
    exact ⟨_, rfl, SliceAt.nil, x1⟩
/-- what the law's Of gives -/
theorem Of_flat {w : World} {l : List Int} {e : Int} {v : Value} (h : ListI w l e v) : ∃ u, v = .tuple #[u, .int .i64 e] ∧ IntsAt w u (if e = 0 then l else []) := by
  obtain ⟨u, rfl, h1, h2⟩ := h
  refine ⟨u, rfl, ?_⟩
  by_cases he : e = 0
  · rw [if_pos he]; exact h1 he
  · rw [if_neg he, h2 he]; exact SliceAt.nil
set_option maxRecDepth 100000 in
set_option maxHeartbeats 2000000 in
theorem ofsL_any (sv v : Value) (s : Shelf) (n : Int) (hn : I64 n) (l : List ByteArray) (w : World) (hs : ShelfAt w sv s) (hl : StrsAt w v l) :
    Calls Tryz.prog 3 #[sv, .int .i64 n, v] w fun e w' => e = .returned (.bool true) ∧ Ext w w' := by
  obtain ⟨fa, fc, rfl, -⟩ := hs.open
  obtain ⟨la, lc, rfl, -⟩ := hl.shape
  obtain ⟨W, hW, hb, q0, q1, x1⟩ := box_ofs hs
  replace hl := hl.ext x1
  have z1 := cell_lt q0
  have HW := Lib.hid hW
  clear hs hW
  go_enter Tryz.func3, Tryz.ntmps3
  go_wp2_with fail
  rw [← HW.out]
  clear HW
  refine (of_any _ _ s l _ hb hl).mono ?_
  rintro e w3 ⟨t3, rfl, ht3, hx⟩
  obtain ⟨u3, rfl, hu3⟩ := Of_flat ht3
  rw [show (if shelfErrM s l = 0 then ofM s l else []) = ofL s l from rfl] at hu3
  clear ht3
  (replace hb := hb.ext hx; replace q0 := hx.cell q0; replace q1 := hx.cell q1; replace z1 := cell_lt q0; replace x1 := x1.trans hx; replace hl := hl.ext hx; clear hx)
  obtain ⟨a3, c3, rfl, -⟩ := hu3.shape
  go_wp2_with fail
  refine (refOf_any _ _ s l _ hb hl).mono ?_
  rintro e w4 ⟨u4, rfl, hu4, hx⟩
  replace hu3 := hu3.ext hx
  (replace hb := hb.ext hx; replace q0 := hx.cell q0; replace q1 := hx.cell q1; replace z1 := cell_lt q0; replace x1 := x1.trans hx; replace hl := hl.ext hx; clear hx)
  generalize ofL s l = ol at *
  generalize shelfErrM s l = se at *
  obtain ⟨a4, c4, rfl, -⟩ := hu4.shape
  go_wp2_with fail
  refine (ints_any _ _ ol ol _ hu3 hu4).mono ?_
  rintro e w5 ⟨rfl, hx⟩
  rw [decide_eq_true rfl]
  (replace hb := hb.ext hx; replace q0 := hx.cell q0; replace q1 := hx.cell q1; replace z1 := cell_lt q0; replace x1 := x1.trans hx; replace hl := hl.ext hx; clear hx)
  clear hu3 hu4
  go_wp2_with fail
  refine (Fills_any _ _ s n hn l _ hb hl).mono ?_
  rintro e w6 ⟨u6, rfl, hu6, hx⟩
  (replace hb := hb.ext hx; replace q0 := hx.cell q0; replace q1 := hx.cell q1; replace z1 := cell_lt q0; replace x1 := x1.trans hx; replace hl := hl.ext hx; clear hx)
  obtain ⟨a6, c6, rfl, -⟩ := hu6.shape
  go_wp2_with fail
  refine (refFills_any _ _ s n hn l _ hb hl).mono ?_
  rintro e w7 ⟨u7, rfl, hu7, hx⟩
  replace hu6 := hu6.ext hx
  (replace hb := hb.ext hx; replace q0 := hx.cell q0; replace q1 := hx.cell q1; replace z1 := cell_lt q0; replace x1 := x1.trans hx; replace hl := hl.ext hx; clear hx)
  obtain ⟨a7, c7, rfl, -⟩ := hu7.shape
  generalize fillRes s n l = fr at *
  go_wp2_with fail
  refine (sames_any _ _ fr.fills fr.fills _ hu6 hu7).mono ?_
  rintro e w8 ⟨rfl, hx⟩
  rw [decide_eq_true rfl]
  (replace hb := hb.ext hx; replace q0 := hx.cell q0; replace q1 := hx.cell q1; replace z1 := cell_lt q0; replace x1 := x1.trans hx; replace hl := hl.ext hx; clear hx)
  clear hu6 hu7
  go_wp2_with fail
  refine (awakeL_any _).mono ?_
  rintro e w9 ⟨rfl, hx⟩
  go_wp2
  go_ret
  exact ⟨rfl, x1.trans hx⟩
end Go.Proofs.YtcamegaimleomaaGreat
