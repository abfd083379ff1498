/-
  WHAT Heard AND Others OF THE REFERENCE RETURN: the sound string of a number; the spellings that are none of some.
  WHAT Others OF THE REFERENCE RETURNS: the spellings that are none of some.
  WHAT further OF THE REFERENCE RETURNS: how many of the first sounds are done behind one more letter.
  LISTS OF BOOLS THAT A CALL HAS MADE ITSELF: what make gives, what a read gives, what a write leaves.
  WHAT valid AND turn OF THE STATEMENTS RETURN.
-/
import Derived.Test.YtoifmphpeflliaaBunS
import Derived.Laws.OwnMore
namespace Go.Proofs.Ytoifmphpeflliaa
open Go.RowKit

def heardM (n : Nat) : List Int := if _h : n = 0 then [] else heardM (n / 5) ++ [(n : Int) % 5 - 1]
termination_by n
decreasing_by omega
theorem heardM_zero : heardM 0 = [] := by rw [heardM]; rfl
theorem heardM_pos {n : Nat} (h : n ≠ 0) : heardM n = heardM (n / 5) ++ [(n : Int) % 5 - 1] := by rw [heardM, dif_neg h]
theorem heardM_len (n : Nat) : (heardM n).length ≤ n := by
  induction n using Nat.strongRecOn with
  | _ n ih =>
    by_cases h : n = 0
    · subst h; rw [heardM_zero]; exact Nat.le_refl _
    · rw [heardM_pos h, List.length_append]
      have := ih (n / 5) (by omega)
      simp only [List.length_cons, List.length_nil]; omega
theorem heardM_I64 (n : Nat) : ∀ x ∈ heardM n, I64 x := by
  induction n using Nat.strongRecOn with
  | _ n ih =>
    by_cases h : n = 0
    · subst h; rw [heardM_zero]; simp
    · rw [heardM_pos h]
      intro x hx
      rcases List.mem_append.1 hx with hx | hx
      · exact ih (n / 5) (by omega) x hx
      · obtain rfl : x = _ := by simpa using hx
        unfold I64; omega

end Go.Proofs.Ytoifmphpeflliaa

namespace Go.Proofs.Ytoifmphpeflliaa
open Go.RowKit

def othersTo (l : List Int) (k : Nat) : List Int := ints ((List.range k).filter fun i => !decide ((i : Int) ∈ l))
theorem othersTo_yes (l : List Int) (k : Nat) (h : decide ((k : Int) ∈ l) = false) : othersTo l (k + 1) = othersTo l k ++ [(k : Int)] := by
  unfold othersTo
  rw [List.range_succ, List.filter_append]
  simp [ints, h]
theorem othersTo_no (l : List Int) (k : Nat) (h : decide ((k : Int) ∈ l) = true) : othersTo l (k + 1) = othersTo l k := by
  unfold othersTo
  rw [List.range_succ, List.filter_append]
  simp [h]
theorem othersTo_len (l : List Int) (k : Nat) : (othersTo l k).length ≤ k := by
  have := List.length_filter_le (fun i : Nat => !decide ((i : Int) ∈ l)) (List.range k)
  simpa [othersTo, ints] using this
theorem othersTo_I64 (l : List Int) (k : Nat) (hk : k ≤ 9223372036854775807) : ∀ x ∈ othersTo l k, I64 x := by
  intro x hx
  simp only [othersTo, ints, List.mem_map, List.mem_filter, List.mem_range] at hx
  obtain ⟨y, ⟨hy, -⟩, rfl⟩ := hx
  unfold I64; omega

end Go.Proofs.Ytoifmphpeflliaa

namespace Go.Proofs.Ytoifmphpeflliaa
open Go.RowKit

def furA (x : Letter) (out : List Int) (n : Int) : List Int := if x.silent = true ∧ decide (n ∈ out) = false then out ++ [n] else out
def furB (x : Letter) (heard out : List Int) (n : Int) : List Int := if n < heard.length ∧ bitM (heard.getD n.toNat 0).toNat x.sounds = true ∧ decide (n + 1 ∈ out) = false then out ++ [n + 1] else out
def furTo (x : Letter) (done heard : List Int) (k : Nat) : List Int := (done.take k).foldl (fun o n => furB x heard (furA x o n) n) []
theorem furTo_step (x : Letter) (done heard : List Int) (k : Nat) (h : k < done.length) (n : Int) (hn : done[k] = n) : furTo x done heard (k + 1) = furB x heard (furA x (furTo x done heard k) n) n := by
  rw [furTo, List.take_succ_eq_append_getElem h, hn, List.foldl_append]; rfl
theorem snoc_I64 {l : List Int} {n : Int} (h : ∀ x ∈ l, I64 x) (hn : I64 n) : ∀ x ∈ l ++ [n], I64 x := fun x hx => by
  rcases List.mem_append.1 hx with hx | hx
  · exact h x hx
  · obtain rfl : x = n := by simpa using hx
    exact hn

set_option maxHeartbeats 2000000 in
set_option maxRecDepth 100000 in
theorem further_any (u v t : Value) (x : Letter) (done heard : List Int) (w : World) (hu : LetterV u x) (hv : IntsAt w v done) (ht : IntsAt w t heard) (hd6 : done.length ≤ 100) (hh5 : heard.length ≤ 100)
    (hdone : ∀ n ∈ done, 0 ≤ n ∧ n ≤ heard.length) (hheard : ∀ n ∈ heard, 0 ≤ n ∧ n ≤ 100) :
    Calls Try.prog 45 #[u, v, t] w fun e w' => ∃ r, e = .returned r ∧ IntsAt w' r (furTo x done heard done.length) ∧ Ext w w' ∧ ∀ k, r.ownBlock = some k → w.heap.size ≤ k ∧ k < w'.heap.size := by
  obtain ⟨rfl, hc8, hsI⟩ := hu
  obtain ⟨a, cap, rfl, hlc, hcm⟩ := hv.shape
  obtain ⟨a', cap', rfl, hlc', hcm'⟩ := ht.shape
  obtain ⟨i0, hi, hz0, hz1, hz2⟩ := info_parts infoInt
  go_enter Try.func45, Try.ntmps45
  go_wp2
  go_loopw [7, 8] (fun o i wr => ∃ k : Nat, ∃ l : List Int, k ≤ done.length ∧ i = .int .i64 k ∧ Ext w wr ∧ (wr.cell? ⟨w.heap.size, 1, none⟩ = some (.int .i64 x.sounds) ∧ wr.cell? ⟨w.heap.size, 2, none⟩ = some (.bool x.silent)) ∧
    wr.ownsRow (w.heap.size + 1) 3 1 o l.length (l.map (Value.int .i64)) ∧ furTo x done heard k = l ∧ l.length ≤ 2 * k ∧ ∀ y ∈ l, I64 y) (fun _ i _ => done.length - (intOf i).toNat)
  case atStart => exact ⟨0, [], Nat.zero_le _, rfl, (by first | (with_reducible exact Ext.refl _) | (with_reducible assumption) | (show Below _ _ _; go_grown; done)), ⟨by simp [go_sem], by simp [go_sem]⟩, World.ownsRow_nil _ _ _ _, rfl, Nat.zero_le _, fun _ h => by cases h⟩
  case round =>
    obtain ⟨k, l, hk, rfl, hx, ⟨q1, q2⟩, hown, hf, hll, hI⟩ := hrel
    by_cases hlt : k < done.length
    · have k1 : (k : Int) < (done.length : Int) := by omega
      obtain ⟨_, _, he, -, -, hh⟩ := hv.ext hx
      obtain ⟨bb, off, rfl, c0, -⟩ := hh k hlt
      cases he
      have hstep := fun n hn => furTo_step x done heard k hlt n hn
      have hnb := hdone _ (List.getElem_mem hlt)
      generalize hy : done[k] = n at *
      have hstep := hstep n rfl
      rw [hf] at hstep
      clear hh hy hf
      simp only [Nat.mul_one] at c0
      obtain ⟨m, rfl⟩ : ∃ m : Nat, n = m := ⟨n.toNat, by omega⟩
      have hIm : I64 (m : Int) := by unfold I64; omega
      have hIm1 : I64 ((m : Int) + 1) := by unfold I64; omega
      have wn : IntKind.i64.wrap ((m : Int) + 1) = (m : Int) + 1 := IntWalk.i64_in _ (by omega)
      have hsz := hx.size
      have z1 := cell_lt q1
      cases hs : x.silent
      · have HA : Hid (furA x l m = l) := Lib.hid (by rw [furA, if_neg (fun h => by rw [hs] at h; cases h.1)])
        rw [hs] at q2
        go_wp2_with fail
        have hxA := hx
        have ownA := hown
        have r1 := q1
        have r2 := q2
        have lenA : l.length ≤ 2 * k + 1 := by omega
        have IA := hI
        clear hown q1 q2 hll hI
        rw [HA.out] at hstep
        have Hstep := Lib.hid hstep
        clear hstep HA
        by_cases hn : (m : Int) < (heard.length : Int)
        · have hml : m < heard.length := by omega
          obtain ⟨_, _, he, -, -, hh⟩ := ht.ext hxA
          obtain ⟨hb', ho', rfl, d0, -⟩ := hh m hml
          cases he
          have hyb := hheard _ (List.getElem_mem hml)
          have hgd : heard.getD m 0 = heard[m] := by rw [List.getD_eq_getElem?_getD, List.getElem?_eq_getElem hml]; rfl
          generalize hy : heard[m] = y at *
          clear hh hy
          simp only [Nat.mul_one] at d0
          obtain ⟨j, rfl⟩ : ∃ j : Nat, y = j := ⟨y.toNat, by omega⟩
          have hbe : (heard.getD (m : Int).toNat 0).toNat = j := by rw [Int.toNat_natCast, hgd]; rfl
          have Hbe := Lib.hid hbe
          clear hbe hgd
          cases hbit : bitM j x.sounds
          · have HB : Hid (furB x heard l m = l) := Lib.hid (by rw [furB, if_neg (fun h => by rw [Hbe.out, hbit] at h; cases h.2.1)])
            apply Facts.wp_region [.val _, .val _, .val _, .val _, .val _, .val _, .val _, .val _, .val _, .val _, .val _, .val (.bool (bitM j x.sounds)), .val _, .val _, .val _, .val _, .val _, .val _, .val _, .val _] (by kernel_rfl) (by kernel_rfl) trivial ?main
            case main =>
              iterate 11 (refine ⟨fun w1 hx hh => ?_, ?_⟩; focus (clear hh; have e0 := hx.cell d0; have e1 := hx.cell r1; go_simp; exact ⟨Ext.refl _, rfl⟩))
              refine ⟨fun w1 hx hh => ?_, ?_⟩
              · clear hh
                go_simp
                refine (bit_any x.sounds j hsI (by omega) w1).mono ?_
                rintro e w' ⟨rfl, rfl⟩
                exact ⟨_, rfl, Ext.refl _, by rw [hbit]⟩
              rw [hbit]
              iterate 8 (refine ⟨fun w1 hx hh => ?_, ?_⟩; focus (clear hh; skip; go_simp; exact ⟨Ext.refl _, rfl⟩))
              intro w3 hx3 hh
              have hx4 := hxA.trans hx3
              have s1 := hx3.cell r1
              have s2 := hx3.cell r2
              have own3 := Ext.owns ownA hx3
              clear hh d0 r1 r2 ownA hbit
              go_simp
              go_wp2
              go_roundw
              case rel => exact ⟨k + 1, l, by omega, by go_num, hx4, ⟨s1, s2⟩, own3, by rw [Hstep.out, HB.out], by omega, IA⟩
              case measure => simp [intOf]; omega
          · cases hhas : decide ((m : Int) + 1 ∈ l)
            all_goals
              apply Facts.wp_region [.val _, .val _, .val _, .val _, .val _, .val _, .val _, .val _, .val _, .val _, .val _, .val (.bool (bitM j x.sounds)), .val _, .val _, .val _, .val _, .val _, .val (.bool (decide ((m : Int) + 1 ∈ l))), .val _, .val _] (by kernel_rfl) (by kernel_rfl) trivial ?main
              case main =>
                iterate 11 (refine ⟨fun w1 hx hh => ?_, ?_⟩; focus (clear hh; have e0 := hx.cell d0; have e1 := hx.cell r1; go_simp; exact ⟨Ext.refl _, rfl⟩))
                refine ⟨fun w1 hx hh => ?_, ?_⟩
                · clear hh
                  go_simp
                  refine (bit_any x.sounds j hsI (by omega) w1).mono ?_
                  rintro e w' ⟨rfl, rfl⟩
                  exact ⟨_, rfl, Ext.refl _, by rw [hbit]⟩
                rw [hbit]
                iterate 5 (refine ⟨fun w1 hx hh => ?_, ?_⟩; focus (clear hh; skip; go_simp; exact ⟨Ext.refl _, rfl⟩))
                refine ⟨fun w1 hx hh => ?_, ?_⟩
                · clear hh
                  go_simp
                  refine (has_any _ _ l w1 (IntsAt.of_own (Ext.owns ownA hx) IA)).mono ?_
                  rintro e w' ⟨rfl, hx2⟩
                  exact ⟨_, rfl, hx2, by rw [hhas]⟩
                rw [hhas]
                iterate 2 (refine ⟨fun w1 hx hh => ?_, ?_⟩; focus (clear hh; skip; go_simp; exact ⟨Ext.refl _, rfl⟩))
                intro w3 hx3 hh
                have hx4 := hxA.trans hx3
                have s1 := hx3.cell r1
                have s2 := hx3.cell r2
                have own3 := Ext.owns ownA hx3
                have z3 := cell_lt s1
                have hsz3 := hx4.size
                have Hbit := Lib.hid hbit
                have Hhas := Lib.hid hhas
                clear hh d0 r1 r2 ownA hbit hhas
                go_simp
                first
                  | (go_wp2_with ((at_builtin; refine wpList_append_own _ rfl _ _ 26 rfl (w.heap.size + 1) 3 i0 (.int .i64 0) 1 8 Try.underlying26 hi hz0 hz1 hz2 rfl (by decide) _ _ _ rfl (own3.alloc _) ⟨w3.heap.size, 0, none⟩ 1 1 [.int .i64 ((m : Int) + 1)] rfl rfl (cell_one_new _ _ _) (by simp [Value.oneCell']) (by unfold maxLen; omega) (by omega) (by simp; omega) ?_; intro v' w2 hown' hgrow _))
                     have hx5 : Ext w w2 := Ext.grown (hx4.alloc _) hgrow fun k hk => Nat.le_trans (by omega) (own3.lt k hk).1
                     have p1 : w2.cell? ⟨w.heap.size, 1, none⟩ = some (.int .i64 x.sounds) := hgrow.cell (by simpa [go_sem, z3] using s1) (fun e => by
                       have := (own3.lt w.heap.size e.symm).1
                       omega)
                     have p2 : w2.cell? ⟨w.heap.size, 2, none⟩ = some (.bool false) := hgrow.cell (by simpa [go_sem, z3] using s2) (fun e => by
                       have := (own3.lt w.heap.size e.symm).1
                       omega)
                     go_roundw
                     case rel => exact ⟨k + 1, l ++ [(m : Int) + 1], by omega, by go_num, hx5, ⟨p1, p2⟩, by simpa using hown', by rw [Hstep.out, furB, if_pos ⟨hn, by rw [Hbe.out]; exact Hbit.out, Hhas.out⟩], by simp; omega, snoc_I64 IA hIm1⟩
                     case measure => simp [intOf]; omega)
                  | (go_wp2
                     go_roundw
                     case rel => exact ⟨k + 1, l, by omega, by go_num, hx4, ⟨s1, s2⟩, own3, by rw [Hstep.out, furB, if_neg (fun h => by rw [Hhas.out] at h; cases h.2.2)], by omega, IA⟩
                     case measure => simp [intOf]; omega)
        · have HB : Hid (furB x heard l m = l) := Lib.hid (by rw [furB, if_neg (fun h => hn h.1)])
          apply Facts.wp_region [.val _, .val _, .val _, .val _, .val _, .val _, .val _, .val _, .val _, .val _, .val _, .val _, .val _, .val _, .val _, .val _, .val _, .val _, .val _, .val _] (by kernel_rfl) (by kernel_rfl) trivial ?main
          case main =>
            iterate 20 (refine ⟨fun w1 hx hh => ?_, ?_⟩; focus (clear hh; skip; go_simp; exact ⟨Ext.refl _, rfl⟩))
            intro w3 hx3 hh
            have hx4 := hxA.trans hx3
            have s1 := hx3.cell r1
            have s2 := hx3.cell r2
            have own3 := Ext.owns ownA hx3
            clear hh r1 r2 ownA
            go_simp
            go_wp2
            go_roundw
            case rel => exact ⟨k + 1, l, by omega, by go_num, hx4, ⟨s1, s2⟩, own3, by rw [Hstep.out, HB.out], by omega, IA⟩
            case measure => simp [intOf]; omega
      · rw [hs] at q2
        have HS := Lib.hid hs
        go_wp2_with fail
        refine (has_any _ _ l wr (IntsAt.of_own hown hI)).mono ?_
        rintro e w1 ⟨rfl, hx1⟩
        have hxB := hx.trans hx1
        have t1 := hx1.cell q1
        have t2 := hx1.cell q2
        have ownB := Ext.owns hown hx1
        have zB := cell_lt t1
        have hszB := hxB.size
        clear hown q1 q2
        cases hh1 : decide ((m : Int) ∈ l)
        · have HA : Hid (furA x l m = l ++ [(m : Int)]) := Lib.hid (by rw [furA, if_pos ⟨HS.out, hh1⟩])
          clear hh1
          go_wp2_with ((at_builtin; refine wpList_append_own _ rfl _ _ 26 rfl (w.heap.size + 1) 3 i0 (.int .i64 0) 1 8 Try.underlying26 hi hz0 hz1 hz2 rfl (by decide) _ _ _ rfl (ownB.alloc _) ⟨w1.heap.size, 0, none⟩ 1 1 [.int .i64 m] rfl rfl (cell_one_new _ _ _) (by simp [Value.oneCell']) (by unfold maxLen; omega) (by omega) (by simp; omega) ?_; intro v' w2 hown' hgrow _))
          have hxA : Ext w w2 := Ext.grown (hxB.alloc _) hgrow fun k hk => Nat.le_trans (by omega) (ownB.lt k hk).1
          have r1 : w2.cell? ⟨w.heap.size, 1, none⟩ = some (.int .i64 x.sounds) := hgrow.cell (by simpa [go_sem, zB] using t1) (fun e => by
            have := (ownB.lt w.heap.size e.symm).1
            omega)
          have r2 : w2.cell? ⟨w.heap.size, 2, none⟩ = some (.bool true) := hgrow.cell (by simpa [go_sem, zB] using t2) (fun e => by
            have := (ownB.lt w.heap.size e.symm).1
            omega)
          have ownA : w2.ownsRow (w.heap.size + 1) 3 1 v' (l ++ [(m : Int)]).length ((l ++ [(m : Int)]).map (Value.int .i64)) := by simpa using hown'
          have lenA : (l ++ [(m : Int)]).length ≤ 2 * k + 1 := by simp; omega
          have IA := snoc_I64 hI hIm
          clear hown' hgrow ownB t1 t2 hI hll
          generalize l ++ [(m : Int)] = lA at *
          rw [HA.out] at hstep
          have Hstep := Lib.hid hstep
          clear hstep HA
          by_cases hn : (m : Int) < (heard.length : Int)
          · have hml : m < heard.length := by omega
            obtain ⟨_, _, he, -, -, hh⟩ := ht.ext hxA
            obtain ⟨hb', ho', rfl, d0, -⟩ := hh m hml
            cases he
            have hyb := hheard _ (List.getElem_mem hml)
            have hgd : heard.getD m 0 = heard[m] := by rw [List.getD_eq_getElem?_getD, List.getElem?_eq_getElem hml]; rfl
            generalize hy : heard[m] = y at *
            clear hh hy
            simp only [Nat.mul_one] at d0
            obtain ⟨j, rfl⟩ : ∃ j : Nat, y = j := ⟨y.toNat, by omega⟩
            have hbe : (heard.getD (m : Int).toNat 0).toNat = j := by rw [Int.toNat_natCast, hgd]; rfl
            have Hbe := Lib.hid hbe
            clear hbe hgd
            cases hbit : bitM j x.sounds
            · have HB : Hid (furB x heard lA m = lA) := Lib.hid (by rw [furB, if_neg (fun h => by rw [Hbe.out, hbit] at h; cases h.2.1)])
              apply Facts.wp_region [.val _, .val _, .val _, .val _, .val _, .val _, .val _, .val _, .val _, .val _, .val _, .val (.bool (bitM j x.sounds)), .val _, .val _, .val _, .val _, .val _, .val _, .val _, .val _] (by kernel_rfl) (by kernel_rfl) trivial ?main
              case main =>
                iterate 11 (refine ⟨fun w1 hx hh => ?_, ?_⟩; focus (clear hh; have e0 := hx.cell d0; have e1 := hx.cell r1; go_simp; exact ⟨Ext.refl _, rfl⟩))
                refine ⟨fun w1 hx hh => ?_, ?_⟩
                · clear hh
                  go_simp
                  refine (bit_any x.sounds j hsI (by omega) w1).mono ?_
                  rintro e w' ⟨rfl, rfl⟩
                  exact ⟨_, rfl, Ext.refl _, by rw [hbit]⟩
                rw [hbit]
                iterate 8 (refine ⟨fun w1 hx hh => ?_, ?_⟩; focus (clear hh; skip; go_simp; exact ⟨Ext.refl _, rfl⟩))
                intro w3 hx3 hh
                have hx4 := hxA.trans hx3
                have s1 := hx3.cell r1
                have s2 := hx3.cell r2
                have own3 := Ext.owns ownA hx3
                clear hh d0 r1 r2 ownA hbit
                go_simp
                go_wp2
                go_roundw
                case rel => exact ⟨k + 1, lA, by omega, by go_num, hx4, ⟨s1, s2⟩, own3, by rw [Hstep.out, HB.out], by omega, IA⟩
                case measure => simp [intOf]; omega
            · cases hhas : decide ((m : Int) + 1 ∈ lA)
              all_goals
                apply Facts.wp_region [.val _, .val _, .val _, .val _, .val _, .val _, .val _, .val _, .val _, .val _, .val _, .val (.bool (bitM j x.sounds)), .val _, .val _, .val _, .val _, .val _, .val (.bool (decide ((m : Int) + 1 ∈ lA))), .val _, .val _] (by kernel_rfl) (by kernel_rfl) trivial ?main
                case main =>
                  iterate 11 (refine ⟨fun w1 hx hh => ?_, ?_⟩; focus (clear hh; have e0 := hx.cell d0; have e1 := hx.cell r1; go_simp; exact ⟨Ext.refl _, rfl⟩))
                  refine ⟨fun w1 hx hh => ?_, ?_⟩
                  · clear hh
                    go_simp
                    refine (bit_any x.sounds j hsI (by omega) w1).mono ?_
                    rintro e w' ⟨rfl, rfl⟩
                    exact ⟨_, rfl, Ext.refl _, by rw [hbit]⟩
                  rw [hbit]
                  iterate 5 (refine ⟨fun w1 hx hh => ?_, ?_⟩; focus (clear hh; skip; go_simp; exact ⟨Ext.refl _, rfl⟩))
                  refine ⟨fun w1 hx hh => ?_, ?_⟩
                  · clear hh
                    go_simp
                    refine (has_any _ _ lA w1 (IntsAt.of_own (Ext.owns ownA hx) IA)).mono ?_
                    rintro e w' ⟨rfl, hx2⟩
                    exact ⟨_, rfl, hx2, by rw [hhas]⟩
                  rw [hhas]
                  iterate 2 (refine ⟨fun w1 hx hh => ?_, ?_⟩; focus (clear hh; skip; go_simp; exact ⟨Ext.refl _, rfl⟩))
                  intro w3 hx3 hh
                  have hx4 := hxA.trans hx3
                  have s1 := hx3.cell r1
                  have s2 := hx3.cell r2
                  have own3 := Ext.owns ownA hx3
                  have z3 := cell_lt s1
                  have hsz3 := hx4.size
                  have Hbit := Lib.hid hbit
                  have Hhas := Lib.hid hhas
                  clear hh d0 r1 r2 ownA hbit hhas
                  go_simp
                  first
                    | (go_wp2_with ((at_builtin; refine wpList_append_own _ rfl _ _ 26 rfl (w.heap.size + 1) 3 i0 (.int .i64 0) 1 8 Try.underlying26 hi hz0 hz1 hz2 rfl (by decide) _ _ _ rfl (own3.alloc _) ⟨w3.heap.size, 0, none⟩ 1 1 [.int .i64 ((m : Int) + 1)] rfl rfl (cell_one_new _ _ _) (by simp [Value.oneCell']) (by unfold maxLen; omega) (by omega) (by simp; omega) ?_; intro v' w2 hown' hgrow _))
                       have hx5 : Ext w w2 := Ext.grown (hx4.alloc _) hgrow fun k hk => Nat.le_trans (by omega) (own3.lt k hk).1
                       have p1 : w2.cell? ⟨w.heap.size, 1, none⟩ = some (.int .i64 x.sounds) := hgrow.cell (by simpa [go_sem, z3] using s1) (fun e => by
                         have := (own3.lt w.heap.size e.symm).1
                         omega)
                       have p2 : w2.cell? ⟨w.heap.size, 2, none⟩ = some (.bool true) := hgrow.cell (by simpa [go_sem, z3] using s2) (fun e => by
                         have := (own3.lt w.heap.size e.symm).1
                         omega)
                       go_roundw
                       case rel => exact ⟨k + 1, lA ++ [(m : Int) + 1], by omega, by go_num, hx5, ⟨p1, p2⟩, by simpa using hown', by rw [Hstep.out, furB, if_pos ⟨hn, by rw [Hbe.out]; exact Hbit.out, Hhas.out⟩], by simp; omega, snoc_I64 IA hIm1⟩
                       case measure => simp [intOf]; omega)
                    | (go_wp2
                       go_roundw
                       case rel => exact ⟨k + 1, lA, by omega, by go_num, hx4, ⟨s1, s2⟩, own3, by rw [Hstep.out, furB, if_neg (fun h => by rw [Hhas.out] at h; cases h.2.2)], by omega, IA⟩
                       case measure => simp [intOf]; omega)
          · have HB : Hid (furB x heard lA m = lA) := Lib.hid (by rw [furB, if_neg (fun h => hn h.1)])
            apply Facts.wp_region [.val _, .val _, .val _, .val _, .val _, .val _, .val _, .val _, .val _, .val _, .val _, .val _, .val _, .val _, .val _, .val _, .val _, .val _, .val _, .val _] (by kernel_rfl) (by kernel_rfl) trivial ?main
            case main =>
              iterate 20 (refine ⟨fun w1 hx hh => ?_, ?_⟩; focus (clear hh; skip; go_simp; exact ⟨Ext.refl _, rfl⟩))
              intro w3 hx3 hh
              have hx4 := hxA.trans hx3
              have s1 := hx3.cell r1
              have s2 := hx3.cell r2
              have own3 := Ext.owns ownA hx3
              clear hh r1 r2 ownA
              go_simp
              go_wp2
              go_roundw
              case rel => exact ⟨k + 1, lA, by omega, by go_num, hx4, ⟨s1, s2⟩, own3, by rw [Hstep.out, HB.out], by omega, IA⟩
              case measure => simp [intOf]; omega
        · have HA : Hid (furA x l m = l) := Lib.hid (by rw [furA, if_neg (fun h => by rw [hh1] at h; cases h.2)])
          clear hh1
          go_wp2_with fail
          have hxA := hxB
          have ownA := ownB
          have r1 := t1
          have r2 := t2
          have lenA : l.length ≤ 2 * k + 1 := by omega
          have IA := hI
          clear ownB t1 t2 hll hI
          rw [HA.out] at hstep
          have Hstep := Lib.hid hstep
          clear hstep HA
          by_cases hn : (m : Int) < (heard.length : Int)
          · have hml : m < heard.length := by omega
            obtain ⟨_, _, he, -, -, hh⟩ := ht.ext hxA
            obtain ⟨hb', ho', rfl, d0, -⟩ := hh m hml
            cases he
            have hyb := hheard _ (List.getElem_mem hml)
            have hgd : heard.getD m 0 = heard[m] := by rw [List.getD_eq_getElem?_getD, List.getElem?_eq_getElem hml]; rfl
            generalize hy : heard[m] = y at *
            clear hh hy
            simp only [Nat.mul_one] at d0
            obtain ⟨j, rfl⟩ : ∃ j : Nat, y = j := ⟨y.toNat, by omega⟩
            have hbe : (heard.getD (m : Int).toNat 0).toNat = j := by rw [Int.toNat_natCast, hgd]; rfl
            have Hbe := Lib.hid hbe
            clear hbe hgd
            cases hbit : bitM j x.sounds
            · have HB : Hid (furB x heard l m = l) := Lib.hid (by rw [furB, if_neg (fun h => by rw [Hbe.out, hbit] at h; cases h.2.1)])
              apply Facts.wp_region [.val _, .val _, .val _, .val _, .val _, .val _, .val _, .val _, .val _, .val _, .val _, .val (.bool (bitM j x.sounds)), .val _, .val _, .val _, .val _, .val _, .val _, .val _, .val _] (by kernel_rfl) (by kernel_rfl) trivial ?main
              case main =>
                iterate 11 (refine ⟨fun w1 hx hh => ?_, ?_⟩; focus (clear hh; have e0 := hx.cell d0; have e1 := hx.cell r1; go_simp; exact ⟨Ext.refl _, rfl⟩))
                refine ⟨fun w1 hx hh => ?_, ?_⟩
                · clear hh
                  go_simp
                  refine (bit_any x.sounds j hsI (by omega) w1).mono ?_
                  rintro e w' ⟨rfl, rfl⟩
                  exact ⟨_, rfl, Ext.refl _, by rw [hbit]⟩
                rw [hbit]
                iterate 8 (refine ⟨fun w1 hx hh => ?_, ?_⟩; focus (clear hh; skip; go_simp; exact ⟨Ext.refl _, rfl⟩))
                intro w3 hx3 hh
                have hx4 := hxA.trans hx3
                have s1 := hx3.cell r1
                have s2 := hx3.cell r2
                have own3 := Ext.owns ownA hx3
                clear hh d0 r1 r2 ownA hbit
                go_simp
                go_wp2
                go_roundw
                case rel => exact ⟨k + 1, l, by omega, by go_num, hx4, ⟨s1, s2⟩, own3, by rw [Hstep.out, HB.out], by omega, IA⟩
                case measure => simp [intOf]; omega
            · cases hhas : decide ((m : Int) + 1 ∈ l)
              all_goals
                apply Facts.wp_region [.val _, .val _, .val _, .val _, .val _, .val _, .val _, .val _, .val _, .val _, .val _, .val (.bool (bitM j x.sounds)), .val _, .val _, .val _, .val _, .val _, .val (.bool (decide ((m : Int) + 1 ∈ l))), .val _, .val _] (by kernel_rfl) (by kernel_rfl) trivial ?main
                case main =>
                  iterate 11 (refine ⟨fun w1 hx hh => ?_, ?_⟩; focus (clear hh; have e0 := hx.cell d0; have e1 := hx.cell r1; go_simp; exact ⟨Ext.refl _, rfl⟩))
                  refine ⟨fun w1 hx hh => ?_, ?_⟩
                  · clear hh
                    go_simp
                    refine (bit_any x.sounds j hsI (by omega) w1).mono ?_
                    rintro e w' ⟨rfl, rfl⟩
                    exact ⟨_, rfl, Ext.refl _, by rw [hbit]⟩
                  rw [hbit]
                  iterate 5 (refine ⟨fun w1 hx hh => ?_, ?_⟩; focus (clear hh; skip; go_simp; exact ⟨Ext.refl _, rfl⟩))
                  refine ⟨fun w1 hx hh => ?_, ?_⟩
                  · clear hh
                    go_simp
                    refine (has_any _ _ l w1 (IntsAt.of_own (Ext.owns ownA hx) IA)).mono ?_
                    rintro e w' ⟨rfl, hx2⟩
                    exact ⟨_, rfl, hx2, by rw [hhas]⟩
                  rw [hhas]
                  iterate 2 (refine ⟨fun w1 hx hh => ?_, ?_⟩; focus (clear hh; skip; go_simp; exact ⟨Ext.refl _, rfl⟩))
                  intro w3 hx3 hh
                  have hx4 := hxA.trans hx3
                  have s1 := hx3.cell r1
                  have s2 := hx3.cell r2
                  have own3 := Ext.owns ownA hx3
                  have z3 := cell_lt s1
                  have hsz3 := hx4.size
                  have Hbit := Lib.hid hbit
                  have Hhas := Lib.hid hhas
                  clear hh d0 r1 r2 ownA hbit hhas
                  go_simp
                  first
                    | (go_wp2_with ((at_builtin; refine wpList_append_own _ rfl _ _ 26 rfl (w.heap.size + 1) 3 i0 (.int .i64 0) 1 8 Try.underlying26 hi hz0 hz1 hz2 rfl (by decide) _ _ _ rfl (own3.alloc _) ⟨w3.heap.size, 0, none⟩ 1 1 [.int .i64 ((m : Int) + 1)] rfl rfl (cell_one_new _ _ _) (by simp [Value.oneCell']) (by unfold maxLen; omega) (by omega) (by simp; omega) ?_; intro v' w2 hown' hgrow _))
                       have hx5 : Ext w w2 := Ext.grown (hx4.alloc _) hgrow fun k hk => Nat.le_trans (by omega) (own3.lt k hk).1
                       have p1 : w2.cell? ⟨w.heap.size, 1, none⟩ = some (.int .i64 x.sounds) := hgrow.cell (by simpa [go_sem, z3] using s1) (fun e => by
                         have := (own3.lt w.heap.size e.symm).1
                         omega)
                       have p2 : w2.cell? ⟨w.heap.size, 2, none⟩ = some (.bool true) := hgrow.cell (by simpa [go_sem, z3] using s2) (fun e => by
                         have := (own3.lt w.heap.size e.symm).1
                         omega)
                       go_roundw
                       case rel => exact ⟨k + 1, l ++ [(m : Int) + 1], by omega, by go_num, hx5, ⟨p1, p2⟩, by simpa using hown', by rw [Hstep.out, furB, if_pos ⟨hn, by rw [Hbe.out]; exact Hbit.out, Hhas.out⟩], by simp; omega, snoc_I64 IA hIm1⟩
                       case measure => simp [intOf]; omega)
                    | (go_wp2
                       go_roundw
                       case rel => exact ⟨k + 1, l, by omega, by go_num, hx4, ⟨s1, s2⟩, own3, by rw [Hstep.out, furB, if_neg (fun h => by rw [Hhas.out] at h; cases h.2.2)], by omega, IA⟩
                       case measure => simp [intOf]; omega)
          · have HB : Hid (furB x heard l m = l) := Lib.hid (by rw [furB, if_neg (fun h => hn h.1)])
            apply Facts.wp_region [.val _, .val _, .val _, .val _, .val _, .val _, .val _, .val _, .val _, .val _, .val _, .val _, .val _, .val _, .val _, .val _, .val _, .val _, .val _, .val _] (by kernel_rfl) (by kernel_rfl) trivial ?main
            case main =>
              iterate 20 (refine ⟨fun w1 hx hh => ?_, ?_⟩; focus (clear hh; skip; go_simp; exact ⟨Ext.refl _, rfl⟩))
              intro w3 hx3 hh
              have hx4 := hxA.trans hx3
              have s1 := hx3.cell r1
              have s2 := hx3.cell r2
              have own3 := Ext.owns ownA hx3
              clear hh r1 r2 ownA
              go_simp
              go_wp2
              go_roundw
              case rel => exact ⟨k + 1, l, by omega, by go_num, hx4, ⟨s1, s2⟩, own3, by rw [Hstep.out, HB.out], by omega, IA⟩
              case measure => simp [intOf]; omega
    · obtain rfl : k = done.length := by omega
      go_wp2
      go_ret
      exact ⟨_, rfl, by rw [hf]; exact IntsAt.of_own hown hI, hx, fun k hk => ⟨Nat.le_of_lt (hown.lt k hk).1, (hown.lt k hk).2⟩⟩
end Go.Proofs.Ytoifmphpeflliaa

namespace Go.Proofs.Ytoifmphpeflliaa
open Go.RowKit

/-- a row of bools of one's own, in block g -/
def BoolsOwn (w : World) (base g : Nat) (l : List Bool) : Prop := w.ownsRow base 4 1 (.slice (some ⟨g, 0, none⟩) l.length l.length) l.length (l.map Value.bool)
theorem BoolsOwn.cell {w : World} {base g : Nat} {l : List Bool} (h : BoolsOwn w base g l) (j : Nat) (hj : j < l.length) : w.cell? ⟨g, j, none⟩ = some (.bool l[j]) := by
  have := World.ownsRow.cellAt h j (by omega)
  rw [this]; simp [hj]
theorem BoolsOwn.frozen {w : World} {base g : Nat} {l : List Bool} (h : BoolsOwn w base g l) (j : Nat) : w.frozen? ⟨g, j, none⟩ = false := World.ownsRow.frozenAt h j
theorem BoolsOwn.set {w : World} {base g : Nat} {l : List Bool} (h : BoolsOwn w base g l) (j : Nat) (u : Bool) : BoolsOwn (w.setCell ⟨g, j, none⟩ (.bool u)) base g (l.set j u) := by
  have := (World.ownsRow.stored h j (.bool u)).1
  unfold BoolsOwn
  rw [List.length_set]
  simpa using this
theorem BoolsOwn.lt {w : World} {base g : Nat} {l : List Bool} (h : BoolsOwn w base g l) : base ≤ g ∧ g < w.heap.size := World.ownsRow.lt h g rfl
theorem BoolsOwn.ext {w w' : World} {base g : Nat} {l : List Bool} (h : BoolsOwn w base g l) (hx : Ext w w') : BoolsOwn w' base g l := Ext.owns h hx
theorem BoolsOwn.at {w : World} {base g : Nat} {l : List Bool} (h : BoolsOwn w base g l) (hl : l.length ≤ 9223372036854775807) : BoolsAt w (.slice (some ⟨g, 0, none⟩) l.length l.length) l :=
  ⟨_, _, rfl, Nat.le_refl _, hl, fun i hi => ⟨_, _, rfl, by
    have := h.cell i hi
    simpa [boolR] using this⟩⟩
theorem infoBool : (Try.prog.info? 4).map (fun i => (i.zero, i.size, i.bytes)) = some (some (.bool false), 1, 1) := by kernel_rfl
end Go.Proofs.Ytoifmphpeflliaa

namespace Go.Proofs.Ytoifmphpeflliaa
open Go.RowKit

set_option maxRecDepth 100000 in
theorem valid_any (bv : Value) (b : Book) (w : World) (hb : BookAt w bv b) : Calls Try.prog 14 #[bv] w fun e w' => e = .returned (.bool (errM b == 0)) ∧ Ext w w' := by
  obtain ⟨ba, bc, bs, bd, rfl, -⟩ := hb.open
  go_enter Try.func14, Try.ntmps14
  go_wp2_with fail
  refine (refCheck_any _ b _ (hb.ext (ext_alloc _ _))).mono ?_
  rintro e w1 ⟨rfl, hx1⟩
  have x1 : Ext w w1 := hx1.of_alloc
  clear hx1
  have herr : (checkM b).2.2 = errM b := rfl
  rw [herr]
  generalize (checkM b).2.1 = at1
  generalize (checkM b).1 = part1
  clear herr
  go_wp2
  go_ret
  exact ⟨rfl, x1⟩

def u8R (w : World) (b o : Nat) (x : Int) : Prop := w.cell? ⟨b, o, none⟩ = some (.int .u8 x) ∧ U8 x
theorem u8R.keeps : Keeps u8R := fun _ _ _ _ _ hx h => ⟨hx.cell h.1, h.2⟩
abbrev BytesAt : World → Value → List Int → Prop := SliceAt 1 u8R
theorem BytesAt.ext {w w' : World} {v : Value} {l : List Int} (h : BytesAt w v l) (hx : Ext w w') : BytesAt w' v l := SliceAt.ext u8R.keeps h hx
def turnM (l : List Int) (n : Nat) : Int := l.getD (n % l.length) 0
end Go.Proofs.Ytoifmphpeflliaa
