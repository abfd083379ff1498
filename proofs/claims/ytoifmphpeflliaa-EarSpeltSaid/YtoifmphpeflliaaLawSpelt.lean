/-
  EarSpelt returns true: the text of Spell can be heard so, and no shorter spelling, nor as short a one that comes before, can, for any book, alphabet, sound string and letters.
-/
import Derived.Test.YtoifmphpeflliaaBunM
import Derived.Test.YtoifmphpeflliaaBunL
import Derived.Test.YtoifmphpeflliaaBunN
import Derived.Test.YtoifmphpeflliaaBunS
import Derived.Test.YtoifmphpeflliaaBunU
import Derived.Test.YtoifmphpeflliaaBunY
import Derived.RegionTactic
import Derived.BigRegion
import Derived.Deep.CutBlock
import Derived.Deep.DeepCutAuto
import Derived.Test.YtoifmphpeflliaaBunQ
import Derived.Lib.SmallJoins
import Derived.Test.YtoifmphpeflliaaBunO
namespace Go.Proofs.Ytoifmphpeflliaa
open Go.RowKit
set_option linter.unusedVariables false

theorem indices_zero {b : Book} {l : List Int} {n : Int} (h : indicesM b l n = 0) : errM b = 0 := by
  unfold indicesM at h
  split at h
  · exact h
  · rename_i h2; exact Classical.byContradiction h2
theorem find_at {α : Type} (p : α → Bool) (l : List α) (j : Nat) (hj : j < l.length) (h1 : ∀ j' (h : j' < j), p (l[j']'(by omega)) = false) (h2 : p l[j] = true) : l.find? p = some l[j] := by
  rw [List.find?_eq_some_iff_getElem]
  exact ⟨h2, j, hj, rfl, fun i hi => by simpa using h1 i hi⟩
theorem step_few (ls : List Letter) (heard : List Int) : ∀ L : List Spl, (L.flatMap (splStep ls heard)).length ≤ L.length * ls.length
  | [] => by simp
  | r :: L => by
    have ih := step_few ls heard L
    rw [List.flatMap_cons, List.length_append, List.length_cons, Nat.succ_mul]
    have : (splStep ls heard r).length ≤ ls.length := List.length_filterMap_le _ _
    omega
theorem step_next (ls : List Letter) (heard : List Int) (LL : List Spl) (q : Nat) (h : q < LL.length) : (LL.take (q + 1)).flatMap (splStep ls heard) = (LL.take q).flatMap (splStep ls heard) ++ splStep ls heard LL[q] := by
  rw [List.take_succ_eq_append_getElem h, List.flatMap_append]
  simp
theorem one_next_no (heard : List Int) (r : Spl) (ls : List Letter) (k : Nat) (h : k < ls.length) (x : Letter) (hx : ls[k] = x) (hn : furs x r.2 heard = []) : (ls.take (k + 1)).filterMap (splOne heard r) = (ls.take k).filterMap (splOne heard r) := by
  rw [List.take_succ_eq_append_getElem h, List.filterMap_append, hx]
  have : splOne heard r x = none := by unfold splOne; rw [if_pos hn]
  simp [this]
theorem one_next_yes (heard : List Int) (r : Spl) (ls : List Letter) (k : Nat) (h : k < ls.length) (x : Letter) (hx : ls[k] = x) (hn : furs x r.2 heard ≠ []) : (ls.take (k + 1)).filterMap (splOne heard r) = (ls.take k).filterMap (splOne heard r) ++ [(r.1 ++ [x.c], furs x r.2 heard)] := by
  rw [List.take_succ_eq_append_getElem h, List.filterMap_append, hx]
  have : splOne heard r x = some (r.1 ++ [x.c], furs x r.2 heard) := by unfold splOne; rw [if_neg hn]
  simp [this]
/-- what is done behind a letter, in new memory -/
def FurV (B : Nat) (l : List Int) (u : Value) (w : World) : Prop := IntsAt w u l ∧ ∀ k, u.ownBlock = some k → B ≤ k ∧ k < w.heap.size
theorem FurV.ext {B : Nat} {l : List Int} {u : Value} {w w' : World} (h : FurV B l u w) (hx : Ext w w') : FurV B l u w' := ⟨h.1.ext hx, fun k hk => ⟨(h.2 k hk).1, Nat.lt_of_lt_of_le (h.2 k hk).2 hx.size⟩⟩
/-- one text with numbers, in a block of its own -/
def NewR (own : Option Nat) (a x : Value) (u : Value) (w : World) : Prop := ∃ B, u = .slice (some ⟨B, 0, none⟩) 1 1 ∧ w.cell? ⟨B, 0, none⟩ = some a ∧ w.cell? ⟨B, 1, none⟩ = some x ∧ some B ≠ own
noncomputable def NewR.B {own : Option Nat} {a x u : Value} {w : World} (h : NewR own a x u w) : Nat := Exists.choose h
theorem NewR.spec {own : Option Nat} {a x u : Value} {w : World} (h : NewR own a x u w) : u = .slice (some ⟨h.B, 0, none⟩) 1 1 ∧ w.cell? ⟨h.B, 0, none⟩ = some a ∧ w.cell? ⟨h.B, 1, none⟩ = some x ∧ some h.B ≠ own := Exists.choose_spec h
theorem NewR.ext {own : Option Nat} {a x u : Value} {w w' : World} (h : NewR own a x u w) (hx : Ext w w') : NewR own a x u w' := by
  obtain ⟨B, h1, h2, h3, h4⟩ := h; exact ⟨B, h1, hx.cell h2, hx.cell h3, h4⟩
theorem NewR.but {own : Option Nat} {a x u : Value} {w w' : World} (h : NewR own a x u w) (hx : Facts.App.But own w w') : NewR own a x u w' := by
  obtain ⟨B, h1, h2, h3, h4⟩ := h; exact ⟨B, h1, World.grownBy.cell hx h2 h4, World.grownBy.cell hx h3 h4, h4⟩
theorem reach_cells {a x : Value} {w : World} {B : Nat} (h2 : w.cell? ⟨B, 0, none⟩ = some a) (h3 : w.cell? ⟨B, 1, none⟩ = some x) : ∀ j v, [a, x][j]? = some v → w.cell? ((⟨B, 0, none⟩ : Addr).add j) = some v := by
  intro j v hj
  match j, hj with
  | 0, hj => simp at hj; subst hj; simpa [Addr.add] using h2
  | 1, hj => simp at hj; subst hj; simpa [Addr.add] using h3
/-- the row with one more behind it -/
def Appd (base S : Nat) (own : Option Nat) (n : Nat) (xs : List Value) (u : Value) (w : World) : Prop := w.ownsRow base 95 2 u n xs ∧ (u.ownBlock = own ∨ ∃ k, u.ownBlock = some k ∧ S ≤ k)
theorem Appd.ext {base S : Nat} {own : Option Nat} {n : Nat} {xs : List Value} {u : Value} {w w' : World} (h : Appd base S own n xs u w) (hx : Ext w w') : Appd base S own n xs u w' := ⟨Ext.owns h.1 hx, h.2⟩

set_option maxRecDepth 100000 in
set_option maxHeartbeats 2000000 in
theorem refSpell_err (bv hv : Value) (b : Book) (a : Int) (ha : I64 a) (l : List Int) (he : hearsM b.sounds l (indicesM b [a] b.alphabets.length) ≠ 0) (w : World) (hb : BookAt w bv b) (hl : IntsAt w hv l) :
    Calls Try.prog 12 #[bv, .int .i64 a, hv] w fun e w' => e = .returned (.tuple #[.string ⟨#[]⟩, .int .i64 (hearsM b.sounds l (indicesM b [a] b.alphabets.length))]) ∧ Ext w w' := by
  have hS : indicesM b [a] b.alphabets.length = 0 → 1 ≤ b.sounds ∧ b.sounds ≤ 4 := fun h => (valid_of (indices_zero h)).s
  obtain ⟨ba, bc, bs, bd, rfl, -, hbl, hbm, -⟩ := hb.open
  obtain ⟨ha', hc, rfl, -⟩ := hl.shape
  have hind := fun v w hb hl => indices_any (.agg #[.int .i64 b.sounds, .slice ba b.alphabets.length bc, .slice bs b.spellings.length bd]) v b [a] b.alphabets.length w hb hl (by omega)
  have hhs := fun w hb hl => hears_any (.agg #[.int .i64 b.sounds, .slice ba b.alphabets.length bc, .slice bs b.spellings.length bd]) (.slice ha' l.length hc) b l (indicesM b [a] b.alphabets.length) w hb hl hS
  have he' : (hearsM b.sounds l (indicesM b [a] b.alphabets.length) != 0) = true := by simpa using he
  clear he hS
  generalize hearsM b.sounds l (indicesM b [a] b.alphabets.length) = er at *
  generalize indicesM b [a] b.alphabets.length = op at *
  go_enter Try.func12, Try.ntmps12
  (go_wp2_with fail; have hB : Boxed ((w).alloc (.cells #[.int .i64 b.sounds, .slice ba b.alphabets.length bc, .slice bs b.spellings.length bd] 25)) w.heap.size b ba bc bs bd := ⟨by simp [go_sem], by simp [go_sem], by simp [go_sem], hb.ext (by first | (with_reducible exact Ext.refl _) | (with_reducible assumption) | (show Below _ _ _; go_grown; done))⟩; have hx : Ext w ((w).alloc (.cells #[.int .i64 b.sounds, .slice ba b.alphabets.length bc, .slice bs b.spellings.length bd] 25)) := ext_alloc _ _; generalize ((w).alloc (.cells #[.int .i64 b.sounds, .slice ba b.alphabets.length bc, .slice bs b.spellings.length bd] 25)) = W at *; have c0 := hB.c0; have c1 := hB.c1; have c2 := hB.c2; have z1 := hB.lt)
  replace hl := hl.ext hx
  apply Facts.wp_region [.val _, .val _, .val _, .val _, .fact (ListV [a]), .val _, .val _, .val _, .val (.int .i64 op), .val (.int .i64 er), .val _] (by kernel_rfl) (by kernel_rfl) ?keep ?main
  case keep => exact ⟨fun u a c hx h => IntsAt.ext h hx, trivial⟩
  case main =>
    iterate 4 (refine ⟨fun w1 hx hh => ?_, ?_⟩; focus (clear hh; have e0 := hx.cell c0; have e1 := hx.cell c1; have e2 := hx.cell c2; go_simp; first | exact ⟨Ext.refl _, rfl⟩ | exact Ext.refl _))
    refine ⟨fun w2 hx hh => ?_, ?_⟩
    · clear hh
      go_simp
      exact ⟨ext_alloc _ _, IntsAt.one ha⟩
    intro u4
    iterate 3 (refine ⟨fun w1 hx hh => ?_, ?_⟩; focus (clear hh; have e0 := hx.cell c0; have e1 := hx.cell c1; have e2 := hx.cell c2; go_simp; first | exact ⟨Ext.refl _, rfl⟩ | exact Ext.refl _))
    refine ⟨fun w2 hx hh => ?_, ?_⟩
    · have h4 : ListV [a] u4 w2 := hh 4 _ List.mem_cons_self (by kernel_rfl)
      clear hh
      go_simp
      refine (hind u4 w2 (hB.at_.ext hx) h4).mono ?_
      rintro e w' ⟨rfl, h1⟩
      exact ⟨_, rfl, h1, rfl⟩
    refine ⟨fun w2 hx hh => ?_, ?_⟩
    · clear hh
      go_simp
      refine (hhs w2 (hB.at_.ext hx) (hl.ext hx)).mono ?_
      rintro e w' ⟨rfl, h1⟩
      exact ⟨_, rfl, h1, rfl⟩
    iterate 1 (refine ⟨fun w1 hx hh => ?_, ?_⟩; focus (clear hh; skip; go_simp; first | exact ⟨Ext.refl _, rfl⟩ | exact Ext.refl _))
    intro w3 hx3 hh
    clear hh
    go_simp
    have x1 := hx.trans hx3
    go_wp2
    go_ret2
    exact ⟨rfl, x1⟩

theorem spl_answer {ls : List Letter} {heard : List Int} (hx : ∀ x ∈ ls, 0 ≤ x.sounds) (hd : ∀ s ∈ heard, 0 ≤ s) (h5 : heard.length ≤ 5) {m : Nat} (h1 : 1 ≤ m) {r : Spl} (hit : (splTo ls heard m).find? (hitP heard.length) = some r) (hno : ∀ m', 1 ≤ m' → m' < m → (splTo ls heard m').find? (hitP heard.length) = none) :
    shortS ls (wantedM heard) = r.1 ∧ shortE ls (wantedM heard) = 0 := by
  rcases spl_all hx hd h5 with ⟨n, r', g1, g2, g3, g4, g5, g6⟩ | ⟨g, -⟩
  · have e : n = m := by
      rcases Nat.lt_trichotomy n m with h | h | h
      · rw [hno n g1 h] at g3; cases g3
      · exact h
      · rw [g4 m h1 h] at hit; cases hit
    subst e
    rw [hit] at g3
    obtain rfl := Option.some.inj g3
    exact ⟨g5, g6⟩
  · rw [g m h1] at hit; cases hit
theorem spl_noanswer {ls : List Letter} {heard : List Int} (hx : ∀ x ∈ ls, 0 ≤ x.sounds) (hd : ∀ s ∈ heard, 0 ≤ s) (h5 : heard.length ≤ 5) (hno : ∀ m, 1 ≤ m → m < 6 → (splTo ls heard m).find? (hitP heard.length) = none) :
    shortS ls (wantedM heard) = [] ∧ shortE ls (wantedM heard) = 9 := by
  rcases spl_all hx hd h5 with ⟨n, r', g1, g2, g3, -⟩ | ⟨-, g⟩
  · rw [hno n g1 (by omega)] at g3; cases g3
  · exact g

set_option maxRecDepth 100000 in
set_option maxHeartbeats 4000000 in
theorem refSpell_ok (bv hv : Value) (b : Book) (he : errM b = 0) (a : Nat) (ha : a < b.alphabets.length) (l : List Int) (hh : heardErrM b.sounds l = 0) (w : World) (hb : BookAt w bv b) (hl : IntsAt w hv l) :
    Calls Try.prog 12 #[bv, .int .i64 a, hv] w fun e w' => e = .returned (.tuple #[.string (strOf (shortS (b.alphabets[a]).letters (wantedM l))), .int .i64 (shortE (b.alphabets[a]).letters (wantedM l))]) ∧ Ext w w' := by
  have hval := valid_of he
  have hS := hval.s
  obtain ⟨h5, hdig, -⟩ := heard_digits hval hh
  have hal := hval.al a ha
  have hls6 := hal.1.l
  have hlet : ∀ x ∈ (b.alphabets[a]).letters, 97 ≤ x.c ∧ x.c ≤ 122 ∧ 0 ≤ x.sounds ∧ x.sounds ≤ 15 := fun x hx => by
    obtain ⟨j, hj, rfl⟩ := List.getElem_of_mem hx
    have g := (hal.1.fine j hj).1
    have g1 := g.c
    have g2 := g.s
    have g3 := mask_le hS
    omega
  have ha3 := hval.a
  have hind0 : indicesM b [(a : Int)] b.alphabets.length = 0 := by
    rw [indicesM, if_neg (by simpa using he), if_neg]
    rw [Bool.not_eq_false, withinM_one, inM_iff]
    omega
  have hz : hearsM b.sounds l 0 = 0 := by rw [hearsM, if_neg (by simp)]; exact hh
  obtain ⟨ba, bc, bs, bd, rfl, -, hbl, hbm, -, -, -, halp, -⟩ := hb.open
  have hind := fun v w hb hl => indices_any (.agg #[.int .i64 b.sounds, .slice ba b.alphabets.length bc, .slice bs b.spellings.length bd]) v b [(a : Int)] b.alphabets.length w hb hl (by omega)
  have hls := halp
  obtain ⟨_, _, hea, -, -, hq⟩ := hls
  obtain ⟨ab, ao, rfl, -, -, lv, a1, hlv⟩ := hq a ha
  have hea1 := (Value.slice.inj hea).1
  subst hea1
  obtain ⟨hpa, hpc, rfl, -⟩ := hl.shape
  have hhs := fun w hb hl => hears_any (.agg #[.int .i64 b.sounds, .slice (some ⟨ab, ao, none⟩) b.alphabets.length bc, .slice bs b.spellings.length bd]) (.slice hpa l.length hpc) b l 0 w hb hl (fun _ => hS)
  rw [hz] at hhs
  rw [hind0] at hind
  generalize (b.alphabets[a]).letters = ls at *
  obtain ⟨la, lc, rfl, -⟩ := hlv.shape
  have hfin := spl_fine ls l
  have hfew := spl_few ls l
  have hans : ∀ m, 1 ≤ m → ∀ r, (splTo ls l m).find? (hitP l.length) = some r → (∀ m', 1 ≤ m' → m' < m → (splTo ls l m').find? (hitP l.length) = none) → shortS ls (wantedM l) = r.1 ∧ shortE ls (wantedM l) = 0 :=
    fun m h1 r hit hno => spl_answer (fun x hx => (hlet x hx).2.2.1) (fun s hs => (hdig s hs).1) h5 h1 hit hno
  have hnoa : (∀ m, 1 ≤ m → m < 6 → (splTo ls l m).find? (hitP l.length) = none) → shortS ls (wantedM l) = [] ∧ shortE ls (wantedM l) = 9 := spl_noanswer (fun x hx => (hlet x hx).2.2.1) (fun s hs => (hdig s hs).1) h5
  have Hfin := Lib.hid hfin
  have Hfew := Lib.hid hfew
  have Hans := Lib.hid hans
  have Hnoa := Lib.hid hnoa
  have Hlet := Lib.hid hlet
  have Hdig := Lib.hid hdig
  clear hfin hfew hans hnoa hlet hdig hal hval hS hea hq hz hind0 halp
  obtain ⟨i0, hi, hz0, hz1, hz2⟩ := info_parts infoReach
  obtain ⟨ba, hba⟩ : ∃ ba : Option Addr, ba = some ⟨ab, ao, none⟩ := ⟨_, rfl⟩
  go_enter Try.func12, Try.ntmps12
  go_wp2_with fail
  have hB : Boxed (w.alloc (.cells #[.int .i64 b.sounds, .slice (some ⟨ab, ao, none⟩) b.alphabets.length bc, .slice bs b.spellings.length bd] 25)) w.heap.size b (some ⟨ab, ao, none⟩) bc bs bd := ⟨by simp [go_sem], by simp [go_sem], by simp [go_sem], hb.ext (by first | (with_reducible exact Ext.refl _) | (with_reducible assumption) | (show Below _ _ _; go_grown; done))⟩
  have hx : Ext w (w.alloc (.cells #[.int .i64 b.sounds, .slice (some ⟨ab, ao, none⟩) b.alphabets.length bc, .slice bs b.spellings.length bd] 25)) := ext_alloc _ _
  generalize (w.alloc (.cells #[.int .i64 b.sounds, .slice (some ⟨ab, ao, none⟩) b.alphabets.length bc, .slice bs b.spellings.length bd] 25)) = W at *
  have c0 := hB.c0
  have c1 := hB.c1
  have c2 := hB.c2
  have z1 := hB.lt
  replace hl := hl.ext hx
  apply Facts.wp_region [.val _, .val _, .val _, .val _, .fact (ListV [(a : Int)]), .val _, .val _, .val _, .val (.int .i64 0), .val (.int .i64 0), .val _] (by kernel_rfl) (by kernel_rfl) ?keep ?main
  case keep => exact ⟨fun u a c hx h => IntsAt.ext h hx, trivial⟩
  case main =>
    iterate 4 (refine ⟨fun w1 hx hh => ?_, ?_⟩; focus (clear hh; have e0 := hx.cell c0; have e1 := hx.cell c1; have e2 := hx.cell c2; go_simp; first | exact ⟨Ext.refl _, rfl⟩ | exact Ext.refl _))
    refine ⟨fun w2 hx hh => ?_, ?_⟩
    · clear hh
      go_simp
      exact ⟨ext_alloc _ _, IntsAt.one (by omega)⟩
    intro u4
    iterate 3 (refine ⟨fun w1 hx hh => ?_, ?_⟩; focus (clear hh; have e0 := hx.cell c0; have e1 := hx.cell c1; have e2 := hx.cell c2; go_simp; first | exact ⟨Ext.refl _, rfl⟩ | exact Ext.refl _))
    refine ⟨fun w2 hx hh => ?_, ?_⟩
    · have h4 : ListV [(a : Int)] u4 w2 := hh 4 _ List.mem_cons_self (by kernel_rfl)
      clear hh
      go_simp
      refine (hind u4 w2 (hB.at_.ext hx) h4).mono ?_
      rintro e w' ⟨rfl, h1⟩
      exact ⟨_, rfl, h1, rfl⟩
    refine ⟨fun w2 hx hh => ?_, ?_⟩
    · clear hh
      go_simp
      refine (hhs w2 (hB.at_.ext hx) (hl.ext hx)).mono ?_
      rintro e w' ⟨rfl, h1⟩
      exact ⟨_, rfl, h1, rfl⟩
    iterate 1 (refine ⟨fun w1 hx hh => ?_, ?_⟩; focus (clear hh; skip; go_simp; first | exact ⟨Ext.refl _, rfl⟩ | exact Ext.refl _))
    intro w3 hx3 hh
    clear hh hind hhs
    have x1 := hx.trans hx3
    replace hB := hB.ext hx3
    replace c0 := hB.c0
    replace c1 := hB.c1
    replace c2 := hB.c2
    replace z1 := hB.lt
    replace hl := hl.ext hx3
    replace a1 := x1.cell a1
    replace hlv := hlv.ext x1
    have z2 := cell_lt a1
    have k1 : (a : Int) < (b.alphabets.length : Int) := by omega
    clear hx hx3
    go_simp
    go_wp2
    have hT : SplsAt ((w3.alloc (.cells #[.int .i64 0] 3)).alloc (.cells #[.string { data := #[] }, .slice (some ⟨w3.heap.size, 0, none⟩) 1 1] 95)) (.slice (some ⟨w3.heap.size + 1, 0, none⟩) 1 1) (splTo ls l 0) :=
      ⟨_, _, rfl, Nat.le_refl _, by omega, fun i hi => by
        have hi' : i < 1 := hi
        obtain rfl : i = 0 := by omega
        exact ⟨_, _, rfl, by simp [go_sem, splTo, strOf], .slice (some ⟨w3.heap.size, 0, none⟩) 1 1, by simp [go_sem], (IntsAt.one (by omega)).ext (ext_alloc _ _)⟩⟩
    have x4 : Ext w3 ((w3.alloc (.cells #[.int .i64 0] 3)).alloc (.cells #[.string { data := #[] }, .slice (some ⟨w3.heap.size, 0, none⟩) 1 1] 95)) := (ext_alloc _ _).alloc _
    generalize ((w3.alloc (.cells #[.int .i64 0] 3)).alloc (.cells #[.string { data := #[] }, .slice (some ⟨w3.heap.size, 0, none⟩) 1 1] 95)) = W4 at *
    generalize (some (⟨w3.heap.size + 1, 0, none⟩ : Addr)) = ta at *
    replace x1 := x1.trans x4
    replace hl := hl.ext x4
    replace hlv := hlv.ext x4
    clear x4 c0 c1 c2 z1 z2 a1 hB hba hb
    have hT' : ∃ T : Value, T = .slice ta 1 1 ∧ SplsAt W4 T (splTo ls l 0) := ⟨_, rfl, hT⟩
    clear hT
    go_loopw [10, 11] (fun v i wr => ∃ m : Nat, m ≤ 5 ∧ i = .int .i64 ((m : Int) + 1) ∧ Ext W4 wr ∧ SplsAt wr v (splTo ls l m) ∧ ∀ m', 1 ≤ m' → m' < m + 1 → (splTo ls l m').find? (hitP l.length) = none) (fun _ i _ => 6 - (intOf i).toNat)
    case atStart =>
      obtain ⟨T, rfl, hT⟩ := hT'
      exact ⟨0, Nat.zero_le _, rfl, Ext.refl _, hT, fun m' h1 h2 => by omega⟩
    case round =>
      clear hT'
      obtain ⟨m, hm, rfl, hxm, hLL, hno⟩ := hrel
      obtain ⟨R, hR⟩ : ∃ R : World, R = wr := ⟨_, rfl⟩
      subst hR
      have Hno := Lib.hid hno
      clear hno
      by_cases hlt : m < 5
      · have k2 : (m : Int) + 1 ≤ 5 := by omega
        have hfm := Hfin.out m
        have hfl : (splTo ls l m).length ≤ 1296 := by
          have h1 := Hfew.out m
          have h2 : ls.length ^ m ≤ 6 ^ m := Nat.pow_le_pow_left hls6.2 m
          have h3 : 6 ^ m ≤ 6 ^ 4 := Nat.pow_le_pow_right (by decide) (by omega)
          omega
        have hnext : splTo ls l (m + 1) = (splTo ls l m).flatMap (splStep ls l) := rfl
        obtain ⟨LL, hLLe⟩ : ∃ LL, LL = splTo ls l m := ⟨_, rfl⟩
        rw [← hLLe] at hLL hfm hfl hnext
        have Hnext := Lib.hid hnext
        have Hfm := Lib.hid hfm
        clear hnext hfm hLLe
        obtain ⟨oa, oc, rfl, -⟩ := hLL.shape
        have hlR := hl.ext hxm
        have hlvR := hlv.ext hxm
        go_wp2
        go_loopw [12, 13] (fun v i wr => ∃ q : Nat, q ≤ LL.length ∧ i = .int .i64 q ∧ Ext R wr ∧ SplsOwn wr R.heap.size v ((LL.take q).flatMap (splStep ls l))) (fun _ i _ => LL.length - (intOf i).toNat)
        case atStart => exact ⟨0, Nat.zero_le _, rfl, Ext.refl _, SplsOwn.nil _ _⟩
        case round =>
          obtain ⟨q, hq, rfl, hxr, hown⟩ := hrel
          by_cases hql : q < LL.length
          · have k3 : (q : Int) < (LL.length : Int) := by omega
            have hstn := step_next ls l LL q hql
            have hpl := step_few ls l (LL.take q)
            have hpl2 : (LL.take q).length ≤ 1296 := by rw [List.length_take]; omega
            have hrf := Hfm.out LL[q] (List.getElem_mem hql)
            have hLL0 := hLL
            obtain ⟨_, _, hea, -, -, hh⟩ := hLL0
            obtain ⟨ob, oo, rfl, ct, s, cs, hs⟩ := hh q hql
            have hea1 := (Value.slice.inj hea).1
            subst hea1
            clear hea hh
            generalize LL[q] = r at *
            generalize (LL.take q).flatMap (splStep ls l) = pre at *
            have hpl3 : pre.length ≤ 7776 := by
              have : (LL.take q).length * ls.length ≤ 1296 * 6 := Nat.mul_le_mul hpl2 hls6.2
              omega
            have Hstn := Lib.hid hstn
            have Hrf := Lib.hid hrf
            clear hstn hpl hpl2 hrf
            go_wp2
            go_loopw [12, 14] (fun v i wr => ∃ k : Nat, k ≤ ls.length ∧ i = .int .i64 k ∧ Ext R wr ∧ SplsOwn wr R.heap.size v (pre ++ (ls.take k).filterMap (splOne l r))) (fun _ i _ => ls.length - (intOf i).toNat)
            case atStart => exact ⟨0, Nat.zero_le _, rfl, hxr, by simpa using hown⟩
            case round =>
              clear hown hxr
              obtain ⟨k, hk, rfl, hxr, hown⟩ := hrel
              by_cases hkl : k < ls.length
              · have k4 : (k : Int) < (ls.length : Int) := by omega
                have hxn := one_next_no l r ls k hkl
                have hxy := one_next_yes l r ls k hkl
                have hlt2 := Hlet.out ls[k] (List.getElem_mem hkl)
                have hfl2 : ((ls.take k).filterMap (splOne l r)).length ≤ 6 := Nat.le_trans (List.length_filterMap_le _ _) (by rw [List.length_take]; omega)
                have hlv2 := hlvR.ext hxr
                obtain ⟨_, _, hea, -, -, hh⟩ := hlv2
                obtain ⟨lb, lo, rfl, l0, l1, l2, lU, lI⟩ := hh k hkl
                have hea1 := (Value.slice.inj hea).1
                subst hea1
                clear hea hh
                generalize ls[k] = x at *
                have hxn := hxn x rfl
                have hxy := hxy x rfl
                have hlr := hlR.ext hxr
                have ct1 := hxr.cell ct
                have cs1 := hxr.cell cs
                have hs1 := hs.ext hxr
                have hszr := hxr.size
                have hrf := Hrf.out
                have hf2 : r.2.length ≤ 100 := by
                  have h1 := hrf.few
                  have h2 : 2 ^ m ≤ 2 ^ 4 := Nat.pow_le_pow_right (by decide) (by omega)
                  omega
                have hlow : ∀ n ∈ r.2, 0 ≤ n ∧ n ≤ l.length := fun n hn => by have := hrf.low n hn; omega
                have hdig : ∀ n ∈ l, 0 ≤ n ∧ n ≤ 100 := fun n hn => by have := Hdig.out n hn; omega
                have hfur := fun u w hu hv hl => further_any u s (.slice hpa l.length hpc) x r.2 l w hu hv hl hf2 (by omega) hlow hdig
                have hflen := furs_len x r.2 l
                have hfl3 : (furs x r.2 l).length ≤ 200 := by omega
                have hfe : furTo x r.2 l r.2.length = furs x r.2 l := rfl
                rw [hfe] at hfur
                have wc : IntKind.i32.wrap x.c = x.c := by
                  unfold IntKind.wrap
                  simp only [IntKind.bits, IntKind.signed]
                  simp
                  omega
                have henc : Utf8.encode x.c = strOf [x.c] := encode_ascii x.c (by omega) (by omega)
                have hcs : ¬ 9223372036854775807 < (strOf r.1).size + (strOf [x.c]).size := by
                  rw [strOf_len, strOf_len, hrf.len]
                  simp
                  omega
                have htx : strOf r.1 ++ strOf [x.c] = strOf (r.1 ++ [x.c]) := strOf_append _ _
                generalize furs x r.2 l = d at *
                have Hxn := Lib.hid hxn
                have Hxy := Lib.hid hxy
                have Htx := Lib.hid htx
                have HlU := Lib.hid lU
                have HlI := Lib.hid lI
                clear hxn hxy hlow hdig hflen hfe htx hrf hlt2 lU lI
                obtain ⟨cur, hcur⟩ : ∃ cur, cur = pre ++ (ls.take k).filterMap (splOne l r) := ⟨_, rfl⟩
                have hclen : cur.length ≤ 7782 := by rw [hcur, List.length_append]; omega
                rw [← hcur] at hown
                have Hcur := Lib.hid hcur
                clear hcur hfl2
                go_wp2_with fail
                apply Facts.wp_region [.val _, .val _, .val _, .val _, .val _, .val _, .val _, .val _, .val _, .val _, .fact (FurV wr.heap.size d), .fact (FurV wr.heap.size d)] (by kernel_rfl) (by kernel_rfl) ?keep ?main
                case keep => exact ⟨fun u a c hx h => h.ext hx, fun u a c hx h => h.ext hx, trivial⟩
                case main =>
                  iterate 10 (refine ⟨fun w1 hx hh => ?_, ?_⟩; focus (clear hh; have e0 := hx.cell l0; have e1 := hx.cell l1; have e2 := hx.cell l2; have e3 := hx.cell cs1; go_simp; first | exact ⟨Ext.refl _, rfl⟩ | exact Ext.refl _))
                  refine ⟨fun w2 hx hh => ?_, ?_⟩
                  · clear hh
                    go_simp
                    refine (hfur _ w2 ⟨rfl, HlU.out, HlI.out⟩ (hs1.ext hx) (hlr.ext hx)).mono ?_
                    rintro e w' ⟨v, rfl, h1, h2, h3⟩
                    have hsz := hx.size
                    exact ⟨_, rfl, h2, h1, fun k hk => ⟨Nat.le_trans hsz (h3 k hk).1, (h3 k hk).2⟩⟩
                  intro u10
                  refine ⟨fun w2 hx hh => ?_, ?_⟩
                  · have h10 : FurV wr.heap.size d u10 w2 := hh 10 _ List.mem_cons_self (by kernel_rfl)
                    clear hh
                    go_simp
                    first | exact ⟨Ext.refl _, h10⟩ | exact Ext.refl _
                  intro u11 w3' hx3 hh
                  have h11 : FurV wr.heap.size d u11 w3' := hh 11 _ List.mem_cons_self
                  clear hh hfur
                  have x5 := hxr.trans hx3
                  have l0' := hx3.cell l0
                  have l1' := hx3.cell l1
                  have l2' := hx3.cell l2
                  have ct2 := hx3.cell ct1
                  have cs2 := hx3.cell cs1
                  obtain ⟨hd, hdb⟩ := h11
                  obtain ⟨da, dc, rfl, hdc1, hdc2⟩ := hd.shape
                  clear l0 l1 l2 ct1 cs1 hs1 hlr
                  by_cases hd0 : d.length = 0
                  · have hn0 : ¬ (0 : Int) < (d.length : Int) := by omega
                    have hdn : d = [] := List.eq_nil_of_length_eq_zero hd0
                    have hnew := Hxn.out hdn
                    have Hnew : Hid (cur = pre ++ (ls.take (k + 1)).filterMap (splOne l r)) := Lib.hid (by rw [Hcur.out, hnew])
                    have own2 := hown.ext hx3
                    clear hdn hd0 hnew hown hx3 hdb hd l0' l1' l2' ct2 cs2
                    go_simp
                    go_wp2
                    go_roundw
                    case rel => exact ⟨k + 1, by omega, by go_num, x5, by rw [← Hnew.out]; exact own2⟩
                    case measure => simp [intOf]; omega
                  · have hn0 : (0 : Int) < (d.length : Int) := by omega
                    have hdn : d ≠ [] := fun e => hd0 (by rw [e]; rfl)
                    have hnew := Hxy.out hdn
                    have Hnew : Hid (cur ++ [(r.1 ++ [x.c], d)] = pre ++ (ls.take (k + 1)).filterMap (splOne l r)) := Lib.hid (by rw [Hcur.out, hnew, List.append_assoc])
                    obtain ⟨es, hes, hrow, hels⟩ := hown
                    have hrlt := hrow.lt
                    have hrow3 := Ext.owns hrow hx3
                    have Hels := Lib.hid hels
                    have Hdb := Lib.hid hdb
                    clear hdn hd0 hnew hels hdb
                    go_simp
                    go_wp2_with fail
                    have hszS := hx3.size
                    have hszr3 := x5.size
                    apply Facts.Dep.wp_region (Facts.App.two_but u12.ownBlock) 17 [.val _, .val _, .val _, .val _, .val _, .val _, .val _, .val _, .val _, .val _, .val _, .val _, .val _, .val (.string (strOf (r.1 ++ [x.c]))), .val _, .val _, .fact (NewR u12.ownBlock (.string (strOf (r.1 ++ [x.c]))) (.slice da d.length dc)),
                      .fact (Appd R.heap.size w3'.heap.size u12.ownBlock (cur.length + 1) (cellsE es ++ [.string (strOf (r.1 ++ [x.c])), .slice da d.length dc])), .fact (Appd R.heap.size w3'.heap.size u12.ownBlock (cur.length + 1) (cellsE es ++ [.string (strOf (r.1 ++ [x.c])), .slice da d.length dc]))] (by kernel_rfl) (by kernel_rfl) (.inl (by kernel_rfl)) (by kernel_rfl) ?keep ?main
                    case keep => exact ⟨fun u a c hx h => h.ext hx, fun _ u a c hx h => h.but hx, fun u a c hx h => h.ext hx, fun h => absurd h (Bool.eq_false_iff.1 (by kernel_rfl)), fun u a c hx h => h.ext hx, fun h => absurd h (Bool.eq_false_iff.1 (by kernel_rfl)), trivial⟩
                    case main =>
                      iterate 11 (refine ⟨fun w1 hE hC hh => ?_, ?_⟩; focus (have hx := hE (by kernel_rfl); clear hh hE hC; have e0 := hx.cell l0'; have e1 := hx.cell l1'; have e2 := hx.cell l2'; have e3 := hx.cell ct2; have e4 := hx.cell cs2; go_simp; first | exact ⟨Ext.refl _, rfl⟩ | exact Ext.refl _))
                      iterate 2 (refine ⟨fun w1 hE hC hh => ?_, ?_⟩; focus (have hx := hE (by kernel_rfl); clear hh hE hC; skip; go_simp; first | exact ⟨Ext.refl _, rfl⟩ | exact Ext.refl _))
                      refine ⟨fun w1 hE hC hh => ?_, ?_⟩
                      · have hx := hE (by kernel_rfl)
                        clear hh hE hC
                        go_simp
                        exact ⟨Ext.refl _, Htx.out⟩
                      iterate 2 (refine ⟨fun w1 hE hC hh => ?_, ?_⟩; focus (have hx := hE (by kernel_rfl); clear hh hE hC; skip; go_simp; first | exact ⟨Ext.refl _, rfl⟩ | exact Ext.refl _))
                      refine ⟨fun w1 hE hC hh => ?_, ?_⟩
                      · have hx := hE (by kernel_rfl)
                        clear hh hE hC
                        have hlt' := fun k hk => (hrow3.lt k hk).2
                        have hsz1 := hx.size
                        go_simp
                        exact ⟨ext_alloc _ _, w1.heap.size, rfl, by simp [go_sem], by simp [go_sem], fun e => by have := hlt' _ e.symm; omega⟩
                      intro u16
                      refine ⟨fun w1 hE hC hh => ?_, ?_⟩
                      · have hx := hE (by kernel_rfl)
                        have h16 : NewR u12.ownBlock (.string (strOf (r.1 ++ [x.c]))) (.slice da d.length dc) u16 w1 := hh 16 _ List.mem_cons_self (by kernel_rfl)
                        clear hh hE hC
                        have s16 := h16.spec
                        generalize h16.B = B at *
                        have e16 := s16.1
                        have c16 := s16.2.1
                        have c17 := s16.2.2.1
                        clear s16 h16
                        subst e16
                        have hsz1 := hx.size
                        refine Facts.App.stepG_append rfl (.tmp 69) (.tmp 85) 96 rfl R.heap.size 95 i0 (.agg #[.string ByteArray.empty, .slice none 0 0]) 2 40 Try.underlying96 hi hz0 hz1 hz2 rfl (by decide) u12 cur.length (cellsE es) (by go_simp) (Ext.owns hrow3 hx) ⟨B, 0, none⟩ 1 1 [.string (strOf (r.1 ++ [x.c])), .slice da d.length dc] (by go_simp) rfl (reach_cells c16 c17) (by simp [Value.oneCell']) (by unfold maxLen; omega) (by omega) (by omega) ?_
                        intro v' w' ho hg hbk
                        exact ⟨hg, ho, hbk.elim .inl fun e => .inr ⟨_, e, hsz1⟩⟩
                      intro u17
                      refine ⟨fun w1 hE hC hh => ?_, ?_⟩
                      · have h17 : Appd R.heap.size w3'.heap.size u12.ownBlock (cur.length + 1) (cellsE es ++ [.string (strOf (r.1 ++ [x.c])), .slice da d.length dc]) u17 w1 := hh 17 _ List.mem_cons_self (by kernel_rfl)
                        clear hh hE hC
                        go_simp
                        first | exact ⟨Ext.refl _, h17⟩ | exact Ext.refl _
                      intro u18 w5 hC hh
                      have h18 : Appd R.heap.size w3'.heap.size u12.ownBlock (cur.length + 1) (cellsE es ++ [.string (strOf (r.1 ++ [x.c])), .slice da d.length dc]) u18 w5 := hh 18 _ List.mem_cons_self
                      clear hh
                      have x6 : Ext R w5 := Ext.grown x5 hC fun k hk => (hrow.lt k hk).1
                      have hnewo := SplsOwn.push (base := R.heap.size) (r := (r.1 ++ [x.c], d)) hes hrow Hels.out hx3 rfl ⟨da, dc, rfl, hd, fun ad e => Hdb.out ad.block (by rw [e]; rfl)⟩ h18.1 hC h18.2
                      clear h18 hC hes hrow hrow3 hrlt l0' l1' l2' ct2 cs2 hd hx3
                      go_simp
                      go_wp2
                      go_roundw
                      case rel => exact ⟨k + 1, by omega, by go_num, x6, by rw [← Hnew.out]; exact hnewo⟩
                      case measure => simp [intOf]; omega
              · obtain rfl : k = ls.length := by omega
                rw [List.take_length] at hown
                have Hfin2 : Hid ((LL.take (q + 1)).flatMap (splStep ls l) = pre ++ ls.filterMap (splOne l r)) := Lib.hid (by rw [Hstn.out]; rfl)
                clear hkl
                go_wp2
                go_roundw
                case rel => exact ⟨q + 1, by omega, by go_num, hxr, by rw [Hfin2.out]; exact hown⟩
                case measure => simp [intOf]; omega
          · obtain rfl : q = LL.length := by omega
            rw [List.take_length, ← Hnext.out] at hown
            have hN := hown.at_
            have hfN := Hfin.out (m + 1)
            have x6 := hxm.trans hxr
            obtain ⟨NN, hNN⟩ : ∃ NN, NN = splTo ls l (m + 1) := ⟨_, rfl⟩
            rw [← hNN] at hN
            have hNl : NN.length ≤ 7776 := by
              have h1 := Hfew.out (m + 1)
              have h2 : ls.length ^ (m + 1) ≤ 6 ^ (m + 1) := Nat.pow_le_pow_left hls6.2 _
              have h3 : 6 ^ (m + 1) ≤ 6 ^ 5 := Nat.pow_le_pow_right (by decide) (by omega)
              rw [hNN]; omega
            obtain ⟨na, nc, rfl, -⟩ := hN.shape
            have HNN := Lib.hid hNN
            have hlN := hl.ext x6
            clear hown hNN hfN hql hLL
            go_wp2
            go_loopw [16] (fun i wr => ∃ j : Nat, j ≤ NN.length ∧ i = .int .i64 j ∧ Ext W4 wr ∧ SplsAt wr (.slice na NN.length nc) NN ∧ ∀ j' (_ : j' < j) (h : j' < NN.length), hitP l.length NN[j'] = false) (fun i _ => NN.length - (intOf i).toNat)
            case atStart => exact ⟨0, Nat.zero_le _, rfl, x6, hN, fun j' h => absurd h (Nat.not_lt_zero _)⟩
            case round =>
              obtain ⟨j, hj, rfl, hxj, hN, hnj⟩ := hrel
              have Hnj := Lib.hid hnj
              clear hnj
              by_cases hjl : j < NN.length
              · have k5 : (j : Int) < (NN.length : Int) := by omega
                have hN0 := hN
                obtain ⟨_, _, hea, -, -, hh⟩ := hN0
                obtain ⟨nb, no, rfl, d0, s, d1, hs⟩ := hh j hjl
                have hea1 := (Value.slice.inj hea).1
                subst hea1
                clear hea hh
                obtain ⟨r, hr⟩ : ∃ r, r = NN[j] := ⟨_, rfl⟩
                rw [← hr] at d0 hs
                have Hr := Lib.hid hr
                clear hr
                have zn := cell_lt d0
                go_wp2_with fail
                refine (has_any s l.length r.2 wr hs).mono ?_
                rintro e w6 ⟨rfl, hx6⟩
                have x7 := hxj.trans hx6
                have hN6 := hN.ext hx6
                have d06 := hx6.cell d0
                cases hhit : decide (((l.length : Nat) : Int) ∈ r.2)
                · have Hhit := Lib.hid hhit
                  clear hhit hx6 hN d0 d1 hs
                  go_wp2
                  go_roundw
                  case rel => exact ⟨j + 1, by omega, by go_num, x7, hN6, fun j' h1 h2 => by
                    rcases Nat.lt_or_ge j' j with h | h
                    · exact Hnj.out j' h h2
                    · obtain rfl : j' = j := by omega
                      rw [← Hr.out]; exact Hhit.out⟩
                  case measure => simp [intOf]; omega
                · have hfd : NN.find? (hitP l.length) = some r := by
                    rw [Hr.out]
                    exact find_at _ _ j hjl (fun j' h => Hnj.out j' h (by omega)) (by rw [← Hr.out]; exact hhit)
                  rw [HNN.out] at hfd
                  obtain ⟨g1, g2⟩ := Hans.out (m + 1) (by omega) r hfd Hno.out
                  have G1 := Lib.hid g1
                  have G2 := Lib.hid g2
                  clear hhit hx6 hN d0 d1 hs hfd g1 g2
                  go_wp2
                  go_ret2
                  exact ⟨ret_strInt (by rw [G1.out]) (by rw [G2.out]), x1.trans x7⟩
              · have hnone : (splTo ls l (m + 1)).find? (hitP l.length) = none := by
                  rw [← HNN.out, List.find?_eq_none]
                  intro r hr
                  obtain ⟨j', h1, rfl⟩ := List.getElem_of_mem hr
                  have := Hnj.out j' (by omega) h1
                  simp [this]
                have Hnew : Hid (∀ m', 1 ≤ m' → m' < m + 1 + 1 → (splTo ls l m').find? (hitP l.length) = none) := Lib.hid fun m' h1 h2 => by
                  rcases Nat.lt_or_ge m' (m + 1) with h | h
                  · exact Hno.out m' h1 h
                  · obtain rfl : m' = m + 1 := by omega
                    exact hnone
                have hN2 := hN
                rw [HNN.out] at hN2
                have HN2 := Lib.hid hN2
                clear hnone hN2
                have wm2 : IntKind.i64.wrap ((m : Int) + 1 + 1) = (m : Int) + 1 + 1 := IntWalk.i64_in _ (by omega)
                go_wp2
                go_roundw
                case rel => exact ⟨m + 1, by omega, by go_num, hxj, by (have h0 := HN2.out; rw [← HNN.out] at h0 ⊢; exact hN), Hnew.out⟩
                case measure => simp [intOf]; omega
      · obtain rfl : m = 5 := by omega
        obtain ⟨g1, g2⟩ := Hnoa.out fun m' h1 h2 => Hno.out m' h1 h2
        have G1 := Lib.hid g1
        have G2 := Lib.hid g2
        have x7 := x1.trans hxm
        clear g1 g2 hlt hLL
        go_wp2
        go_ret2
        exact ⟨ret_strInt (by rw [G1.out]; rfl) (by rw [G2.out]), x7⟩
end Go.Proofs.Ytoifmphpeflliaa

namespace Go.Proofs.Ytoifmphpeflliaa
open Go.RowKit
set_option linter.unusedVariables false

set_option maxRecDepth 100000 in
set_option maxHeartbeats 2000000 in
theorem spells_walk (ba bs : Option Addr) (bc bd : Nat) (b : Book) (n : Int) (la : Option Addr) (lc : Nat) (l : List Int) (er : Int) (S : ByteArray)
    (h1 : ∀ w, BookAt w (.agg #[.int .i64 b.sounds, .slice ba b.alphabets.length bc, .slice bs b.spellings.length bd]) b → IntsAt w (.slice la l.length lc) l → Calls Try.prog 11 #[(.agg #[.int .i64 b.sounds, .slice ba b.alphabets.length bc, .slice bs b.spellings.length bd]), .int .i64 n, .slice la l.length lc] w fun e w' => e = .returned (.tuple #[.string S, .int .i64 er]) ∧ Ext w w')
    (h2 : ∀ w, BookAt w (.agg #[.int .i64 b.sounds, .slice ba b.alphabets.length bc, .slice bs b.spellings.length bd]) b → IntsAt w (.slice la l.length lc) l → Calls Try.prog 12 #[(.agg #[.int .i64 b.sounds, .slice ba b.alphabets.length bc, .slice bs b.spellings.length bd]), .int .i64 n, .slice la l.length lc] w fun e w' => e = .returned (.tuple #[.string S, .int .i64 er]) ∧ Ext w w')
    (w : World) (hb : BookAt w (.agg #[.int .i64 b.sounds, .slice ba b.alphabets.length bc, .slice bs b.spellings.length bd]) b) (hl : IntsAt w (.slice la l.length lc) l) :
    Calls Try.prog 3 #[(.agg #[.int .i64 b.sounds, .slice ba b.alphabets.length bc, .slice bs b.spellings.length bd]), .int .i64 n, .slice la l.length lc] w fun e w' => e = .returned (.bool true) ∧ Ext w w' := by
  have aw := fun w => awake_any w
  go_enter Try.func3, Try.ntmps3
  go_wp2_with fail
  have hB : Boxed ((w).alloc (.cells #[.int .i64 b.sounds, .slice ba b.alphabets.length bc, .slice bs b.spellings.length bd] 25)) w.heap.size b ba bc bs bd := ⟨by simp [go_sem], by simp [go_sem], by simp [go_sem], hb.ext (by first | (with_reducible exact Ext.refl _) | (with_reducible assumption) | (show Below _ _ _; go_grown; done))⟩
  have hx : Ext w ((w).alloc (.cells #[.int .i64 b.sounds, .slice ba b.alphabets.length bc, .slice bs b.spellings.length bd] 25)) := ext_alloc _ _
  replace hl := hl.ext hx
  generalize ((w).alloc (.cells #[.int .i64 b.sounds, .slice ba b.alphabets.length bc, .slice bs b.spellings.length bd] 25)) = W at *
  have c0 := hB.c0
  have c1 := hB.c1
  have c2 := hB.c2
  have z1 := hB.lt
  refine (h1 _ hB.at_ hl).mono ?_
  rintro e w3 ⟨rfl, h3⟩
  (replace hB := hB.ext h3; replace hl := hl.ext h3; replace c0 := hB.c0; replace c1 := hB.c1; replace c2 := hB.c2; replace z1 := hB.lt; have x3 := Ext.trans (by assumption) h3)
  clear h3 h1 hx
  go_wp2_with fail
  refine (h2 _ hB.at_ hl).mono ?_
  rintro e w4 ⟨rfl, h4⟩
  (replace hB := hB.ext h4; replace hl := hl.ext h4; replace c0 := hB.c0; replace c1 := hB.c1; replace c2 := hB.c2; replace z1 := hB.lt; have x4 := Ext.trans (by assumption) h4)
  clear h4 h2 x3 hB hl c0 c1 c2 z1
  go_wp2_with fail
  refine (aw _).mono ?_
  rintro e w8 ⟨rfl, h8⟩
  have x8 := x4.trans h8
  clear h8 x4
  go_wp2
  go_ret
  exact ⟨rfl, x8⟩

theorem spellM_err {b : Book} {a : Int} {l : List Int} {er : Int} (h : hearsM b.sounds l (indicesM b [a] b.alphabets.length) = er) (h0 : er ≠ 0) : spellM b a l = (⟨#[]⟩, er) := by
  subst h
  unfold hearsM indicesM at *
  unfold spellM
  rw [withinM_one] at *
  by_cases he : errM b ≠ 0
  · simp only [if_pos he]
  · simp only [if_neg he] at *
    cases hi : inM a 0 (b.alphabets.length - 1)
    · have hn : ¬ (0 ≤ a ∧ a ≤ b.alphabets.length - 1) := fun h => by rw [(inM_iff _ _ _).2 h] at hi; cases hi
      simp only [if_true]
      simp only [ne_eq, Int.reduceEq, not_false_eq_true, if_true]
      by_cases hneg : a < 0
      · cases b.alphabets[a.toNat]? <;> simp [hneg]
      · rw [List.getElem?_eq_none (by omega)]
    · have hin := (inM_iff _ _ _).1 hi
      rw [hi] at h0
      simp only [Bool.true_eq_false, if_false, ne_eq, not_true_eq_false] at h0 ⊢
      rw [List.getElem?_eq_getElem (show a.toNat < b.alphabets.length by omega)]
      simp only
      rw [if_neg (by omega), if_pos h0]
theorem spellM_ok {b : Book} {a : Nat} (ha : a < b.alphabets.length) {l : List Int} (he : errM b = 0) (hh : heardErrM b.sounds l = 0) : spellM b a l = (strOf (shortS (b.alphabets[a]).letters (wantedM l)), shortE (b.alphabets[a]).letters (wantedM l)) := by
  unfold spellM
  rw [if_neg (by simpa using he), Int.toNat_natCast, List.getElem?_eq_getElem ha]
  simp only
  rw [if_neg (by omega), if_neg (by simpa using hh)]
theorem spells_law (bv v : Value) (b : Book) (n : Int) (hn : I64 n) (l : List Int) (w : World) (hb : BookAt w bv b) (hl : IntsAt w v l) :
    Calls Try.prog 3 #[bv, .int .i64 n, v] w fun e w' => e = .returned (.bool true) ∧ Ext w w' := by
  obtain ⟨ba, bc, bs, bd, rfl, -⟩ := hb.open
  obtain ⟨la, lc, rfl, -⟩ := hl.shape
  have hp := fun w hb hl => spell_any (.agg #[.int .i64 b.sounds, .slice ba b.alphabets.length bc, .slice bs b.spellings.length bd]) (.slice la l.length lc) b n hn l w hb hl
  by_cases h0 : hearsM b.sounds l (indicesM b [n] b.alphabets.length) = 0
  · have hi : indicesM b [n] b.alphabets.length = 0 := by
      unfold hearsM at h0
      split at h0
      · exact h0
      · rename_i h; exact Classical.byContradiction h
    have he := indices_zero hi
    have hh : heardErrM b.sounds l = 0 := by
      unfold hearsM at h0
      rw [hi, if_neg (by simp)] at h0
      exact h0
    have hr : 0 ≤ n ∧ n < b.alphabets.length := by
      unfold indicesM at hi
      rw [if_neg (by simpa using he), withinM_one] at hi
      split at hi
      · cases hi
      · rename_i h
        have := (inM_iff _ _ _).1 (Bool.not_eq_false _ ▸ h)
        omega
    obtain ⟨m, rfl⟩ : ∃ m : Nat, n = m := ⟨n.toNat, by omega⟩
    have hm : m < b.alphabets.length := by omega
    rw [spellM_ok hm he hh] at hp
    exact spells_walk ba bs bc bd b m la lc l _ _ hp (fun w hb hl => refSpell_ok _ _ b he m hm l hh w hb hl) w hb hl
  · rw [spellM_err rfl h0] at hp
    exact spells_walk ba bs bc bd b n la lc l _ _ hp (fun w hb hl => refSpell_err _ _ b n hn l h0 w hb hl) w hb hl
end Go.Proofs.Ytoifmphpeflliaa

namespace Go.Proofs.Ytoifmphpeflliaa
open Go.RowKit
set_option linter.unusedVariables false

/-- one number, in a block of its own -/
def NewI (own : Option Nat) (a : Value) (u : Value) (w : World) : Prop := ∃ B, u = .slice (some ⟨B, 0, none⟩) 1 1 ∧ w.cell? ⟨B, 0, none⟩ = some a ∧ some B ≠ own
noncomputable def NewI.B {own : Option Nat} {a u : Value} {w : World} (h : NewI own a u w) : Nat := Exists.choose h
theorem NewI.spec {own : Option Nat} {a u : Value} {w : World} (h : NewI own a u w) : u = .slice (some ⟨h.B, 0, none⟩) 1 1 ∧ w.cell? ⟨h.B, 0, none⟩ = some a ∧ some h.B ≠ own := Exists.choose_spec h
theorem NewI.ext {own : Option Nat} {a u : Value} {w w' : World} (h : NewI own a u w) (hx : Ext w w') : NewI own a u w' := by
  obtain ⟨B, h1, h2, h3⟩ := h; exact ⟨B, h1, hx.cell h2, h3⟩
theorem NewI.but {own : Option Nat} {a u : Value} {w w' : World} (h : NewI own a u w) (hx : Facts.App.But own w w') : NewI own a u w' := by
  obtain ⟨B, h1, h2, h3⟩ := h; exact ⟨B, h1, World.grownBy.cell hx h2 h3, h3⟩
theorem NewI.grew {own : Option Nat} {a u : Value} {n0 n : Nat} {w w' : World} (h : NewI own a u w) (hn : 0 < n) (hx : Facts.App.Grew n0 n w w') : NewI own a u w' := by
  obtain ⟨B, h1, h2, h3⟩ := h; exact ⟨B, h1, hx.cell h2 hn, h3⟩
theorem one_cells {a : Value} {w : World} {B : Nat} (h2 : w.cell? ⟨B, 0, none⟩ = some a) : ∀ j v, [a][j]? = some v → w.cell? ((⟨B, 0, none⟩ : Addr).add j) = some v := by
  intro j v hj
  match j, hj with
  | 0, hj => simp at hj; subst hj; simpa [Addr.add] using h2
/-- a row of numbers -/
def RowI (base : Nat) (l : List Int) (u : Value) (w : World) : Prop := w.ownsRow base 3 1 u l.length (l.map (Value.int .i64))
theorem RowI.ext {base : Nat} {l : List Int} {u : Value} {w w' : World} (h : RowI base l u w) (hx : Ext w w') : RowI base l u w' := Ext.owns h hx
theorem RowI.grew {base : Nat} {l : List Int} {u : Value} {n0 n : Nat} {w w' : World} (h : RowI base l u w) (hn : l.length ≤ n) (hx : Facts.App.Grew n0 n w w') : RowI base l u w' := hx.owns h (by omega)
/-- a row of nothing, with no room -/
def EmptyV (base : Nat) (u : Value) (w : World) : Prop := ∃ B, u = .slice (some ⟨B, 0, none⟩) 0 0 ∧ RowI base [] u w
theorem EmptyV.ext {base : Nat} {u : Value} {w w' : World} (h : EmptyV base u w) (hx : Ext w w') : EmptyV base u w' := by
  obtain ⟨B, e, h1⟩ := h; exact ⟨B, e, h1.ext hx⟩
theorem EmptyV.grew {base : Nat} {u : Value} {n0 n : Nat} {w w' : World} (h : EmptyV base u w) (hx : Facts.App.Grew n0 n w w') : EmptyV base u w' := by
  obtain ⟨B, e, h1⟩ := h; exact ⟨B, e, h1.grew (Nat.zero_le _) hx⟩
theorem EmptyV.row {base : Nat} {u : Value} {w : World} (h : EmptyV base u w) : RowI base [] u w := by
  obtain ⟨B, e, h1⟩ := h; exact h1
theorem EmptyV.full {base : Nat} {u : Value} {w : World} (h : EmptyV base u w) (m : Nat) (hm : 0 < m) : ∀ g cap, u = .slice (some ⟨g, 0, none⟩) 0 cap → cap < 0 + m := by
  obtain ⟨B, e, -⟩ := h
  intro g cap e2
  rw [e] at e2
  have := (Value.slice.inj e2).2.2
  omega
theorem no_false {X : Bool} (h : X = false) (h2 : X = true) : False := by rw [h] at h2; cases h2
theorem ints_new {w : World} {ad : Addr} {n c : Nat} {l : List Int} (h : IntsAt w (.slice (some ad) n c) l) : ∀ j u, (l.map (Value.int .i64))[j]? = some u → w.cell? (ad.add j) = some u := by
  intro j u hu
  have hj : j < l.length := by
    rcases Nat.lt_or_ge j l.length with h1 | h1
    · exact h1
    · rw [List.getElem?_eq_none (by simpa using h1)] at hu; cases hu
  obtain ⟨a, cap, e, -, -, h4⟩ := h
  obtain ⟨b, o, e2, r⟩ := h4 j hj
  have e3 := (Value.slice.inj e).1
  rw [e2] at e3
  obtain rfl := Option.some.inj e3
  rw [List.getElem?_eq_getElem (by simpa using hj)] at hu
  obtain rfl := Option.some.inj hu
  have ea : (⟨b, o, none⟩ : Addr).add j = ⟨b, o + j * 1, none⟩ := by unfold Addr.add; split <;> simp_all
  rw [ea, List.getElem_map]
  exact r.1
theorem ints_one (l : List Int) : ∀ u ∈ l.map (Value.int .i64), u.oneCell' = true := fun u hu => by
  obtain ⟨x, -, rfl⟩ := List.mem_map.1 hu
  simp [Value.oneCell']
theorem one_at {w w' : World} {ba bs : Option Addr} {bc bd : Nat} {b : Book} (hB : BookAt w (.agg #[.int .i64 b.sounds, .slice ba b.alphabets.length bc, .slice bs b.spellings.length bd]) b) (hx : Ext w w') {B : Nat} {a : Int} {t : ByteArray} (h0 : w'.cell? ⟨B, 0, none⟩ = some (.int .i64 a)) (h1 : w'.cell? ⟨B, 1, none⟩ = some (.string t)) (ha : I64 a) (ht : t.size ≤ 9223372036854775807) :
    BookAt w' (.agg #[.int .i64 b.sounds, .slice ba b.alphabets.length bc, .slice (some ⟨B, 0, none⟩) 1 1]) (oneBook b a t) := by
  obtain ⟨av, sv, e1, g2, g3, g4⟩ := hB
  simp only [Value.agg.injEq, Array.mk.injEq, List.cons.injEq, and_true, true_and] at e1
  obtain ⟨rfl, rfl⟩ := e1
  exact ⟨_, _, rfl, g2, g3.ext hx, ⟨_, _, rfl, Nat.le_refl _, by omega, fun j hj => by
    have hj0 : j = 0 := by have : j < 1 := hj; omega
    subst hj0
    exact ⟨B, 0, rfl, h0, h1, ha, ht⟩⟩⟩
theorem reads_can {b : Book} {n : Nat} {l : List Int} : (getT l (canM b [n])).isSome = true ↔ Can (b.sounds.toNat + 1) (lettersAt b n) [] l := by
  rw [getT_keys, canM_keys]
  unfold stringsOf
  simp only [List.mem_singleton, exists_eq_left]
  exact mem_yields
/-- what is heard, and which letters there are, by turns -/
def sndM (S : Int) (hd : List Int) (i : Nat) : List Int := (hd.take i).map fun y => Int.tmod y S
theorem sndM_succ (S : Int) (hd : List Int) (i : Nat) (h : i < hd.length) : sndM S hd (i + 1) = sndM S hd i ++ [Int.tmod hd[i] S] := by
  unfold sndM; rw [List.take_succ_eq_append_getElem h, List.map_append]; rfl
theorem sndM_len (S : Int) (hd : List Int) (i : Nat) : (sndM S hd i).length ≤ i := by
  unfold sndM; rw [List.length_map]; exact List.length_take_le _ _
def plcTo (n : Nat) (x : List Int) (i : Nat) : List Nat := (x.take i).map fun y => y.toNat % n
theorem plcTo_succ (n : Nat) (x : List Int) (i : Nat) (h : i < x.length) : plcTo n x (i + 1) = plcTo n x i ++ [x[i].toNat % n] := by
  unfold plcTo; rw [List.take_succ_eq_append_getElem h, List.map_append]; rfl
theorem plcTo_len (n : Nat) (x : List Int) (i : Nat) (h : i ≤ x.length) : (plcTo n x i).length = i := by
  unfold plcTo; rw [List.length_map, List.length_take]; omega
theorem plcTo_lt {n : Nat} (h : 0 < n) (x : List Int) (i : Nat) : ∀ m ∈ plcTo n x i, m < n := fun m hm => by
  unfold plcTo at hm
  rw [List.mem_map] at hm
  obtain ⟨y, -, rfl⟩ := hm
  exact Nat.mod_lt _ h
theorem placed_snoc (ls : List Letter) (P : List Nat) (n : Nat) : placed ls (P ++ [n]) = placed ls P ++ [(ls.getD n noLetter).c] := by simp [placed, placedL]

end Go.Proofs.Ytoifmphpeflliaa

namespace Go.Proofs.Ytoifmphpeflliaa
open Go.RowKit
set_option linter.unusedVariables false

def SptB0 (b : Book) (R : World) (v : Value) (wc : World) : Prop := ∃ Sd : List Int, IntsAt wc v Sd ∧ heardErrM b.sounds Sd = 0 ∧ (∀ s ∈ Sd, 0 ≤ s ∧ s ≤ b.sounds - 1) ∧ Ext R wc
set_option maxRecDepth 100000 in
set_option maxHeartbeats 4000000 in
theorem spelt_b0 {u0 u1 u2 u4 u6 u7 u8 u9 u10 u13 u14 u15 u16 u17 u18 u19 u20 u21 u22 u23 u24 u25 u26 u27 u28 u29 u30 u31 u32 u33 u34 u35 u36 u37 u38 u39 u40 u41 u42 u43 u44 u45 u46 u47 u48 u49 u50 u51 u52 u53 u54 u55 u56 u57 u58 u59 u60 u61 u62 u63 u64 u65 u66 u67 u68 u69 u70 u71 u72 u73 u74 u75 u76 u77 u78 u79 u80 u81 u82 u83 u84 u85 u86 u87 u88 u89 u90 u91 u92 u93 u94 u95 u96 u97 u98 u99 u100 u101 u102 u103 u104 u105 u106 u107 u108 u109 u110 u111 u112 u113 u114 u115 u116 u117 u118 u119 u120 u121 u122 u123 u124 u125 u126 u127 u128 u129 u130 u131 u132 u133 u134 u135 u136 u137 u138 u139 u140 u141 u142 u143 u144 u145 u146 u147 u148 u149 u150 u151 u152 u153 u154 u155 u156 u157 u158 u159 u160 u161 u162 u163 u164 u165 u166 u167 u168 u169 u170 u171 u172 u173 u174 u175 u176 u177 u178 u179 u180 u181 u182 u183 u184 u185 u186 u187 u188 u189 u190 u191 u192 u193 u194 u195 u196 u197 u198 u199 u200 u201 u202 u203 u204 u205 u206 u207 u208 u209 u210 u211 u212 u213 : Value} {O : Nat} {b : Book} {ba bs : Option Addr} {bc bd : Nat} {ha : Option Addr} {hc : Nat} {hd : List Int} {R : World} (hB : Boxed R O b ba bc bs bd) (hh : BytesAt R (.slice ha hd.length hc) hd) (hS : 1 ≤ b.sounds ∧ b.sounds ≤ 4) (Q : Exit → Act → World → Prop)
    (hQ : ∀ (v11 v12 v62 v63 v64 v65 v66 v67 v68 v69 v70 v71 v72 v73 v74 v75 v76 v77 v78 v79 v80 v81 v82 : Value) (wc : World), SptB0 b R v11 wc → Q .normal ⟨#[u0, u1, u2, .pointer (some ⟨O, 0, none⟩), u4, .slice ha hd.length hc, u6, u7, u8, u9, u10, v11, v12, u13, u14, u15, u16, u17, u18, u19, u20, u21, u22, u23, u24, u25, u26, u27, u28, u29, u30, u31, u32, u33, u34, u35, u36, u37, u38, u39, u40, u41, u42, u43, u44, u45, u46, u47, u48, u49, u50, u51, u52, u53, u54, u55, u56, u57, u58, u59, u60, u61, v62, v63, v64, v65, v66, v67, v68, v69, v70, v71, v72, v73, v74, v75, v76, v77, v78, v79, v80, v81, v82, u83, u84, u85, u86, u87, u88, u89, u90, u91, u92, u93, u94, u95, u96, u97, u98, u99, u100, u101, u102, u103, u104, u105, u106, u107, u108, u109, u110, u111, u112, u113, u114, u115, u116, u117, u118, u119, u120, u121, u122, u123, u124, u125, u126, u127, u128, u129, u130, u131, u132, u133, u134, u135, u136, u137, u138, u139, u140, u141, u142, u143, u144, u145, u146, u147, u148, u149, u150, u151, u152, u153, u154, u155, u156, u157, u158, u159, u160, u161, u162, u163, u164, u165, u166, u167, u168, u169, u170, u171, u172, u173, u174, u175, u176, u177, u178, u179, u180, u181, u182, u183, u184, u185, u186, u187, u188, u189, u190, u191, u192, u193, u194, u195, u196, u197, u198, u199, u200, u201, u202, u203, u204, u205, u206, u207, u208, u209, u210, u211, u212, u213], []⟩ wc) :
    Code.wp Try.prog (blockOf Try.f4 0) Q ⟨#[u0, u1, u2, .pointer (some ⟨O, 0, none⟩), u4, .slice ha hd.length hc, u6, u7, u8, u9, u10, .slice none 0 0, .int .i64 0, u13, u14, u15, u16, u17, u18, u19, u20, u21, u22, u23, u24, u25, u26, u27, u28, u29, u30, u31, u32, u33, u34, u35, u36, u37, u38, u39, u40, u41, u42, u43, u44, u45, u46, u47, u48, u49, u50, u51, u52, u53, u54, u55, u56, u57, u58, u59, u60, u61, u62, u63, u64, u65, u66, u67, u68, u69, u70, u71, u72, u73, u74, u75, u76, u77, u78, u79, u80, u81, u82, u83, u84, u85, u86, u87, u88, u89, u90, u91, u92, u93, u94, u95, u96, u97, u98, u99, u100, u101, u102, u103, u104, u105, u106, u107, u108, u109, u110, u111, u112, u113, u114, u115, u116, u117, u118, u119, u120, u121, u122, u123, u124, u125, u126, u127, u128, u129, u130, u131, u132, u133, u134, u135, u136, u137, u138, u139, u140, u141, u142, u143, u144, u145, u146, u147, u148, u149, u150, u151, u152, u153, u154, u155, u156, u157, u158, u159, u160, u161, u162, u163, u164, u165, u166, u167, u168, u169, u170, u171, u172, u173, u174, u175, u176, u177, u178, u179, u180, u181, u182, u183, u184, u185, u186, u187, u188, u189, u190, u191, u192, u193, u194, u195, u196, u197, u198, u199, u200, u201, u202, u203, u204, u205, u206, u207, u208, u209, u210, u211, u212, u213], []⟩ R := by
  conv => arg 2; whnf
  have c0 := hB.c0
  have c1 := hB.c1
  have c2 := hB.c2
  have z1 := hB.lt
  obtain ⟨i0, hi, hz0, hz1, hz2⟩ := info_parts infoInt
  go_wp2_with fail
  go_loopw [11, 12] (fun v i wr => ∃ k : Nat, k ≤ hd.length ∧ k ≤ 5 ∧ i = .int .i64 k ∧ Ext R wr ∧ RowI R.heap.size (sndM b.sounds hd k) v wr) (fun _ i _ => hd.length - (intOf i).toNat)
  case atStart => exact ⟨0, Nat.zero_le _, Nat.zero_le _, rfl, Ext.refl _, World.ownsRow_nil _ _ _ _⟩
  case round =>
    obtain ⟨k, hk, hk5, rfl, hxr, hown⟩ := hrel
    by_cases hlt : k < hd.length ∧ k < 5
    · have k2 : (k : Int) < (hd.length : Int) := by omega
      have k3 : (k : Int) < 5 := by omega
      have hst := sndM_succ b.sounds hd k hlt.1
      have hhr := (hh.ext hxr)
      obtain ⟨_, _, hea, -, -, hq⟩ := hhr
      obtain ⟨hb', ho', rfl, d0, dU⟩ := hq k hlt.1
      have hea1 := (Value.slice.inj hea).1
      subst hea1
      simp only [Nat.mul_one] at d0
      clear hea hq
      generalize hd[k] = y at *
      have wy : IntKind.i64.wrap y = y := IntWalk.i64_in _ (by unfold U8 at dU; omega)
      have hs0 : 0 ≤ Int.tmod y b.sounds ∧ Int.tmod y b.sounds ≤ 255 := by
        unfold U8 at dU
        rw [Int.tmod_eq_emod_of_nonneg dU.1]
        have g1 := Int.emod_nonneg y (show b.sounds ≠ 0 by omega)
        have g2 := Int.emod_lt_of_pos y (show 0 < b.sounds by omega)
        omega
      obtain ⟨s, hs⟩ : ∃ s, s = Int.tmod y b.sounds := ⟨_, rfl⟩
      rw [← hs] at hst hs0
      have hs' : Int.tmod y b.sounds = s := hs.symm
      have ws : IntKind.i64.wrap s = s := IntWalk.i64_in _ (by omega)
      have nzS : (b.sounds == 0) = false := by rw [beq_eq_false_iff_ne]; omega
      have nz0 : ¬ b.sounds = 0 := by omega
      have hcl := sndM_len b.sounds hd k
      generalize sndM b.sounds hd k = cur at *
      have Hst := Lib.hid hst
      have hBr := hB.ext hxr
      have d1 := hBr.c0
      have dlt := hown.lt
      have hszr := hxr.size
      clear hst hs hs0 hlt dU
      go_wp2_with fail
      apply Facts.wp_frame
      intro A hA
      have f3 : ∀ h, A.tmps[3]'h = .pointer (some ⟨O, 0, none⟩) := by rw [hA]; exact fun _ => rfl
      have f5 : ∀ h, A.tmps[5]'h = .slice (some ⟨hb', ho', none⟩) hd.length hc := by rw [hA]; exact fun _ => rfl
      have f11 : ∀ h, A.tmps[11]'h = u11 := by rw [hA]; exact fun _ => rfl
      have f12 : ∀ h, A.tmps[12]'h = .int .i64 k := by rw [hA]; exact fun _ => rfl
      have fsz : A.tmps.size = 214 := by rw [hA]; rfl
      have HA := Lib.hid hA
      clear hA
      apply Facts.Dep.wp_region (Facts.App.two_but u11.ownBlock) 10 [.val _, .val _, .val _, .val _, .val _, .val _, .val _, .val _, .val (.int .i64 s), .fact (NewI u11.ownBlock (.int .i64 s)), .fact (RowI R.heap.size (cur ++ [s])), .fact (RowI R.heap.size (cur ++ [s]))] (by kernel_rfl) (by kernel_rfl) (.inl (by kernel_rfl)) (by kernel_rfl) ?keep ?main
      case keep => exact ⟨fun u a c hx h => h.ext hx, fun _ u a c hx h => h.but hx, fun u a c hx h => h.ext hx, fun h => absurd h (Bool.eq_false_iff.1 (by kernel_rfl)), fun u a c hx h => h.ext hx, fun h => absurd h (Bool.eq_false_iff.1 (by kernel_rfl)), trivial⟩
      case main =>
        iterate 9 (refine ⟨fun w1 hE hC hh => ?_, ?_⟩; focus (have hx := hE (by kernel_rfl); clear hh hE hC; have e0 := hx.cell d0; have e1 := hx.cell d1; go_simp; first | exact ⟨Ext.refl _, rfl⟩ | exact Ext.refl _))
        refine ⟨fun w1 hE hC hh => ?_, ?_⟩
        · have hx := hE (by kernel_rfl)
          clear hh hE hC
          have hsz1 := hx.size
          go_simp
          exact ⟨ext_alloc _ _, w1.heap.size, rfl, by simp [go_sem], fun e => by have := (dlt _ e.symm).2; omega⟩
        intro u9
        refine ⟨fun w1 hE hC hh => ?_, ?_⟩
        · have hx := hE (by kernel_rfl)
          have h9 : NewI u11.ownBlock (.int .i64 s) u9 w1 := hh 9 _ List.mem_cons_self (by kernel_rfl)
          clear hh hE hC
          have s9 := h9.spec
          generalize h9.B = B at *
          have e9 := s9.1
          have c9 := s9.2.1
          clear s9 h9
          subst e9
          have hsz1 := hx.size
          refine Facts.App.stepG_append rfl (.tmp 72) (.tmp 81) 26 rfl R.heap.size 3 i0 (.int .i64 0) 1 8 Try.underlying26 hi hz0 hz1 hz2 rfl (by decide) u11 cur.length (cur.map (Value.int .i64)) (by go_simp) (Ext.owns hown hx) ⟨B, 0, none⟩ 1 1 [.int .i64 s] (by go_simp) rfl (one_cells c9) (by simp [Value.oneCell']) (by unfold maxLen; omega) (by omega) (by omega) ?_
          intro v' w' ho hg hbk
          exact ⟨hg, by unfold RowI; rw [List.length_append, List.map_append]; exact ho⟩
        intro u10
        refine ⟨fun w1 hE hC hh => ?_, ?_⟩
        · have h10 : RowI R.heap.size (cur ++ [s]) u10 w1 := hh 10 _ List.mem_cons_self (by kernel_rfl)
          clear hh hE hC
          go_simp
          first | exact ⟨Ext.refl _, h10⟩ | exact Ext.refl _
        intro u11' w5 hC hh
        have h11 : RowI R.heap.size (cur ++ [s]) u11' w5 := hh 11 _ List.mem_cons_self
        clear hh
        have x6 : Ext R w5 := Ext.grown hxr hC fun k hk => (hown.lt k hk).1
        clear hC hown d0 d1 f3 f5 f11 f12 fsz
        have hA := HA.out
        subst hA
        go_simp
        go_wp2
        go_roundw
        case rel => exact ⟨k + 1, by omega, by omega, by go_num, x6, by rw [Hst.out]; exact h11⟩
        case measure => simp [intOf]; omega
    · have hsl := sndM_len b.sounds hd k
      have hsd : ∀ s ∈ sndM b.sounds hd k, 0 ≤ s ∧ s ≤ b.sounds - 1 := fun s hs => by
        unfold sndM at hs
        rw [List.mem_map] at hs
        obtain ⟨y, hy, rfl⟩ := hs
        have hy2 := List.mem_of_mem_take hy
        obtain ⟨j, hj, rfl⟩ := List.getElem_of_mem hy2
        obtain ⟨_, _, hea, -, -, hq⟩ := hh
        obtain ⟨-, -, -, -, dU⟩ := hq j hj
        unfold U8 at dU
        rw [Int.tmod_eq_emod_of_nonneg dU.1]
        have g1 := Int.emod_nonneg (hd[j]) (show b.sounds ≠ 0 by omega)
        have g2 := Int.emod_lt_of_pos (hd[j]) (show 0 < b.sounds by omega)
        omega
      have hown' : IntsAt wr u11 (sndM b.sounds hd k) := IntsAt.of_own hown fun s hs => by have := hsd s hs; unfold I64; omega
      have hcase : ¬ (k : Int) < (hd.length : Int) ∨ ((k : Int) < (hd.length : Int) ∧ ¬ (k : Int) < 5) := by omega
      generalize sndM b.sounds hd k = Sd at *
      have herr : heardErrM b.sounds Sd = 0 := by
        unfold heardErrM
        rw [if_neg (by omega), if_neg]
        rw [Bool.not_eq_false]
        unfold withinM
        rw [List.all_eq_true]
        exact fun s hs => (inM_iff _ _ _).2 (hsd s hs)
      clear hown hlt
      rcases hcase with k2 | ⟨k2, k3⟩
      all_goals
        go_wp2
        exact ⟨Sd, hown', herr, hsd, hxr⟩
end Go.Proofs.Ytoifmphpeflliaa

namespace Go.Proofs.Ytoifmphpeflliaa
open Go.RowKit
set_option linter.unusedVariables false

def SptB2 (ls : List Letter) (R : World) (t v : Value) (wc : World) : Prop := ∃ P : List Nat, (∀ n ∈ P, n < ls.length) ∧ P.length ≤ 5 ∧ t = .string (strOf (placed ls P)) ∧ IntsAt wc v (ints P) ∧ Ext R wc
set_option maxRecDepth 100000 in
set_option maxHeartbeats 6000000 in
theorem spelt_b2 {u0 u1 u2 u3 u4 u5 u7 u8 u9 u11 u12 u16 u17 u18 u19 u20 u21 u22 u23 u24 u25 u26 u27 u28 u29 u30 u31 u32 u33 u34 u35 u36 u37 u38 u39 u40 u41 u42 u43 u44 u45 u46 u47 u48 u49 u50 u51 u52 u53 u54 u55 u56 u57 u58 u59 u60 u61 u62 u63 u64 u65 u66 u67 u68 u69 u70 u71 u72 u73 u74 u75 u76 u77 u78 u79 u80 u81 u82 u83 u84 u85 u86 u87 u88 u89 u90 u91 u92 u93 u94 u95 u96 u97 u98 u99 u100 u101 u102 u103 u104 u105 u106 u107 u108 u109 u110 u111 u112 u113 u114 u115 u116 u117 u118 u119 u120 u121 u122 u123 u124 u125 u126 u127 u128 u129 u130 u131 u132 u133 u134 u135 u136 u137 u138 u139 u140 u141 u142 u143 u144 u145 u146 u147 u148 u149 u150 u151 u152 u153 u154 u155 u156 u157 u158 u159 u160 u161 u162 u163 u164 u165 u166 u167 u168 u169 u170 u171 u172 u173 u174 u175 u176 u177 u178 u179 u180 u181 u182 u183 u184 u185 u186 u187 u188 u189 u190 u191 u192 u193 u194 u195 u196 u197 u198 u199 u200 u201 u202 u203 u204 u205 u206 u207 u208 u209 u210 u211 u212 u213 : Value} {xa la : Option Addr} {xc lc : Nat} {x : List Int} {ls : List Letter} {R2 : World} (hx : BytesAt R2 (.slice xa x.length xc) x) (hlv : LettersAt R2 (.slice la ls.length lc) ls) (hls6 : 1 ≤ ls.length ∧ ls.length ≤ 6) (Hlet : Hid (∀ x ∈ ls, 97 ≤ x.c ∧ x.c ≤ 122 ∧ 0 ≤ x.sounds ∧ x.sounds ≤ 15)) (Q : Exit → Act → World → Prop)
    (hQ : ∀ (v13 v14 v15 v16 v83 v84 v85 v86 v87 v88 v89 v90 v91 v92 v93 v94 v95 v96 v97 v98 v99 v100 v101 v102 v103 v104 v105 v106 v107 v108 v109 v110 v111 v112 v113 v114 v115 : Value) (wc : World), SptB2 ls R2 v13 v14 wc → Q .normal ⟨#[u0, u1, u2, u3, u4, u5, .slice xa x.length xc, u7, u8, u9, .slice la ls.length lc, u11, u12, v13, v14, v15, v16, u17, u18, u19, u20, u21, u22, u23, u24, u25, u26, u27, u28, u29, u30, u31, u32, u33, u34, u35, u36, u37, u38, u39, u40, u41, u42, u43, u44, u45, u46, u47, u48, u49, u50, u51, u52, u53, u54, u55, u56, u57, u58, u59, u60, u61, u62, u63, u64, u65, u66, u67, u68, u69, u70, u71, u72, u73, u74, u75, u76, u77, u78, u79, u80, u81, u82, v83, v84, v85, v86, v87, v88, v89, v90, v91, v92, v93, v94, v95, v96, v97, v98, v99, v100, v101, v102, v103, v104, v105, v106, v107, v108, v109, v110, v111, v112, v113, v114, v115, u116, u117, u118, u119, u120, u121, u122, u123, u124, u125, u126, u127, u128, u129, u130, u131, u132, u133, u134, u135, u136, u137, u138, u139, u140, u141, u142, u143, u144, u145, u146, u147, u148, u149, u150, u151, u152, u153, u154, u155, u156, u157, u158, u159, u160, u161, u162, u163, u164, u165, u166, u167, u168, u169, u170, u171, u172, u173, u174, u175, u176, u177, u178, u179, u180, u181, u182, u183, u184, u185, u186, u187, u188, u189, u190, u191, u192, u193, u194, u195, u196, u197, u198, u199, u200, u201, u202, u203, u204, u205, u206, u207, u208, u209, u210, u211, u212, u213], []⟩ wc) :
    Code.wp Try.prog (blockOf Try.f4 2) Q ⟨#[u0, u1, u2, u3, u4, u5, .slice xa x.length xc, u7, u8, u9, .slice la ls.length lc, u11, u12, .string (strOf []), .slice none 0 0, .int .i64 0, u16, u17, u18, u19, u20, u21, u22, u23, u24, u25, u26, u27, u28, u29, u30, u31, u32, u33, u34, u35, u36, u37, u38, u39, u40, u41, u42, u43, u44, u45, u46, u47, u48, u49, u50, u51, u52, u53, u54, u55, u56, u57, u58, u59, u60, u61, u62, u63, u64, u65, u66, u67, u68, u69, u70, u71, u72, u73, u74, u75, u76, u77, u78, u79, u80, u81, u82, u83, u84, u85, u86, u87, u88, u89, u90, u91, u92, u93, u94, u95, u96, u97, u98, u99, u100, u101, u102, u103, u104, u105, u106, u107, u108, u109, u110, u111, u112, u113, u114, u115, u116, u117, u118, u119, u120, u121, u122, u123, u124, u125, u126, u127, u128, u129, u130, u131, u132, u133, u134, u135, u136, u137, u138, u139, u140, u141, u142, u143, u144, u145, u146, u147, u148, u149, u150, u151, u152, u153, u154, u155, u156, u157, u158, u159, u160, u161, u162, u163, u164, u165, u166, u167, u168, u169, u170, u171, u172, u173, u174, u175, u176, u177, u178, u179, u180, u181, u182, u183, u184, u185, u186, u187, u188, u189, u190, u191, u192, u193, u194, u195, u196, u197, u198, u199, u200, u201, u202, u203, u204, u205, u206, u207, u208, u209, u210, u211, u212, u213], []⟩ R2 := by
  conv => arg 2; whnf
  obtain ⟨i0, hi, hz0, hz1, hz2⟩ := info_parts infoInt
  go_wp2_with fail
  go_loopw [13, 14, 15] (fun t v i wr => ∃ q : Nat, q ≤ x.length ∧ q ≤ 5 ∧ i = .int .i64 q ∧ Ext R2 wr ∧ t = .string (strOf (placed ls (plcTo ls.length x q))) ∧ IntsAt wr v (ints (plcTo ls.length x q)) ∧ (q = 0 → v = .slice none 0 0)) (fun _ _ i _ => x.length - (intOf i).toNat)
  case atStart => exact ⟨0, Nat.zero_le _, Nat.zero_le _, rfl, Ext.refl _, rfl, SliceAt.nil, fun _ => rfl⟩
  case round =>
    obtain ⟨q, hq, hq5, rfl, hxq, rfl, hpl, hp0⟩ := hrel
    by_cases hlt : q < x.length ∧ q < 5
    · have k4 : (q : Int) < (x.length : Int) := by omega
      have k5 : (q : Int) < 5 := by omega
      have hst := plcTo_succ ls.length x q hlt.1
      have hpln := plcTo_len ls.length x q (by omega)
      have hxr := hx.ext hxq
      obtain ⟨_, _, hea, -, -, hqq⟩ := hxr
      obtain ⟨xb, xo, rfl, d0, dU⟩ := hqq q hlt.1
      have hea1 := (Value.slice.inj hea).1
      subst hea1
      simp only [Nat.mul_one] at d0
      clear hea hqq
      generalize x[q] = y at *
      unfold U8 at dU
      obtain ⟨y, rfl⟩ : ∃ m : Nat, y = m := ⟨y.toNat, by omega⟩
      rw [Int.toNat_natCast] at hst
      have wy : IntKind.i64.wrap (y : Int) = y := IntWalk.i64_in _ (by omega)
      have ty := mod_small y ls.length
      have hnl : y % ls.length < ls.length := Nat.mod_lt _ (by omega)
      generalize y % ls.length = n at *
      have wn : IntKind.i64.wrap (n : Int) = n := IntWalk.i64_in _ (by omega)
      have nzl : ¬ (ls.length : Int) = 0 := by omega
      have nzl2 : ((ls.length : Int) == 0) = false := by rw [beq_eq_false_iff_ne]; omega
      have hlvr := hlv.ext hxq
      obtain ⟨_, _, hea, -, -, hqq⟩ := hlvr
      obtain ⟨lb, lo, rfl, l0, l1, l2, lU, lI⟩ := hqq n hnl
      have hea1 := (Value.slice.inj hea).1
      subst hea1
      clear hea hqq
      have hc := Hlet.out ls[n] (List.getElem_mem hnl)
      have hgd := letD_at ls hnl
      generalize ls[n] = z at *
      have kn : (n : Int) < (ls.length : Int) := by omega
      have wc : IntKind.i32.wrap z.c = z.c := by
        unfold IntKind.wrap
        simp only [IntKind.bits, IntKind.signed]
        simp
        omega
      have henc : Utf8.encode z.c = strOf [z.c] := encode_ascii z.c (by omega) (by omega)
      have hps := placed_snoc ls (plcTo ls.length x q) n
      rw [hgd] at hps
      have hpll := placed_len ls (plcTo ls.length x q)
      have hplt := plcTo_lt (show 0 < ls.length by omega) x q
      generalize plcTo ls.length x q = P at *
      generalize placed ls P = T at *
      have hcs : ¬ 9223372036854775807 < (strOf T).size + (strOf [z.c]).size := by
        rw [strOf_size, strOf_size, hpll, hpln]
        simp
        omega
      have htx : strOf T ++ strOf [z.c] = strOf (T ++ [z.c]) := strOf_append _ _
      have Htx := Lib.hid htx
      have Hst := Lib.hid hst
      have Hps := Lib.hid hps
      have hszq := hxq.size
      clear htx hst hps hgd hc dU lU lI
      go_wp2_with fail
      rcases Nat.eq_zero_or_pos q with hq0 | hq0
      · have hP0 : P = [] := List.eq_nil_of_length_eq_zero (by omega)
        have HP0 := Lib.hid hP0
        obtain rfl := hp0 hq0
        have Hq0 := Lib.hid hq0
        clear hp0 hpl hP0 hq0
        apply Facts.wp_frame
        intro A hA
        have f10 : ∀ h, A.tmps[10]'h = .slice (some ⟨lb, lo, none⟩) ls.length lc := by rw [hA]; exact fun _ => rfl
        have f13 : ∀ h, A.tmps[13]'h = .string (strOf T) := by rw [hA]; exact fun _ => rfl
        have f14 : ∀ h, A.tmps[14]'h = .slice none 0 0 := by rw [hA]; exact fun _ => rfl
        have f16 : ∀ h, A.tmps[16]'h = .int .i64 n := by rw [hA]; exact fun _ => rfl
        have fsz : A.tmps.size = 214 := by rw [hA]; rfl
        have HA := Lib.hid hA
        clear hA
        apply Facts.Dep.Free.wp_region (⟨fun _ _ h => h, fun _ _ _ h k => h.trans k, fun _ _ _ h k => h.trans k, Ext.refl, fun a => ext_drew a⟩ : Facts.Piv.Two Ext Ext) 14 [.val _, .val _, .val _, .val _, .val _, .val _, .val _, .val _, .val (.string (strOf (T ++ [z.c]))), .fact (EmptyV wr.heap.size), .val _, .fact (EmptyV wr.heap.size), .val _, .fact (NewI none (.int .i64 n)), .fact (RowI wr.heap.size [(n : Int)]), .val _, .fact (RowI wr.heap.size [(n : Int)])] (by kernel_rfl) (by kernel_rfl) (by kernel_rfl) ?keep ?main
        case keep => exact ⟨fun u a c hx h => h.ext hx, fun _ _ u a c hx h => h.ext hx, fun u a c hx h => h.ext hx, fun _ _ u a c hx h => h.ext hx, fun u a c hx h => h.ext hx, fun _ _ u a c hx h => h.ext hx, fun u a c hx h => h.ext hx, fun _ _ u a c hx h => h.ext hx, fun u a c hx h => h.ext hx, fun _ _ u a c hx h => h.ext hx, trivial⟩
        case main =>
          iterate 8 (refine ⟨fun w1 hC hh => ?_, ?_⟩; focus (have hx := hC; clear hh hC; have e0 := hx.cell l0; have e1 := hx.cell l1; have e2 := hx.cell l2; go_simp; first | exact ⟨Ext.refl _, rfl⟩ | exact Ext.refl _))
          refine ⟨fun w1 hx hh => ?_, ?_⟩
          · clear hh
            go_simp
            exact ⟨Ext.refl _, Htx.out⟩
          refine ⟨fun w1 hx hh => ?_, ?_⟩
          · clear hh
            have hsz1 := hx.size
            go_simp
            exact ⟨ext_alloc _ _, w1.heap.size, rfl, World.ownsRow_made w1 #[] 0 hsz1 (by unfold maxLen; omega) rfl⟩
          intro u9
          iterate 1 (refine ⟨fun w1 hC hh => ?_, ?_⟩; focus (have hx := hC; clear hh hC; skip; go_simp; first | exact ⟨Ext.refl _, rfl⟩ | exact Ext.refl _))
          refine ⟨fun w1 hx hh => ?_, ?_⟩
          · have h9 : EmptyV wr.heap.size u9 w1 := hh 9 _ List.mem_cons_self (by kernel_rfl)
            clear hh
            refine Facts.App.stepG_append_none rfl (.tmp 110) (.tmp 111) 26 rfl wr.heap.size 3 i0 1 Try.underlying26 hi u9 0 [] (by go_simp) h9.row (by go_simp) ?_
            exact ⟨Ext.refl _, h9⟩
          intro u11
          iterate 1 (refine ⟨fun w1 hC hh => ?_, ?_⟩; focus (have hx := hC; clear hh hC; skip; go_simp; first | exact ⟨Ext.refl _, rfl⟩ | exact Ext.refl _))
          refine ⟨fun w1 hx hh => ?_, ?_⟩
          · clear hh
            go_simp
            exact ⟨ext_alloc _ _, w1.heap.size, rfl, by simp [go_sem], by simp⟩
          intro u13
          refine ⟨fun w1 hx hh => ?_, ?_⟩
          · have h11 : EmptyV wr.heap.size u11 w1 := hh 11 _ (List.mem_cons_of_mem _ List.mem_cons_self) (by kernel_rfl)
            have h13 : NewI none (.int .i64 n) u13 w1 := hh 13 _ List.mem_cons_self (by kernel_rfl)
            clear hh
            have s13 := h13.spec
            generalize h13.B = B at *
            have e13 := s13.1
            have c13 := s13.2.1
            clear s13 h13
            subst e13
            have hsz1 := hx.size
            refine Facts.App.stepG_append_grew rfl (.tmp 112) (.tmp 114) 26 rfl wr.heap.size 3 i0 (.int .i64 0) 1 8 Try.underlying26 hi hz0 hz1 hz2 rfl (by decide) u11 0 [] (by go_simp) h11.row ⟨B, 0, none⟩ 1 1 [.int .i64 n] (by go_simp) rfl (one_cells c13) (by simp [Value.oneCell']) (by unfold maxLen; omega) (by omega) (by omega) ?_
            intro v' w' ho hg hx2
            exact ⟨hx2 (h11.full 1 (by omega)), ho⟩
          intro u14'
          iterate 1 (refine ⟨fun w1 hC hh => ?_, ?_⟩; focus (have hx := hC; clear hh hC; skip; go_simp; first | exact ⟨Ext.refl _, rfl⟩ | exact Ext.refl _))
          refine ⟨fun w1 hx hh => ?_, ?_⟩
          · have h14 : RowI wr.heap.size [(n : Int)] u14' w1 := hh 14 _ List.mem_cons_self (by kernel_rfl)
            clear hh
            go_simp
            first | exact ⟨Ext.refl _, h14⟩ | exact Ext.refl _
          intro u16' w5 hx5 hh
          have h16 : RowI wr.heap.size [(n : Int)] u16' w5 := hh 16 _ List.mem_cons_self
          clear hh
          have x6 := hxq.trans hx5
          have hI : IntsAt w5 u16' [(n : Int)] := IntsAt.of_own h16 fun s hs => by rw [List.mem_singleton] at hs; subst hs; unfold I64; omega
          clear h16 hx5 l0 l1 l2 d0 f10 f13 f14 f16 fsz
          have hA := HA.out
          subst hA
          go_simp
          go_wp2
          go_roundw
          case rel => exact ⟨q + 1, by omega, by omega, by go_num, x6, by rw [Hst.out, Hps.out], by rw [Hst.out, HP0.out]; exact hI, fun h => by omega⟩
          case measure => simp [intOf]; omega
      · have hpl2 : (ints P).length = P.length := by simp [ints]
        have hI : ∀ s ∈ ints (P ++ [n]), I64 s := ints_I64 fun m hm => by
          rcases List.mem_append.1 hm with h | h
          · have := hplt m h; omega
          · rw [List.mem_singleton] at h; omega
        have hia : ints P ++ [(n : Int)] = ints (P ++ [n]) := by simp [ints]
        have hpl4 := hpl
        obtain ⟨_, pc, hea, hpc1, hpc2, hqq⟩ := hpl4
        obtain ⟨pb, po, rfl, -⟩ := hqq 0 (by omega)
        subst hea
        have hpq : (ints P).length = q := by omega
        have Hia := Lib.hid hia
        have HI := Lib.hid hI
        have Hpq := Lib.hid hpq
        have Hpl := Lib.hid hpl
        have hpq5 : (ints P).length ≤ 5 := by omega
        have hpq0 : 0 < (ints P).length := by omega
        have Hpq5 := Lib.hid hpq5
        have Hpq0 := Lib.hid hpq0
        clear hp0 hqq hI hia hpl2 hpq hpl hpq5 hpq0 hplt
        apply Facts.wp_frame
        intro A hA
        have f10 : ∀ h, A.tmps[10]'h = .slice (some ⟨lb, lo, none⟩) ls.length lc := by rw [hA]; exact fun _ => rfl
        have f13 : ∀ h, A.tmps[13]'h = .string (strOf T) := by rw [hA]; exact fun _ => rfl
        have f14 : ∀ h, A.tmps[14]'h = .slice (some ⟨pb, po, none⟩) (ints P).length pc := by rw [hA]; exact fun _ => rfl
        have f16 : ∀ h, A.tmps[16]'h = .int .i64 n := by rw [hA]; exact fun _ => rfl
        have fsz : A.tmps.size = 214 := by rw [hA]; rfl
        have HA := Lib.hid hA
        clear hA
        apply Facts.Dep.Free.wp_region (Facts.App.two_grew wr.heap.size (ints P).length) 14 [.val _, .val _, .val _, .val _, .val _, .val _, .val _, .val _, .val (.string (strOf (T ++ [z.c]))), .fact (EmptyV wr.heap.size), .val _, .fact (RowI wr.heap.size (ints P)), .val _, .fact (NewI none (.int .i64 n)), .fact (RowI wr.heap.size (ints P ++ [(n : Int)])), .val _, .fact (RowI wr.heap.size (ints P ++ [(n : Int)]))] (by kernel_rfl) (by kernel_rfl) (by kernel_rfl) ?keep ?main
        case keep => exact ⟨fun u a c hx h => h.ext hx, fun _ _ u a c hx h => h.grew hx, fun u a c hx h => h.ext hx, fun _ _ u a c hx h => h.grew (Nat.le_refl _) hx, fun u a c hx h => h.ext hx, fun _ _ u a c hx h => h.grew Hpq0.out hx, fun u a c hx h => h.ext hx, fun h => absurd rfl h, fun u a c hx h => h.ext hx, fun _ h => (no_false h (by kernel_rfl)).elim, trivial⟩
        case main =>
          iterate 8 (refine ⟨fun w1 hC hh => ?_, ?_⟩; focus (have hx := hC.below rfl (Ext.refl _); clear hh hC; have e0 := hx.cell l0; have e1 := hx.cell l1; have e2 := hx.cell l2; go_simp; first | exact ⟨Ext.refl _, rfl⟩ | exact Ext.refl _))
          refine ⟨fun w1 hC hh => ?_, ?_⟩
          · clear hh hC
            go_simp
            exact ⟨Ext.refl _, Htx.out⟩
          refine ⟨fun w1 hC hh => ?_, ?_⟩
          · have hx := hC.below rfl (Ext.refl _)
            clear hh hC
            have hsz1 := hx.size
            go_simp
            exact ⟨ext_alloc _ _, w1.heap.size, rfl, World.ownsRow_made w1 #[] 0 hsz1 (by unfold maxLen; omega) rfl⟩
          intro u9
          iterate 1 (refine ⟨fun w1 hC hh => ?_, ?_⟩; focus (have hx := hC.below rfl (Ext.refl _); clear hh hC; skip; go_simp; first | exact ⟨Ext.refl _, rfl⟩ | exact Ext.refl _))
          refine ⟨fun w1 hC hh => ?_, ?_⟩
          · have h9 : EmptyV wr.heap.size u9 w1 := hh 9 _ List.mem_cons_self (by kernel_rfl)
            have hx := hC.below rfl (Ext.refl _)
            clear hh hC
            have hsz1 := hx.size
            have g5 := Hpq5.out
            refine Facts.App.stepG_append_grew rfl (.tmp 110) (.tmp 111) 26 rfl wr.heap.size 3 i0 (.int .i64 0) 1 8 Try.underlying26 hi hz0 hz1 hz2 rfl (by decide) u9 0 [] (by go_simp) h9.row ⟨pb, po, none⟩ (ints P).length pc ((ints P).map (Value.int .i64)) (by go_simp) (by rw [List.length_map, Nat.mul_one]) (ints_new (Hpl.out.ext hx)) (ints_one _) (by unfold maxLen; omega) (by omega) (by omega) ?_
            intro v' w' ho hg hx2
            exact ⟨hx2 (h9.full _ Hpq0.out), by rw [Nat.zero_add, List.nil_append] at ho; exact ho⟩
          intro u11
          iterate 1 (refine ⟨fun w1 hC hh => ?_, ?_⟩; focus (have hx := hC.below rfl (Ext.refl _); clear hh hC; skip; go_simp; first | exact ⟨Ext.refl _, rfl⟩ | exact Ext.refl _))
          refine ⟨fun w1 hC hh => ?_, ?_⟩
          · clear hh hC
            go_simp
            exact ⟨ext_alloc _ _, w1.heap.size, rfl, by simp [go_sem], by simp⟩
          intro u13
          refine ⟨fun w1 hC hh => ?_, ?_⟩
          · have h11 : RowI wr.heap.size (ints P) u11 w1 := hh 11 _ (List.mem_cons_of_mem _ List.mem_cons_self) (by kernel_rfl)
            have h13 : NewI none (.int .i64 n) u13 w1 := hh 13 _ List.mem_cons_self (by kernel_rfl)
            have hx := hC.below rfl (Ext.refl _)
            clear hh hC
            have s13 := h13.spec
            generalize h13.B = B at *
            have e13 := s13.1
            have c13 := s13.2.1
            clear s13 h13
            subst e13
            have hsz1 := hx.size
            have g5 := Hpq5.out
            refine Facts.App.stepG_append_grew rfl (.tmp 112) (.tmp 114) 26 rfl wr.heap.size 3 i0 (.int .i64 0) 1 8 Try.underlying26 hi hz0 hz1 hz2 rfl (by decide) u11 (ints P).length ((ints P).map (Value.int .i64)) (by go_simp) h11 ⟨B, 0, none⟩ 1 1 [.int .i64 n] (by go_simp) rfl (one_cells c13) (by simp [Value.oneCell']) (by unfold maxLen; omega) (by omega) (by omega) ?_
            intro v' w' ho hg hx2
            rw [Nat.mul_one] at hg
            exact ⟨hg, by unfold RowI; rw [List.length_append, List.map_append]; exact ho⟩
          intro u14'
          iterate 1 (refine ⟨fun w1 hC hh => ?_, ?_⟩; focus (have hx := hC.below rfl (Ext.refl _); clear hh hC; skip; go_simp; first | exact ⟨Ext.refl _, rfl⟩ | exact Ext.refl _))
          refine ⟨fun w1 hC hh => ?_, ?_⟩
          · have h14 : RowI wr.heap.size (ints P ++ [(n : Int)]) u14' w1 := hh 14 _ List.mem_cons_self (by kernel_rfl)
            clear hh hC
            go_simp
            first | exact ⟨Ext.refl _, h14⟩ | exact Ext.refl _
          intro u16' w5 hC hh
          have h16 : RowI wr.heap.size (ints P ++ [(n : Int)]) u16' w5 := hh 16 _ List.mem_cons_self
          have hx5 := hC.below rfl (Ext.refl _)
          clear hh hC
          have x6 := hxq.trans hx5
          rw [Hia.out] at h16
          have hI : IntsAt w5 u16' (ints (P ++ [n])) := IntsAt.of_own h16 HI.out
          clear h16 hx5 l0 l1 l2 d0 f10 f13 f14 f16 fsz
          have hA := HA.out
          subst hA
          go_simp
          go_wp2
          go_roundw
          case rel => exact ⟨q + 1, by omega, by omega, by go_num, x6, by rw [Hst.out, Hps.out], by rw [Hst.out]; exact hI, fun h => by omega⟩
          case measure => simp [intOf]; omega
    · have hcase : ¬ (q : Int) < (x.length : Int) ∨ ((q : Int) < (x.length : Int) ∧ ¬ (q : Int) < 5) := by omega
      have hplt : ∀ n ∈ plcTo ls.length x q, n < ls.length := fun n hn => by
        unfold plcTo at hn
        rw [List.mem_map] at hn
        obtain ⟨y, -, rfl⟩ := hn
        exact Nat.mod_lt _ (by omega)
      have hpln := plcTo_len ls.length x q (by omega)
      generalize plcTo ls.length x q = P at *
      clear hlt hp0
      rcases hcase with k2 | ⟨k2, k3⟩
      all_goals
        go_wp2
        exact ⟨P, hplt, by omega, rfl, hpl, hxq⟩
end Go.Proofs.Ytoifmphpeflliaa

namespace Go.Proofs.Ytoifmphpeflliaa
open Go.RowKit
set_option linter.unusedVariables false

def SptIf (b : Book) (ls : List Letter) (P : List Nat) (Sd : List Int) (R : World) (v : Value) (wc : World) : Prop := ∃ can : Bool, v = .bool can ∧ (can = true → P ≠ [] ∧ Can (b.sounds.toNat + 1) (placedL ls P) [] Sd) ∧ Ext R wc
set_option maxRecDepth 100000 in
set_option maxHeartbeats 4000000 in
theorem spelt_if {u0 u1 u2 u4 u5 u6 u7 u8 u10 u12 u14 u15 u16 u17 u18 u20 u21 u22 u23 u24 u25 u26 u27 u28 u29 u30 u31 u32 u33 u34 u35 u36 u37 u38 u39 u40 u41 u42 u43 u44 u45 u46 u47 u48 u49 u50 u51 u52 u53 u54 u55 u56 u57 u58 u59 u60 u61 u62 u63 u64 u65 u66 u67 u68 u69 u70 u71 u72 u73 u74 u75 u76 u77 u78 u79 u80 u81 u82 u83 u84 u85 u86 u87 u88 u89 u90 u91 u92 u93 u94 u95 u96 u97 u98 u99 u100 u101 u102 u103 u104 u105 u106 u107 u108 u109 u110 u111 u112 u113 u114 u115 u116 u117 u118 u119 u120 u121 u122 u123 u124 u126 u127 u128 u129 u130 u131 u132 u133 u134 u135 u136 u137 u138 u139 u140 u141 u142 u143 u144 u145 u146 u147 u148 u149 u150 u151 u152 u153 u154 u155 u156 u157 u158 u159 u160 u161 u162 u163 u164 u165 u166 u167 u168 u169 u170 u171 u172 u173 u174 u175 u176 u177 u178 u179 u180 u181 u182 u183 u184 u185 u186 u187 u188 u189 u190 u191 u192 u193 u194 u195 u196 u197 u198 u199 u200 u201 u202 u203 u204 u205 u206 u207 u208 u209 u210 u211 u212 u213 : Value} {O ab ao : Nat} {b : Book} {bs : Option Addr} {bc bd : Nat} {a : Nat} {sa : Option Addr} {sc : Nat} {Sd : List Int} {ls : List Letter} {P : List Nat} {R3 : World} {c125 : Bool} (h125 : c125 = true ↔ 0 < (strOf (placed ls P)).size) (HB3 : Hid (Boxed R3 O b (some ⟨ab, ao, none⟩) bc bs bd)) (HSI : Hid (IntsAt R3 (.slice sa Sd.length sc) Sd)) (Herr : Hid (heardErrM b.sounds Sd = 0))
    (Hserr : Hid (∀ P : List Nat, (∀ n ∈ P, n < ls.length) → P ≠ [] → P.length ≤ 5 → errM (oneBook b a (strOf (placed ls P))) = 0)) (Hslet : Hid (∀ P : List Nat, (∀ n ∈ P, n < ls.length) → lettersAt (oneBook b a (strOf (placed ls P))) 0 = placedL ls P)) (HP : Hid (∀ n ∈ P, n < ls.length)) (hP5 : P.length ≤ 5) (hai : a < b.alphabets.length) (ha3 : 1 ≤ b.alphabets.length ∧ b.alphabets.length ≤ 3) (Q : Exit → Act → World → Prop)
    (hQ : ∀ (v19 v20 v21 v22 v125 v126 v127 v128 v129 v130 v131 v132 v133 v134 v135 v136 v137 v138 v139 v140 : Value) (wc : World), SptIf b ls P Sd R3 v19 wc → Q .normal ⟨#[u0, u1, u2, .pointer (some ⟨O, 0, none⟩), u4, u5, u6, u7, u8, .int .i64 a, u10, .slice sa Sd.length sc, u12, .string (strOf (placed ls P)), u14, u15, u16, u17, u18, v19, v20, v21, v22, u23, u24, u25, u26, u27, u28, u29, u30, u31, u32, u33, u34, u35, u36, u37, u38, u39, u40, u41, u42, u43, u44, u45, u46, u47, u48, u49, u50, u51, u52, u53, u54, u55, u56, u57, u58, u59, u60, u61, u62, u63, u64, u65, u66, u67, u68, u69, u70, u71, u72, u73, u74, u75, u76, u77, u78, u79, u80, u81, u82, u83, u84, u85, u86, u87, u88, u89, u90, u91, u92, u93, u94, u95, u96, u97, u98, u99, u100, u101, u102, u103, u104, u105, u106, u107, u108, u109, u110, u111, u112, u113, u114, u115, u116, u117, u118, u119, u120, u121, u122, u123, u124, v125, v126, v127, v128, v129, v130, v131, v132, v133, v134, v135, v136, v137, v138, v139, v140, u141, u142, u143, u144, u145, u146, u147, u148, u149, u150, u151, u152, u153, u154, u155, u156, u157, u158, u159, u160, u161, u162, u163, u164, u165, u166, u167, u168, u169, u170, u171, u172, u173, u174, u175, u176, u177, u178, u179, u180, u181, u182, u183, u184, u185, u186, u187, u188, u189, u190, u191, u192, u193, u194, u195, u196, u197, u198, u199, u200, u201, u202, u203, u204, u205, u206, u207, u208, u209, u210, u211, u212, u213], []⟩ wc) :
    Code.wp Try.prog (condOf Try.f4 125) Q ⟨#[u0, u1, u2, .pointer (some ⟨O, 0, none⟩), u4, u5, u6, u7, u8, .int .i64 a, u10, .slice sa Sd.length sc, u12, .string (strOf (placed ls P)), u14, u15, u16, u17, u18, .bool false, u20, u21, u22, u23, u24, u25, u26, u27, u28, u29, u30, u31, u32, u33, u34, u35, u36, u37, u38, u39, u40, u41, u42, u43, u44, u45, u46, u47, u48, u49, u50, u51, u52, u53, u54, u55, u56, u57, u58, u59, u60, u61, u62, u63, u64, u65, u66, u67, u68, u69, u70, u71, u72, u73, u74, u75, u76, u77, u78, u79, u80, u81, u82, u83, u84, u85, u86, u87, u88, u89, u90, u91, u92, u93, u94, u95, u96, u97, u98, u99, u100, u101, u102, u103, u104, u105, u106, u107, u108, u109, u110, u111, u112, u113, u114, u115, u116, u117, u118, u119, u120, u121, u122, u123, u124, .bool c125, u126, u127, u128, u129, u130, u131, u132, u133, u134, u135, u136, u137, u138, u139, u140, u141, u142, u143, u144, u145, u146, u147, u148, u149, u150, u151, u152, u153, u154, u155, u156, u157, u158, u159, u160, u161, u162, u163, u164, u165, u166, u167, u168, u169, u170, u171, u172, u173, u174, u175, u176, u177, u178, u179, u180, u181, u182, u183, u184, u185, u186, u187, u188, u189, u190, u191, u192, u193, u194, u195, u196, u197, u198, u199, u200, u201, u202, u203, u204, u205, u206, u207, u208, u209, u210, u211, u212, u213], []⟩ R3 := by
  conv => arg 2; whnf
  have c0 := HB3.out.c0
  have c1 := HB3.out.c1
  have c2 := HB3.out.c2
  have z1 := HB3.out.lt
  by_cases hP0 : P = []
  · obtain rfl : c125 = false := by
      cases c125
      · rfl
      · have := h125.1 rfl
        rw [strOf_size, placed_len, hP0] at this
        simp at this
    clear hP0 h125
    go_wp2
    exact ⟨false, rfl, fun h => (by cases h), Ext.refl _⟩
  · obtain rfl : c125 = true := by
      rw [h125, strOf_size, placed_len]
      exact List.length_pos_iff.2 hP0
    have hr := fun bv hv w hb hh => reads_ok bv hv (oneBook b a (strOf (placed ls P))) (Hserr.out P HP.out hP0 hP5) 0 (by show 0 < 1; omega) Sd Herr.out w hb hh
    have HP0 := Lib.hid hP0
    have hTz : (strOf (placed ls P)).size ≤ 9223372036854775807 := by rw [strOf_size, placed_len]; omega
    clear hP0 h125
    go_wp2_with fail
    have xa2 : Ext R3 ((R3.alloc (.cells #[.int .i64 b.sounds, .slice (some ⟨ab, ao, none⟩) b.alphabets.length bc, .slice (some ⟨R3.heap.size + 1, 0, none⟩) 1 1] 25)).alloc (.cells #[.int .i64 a, .string (strOf (placed ls P))] 42)) := (ext_alloc _ _).alloc _
    refine (hr _ _ _ (one_at HB3.out.at_ xa2 (by simp [go_sem]) (by simp [go_sem]) (by unfold I64; omega) hTz) (HSI.out.ext xa2)).mono ?_
    rintro e w5 ⟨rfl, h5⟩
    have x6 := xa2.trans h5
    have hcn : (getT Sd (canM (oneBook b a (strOf (placed ls P))) [0])).isSome = true → Can (b.sounds.toNat + 1) (placedL ls P) [] Sd := fun h => by
      have := reads_can.1 h
      rw [Hslet.out P HP.out] at this
      exact this
    generalize (getT Sd (canM (oneBook b a (strOf (placed ls P))) [0])).isSome = cn at *
    clear h5 xa2 hr
    go_wp2
    exact ⟨cn, rfl, fun h => ⟨HP0.out, hcn h⟩, x6⟩
end Go.Proofs.Ytoifmphpeflliaa

namespace Go.Proofs.Ytoifmphpeflliaa
open Go.RowKit
set_option linter.unusedVariables false

def SptB4 (Qs : List Nat) (R : World) (v : Value) (wc : World) : Prop := IntsAt wc v (ints Qs) ∧ Ext R wc
set_option maxRecDepth 100000 in
set_option maxHeartbeats 4000000 in
theorem spelt_b4 {u0 u1 u2 u3 u4 u5 u6 u7 u8 u9 u11 u12 u13 u14 u15 u16 u18 u19 u20 u21 u22 u23 u24 u25 u28 u29 u30 u31 u32 u33 u34 u35 u36 u37 u38 u39 u40 u41 u42 u43 u44 u45 u46 u47 u48 u49 u50 u51 u52 u53 u54 u55 u56 u57 u58 u59 u60 u61 u62 u63 u64 u65 u66 u67 u68 u69 u70 u71 u72 u73 u74 u75 u76 u77 u78 u79 u80 u81 u82 u83 u84 u85 u86 u87 u88 u89 u90 u91 u92 u93 u94 u95 u96 u97 u98 u99 u100 u101 u102 u103 u104 u105 u106 u107 u108 u109 u110 u111 u112 u113 u114 u115 u116 u117 u118 u119 u120 u121 u122 u123 u124 u125 u126 u127 u128 u129 u130 u131 u132 u133 u134 u135 u136 u137 u138 u139 u140 u141 u142 u143 u144 u145 u146 u147 u148 u149 u150 u151 u152 u153 u154 u155 u156 u157 u158 u159 u160 u161 u162 u163 u164 u165 u166 u167 u168 u169 u170 u171 u172 u173 u174 u175 u176 u177 u178 u179 u180 u181 u182 u183 u184 u185 u186 u187 u188 u189 u190 u191 u192 u193 u194 u195 u196 u197 u198 u199 u200 u201 u202 u203 u204 u205 u206 u207 u208 u209 u210 u211 u212 u213 : Value} {la : Option Addr} {lc : Nat} {ls : List Letter} {T : List Int} {Q : List Nat} {R7 : World} (HTU : Hid (∀ c ∈ T, U8 c)) (hTl5 : T.length ≤ 5) (hlv3 : LettersAt R7 (.slice la ls.length lc) ls) (hls6 : 1 ≤ ls.length ∧ ls.length ≤ 6) (Hown : Hid (ownTo ls T T.length = Q)) (hTz2 : (strOf T).size = T.length) (HQI : Hid (∀ m ∈ ints Q, I64 m)) (QQ : Exit → Act → World → Prop)
    (hQ : ∀ (v26 v27 v28 v171 v172 v173 v174 v175 v176 v177 v178 v179 v180 v181 v182 v183 v184 v185 v186 v187 v188 v189 v190 v191 v192 v193 v194 v195 : Value) (wc : World), SptB4 Q R7 v26 wc → QQ .normal ⟨#[u0, u1, u2, u3, u4, u5, u6, u7, u8, u9, .slice la ls.length lc, u11, u12, u13, u14, u15, u16, .string (strOf T), u18, u19, u20, u21, u22, u23, u24, u25, v26, v27, v28, u29, u30, u31, u32, u33, u34, u35, u36, u37, u38, u39, u40, u41, u42, u43, u44, u45, u46, u47, u48, u49, u50, u51, u52, u53, u54, u55, u56, u57, u58, u59, u60, u61, u62, u63, u64, u65, u66, u67, u68, u69, u70, u71, u72, u73, u74, u75, u76, u77, u78, u79, u80, u81, u82, u83, u84, u85, u86, u87, u88, u89, u90, u91, u92, u93, u94, u95, u96, u97, u98, u99, u100, u101, u102, u103, u104, u105, u106, u107, u108, u109, u110, u111, u112, u113, u114, u115, u116, u117, u118, u119, u120, u121, u122, u123, u124, u125, u126, u127, u128, u129, u130, u131, u132, u133, u134, u135, u136, u137, u138, u139, u140, u141, u142, u143, u144, u145, u146, u147, u148, u149, u150, u151, u152, u153, u154, u155, u156, u157, u158, u159, u160, u161, u162, u163, u164, u165, u166, u167, u168, u169, u170, v171, v172, v173, v174, v175, v176, v177, v178, v179, v180, v181, v182, v183, v184, v185, v186, v187, v188, v189, v190, v191, v192, v193, v194, v195, u196, u197, u198, u199, u200, u201, u202, u203, u204, u205, u206, u207, u208, u209, u210, u211, u212, u213], []⟩ wc) :
    Code.wp Try.prog (blockOf Try.f4 4) QQ ⟨#[u0, u1, u2, u3, u4, u5, u6, u7, u8, u9, .slice la ls.length lc, u11, u12, u13, u14, u15, u16, .string (strOf T), u18, u19, u20, u21, u22, u23, u24, u25, .slice none 0 0, .int .i64 0, u28, u29, u30, u31, u32, u33, u34, u35, u36, u37, u38, u39, u40, u41, u42, u43, u44, u45, u46, u47, u48, u49, u50, u51, u52, u53, u54, u55, u56, u57, u58, u59, u60, u61, u62, u63, u64, u65, u66, u67, u68, u69, u70, u71, u72, u73, u74, u75, u76, u77, u78, u79, u80, u81, u82, u83, u84, u85, u86, u87, u88, u89, u90, u91, u92, u93, u94, u95, u96, u97, u98, u99, u100, u101, u102, u103, u104, u105, u106, u107, u108, u109, u110, u111, u112, u113, u114, u115, u116, u117, u118, u119, u120, u121, u122, u123, u124, u125, u126, u127, u128, u129, u130, u131, u132, u133, u134, u135, u136, u137, u138, u139, u140, u141, u142, u143, u144, u145, u146, u147, u148, u149, u150, u151, u152, u153, u154, u155, u156, u157, u158, u159, u160, u161, u162, u163, u164, u165, u166, u167, u168, u169, u170, u171, u172, u173, u174, u175, u176, u177, u178, u179, u180, u181, u182, u183, u184, u185, u186, u187, u188, u189, u190, u191, u192, u193, u194, u195, u196, u197, u198, u199, u200, u201, u202, u203, u204, u205, u206, u207, u208, u209, u210, u211, u212, u213], []⟩ R7 := by
  conv => arg 2; whnf
  obtain ⟨i0, hi, hz0, hz1, hz2⟩ := info_parts infoInt
  go_wp2
  go_loopw [26, 27] (fun v i wr => ∃ j : Nat, j ≤ T.length ∧ i = .int .i64 j ∧ RowI R7.heap.size (ints (ownTo ls T j)) v wr ∧ Ext R7 wr) (fun _ i _ => T.length - (intOf i).toNat)
  case atStart => exact ⟨0, Nat.zero_le _, rfl, World.ownsRow_nil _ _ _ _, Ext.refl _⟩
  case round =>
    obtain ⟨j, hj, rfl, hown, hxr⟩ := hrel
    obtain ⟨R8, hR8⟩ : ∃ R8 : World, R8 = wr := ⟨_, rfl⟩
    subst hR8
    by_cases hlt : j < T.length
    · have k6 : (j : Int) < ((strOf T).size : Int) := by omega
      have k7 : j < (strOf T).size := by omega
      have hbe := byteAt_eq (strOf T) j k7
      rw [byteAt_strOf hlt HTU.out] at hbe
      have hst := ownTo_succ ls T j hlt
      have hol := ownTo_len ls T j
      have hjl : j * ls.length ≤ 4 * 6 := Nat.mul_le_mul (by omega) (by omega)
      generalize T[j] = c at *
      generalize ownTo ls T j = own at *
      have Hbe := Lib.hid hbe
      have Hst := Lib.hid hst
      clear hbe hst
      go_wp2
      go_loopw [26, 28] (fun v i w2 => ∃ k : Nat, k ≤ ls.length ∧ i = .int .i64 k ∧ RowI R7.heap.size (ints (own ++ atTo ls c k)) v w2 ∧ Ext R7 w2) (fun _ i _ => ls.length - (intOf i).toNat)
      case atStart => exact ⟨0, Nat.zero_le _, rfl, by simpa [atTo] using hown, hxr⟩
      case round =>
        obtain ⟨k, hk, rfl, hown2, hx2⟩ := hrel
        by_cases hkl : k < ls.length
        · have k8 : (k : Int) < (ls.length : Int) := by omega
          have hl2 := hlv3.ext hx2
          obtain ⟨_, _, hea, -, -, hq⟩ := hl2
          obtain ⟨lb, lo, rfl, l0, l1, l2, lU, lI⟩ := hq k hkl
          have hea1 := (Value.slice.inj hea).1
          subst hea1
          clear hea hq
          have hyes := atTo_yes ls c k hkl
          have hno := atTo_no ls c k hkl
          have hal := atTo_len ls c k
          have hoo : (ints (own ++ atTo ls c k)).length ≤ 100 := by
            have : (ints (own ++ atTo ls c k)).length = own.length + (atTo ls c k).length := by simp [ints]
            omega
          generalize ls[k] = y at *
          have hbr := Hbe.out.symm
          have HlV3 := Lib.hid hlv3
          have Hyes := Lib.hid hyes
          have Hno := Lib.hid hno
          clear hyes hno hlv3
          go_wp2_with fail
          apply Facts.wp_region [.val _, .val _, .val _, .val _, .val _, .val _, .val _, .val _, .val _] (by kernel_rfl) (by kernel_rfl) trivial ?main
          case main =>
            iterate 9 (refine ⟨fun w1 hx hh => ?_, ?_⟩; focus (clear hh; have e0 := hx.cell l0; go_simp; exact ⟨Ext.refl _, rfl⟩))
            intro w9 hx9 hh
            clear hh
            have hx3 := hx2.trans hx9
            replace hown2 := RowI.ext hown2 hx9
            clear l0 l1 l2 hx9 hx2
            cases hyc : (y.c == c)
            · have Hs2 := Lib.hid (Hno.out hyc)
              go_simp
              go_wp2
              go_roundw
              case rel => exact ⟨k + 1, by omega, by go_num, by rw [Hs2.out]; exact hown2, hx3⟩
              case measure => simp [intOf]; omega
            · have Hs2 := Lib.hid (Hyes.out hyc)
              clear hyc Hyes Hno
              have Hown2 := Lib.hid hown2
              have hsz9 := hx3.size
              have Hcur : Hid (ints (own ++ atTo ls c (k + 1)) = ints (own ++ atTo ls c k) ++ [(k : Int)]) := Lib.hid (by rw [Hs2.out]; simp [ints])
              generalize ints (own ++ atTo ls c k) = cur at *
              clear hown2
              go_simp
              go_wp2_with ((at_builtin; refine wpList_append_own _ rfl _ _ 26 rfl R7.heap.size 3 i0 (.int .i64 0) 1 8 Try.underlying26 hi hz0 hz1 hz2 rfl (by decide) _ _ _ rfl (World.ownsRow.alloc Hown2.out _) ⟨w9.heap.size, 0, none⟩ 1 1 [.int .i64 k] rfl rfl (cell_one_new _ _ _) (by simp [Value.oneCell']) (by unfold maxLen; omega) (by omega) (by simp; omega) ?_; intro v' w2' hown' hgrow _))
              have hx5 : Ext R7 w2' := Ext.grown (hx3.alloc _) hgrow fun k hk => (World.ownsRow.lt Hown2.out k hk).1
              go_roundw
              case rel => exact ⟨k + 1, by omega, by go_num, by rw [Hcur.out]; unfold RowI; rw [List.length_append, List.map_append]; exact hown', hx5⟩
              case measure => simp [intOf]; omega
        · obtain rfl : k = ls.length := by omega
          go_wp2
          go_roundw
          case rel => exact ⟨j + 1, by omega, by go_num, by rw [Hst.out]; exact hown2, hx2⟩
          case measure => simp [intOf]; omega
    · obtain rfl : j = T.length := by omega
      rw [Hown.out] at hown
      have hI := IntsAt.of_own hown HQI.out
      clear hown
      go_wp2
      exact ⟨hI, hxr⟩
end Go.Proofs.Ytoifmphpeflliaa

namespace Go.Proofs.Ytoifmphpeflliaa
open Go.RowKit
set_option linter.unusedVariables false

set_option maxRecDepth 100000 in
set_option maxHeartbeats 4000000 in
theorem spelt_law (ba bs : Option Addr) (bc bd : Nat) (b : Book) (which : Nat) (hw : which ≤ 255) (hv xv : Value) (hd x : List Int) (w : World) (hb : BookAt w (.agg #[.int .i64 b.sounds, .slice ba b.alphabets.length bc, .slice bs b.spellings.length bd]) b) (hh : BytesAt w hv hd) (hx : BytesAt w xv x) :
    Calls Try.prog 4 #[.agg #[.int .i64 b.sounds, .slice ba b.alphabets.length bc, .slice bs b.spellings.length bd, .int .u8 which, hv, xv]] w fun e w' => e = .returned (.bool true) ∧ Ext w w' := by
  obtain ⟨ha, hc, rfl, -⟩ := hh.shape
  obtain ⟨xa, xc, rfl, -⟩ := hx.shape
  have aw := fun w => awake_any w
  go_enter Try.func4, Try.ntmps4
  go_wp2_with fail
  go_region
  have hB : Boxed (((w.alloc (.cells #[.int .i64 b.sounds, .slice ba b.alphabets.length bc, .slice bs b.spellings.length bd, .int .u8 which, .slice ha hd.length hc, .slice xa x.length xc] 34)).alloc (.cells #[.int .i64 b.sounds, .slice ba b.alphabets.length bc, .slice bs b.spellings.length bd] 25)).drew) (w.heap.size + 1) b ba bc bs bd := ⟨by simp [go_sem], by simp [go_sem], by simp [go_sem], hb.ext (((ext_alloc _ _).alloc _).drew)⟩
  have hx1 : Ext w (((w.alloc (.cells #[.int .i64 b.sounds, .slice ba b.alphabets.length bc, .slice bs b.spellings.length bd, .int .u8 which, .slice ha hd.length hc, .slice xa x.length xc] 34)).alloc (.cells #[.int .i64 b.sounds, .slice ba b.alphabets.length bc, .slice bs b.spellings.length bd] 25)).drew) := ((ext_alloc _ _).alloc _).drew
  generalize hO : w.heap.size + 1 = O at *
  generalize (((w.alloc (.cells #[.int .i64 b.sounds, .slice ba b.alphabets.length bc, .slice bs b.spellings.length bd, .int .u8 which, .slice ha hd.length hc, .slice xa x.length xc] 34)).alloc (.cells #[.int .i64 b.sounds, .slice ba b.alphabets.length bc, .slice bs b.spellings.length bd] 25)).drew) = W at *
  replace hh := hh.ext hx1
  replace hx := hx.ext hx1
  clear hO
  have c0 := hB.c0
  have c1 := hB.c1
  have c2 := hB.c2
  have z1 := hB.lt
  have halp : AlphabetsAt w (.slice ba b.alphabets.length bc) b.alphabets := by
    obtain ⟨_, _, e, -, h, -⟩ := hb
    simp only [Value.agg.injEq, Array.mk.injEq, List.cons.injEq, and_true, true_and] at e
    rw [e.1]; exact h
  clear hb
  go_wp2_with fail
  refine (valid_any _ b _ hB.at_).mono ?_
  rintro e w1 ⟨rfl, h1⟩
  have x1 := hx1.trans h1
  (replace hB := hB.ext h1; replace c0 := hB.c0; replace c1 := hB.c1; replace c2 := hB.c2; replace z1 := hB.lt)
  replace hh := hh.ext h1
  replace hx := hx.ext h1
  clear h1
  by_cases he : errM b = 0
  rotate_left
  · have hs := spell_any (.agg #[.int .i64 b.sounds, .slice ba b.alphabets.length bc, .slice bs b.spellings.length bd]) (.slice none 0 0) b 0 (by unfold I64; omega) [] w1 hB.at_ SliceAt.nil
    have hsm : spellM b 0 [] = (⟨#[]⟩, errM b) := by unfold spellM; rw [if_pos he]
    rw [hsm] at hs
    have he' : (errM b != 0) = true := by simpa using he
    have hev : (errM b == 0) = false := by simpa using he
    rw [hev]
    generalize errM b = er at *
    clear hsm he hev
    go_wp2_with fail
    refine hs.mono ?_
    rintro e w2 ⟨rfl, h2⟩
    replace x1 := x1.trans h2
    clear h2 hs hh hx halp hB c0 c1 c2 z1
    go_wp2_with fail
    refine (aw _).mono ?_
    rintro e w8 ⟨rfl, h8⟩
    have x8 := x1.trans h8
    go_wp2
    go_ret
    exact ⟨rfl, x8⟩
  have hv := valid_of he
  have hev : (errM b == 0) = true := by simpa using he
  rw [hev]
  have hS := hv.s
  have ha3 := hv.a
  have t0 := mod_small which b.alphabets.length
  have hai : which % b.alphabets.length < b.alphabets.length := Nat.mod_lt _ (by omega)
  generalize which % b.alphabets.length = a at *
  have wx : IntKind.i64.wrap (which : Int) = which := IntWalk.i64_in _ (by omega)
  have wa : IntKind.i64.wrap (a : Int) = a := IntWalk.i64_in _ (by omega)
  have nz : ((b.alphabets.length : Int) == 0) = false := by rw [beq_eq_false_iff_ne]; omega
  have k1 : (a : Int) < (b.alphabets.length : Int) := by omega
  have hls := halp.ext x1
  obtain ⟨_, _, hea, -, -, hq⟩ := hls
  obtain ⟨ab, ao, rfl, -, -, lv, a1, hlv⟩ := hq a hai
  have hea1 := (Value.slice.inj hea).1
  subst hea1
  clear hea hq halp
  have hal := hv.al a hai
  have hls6 := hal.1.l
  have hap := apart_of hal.1
  have hlet : ∀ x ∈ (b.alphabets[a]).letters, 97 ≤ x.c ∧ x.c ≤ 122 ∧ 0 ≤ x.sounds ∧ x.sounds ≤ 15 := fun x hx => by
    obtain ⟨j, hj, rfl⟩ := List.getElem_of_mem hx
    have g := (hal.1.fine j hj).1
    have g1 := g.c
    have g2 := g.s
    have g3 := mask_le hS
    omega
  have hspm : ∀ l, heardErrM b.sounds l = 0 → spellM b a l = (strOf (shortS (b.alphabets[a]).letters (wantedM l)), shortE (b.alphabets[a]).letters (wantedM l)) := fun l hl => spellM_ok hai he hl
  have hserr : ∀ P : List Nat, (∀ n ∈ P, n < (b.alphabets[a]).letters.length) → P ≠ [] → P.length ≤ 5 → errM (oneBook b a (strOf (placed (b.alphabets[a]).letters P))) = 0 := fun P h1 h2 h3 => spelt_err he hai h1 h2 h3
  have hslet : ∀ P : List Nat, (∀ n ∈ P, n < (b.alphabets[a]).letters.length) → lettersAt (oneBook b a (strOf (placed (b.alphabets[a]).letters P))) 0 = placedL (b.alphabets[a]).letters P := fun P h1 => spelt_letters he hai h1
  generalize (b.alphabets[a]).letters = ls at *
  obtain ⟨la, lc, rfl, -⟩ := hlv.shape
  have z2 := cell_lt a1
  have Hap := Lib.hid hap
  have Hlet := Lib.hid hlet
  have Hspm := Lib.hid hspm
  have Hserr := Lib.hid hserr
  have Hslet := Lib.hid hslet
  have He := Lib.hid he
  clear hap hlet hspm hserr hslet he hal hv hev
  go_upto_block 0 with fail
  obtain ⟨R, hR⟩ : ∃ R : World, R = w1 := ⟨_, rfl⟩
  subst hR
  refine spelt_b0 hB hh hS _ ?_
  intro v11 v12 v62 v63 v64 v65 v66 v67 v68 v69 v70 v71 v72 v73 v74 v75 v76 v77 v78 v79 v80 v81 v82 wc hcut
  focus
    obtain ⟨Sd, hSI, herr, hsd, hxr⟩ := hcut
    have Herr := Lib.hid herr
    have Hsd := Lib.hid hsd
    have x2 := x1.trans hxr
    replace hB := hB.ext hxr
    replace hlv := hlv.ext hxr
    replace hx := hx.ext hxr
    obtain ⟨sa, sc, rfl, -⟩ := hSI.shape
    have HB := Lib.hid hB
    clear hsd herr hh hxr x1 wx wa nz k1 t0 a1 z2 c0 c1 c2 z1 hB
    go_upto_block 2 with fail
    obtain ⟨R2, hR2⟩ : ∃ R2 : World, R2 = wc := ⟨_, rfl⟩
    subst hR2
    refine spelt_b2 hx hlv hls6 Hlet _ ?_
    intro v13 v14 v15 v16 v83 v84 v85 v86 v87 v88 v89 v90 v91 v92 v93 v94 v95 v96 v97 v98 v99 v100 v101 v102 v103 v104 v105 v106 v107 v108 v109 v110 v111 v112 v113 v114 v115 wc hcut
    focus
      obtain ⟨P, hP, hP5, rfl, hPI, hxq⟩ := hcut
      have x3 := x2.trans hxq
      have hSI3 := hSI.ext hxq
      have hlv3 := hlv.ext hxq
      have hB := HB.out.ext hxq
      have c0 := hB.c0
      have c1 := hB.c1
      have c2 := hB.c2
      have z1 := hB.lt
      have hsp := spell_any (.agg #[.int .i64 b.sounds, .slice (some ⟨ab, ao, none⟩) b.alphabets.length bc, .slice bs b.spellings.length bd]) (.slice sa Sd.length sc) b a (by unfold I64; omega) Sd wc hB.at_ hSI3
      rw [Hspm.out Sd Herr.out] at hsp
      have hSc := shortE_cases ls (wantedM Sd)
      have hSp := short_placed (ls := ls) (l := wantedM Sd)
      have HSc := Lib.hid hSc
      have HSp := Lib.hid hSp
      have HP := Lib.hid hP
      clear hSc hSp hP x2 hSI hlv hx hxq
      go_wp2_with fail
      refine hsp.mono ?_
      rintro e w2 ⟨rfl, h2⟩
      have x4 := x3.trans h2
      replace hB := hB.ext h2
      replace hSI3 := hSI3.ext h2
      replace hlv3 := hlv3.ext h2
      replace hPI := hPI.ext h2
      obtain ⟨R3, hR3⟩ : ∃ R3 : World, R3 = w2 := ⟨_, rfl⟩
      subst hR3
      have c0 := hB.c0
      have c1 := hB.c1
      have c2 := hB.c2
      have z1 := hB.lt
      have HSI := Lib.hid hSI3
      have HlV := Lib.hid hlv3
      have HPI := Lib.hid hPI
      have HB3 := Lib.hid hB
      clear hsp h2 x3 hSI3 hlv3 hPI hB
      go_upto_if 125 with fail
      refine spelt_if (by simp) HB3 HSI Herr Hserr Hslet HP hP5 hai ha3 _ ?_
      intro v19 v20 v21 v22 v125 v126 v127 v128 v129 v130 v131 v132 v133 v134 v135 v136 v137 v138 v139 v140 wc hcut
      focus
        obtain ⟨can, rfl, hcan, hx4⟩ := hcut
        have x5 := x4.trans hx4
        replace hSI3 := HSI.out.ext hx4
        replace hlv3 := HlV.out.ext hx4
        replace hPI := HPI.out.ext hx4
        have hB := HB3.out.ext hx4
        have c0 := hB.c0
        have c1 := hB.c1
        have c2 := hB.c2
        have z1 := hB.lt
        rcases HSc.out with ⟨hE, hall⟩ | ⟨hE, hSz⟩
        rotate_left
        · have hcf : can = false := by
            cases can
            · rfl
            · obtain ⟨g1, g2⟩ := hcan rfl
              have g3 := (spelt_least HP.out g1 g2).1
              have g4 := shortE_yes ls (wantedM Sd) fun j hj => g3 _ (List.getElem_mem hj)
              rw [g4.1] at hE; cases hE
          subst hcf
          have hS0 : strOf (shortS ls (wantedM Sd)) = { data := #[] } := by rw [hSz]; rfl
          rw [hE, hS0]
          clear hcan hSI3 hlv3 hPI hB c0 c1 c2 z1 hE hSz
          go_wp2_with fail
          refine (aw _).mono ?_
          rintro e w8 ⟨rfl, h8⟩
          have x8 := x5.trans h8
          go_wp2
          go_ret
          exact ⟨rfl, x8⟩
        obtain ⟨hT, hQ⟩ := HSp.out hall
        have hW0 : wantedM Sd ≠ [] := by
          unfold wantedM
          split
          · simp
          · assumption
        have hW5 : (wantedM Sd).length ≤ 5 := by
          have h5 : Sd.length ≤ 5 := by
            have := Herr.out
            unfold heardErrM at this
            split at this
            · cases this
            · omega
          unfold wantedM
          split
          · simp
          · exact h5
        have hcan2 := spelt_can (K := b.sounds.toNat + 1) (ls := ls) (S := Sd) (fun s hs => by have := Hsd.out s hs; omega) hall (by omega)
        have hfew : can = true → fewerM (ints P) (ints ((wantedM Sd).map (idxG ls))) = false := fun h => by
          obtain ⟨g1, g2⟩ := hcan h
          exact (spelt_least HP.out g1 g2).2
        have hQl : ((wantedM Sd).map (idxG ls)).length = (wantedM Sd).length := by simp
        have hQ0 : (wantedM Sd).map (idxG ls) ≠ [] := by simpa using hW0
        rw [hE, hT]
        generalize (wantedM Sd).map (idxG ls) = Q at *
        have hQ5 : Q.length ≤ 5 := by omega
        have hqe := Hserr.out Q hQ hQ0 hQ5
        have hqr := fun bv hv w hb hh => reads_ok bv hv (oneBook b a (strOf (placed ls Q))) hqe 0 (by show 0 < 1; omega) Sd Herr.out w hb hh
        have hqv := fun bv w hb => valid_any bv (oneBook b a (strOf (placed ls Q))) w hb
        rw [hqe] at hqv
        have hown := ownTo_placed Hap.out hQ
        have hTl := placed_len ls Q
        have hTU := placed_U8 (P := Q) (fun x hx => by have := Hlet.out x hx; unfold U8; omega) hQ
        have hqt : (getT Sd (canM (oneBook b a (strOf (placed ls Q))) [0])).isSome = true := by
          rw [reads_can, Hslet.out Q hQ]
          exact hcan2
        rw [hqt] at hqr
        have hTz : (strOf (placed ls Q)).size ≤ 9223372036854775807 := by rw [strOf_size]; omega
        have Hfew := Lib.hid hfew
        have Hown := Lib.hid hown
        have HTU := Lib.hid hTU
        have HTl := Lib.hid hTl
        have HQ5 := Lib.hid hQ5
        have HQlt := Lib.hid hQ
        clear hall hW0 hW5 hQl hQ0 hE hT hcan hcan2 hqt hfew hown hTU hTl hQ5 hQ
        go_wp2_with fail
        have xa2 : Ext wc ((wc.alloc (.cells #[.int .i64 b.sounds, .slice (some ⟨ab, ao, none⟩) b.alphabets.length bc, .slice (some ⟨wc.heap.size + 1, 0, none⟩) 1 1] 25)).alloc (.cells #[.int .i64 a, .string (strOf (placed ls Q))] 42)) := (ext_alloc _ _).alloc _
        have hb2 := one_at hB.at_ xa2 (B := wc.heap.size + 1) (a := a) (t := strOf (placed ls Q)) (by simp [go_sem]) (by simp [go_sem]) (by unfold I64; omega) hTz
        have q0 : ((wc.alloc (.cells #[.int .i64 b.sounds, .slice (some ⟨ab, ao, none⟩) b.alphabets.length bc, .slice (some ⟨wc.heap.size + 1, 0, none⟩) 1 1] 25)).alloc (.cells #[.int .i64 a, .string (strOf (placed ls Q))] 42)).cell? ⟨wc.heap.size, 0, none⟩ = some (.int .i64 b.sounds) := by simp [go_sem]
        have q1 : ((wc.alloc (.cells #[.int .i64 b.sounds, .slice (some ⟨ab, ao, none⟩) b.alphabets.length bc, .slice (some ⟨wc.heap.size + 1, 0, none⟩) 1 1] 25)).alloc (.cells #[.int .i64 a, .string (strOf (placed ls Q))] 42)).cell? ⟨wc.heap.size, 1, none⟩ = some (.slice (some ⟨ab, ao, none⟩) b.alphabets.length bc) := by simp [go_sem]
        have q2 : ((wc.alloc (.cells #[.int .i64 b.sounds, .slice (some ⟨ab, ao, none⟩) b.alphabets.length bc, .slice (some ⟨wc.heap.size + 1, 0, none⟩) 1 1] 25)).alloc (.cells #[.int .i64 a, .string (strOf (placed ls Q))] 42)).cell? ⟨wc.heap.size, 2, none⟩ = some (.slice (some ⟨wc.heap.size + 1, 0, none⟩) 1 1) := by simp [go_sem]
        generalize ((wc.alloc (.cells #[.int .i64 b.sounds, .slice (some ⟨ab, ao, none⟩) b.alphabets.length bc, .slice (some ⟨wc.heap.size + 1, 0, none⟩) 1 1] 25)).alloc (.cells #[.int .i64 a, .string (strOf (placed ls Q))] 42)) = W5 at *
        refine (hqv _ _ hb2).mono ?_
        rintro e w6 ⟨rfl, h6⟩
        rw [show ((0 : Int) == 0) = true from rfl]
        replace xa2 := xa2.trans h6
        replace hb2 := hb2.ext h6
        replace q0 := h6.cell q0
        replace q1 := h6.cell q1
        replace q2 := h6.cell q2
        have zq := cell_lt q0
        clear h6 hqv hB c0 c1 c2 z1
        go_wp2_with fail
        refine (hqr _ _ _ hb2 (hSI3.ext xa2)).mono ?_
        rintro e w7 ⟨rfl, h7⟩
        replace xa2 := xa2.trans h7
        have x6 := x5.trans xa2
        replace hPI := hPI.ext xa2
        replace hlv3 := hlv3.ext xa2
        clear h7 hqr hb2 q0 q1 q2 zq xa2 x5 hSI3
        obtain ⟨R7, hR7⟩ : ∃ R7 : World, R7 = w7 := ⟨_, rfl⟩
        subst hR7
        generalize placed ls Q = T at *
        have hTz2 : (strOf T).size = T.length := strOf_size T
        have hfe := fun v u w hl hm => fewer_any v u (ints P) (ints Q) w hl hm
        have hTl5 : T.length ≤ 5 := by have := HTl.out; have := HQ5.out; omega
        have hQI : ∀ m ∈ ints Q, I64 m := ints_I64 fun m hm => by
          have := HQlt.out m hm
          omega
        have HQI := Lib.hid hQI
        have Hfe := Lib.hid hfe
        have HPI7 := Lib.hid hPI
        clear hQI hfe hPI hqe HSp
        go_upto_block 4 with fail
        refine spelt_b4 HTU hTl5 hlv3 hls6 Hown hTz2 HQI _ ?_
        intro v26 v27 v28 v171 v172 v173 v174 v175 v176 v177 v178 v179 v180 v181 v182 v183 v184 v185 v186 v187 v188 v189 v190 v191 v192 v193 v194 v195 wf hcut
        obtain ⟨hOI, hxf⟩ := hcut
        have x7 := x6.trans hxf
        have hPf := HPI7.out.ext hxf
        have hfew2 := Hfew.out
        clear x6 hxf hlv3
        cases can
        · clear hfew2 Hfe hPf hOI
          go_wp2_with fail
          refine (aw _).mono ?_
          rintro e w8 ⟨rfl, h8⟩
          have x8 := x7.trans h8
          clear h8
          go_wp2
          go_ret
          exact ⟨rfl, x8⟩
        · have hff := hfew2 rfl
          clear hfew2
          have hfe := Hfe.out
          rw [hff] at hfe
          obtain ⟨pa, pc, rfl, -⟩ := hPf.shape
          obtain ⟨oa, oc, rfl, -⟩ := hOI.shape
          go_wp2_with fail
          refine (hfe _ _ _ hPf hOI).mono ?_
          rintro e w9 ⟨rfl, h9⟩
          replace x7 := x7.trans h9
          clear h9 hfe hPf hOI
          go_wp2_with fail
          refine (aw _).mono ?_
          rintro e w8 ⟨rfl, h8⟩
          have x8 := x7.trans h8
          clear h8
          go_wp2
          go_ret
          exact ⟨rfl, x8⟩
end Go.Proofs.Ytoifmphpeflliaa

namespace Go.Proofs.Ytoifmphpeflliaa
open Go.ChangeShapes Go.WideShapes Go.RowKit
set_option maxRecDepth 100000
section
variable {H : Type} {enc : TypeId × Value → H} {w : World} {base : Nat} {sp : Nat → Bool} {held : Bool}
theorem six_of {cs : List Value} (h : cs.length = 6) : ∃ a b c d e f, cs = [a, b, c, d, e, f] := by
  match cs, h with
  | [a, b, c, d, e, f], _ => exact ⟨a, b, c, d, e, f, rfl⟩
theorem bytes_in {fuel : Nat} {v : Value} {x : DataW H × List MemPlace} (h : DataW.trod enc Try.prog w base sp held fuel 32 [v] = some x) : ∃ l, BytesAt w v l :=
  slice_of Try.underlying32 cellsU8 (by decide) (fun n cs y hy => by
    obtain ⟨x, rfl, -, wx⟩ := DataW.trod_int Try.underlying5 hy
    exact ⟨x, fun b o hc => ⟨by simpa using hc 0 (by decide), wf_u8 wx⟩⟩) h
theorem cellsSpelt : Try.prog.cellsOf 34 = 6 := by kernel_rfl
theorem spelt_of {r : Reach} {b0 : Nat} {v : Value} {d : DataW H} {ps : List MemPlace} (hval : Value.okWide Try.prog w r b0 34 v) (hd : DataW.Trod enc Try.prog w base sp held 34 v d ps) :
    ∃ (b : Book) (ba bs : Option Addr) (bc bd which : Nat) (hv xv : Value) (l x : List Int), v = .agg #[.int .i64 b.sounds, .slice ba b.alphabets.length bc, .slice bs b.spellings.length bd, .int .u8 which, hv, xv] ∧ which ≤ 255 ∧
      BookAt w (.agg #[.int .i64 b.sounds, .slice ba b.alphabets.length bc, .slice bs b.spellings.length bd]) b ∧ BytesAt w hv l ∧ BytesAt w xv x := by
  simp only [Value.okWide, Try.underlying34] at hval
  obtain ⟨cs, rfl, -, -⟩ := hval
  obtain ⟨fuel, h⟩ := hd
  simp only [Value.cells] at h
  obtain ⟨y0, y1, y2, y3, m, -, hl, h0, h1, h2, h3⟩ := Joins.trod_struct4 Try.underlying34 h
  rw [cellsSpelt] at hl
  obtain ⟨cs⟩ := cs
  obtain ⟨c0, c1, c2, c3, c4, c5, rfl⟩ := six_of hl
  simp only [cellsBook, cellsU8, cellsBytes, List.drop_zero, List.drop_succ_cons, List.take_succ_cons, List.take_zero] at h0 h1 h2 h3
  obtain ⟨z0, z1, z2, m', -, -, k0, k1, k2⟩ := Deep.trod_struct3 Try.underlying25 h0
  simp only [cellsInt, cellsAlphabets, cellsSpellings, List.drop_zero, List.drop_succ_cons, List.take_succ_cons, List.take_zero] at k0 k1 k2
  obtain ⟨a, ea, -, wa⟩ := DataW.trod_int Try.underlying3 k0
  obtain ⟨al, hal⟩ := alphabets_of k1
  obtain ⟨sl, hsl⟩ := spellings_of k2
  obtain ⟨n, en, -, wn⟩ := DataW.trod_int Try.underlying5 h1
  obtain ⟨l, hl1⟩ := bytes_in h2
  obtain ⟨x, hx1⟩ := bytes_in h3
  simp only [List.cons.injEq, and_true] at ea en
  subst ea en
  have hn := wf_u8 wn
  unfold U8 at hn
  obtain ⟨k, rfl⟩ : ∃ k : Nat, n = k := ⟨n.toNat, by omega⟩
  obtain ⟨ba, bc, rfl, -⟩ := hal.shape
  obtain ⟨bs, bd, rfl, -⟩ := hsl.shape
  exact ⟨⟨a, al, sl⟩, ba, bs, bc, bd, k, c4, c5, l, x, rfl, by omega, ⟨_, _, rfl, wf_i64 wa, hal, hsl⟩, hl1, hx1⟩
end
end Go.Proofs.Ytoifmphpeflliaa

namespace Go.Proofs.Ytoifmphpeflliaa.earSpelt
open Go.ChangeShapes Go.WideShapes Go.ChangeAt Go.RowKit
set_option linter.unusedVariables false

theorem own : ownKnob Try.prog.godebug = none := by kernel_rfl
theorem laid : laidOutB Try.prog = true := by kernel_rfl
theorem read0 : Try.prog.readableRec 34 = true := by kernel_rfl
theorem row0 : 34 < Try.prog.types.size := of_decide_eq_true (by kernel_rfl)

set_option maxRecDepth 100000 in
theorem lifted (os : Os) (started : os.Started) (H : Type) (enc : TypeId × Value → H) :
    ReturnsInHanded {} Try.checked os 4 .any (Rows.earSpeltSpec.pre6 enc Try.prog Try.f4 Rows.earSpeltRow.domain false) (Rows.earSpeltSpec.post enc Try.prog Try.f4 false true false false) := by
  refine returnsInHanded_of_change (C := Try.checked) own started (by kernel_rfl) Try.func4
    (ChangeSpec.witness6 (enc := enc) (C := Try.checked) false ⟨#[], #[.agg #[.int .i64 0, .slice none 0 0, .slice none 0 0, .int .u8 0, .slice none 0 0, .slice none 0 0]], []⟩ 8 (by kernel_rfl) (by kernel_rfl) (by kernel_rfl) (by kernel_rfl)) ?_
  intro W base args ds gs before hval0 hW hcnd _
  have hval : ∀ (j : Nat) t v, Try.f4.params[j]? = some t → args[j]? = some v → Value.okWide Try.prog W .any base t v := hval0
  have hW' := hW
  obtain ⟨p, q, hA0, hV, rfl, hfz, hnd⟩ := hW
  have hA : DataW.TrodAll enc Try.prog W 0 (fun _ => true) true Try.f4.params.toList args.toList ds p := hA0
  rw [Try.params4] at hA hval
  obtain ⟨v0, vs0, d0, ds0, p0, q0, hargs0, rfl, rfl, h0, r0⟩ := trodAll_cons hA
  obtain ⟨rfl, rfl, rfl⟩ := trodAll_nil r0
  obtain rfl : args = #[v0] := by cases args; simp_all
  obtain ⟨rfl, rfl⟩ := trodVars_none hV
  obtain ⟨b, ba, bs, bc, bd, which, hv, xv, l, x, rfl, hw, hb, hl, hx⟩ := spelt_of (hval 0 34 v0 rfl rfl) h0
  clear hA0 hval0
  simp only [List.append_nil] at hW'
  refine (spelt_law ba bs bc bd b which hw hv xv l x W hb hl hx).mono fun e W' ⟨he, hg⟩ => ?_
  subst he
  have hlt := hW'.lt
  exact ⟨_, rfl, post_ext (pa := p0) (pv := []) hW' (fun _ _ _ => (trodAll_cons_mk (shut_bool Try.underlying4 _) trodAll_mk0))
    (fun sp hsp => by
      have g0 := Go.WideElems.Trod_stays (sp' := sp) laid read0 row0 h0 (W' := W') (fun p hp => same_of_ext hg (hlt p hp)) (fun p hp => hsp p hp)
      have := trodAll_cons_mk g0 (trodAll_mk0 (enc := enc) (P := Try.prog) (w := W') (base := 0) (spare := sp) (held := true))
      rw [List.append_nil] at this
      exact this) (fun _ _ => rfl) (by simp)
    hg (ok_one (by kernel_rfl) rfl (okWide_bool_mk Try.underlying4 _))⟩

theorem over : Rows.earSpeltRow.holds Try.pinned (OpenSpec.ofChange Rows.earSpeltSpec) :=
  OpenClaim.holds_of_wide 4 Try.f4 rfl rfl rfl rfl rfl rfl rfl ⟨rfl, rfl, rfl, rfl, rfl⟩ rfl rfl rfl rfl rfl (by kernel_rfl) Try.func4 (by kernel_rfl)
    (of_decide_eq_true (by kernel_rfl)) (by unfold Func.isWrapper; first | (rw [if_pos (by decide +kernel)]; kernel_rfl) | (rw [if_neg (by decide +kernel)]; exact ⟨rfl, rfl⟩))
    (fun os started H enc _ => lifted os started H enc)

/-- ████ THE STATEMENT ████ -/
theorem earSpelt_said : Rows.EarSpeltSaid :=
  over
end Go.Proofs.Ytoifmphpeflliaa.earSpelt
