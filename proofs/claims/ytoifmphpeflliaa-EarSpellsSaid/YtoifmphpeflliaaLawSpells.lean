/-
  EarSpells returns true for any book, any whole number and any list of whole numbers, and lets all of them be as they were. No condition.
-/
import Derived.Test.YtoifmphpeflliaaBunM
import Derived.Test.YtoifmphpeflliaaBunL
import Derived.Test.YtoifmphpeflliaaBunN
import Derived.Test.YtoifmphpeflliaaBunS
import Derived.Test.YtoifmphpeflliaaBunQ
import Derived.Test.YtoifmphpeflliaaBunO
namespace Go.Proofs.Ytoifmphpeflliaa
open Go.RowKit
set_option linter.unusedVariables false

theorem indices_zero {b : Book} {l : List Int} {n : Int} (h : indicesM b l n = 0) : errM b = 0 := by
  unfold indicesM at h
  split at h
  · exact h
  · rename_i h2; exact Classical.byContradiction h2
theorem find_at {α : Type} (p : α → Bool) (l : List α) (j : Nat) (hj : j < l.length) (h1 : ∀ j' (h : j' < j), p (l[j']'(by omega)) = false) (h2 : p l[j] = true) : l.find? p = some l[j] := by
  rw [List.find?_eq_some_iff_getElem]
  exact ⟨h2, j, hj, rfl, fun i hi => by simpa using h1 i hi⟩
theorem step_few (ls : List Letter) (heard : List Int) : ∀ L : List Spl, (L.flatMap (splStep ls heard)).length ≤ L.length * ls.length
  | [] => by simp
  | r :: L => by
    have ih := step_few ls heard L
    rw [List.flatMap_cons, List.length_append, List.length_cons, Nat.succ_mul]
    have : (splStep ls heard r).length ≤ ls.length := List.length_filterMap_le _ _
    omega
theorem step_next (ls : List Letter) (heard : List Int) (LL : List Spl) (q : Nat) (h : q < LL.length) : (LL.take (q + 1)).flatMap (splStep ls heard) = (LL.take q).flatMap (splStep ls heard) ++ splStep ls heard LL[q] := by
  rw [List.take_succ_eq_append_getElem h, List.flatMap_append]
  simp
theorem one_next_no (heard : List Int) (r : Spl) (ls : List Letter) (k : Nat) (h : k < ls.length) (x : Letter) (hx : ls[k] = x) (hn : furs x r.2 heard = []) : (ls.take (k + 1)).filterMap (splOne heard r) = (ls.take k).filterMap (splOne heard r) := by
  rw [List.take_succ_eq_append_getElem h, List.filterMap_append, hx]
  have : splOne heard r x = none := by unfold splOne; rw [if_pos hn]
  simp [this]
theorem one_next_yes (heard : List Int) (r : Spl) (ls : List Letter) (k : Nat) (h : k < ls.length) (x : Letter) (hx : ls[k] = x) (hn : furs x r.2 heard ≠ []) : (ls.take (k + 1)).filterMap (splOne heard r) = (ls.take k).filterMap (splOne heard r) ++ [(r.1 ++ [x.c], furs x r.2 heard)] := by
  rw [List.take_succ_eq_append_getElem h, List.filterMap_append, hx]
  have : splOne heard r x = some (r.1 ++ [x.c], furs x r.2 heard) := by unfold splOne; rw [if_neg hn]
  simp [this]
/-- what is done behind a letter, in new memory -/
def FurV (B : Nat) (l : List Int) (u : Value) (w : World) : Prop := IntsAt w u l ∧ ∀ k, u.ownBlock = some k → B ≤ k ∧ k < w.heap.size
theorem FurV.ext {B : Nat} {l : List Int} {u : Value} {w w' : World} (h : FurV B l u w) (hx : Ext w w') : FurV B l u w' := ⟨h.1.ext hx, fun k hk => ⟨(h.2 k hk).1, Nat.lt_of_lt_of_le (h.2 k hk).2 hx.size⟩⟩
/-- one text with numbers, in a block of its own -/
def NewR (own : Option Nat) (a x : Value) (u : Value) (w : World) : Prop := ∃ B, u = .slice (some ⟨B, 0, none⟩) 1 1 ∧ w.cell? ⟨B, 0, none⟩ = some a ∧ w.cell? ⟨B, 1, none⟩ = some x ∧ some B ≠ own
noncomputable def NewR.B {own : Option Nat} {a x u : Value} {w : World} (h : NewR own a x u w) : Nat := Exists.choose h
theorem NewR.spec {own : Option Nat} {a x u : Value} {w : World} (h : NewR own a x u w) : u = .slice (some ⟨h.B, 0, none⟩) 1 1 ∧ w.cell? ⟨h.B, 0, none⟩ = some a ∧ w.cell? ⟨h.B, 1, none⟩ = some x ∧ some h.B ≠ own := Exists.choose_spec h
theorem NewR.ext {own : Option Nat} {a x u : Value} {w w' : World} (h : NewR own a x u w) (hx : Ext w w') : NewR own a x u w' := by
  obtain ⟨B, h1, h2, h3, h4⟩ := h; exact ⟨B, h1, hx.cell h2, hx.cell h3, h4⟩
theorem NewR.but {own : Option Nat} {a x u : Value} {w w' : World} (h : NewR own a x u w) (hx : Facts.App.But own w w') : NewR own a x u w' := by
  obtain ⟨B, h1, h2, h3, h4⟩ := h; exact ⟨B, h1, World.grownBy.cell hx h2 h4, World.grownBy.cell hx h3 h4, h4⟩
theorem reach_cells {a x : Value} {w : World} {B : Nat} (h2 : w.cell? ⟨B, 0, none⟩ = some a) (h3 : w.cell? ⟨B, 1, none⟩ = some x) : ∀ j v, [a, x][j]? = some v → w.cell? ((⟨B, 0, none⟩ : Addr).add j) = some v := by
  intro j v hj
  match j, hj with
  | 0, hj => simp at hj; subst hj; simpa [Addr.add] using h2
  | 1, hj => simp at hj; subst hj; simpa [Addr.add] using h3
/-- the row with one more behind it -/
def Appd (base S : Nat) (own : Option Nat) (n : Nat) (xs : List Value) (u : Value) (w : World) : Prop := w.ownsRow base 95 2 u n xs ∧ (u.ownBlock = own ∨ ∃ k, u.ownBlock = some k ∧ S ≤ k)
theorem Appd.ext {base S : Nat} {own : Option Nat} {n : Nat} {xs : List Value} {u : Value} {w w' : World} (h : Appd base S own n xs u w) (hx : Ext w w') : Appd base S own n xs u w' := ⟨Ext.owns h.1 hx, h.2⟩

set_option maxRecDepth 100000 in
set_option maxHeartbeats 2000000 in
theorem refSpell_err (bv hv : Value) (b : Book) (a : Int) (ha : I64 a) (l : List Int) (he : hearsM b.sounds l (indicesM b [a] b.alphabets.length) ≠ 0) (w : World) (hb : BookAt w bv b) (hl : IntsAt w hv l) :
    Calls Try.prog 12 #[bv, .int .i64 a, hv] w fun e w' => e = .returned (.tuple #[.string ⟨#[]⟩, .int .i64 (hearsM b.sounds l (indicesM b [a] b.alphabets.length))]) ∧ Ext w w' := by
  have hS : indicesM b [a] b.alphabets.length = 0 → 1 ≤ b.sounds ∧ b.sounds ≤ 4 := fun h => (valid_of (indices_zero h)).s
  obtain ⟨ba, bc, bs, bd, rfl, -, hbl, hbm, -⟩ := hb.open
  obtain ⟨ha', hc, rfl, -⟩ := hl.shape
  have hind := fun v w hb hl => indices_any (.agg #[.int .i64 b.sounds, .slice ba b.alphabets.length bc, .slice bs b.spellings.length bd]) v b [a] b.alphabets.length w hb hl (by omega)
  have hhs := fun w hb hl => hears_any (.agg #[.int .i64 b.sounds, .slice ba b.alphabets.length bc, .slice bs b.spellings.length bd]) (.slice ha' l.length hc) b l (indicesM b [a] b.alphabets.length) w hb hl hS
  have he' : (hearsM b.sounds l (indicesM b [a] b.alphabets.length) != 0) = true := by simpa using he
  clear he hS
  generalize hearsM b.sounds l (indicesM b [a] b.alphabets.length) = er at *
  generalize indicesM b [a] b.alphabets.length = op at *
  go_enter Try.func12, Try.ntmps12
  (go_wp2_with fail; have hB : Boxed ((w).alloc (.cells #[.int .i64 b.sounds, .slice ba b.alphabets.length bc, .slice bs b.spellings.length bd] 25)) w.heap.size b ba bc bs bd := ⟨by simp [go_sem], by simp [go_sem], by simp [go_sem], hb.ext (by first | (with_reducible exact Ext.refl _) | (with_reducible assumption) | (show Below _ _ _; go_grown; done))⟩; have hx : Ext w ((w).alloc (.cells #[.int .i64 b.sounds, .slice ba b.alphabets.length bc, .slice bs b.spellings.length bd] 25)) := ext_alloc _ _; generalize ((w).alloc (.cells #[.int .i64 b.sounds, .slice ba b.alphabets.length bc, .slice bs b.spellings.length bd] 25)) = W at *; have c0 := hB.c0; have c1 := hB.c1; have c2 := hB.c2; have z1 := hB.lt)
  replace hl := hl.ext hx
  apply Facts.wp_region [.val _, .val _, .val _, .val _, .fact (ListV [a]), .val _, .val _, .val _, .val (.int .i64 op), .val (.int .i64 er), .val _] (by kernel_rfl) (by kernel_rfl) ?keep ?main
  case keep => exact ⟨fun u a c hx h => IntsAt.ext h hx, trivial⟩
  case main =>
    iterate 4 (refine ⟨fun w1 hx hh => ?_, ?_⟩; focus (clear hh; have e0 := hx.cell c0; have e1 := hx.cell c1; have e2 := hx.cell c2; go_simp; first | exact ⟨Ext.refl _, rfl⟩ | exact Ext.refl _))
    refine ⟨fun w2 hx hh => ?_, ?_⟩
    · clear hh
      go_simp
      exact ⟨ext_alloc _ _, IntsAt.one ha⟩
    intro u4
    iterate 3 (refine ⟨fun w1 hx hh => ?_, ?_⟩; focus (clear hh; have e0 := hx.cell c0; have e1 := hx.cell c1; have e2 := hx.cell c2; go_simp; first | exact ⟨Ext.refl _, rfl⟩ | exact Ext.refl _))
    refine ⟨fun w2 hx hh => ?_, ?_⟩
    · have h4 : ListV [a] u4 w2 := hh 4 _ List.mem_cons_self (by kernel_rfl)
      clear hh
      go_simp
      refine (hind u4 w2 (hB.at_.ext hx) h4).mono ?_
      rintro e w' ⟨rfl, h1⟩
      exact ⟨_, rfl, h1, rfl⟩
    refine ⟨fun w2 hx hh => ?_, ?_⟩
    · clear hh
      go_simp
      refine (hhs w2 (hB.at_.ext hx) (hl.ext hx)).mono ?_
      rintro e w' ⟨rfl, h1⟩
      exact ⟨_, rfl, h1, rfl⟩
    iterate 1 (refine ⟨fun w1 hx hh => ?_, ?_⟩; focus (clear hh; skip; go_simp; first | exact ⟨Ext.refl _, rfl⟩ | exact Ext.refl _))
    intro w3 hx3 hh
    clear hh
    go_simp
    have x1 := hx.trans hx3
    go_wp2
    go_ret2
    exact ⟨rfl, x1⟩

theorem spl_answer {ls : List Letter} {heard : List Int} (hx : ∀ x ∈ ls, 0 ≤ x.sounds) (hd : ∀ s ∈ heard, 0 ≤ s) (h5 : heard.length ≤ 5) {m : Nat} (h1 : 1 ≤ m) {r : Spl} (hit : (splTo ls heard m).find? (hitP heard.length) = some r) (hno : ∀ m', 1 ≤ m' → m' < m → (splTo ls heard m').find? (hitP heard.length) = none) :
    shortS ls (wantedM heard) = r.1 ∧ shortE ls (wantedM heard) = 0 := by
  rcases spl_all hx hd h5 with ⟨n, r', g1, g2, g3, g4, g5, g6⟩ | ⟨g, -⟩
  · have e : n = m := by
      rcases Nat.lt_trichotomy n m with h | h | h
      · rw [hno n g1 h] at g3; cases g3
      · exact h
      · rw [g4 m h1 h] at hit; cases hit
    subst e
    rw [hit] at g3
    obtain rfl := Option.some.inj g3
    exact ⟨g5, g6⟩
  · rw [g m h1] at hit; cases hit
theorem spl_noanswer {ls : List Letter} {heard : List Int} (hx : ∀ x ∈ ls, 0 ≤ x.sounds) (hd : ∀ s ∈ heard, 0 ≤ s) (h5 : heard.length ≤ 5) (hno : ∀ m, 1 ≤ m → m < 6 → (splTo ls heard m).find? (hitP heard.length) = none) :
    shortS ls (wantedM heard) = [] ∧ shortE ls (wantedM heard) = 9 := by
  rcases spl_all hx hd h5 with ⟨n, r', g1, g2, g3, -⟩ | ⟨-, g⟩
  · rw [hno n g1 (by omega)] at g3; cases g3
  · exact g

set_option maxRecDepth 100000 in
set_option maxHeartbeats 4000000 in
theorem refSpell_ok (bv hv : Value) (b : Book) (he : errM b = 0) (a : Nat) (ha : a < b.alphabets.length) (l : List Int) (hh : heardErrM b.sounds l = 0) (w : World) (hb : BookAt w bv b) (hl : IntsAt w hv l) :
    Calls Try.prog 12 #[bv, .int .i64 a, hv] w fun e w' => e = .returned (.tuple #[.string (strOf (shortS (b.alphabets[a]).letters (wantedM l))), .int .i64 (shortE (b.alphabets[a]).letters (wantedM l))]) ∧ Ext w w' := by
  have hval := valid_of he
  have hS := hval.s
  obtain ⟨h5, hdig, -⟩ := heard_digits hval hh
  have hal := hval.al a ha
  have hls6 := hal.1.l
  have hlet : ∀ x ∈ (b.alphabets[a]).letters, 97 ≤ x.c ∧ x.c ≤ 122 ∧ 0 ≤ x.sounds ∧ x.sounds ≤ 15 := fun x hx => by
    obtain ⟨j, hj, rfl⟩ := List.getElem_of_mem hx
    have g := (hal.1.fine j hj).1
    have g1 := g.c
    have g2 := g.s
    have g3 := mask_le hS
    omega
  have ha3 := hval.a
  have hind0 : indicesM b [(a : Int)] b.alphabets.length = 0 := by
    rw [indicesM, if_neg (by simpa using he), if_neg]
    rw [Bool.not_eq_false, withinM_one, inM_iff]
    omega
  have hz : hearsM b.sounds l 0 = 0 := by rw [hearsM, if_neg (by simp)]; exact hh
  obtain ⟨ba, bc, bs, bd, rfl, -, hbl, hbm, -, -, -, halp, -⟩ := hb.open
  have hind := fun v w hb hl => indices_any (.agg #[.int .i64 b.sounds, .slice ba b.alphabets.length bc, .slice bs b.spellings.length bd]) v b [(a : Int)] b.alphabets.length w hb hl (by omega)
  have hls := halp
  obtain ⟨_, _, hea, -, -, hq⟩ := hls
  obtain ⟨ab, ao, rfl, -, -, lv, a1, hlv⟩ := hq a ha
  have hea1 := (Value.slice.inj hea).1
  subst hea1
  obtain ⟨hpa, hpc, rfl, -⟩ := hl.shape
  have hhs := fun w hb hl => hears_any (.agg #[.int .i64 b.sounds, .slice (some ⟨ab, ao, none⟩) b.alphabets.length bc, .slice bs b.spellings.length bd]) (.slice hpa l.length hpc) b l 0 w hb hl (fun _ => hS)
  rw [hz] at hhs
  rw [hind0] at hind
  generalize (b.alphabets[a]).letters = ls at *
  obtain ⟨la, lc, rfl, -⟩ := hlv.shape
  have hfin := spl_fine ls l
  have hfew := spl_few ls l
  have hans : ∀ m, 1 ≤ m → ∀ r, (splTo ls l m).find? (hitP l.length) = some r → (∀ m', 1 ≤ m' → m' < m → (splTo ls l m').find? (hitP l.length) = none) → shortS ls (wantedM l) = r.1 ∧ shortE ls (wantedM l) = 0 :=
    fun m h1 r hit hno => spl_answer (fun x hx => (hlet x hx).2.2.1) (fun s hs => (hdig s hs).1) h5 h1 hit hno
  have hnoa : (∀ m, 1 ≤ m → m < 6 → (splTo ls l m).find? (hitP l.length) = none) → shortS ls (wantedM l) = [] ∧ shortE ls (wantedM l) = 9 := spl_noanswer (fun x hx => (hlet x hx).2.2.1) (fun s hs => (hdig s hs).1) h5
  have Hfin := Lib.hid hfin
  have Hfew := Lib.hid hfew
  have Hans := Lib.hid hans
  have Hnoa := Lib.hid hnoa
  have Hlet := Lib.hid hlet
  have Hdig := Lib.hid hdig
  clear hfin hfew hans hnoa hlet hdig hal hval hS hea hq hz hind0 halp
  obtain ⟨i0, hi, hz0, hz1, hz2⟩ := info_parts infoReach
  obtain ⟨ba, hba⟩ : ∃ ba : Option Addr, ba = some ⟨ab, ao, none⟩ := ⟨_, rfl⟩
  go_enter Try.func12, Try.ntmps12
  go_wp2_with fail
  have hB : Boxed (w.alloc (.cells #[.int .i64 b.sounds, .slice (some ⟨ab, ao, none⟩) b.alphabets.length bc, .slice bs b.spellings.length bd] 25)) w.heap.size b (some ⟨ab, ao, none⟩) bc bs bd := ⟨by simp [go_sem], by simp [go_sem], by simp [go_sem], hb.ext (by first | (with_reducible exact Ext.refl _) | (with_reducible assumption) | (show Below _ _ _; go_grown; done))⟩
  have hx : Ext w (w.alloc (.cells #[.int .i64 b.sounds, .slice (some ⟨ab, ao, none⟩) b.alphabets.length bc, .slice bs b.spellings.length bd] 25)) := ext_alloc _ _
  generalize (w.alloc (.cells #[.int .i64 b.sounds, .slice (some ⟨ab, ao, none⟩) b.alphabets.length bc, .slice bs b.spellings.length bd] 25)) = W at *
  have c0 := hB.c0
  have c1 := hB.c1
  have c2 := hB.c2
  have z1 := hB.lt
  replace hl := hl.ext hx
  apply Facts.wp_region [.val _, .val _, .val _, .val _, .fact (ListV [(a : Int)]), .val _, .val _, .val _, .val (.int .i64 0), .val (.int .i64 0), .val _] (by kernel_rfl) (by kernel_rfl) ?keep ?main
  case keep => exact ⟨fun u a c hx h => IntsAt.ext h hx, trivial⟩
  case main =>
    iterate 4 (refine ⟨fun w1 hx hh => ?_, ?_⟩; focus (clear hh; have e0 := hx.cell c0; have e1 := hx.cell c1; have e2 := hx.cell c2; go_simp; first | exact ⟨Ext.refl _, rfl⟩ | exact Ext.refl _))
    refine ⟨fun w2 hx hh => ?_, ?_⟩
    · clear hh
      go_simp
      exact ⟨ext_alloc _ _, IntsAt.one (by omega)⟩
    intro u4
    iterate 3 (refine ⟨fun w1 hx hh => ?_, ?_⟩; focus (clear hh; have e0 := hx.cell c0; have e1 := hx.cell c1; have e2 := hx.cell c2; go_simp; first | exact ⟨Ext.refl _, rfl⟩ | exact Ext.refl _))
    refine ⟨fun w2 hx hh => ?_, ?_⟩
    · have h4 : ListV [(a : Int)] u4 w2 := hh 4 _ List.mem_cons_self (by kernel_rfl)
      clear hh
      go_simp
      refine (hind u4 w2 (hB.at_.ext hx) h4).mono ?_
      rintro e w' ⟨rfl, h1⟩
      exact ⟨_, rfl, h1, rfl⟩
    refine ⟨fun w2 hx hh => ?_, ?_⟩
    · clear hh
      go_simp
      refine (hhs w2 (hB.at_.ext hx) (hl.ext hx)).mono ?_
      rintro e w' ⟨rfl, h1⟩
      exact ⟨_, rfl, h1, rfl⟩
    iterate 1 (refine ⟨fun w1 hx hh => ?_, ?_⟩; focus (clear hh; skip; go_simp; first | exact ⟨Ext.refl _, rfl⟩ | exact Ext.refl _))
    intro w3 hx3 hh
    clear hh hind hhs
    have x1 := hx.trans hx3
    replace hB := hB.ext hx3
    replace c0 := hB.c0
    replace c1 := hB.c1
    replace c2 := hB.c2
    replace z1 := hB.lt
    replace hl := hl.ext hx3
    replace a1 := x1.cell a1
    replace hlv := hlv.ext x1
    have z2 := cell_lt a1
    have k1 : (a : Int) < (b.alphabets.length : Int) := by omega
    clear hx hx3
    go_simp
    go_wp2
    have hT : SplsAt ((w3.alloc (.cells #[.int .i64 0] 3)).alloc (.cells #[.string { data := #[] }, .slice (some ⟨w3.heap.size, 0, none⟩) 1 1] 95)) (.slice (some ⟨w3.heap.size + 1, 0, none⟩) 1 1) (splTo ls l 0) :=
      ⟨_, _, rfl, Nat.le_refl _, by omega, fun i hi => by
        have hi' : i < 1 := hi
        obtain rfl : i = 0 := by omega
        exact ⟨_, _, rfl, by simp [go_sem, splTo, strOf], .slice (some ⟨w3.heap.size, 0, none⟩) 1 1, by simp [go_sem], (IntsAt.one (by omega)).ext (ext_alloc _ _)⟩⟩
    have x4 : Ext w3 ((w3.alloc (.cells #[.int .i64 0] 3)).alloc (.cells #[.string { data := #[] }, .slice (some ⟨w3.heap.size, 0, none⟩) 1 1] 95)) := (ext_alloc _ _).alloc _
    generalize ((w3.alloc (.cells #[.int .i64 0] 3)).alloc (.cells #[.string { data := #[] }, .slice (some ⟨w3.heap.size, 0, none⟩) 1 1] 95)) = W4 at *
    generalize (some (⟨w3.heap.size + 1, 0, none⟩ : Addr)) = ta at *
    replace x1 := x1.trans x4
    replace hl := hl.ext x4
    replace hlv := hlv.ext x4
    clear x4 c0 c1 c2 z1 z2 a1 hB hba hb
    have hT' : ∃ T : Value, T = .slice ta 1 1 ∧ SplsAt W4 T (splTo ls l 0) := ⟨_, rfl, hT⟩
    clear hT
    go_loopw [10, 11] (fun v i wr => ∃ m : Nat, m ≤ 5 ∧ i = .int .i64 ((m : Int) + 1) ∧ Ext W4 wr ∧ SplsAt wr v (splTo ls l m) ∧ ∀ m', 1 ≤ m' → m' < m + 1 → (splTo ls l m').find? (hitP l.length) = none) (fun _ i _ => 6 - (intOf i).toNat)
    case atStart =>
      obtain ⟨T, rfl, hT⟩ := hT'
      exact ⟨0, Nat.zero_le _, rfl, Ext.refl _, hT, fun m' h1 h2 => by omega⟩
    case round =>
      clear hT'
      obtain ⟨m, hm, rfl, hxm, hLL, hno⟩ := hrel
      obtain ⟨R, hR⟩ : ∃ R : World, R = wr := ⟨_, rfl⟩
      subst hR
      have Hno := Lib.hid hno
      clear hno
      by_cases hlt : m < 5
      · have k2 : (m : Int) + 1 ≤ 5 := by omega
        have hfm := Hfin.out m
        have hfl : (splTo ls l m).length ≤ 1296 := by
          have h1 := Hfew.out m
          have h2 : ls.length ^ m ≤ 6 ^ m := Nat.pow_le_pow_left hls6.2 m
          have h3 : 6 ^ m ≤ 6 ^ 4 := Nat.pow_le_pow_right (by decide) (by omega)
          omega
        have hnext : splTo ls l (m + 1) = (splTo ls l m).flatMap (splStep ls l) := rfl
        obtain ⟨LL, hLLe⟩ : ∃ LL, LL = splTo ls l m := ⟨_, rfl⟩
        rw [← hLLe] at hLL hfm hfl hnext
        have Hnext := Lib.hid hnext
        have Hfm := Lib.hid hfm
        clear hnext hfm hLLe
        obtain ⟨oa, oc, rfl, -⟩ := hLL.shape
        have hlR := hl.ext hxm
        have hlvR := hlv.ext hxm
        go_wp2
        go_loopw [12, 13] (fun v i wr => ∃ q : Nat, q ≤ LL.length ∧ i = .int .i64 q ∧ Ext R wr ∧ SplsOwn wr R.heap.size v ((LL.take q).flatMap (splStep ls l))) (fun _ i _ => LL.length - (intOf i).toNat)
        case atStart => exact ⟨0, Nat.zero_le _, rfl, Ext.refl _, SplsOwn.nil _ _⟩
        case round =>
          obtain ⟨q, hq, rfl, hxr, hown⟩ := hrel
          by_cases hql : q < LL.length
          · have k3 : (q : Int) < (LL.length : Int) := by omega
            have hstn := step_next ls l LL q hql
            have hpl := step_few ls l (LL.take q)
            have hpl2 : (LL.take q).length ≤ 1296 := by rw [List.length_take]; omega
            have hrf := Hfm.out LL[q] (List.getElem_mem hql)
            have hLL0 := hLL
            obtain ⟨_, _, hea, -, -, hh⟩ := hLL0
            obtain ⟨ob, oo, rfl, ct, s, cs, hs⟩ := hh q hql
            have hea1 := (Value.slice.inj hea).1
            subst hea1
            clear hea hh
            generalize LL[q] = r at *
            generalize (LL.take q).flatMap (splStep ls l) = pre at *
            have hpl3 : pre.length ≤ 7776 := by
              have : (LL.take q).length * ls.length ≤ 1296 * 6 := Nat.mul_le_mul hpl2 hls6.2
              omega
            have Hstn := Lib.hid hstn
            have Hrf := Lib.hid hrf
            clear hstn hpl hpl2 hrf
            go_wp2
            go_loopw [12, 14] (fun v i wr => ∃ k : Nat, k ≤ ls.length ∧ i = .int .i64 k ∧ Ext R wr ∧ SplsOwn wr R.heap.size v (pre ++ (ls.take k).filterMap (splOne l r))) (fun _ i _ => ls.length - (intOf i).toNat)
            case atStart => exact ⟨0, Nat.zero_le _, rfl, hxr, by simpa using hown⟩
            case round =>
              clear hown hxr
              obtain ⟨k, hk, rfl, hxr, hown⟩ := hrel
              by_cases hkl : k < ls.length
              · have k4 : (k : Int) < (ls.length : Int) := by omega
                have hxn := one_next_no l r ls k hkl
                have hxy := one_next_yes l r ls k hkl
                have hlt2 := Hlet.out ls[k] (List.getElem_mem hkl)
                have hfl2 : ((ls.take k).filterMap (splOne l r)).length ≤ 6 := Nat.le_trans (List.length_filterMap_le _ _) (by rw [List.length_take]; omega)
                have hlv2 := hlvR.ext hxr
                obtain ⟨_, _, hea, -, -, hh⟩ := hlv2
                obtain ⟨lb, lo, rfl, l0, l1, l2, lU, lI⟩ := hh k hkl
                have hea1 := (Value.slice.inj hea).1
                subst hea1
                clear hea hh
                generalize ls[k] = x at *
                have hxn := hxn x rfl
                have hxy := hxy x rfl
                have hlr := hlR.ext hxr
                have ct1 := hxr.cell ct
                have cs1 := hxr.cell cs
                have hs1 := hs.ext hxr
                have hszr := hxr.size
                have hrf := Hrf.out
                have hf2 : r.2.length ≤ 100 := by
                  have h1 := hrf.few
                  have h2 : 2 ^ m ≤ 2 ^ 4 := Nat.pow_le_pow_right (by decide) (by omega)
                  omega
                have hlow : ∀ n ∈ r.2, 0 ≤ n ∧ n ≤ l.length := fun n hn => by have := hrf.low n hn; omega
                have hdig : ∀ n ∈ l, 0 ≤ n ∧ n ≤ 100 := fun n hn => by have := Hdig.out n hn; omega
                have hfur := fun u w hu hv hl => further_any u s (.slice hpa l.length hpc) x r.2 l w hu hv hl hf2 (by omega) hlow hdig
                have hflen := furs_len x r.2 l
                have hfl3 : (furs x r.2 l).length ≤ 200 := by omega
                have hfe : furTo x r.2 l r.2.length = furs x r.2 l := rfl
                rw [hfe] at hfur
                have wc : IntKind.i32.wrap x.c = x.c := by
                  unfold IntKind.wrap
                  simp only [IntKind.bits, IntKind.signed]
                  simp
                  omega
                have henc : Utf8.encode x.c = strOf [x.c] := encode_ascii x.c (by omega) (by omega)
                have hcs : ¬ 9223372036854775807 < (strOf r.1).size + (strOf [x.c]).size := by
                  rw [strOf_len, strOf_len, hrf.len]
                  simp
                  omega
                have htx : strOf r.1 ++ strOf [x.c] = strOf (r.1 ++ [x.c]) := strOf_append _ _
                generalize furs x r.2 l = d at *
                have Hxn := Lib.hid hxn
                have Hxy := Lib.hid hxy
                have Htx := Lib.hid htx
                have HlU := Lib.hid lU
                have HlI := Lib.hid lI
                clear hxn hxy hlow hdig hflen hfe htx hrf hlt2 lU lI
                obtain ⟨cur, hcur⟩ : ∃ cur, cur = pre ++ (ls.take k).filterMap (splOne l r) := ⟨_, rfl⟩
                have hclen : cur.length ≤ 7782 := by rw [hcur, List.length_append]; omega
                rw [← hcur] at hown
                have Hcur := Lib.hid hcur
                clear hcur hfl2
                go_wp2_with fail
                apply Facts.wp_region [.val _, .val _, .val _, .val _, .val _, .val _, .val _, .val _, .val _, .val _, .fact (FurV wr.heap.size d), .fact (FurV wr.heap.size d)] (by kernel_rfl) (by kernel_rfl) ?keep ?main
                case keep => exact ⟨fun u a c hx h => h.ext hx, fun u a c hx h => h.ext hx, trivial⟩
                case main =>
                  iterate 10 (refine ⟨fun w1 hx hh => ?_, ?_⟩; focus (clear hh; have e0 := hx.cell l0; have e1 := hx.cell l1; have e2 := hx.cell l2; have e3 := hx.cell cs1; go_simp; first | exact ⟨Ext.refl _, rfl⟩ | exact Ext.refl _))
                  refine ⟨fun w2 hx hh => ?_, ?_⟩
                  · clear hh
                    go_simp
                    refine (hfur _ w2 ⟨rfl, HlU.out, HlI.out⟩ (hs1.ext hx) (hlr.ext hx)).mono ?_
                    rintro e w' ⟨v, rfl, h1, h2, h3⟩
                    have hsz := hx.size
                    exact ⟨_, rfl, h2, h1, fun k hk => ⟨Nat.le_trans hsz (h3 k hk).1, (h3 k hk).2⟩⟩
                  intro u10
                  refine ⟨fun w2 hx hh => ?_, ?_⟩
                  · have h10 : FurV wr.heap.size d u10 w2 := hh 10 _ List.mem_cons_self (by kernel_rfl)
                    clear hh
                    go_simp
                    first | exact ⟨Ext.refl _, h10⟩ | exact Ext.refl _
                  intro u11 w3' hx3 hh
                  have h11 : FurV wr.heap.size d u11 w3' := hh 11 _ List.mem_cons_self
                  clear hh hfur
                  have x5 := hxr.trans hx3
                  have l0' := hx3.cell l0
                  have l1' := hx3.cell l1
                  have l2' := hx3.cell l2
                  have ct2 := hx3.cell ct1
                  have cs2 := hx3.cell cs1
                  obtain ⟨hd, hdb⟩ := h11
                  obtain ⟨da, dc, rfl, hdc1, hdc2⟩ := hd.shape
                  clear l0 l1 l2 ct1 cs1 hs1 hlr
                  by_cases hd0 : d.length = 0
                  · have hn0 : ¬ (0 : Int) < (d.length : Int) := by omega
                    have hdn : d = [] := List.eq_nil_of_length_eq_zero hd0
                    have hnew := Hxn.out hdn
                    have Hnew : Hid (cur = pre ++ (ls.take (k + 1)).filterMap (splOne l r)) := Lib.hid (by rw [Hcur.out, hnew])
                    have own2 := hown.ext hx3
                    clear hdn hd0 hnew hown hx3 hdb hd l0' l1' l2' ct2 cs2
                    go_simp
                    go_wp2
                    go_roundw
                    case rel => exact ⟨k + 1, by omega, by go_num, x5, by rw [← Hnew.out]; exact own2⟩
                    case measure => simp [intOf]; omega
                  · have hn0 : (0 : Int) < (d.length : Int) := by omega
                    have hdn : d ≠ [] := fun e => hd0 (by rw [e]; rfl)
                    have hnew := Hxy.out hdn
                    have Hnew : Hid (cur ++ [(r.1 ++ [x.c], d)] = pre ++ (ls.take (k + 1)).filterMap (splOne l r)) := Lib.hid (by rw [Hcur.out, hnew, List.append_assoc])
                    obtain ⟨es, hes, hrow, hels⟩ := hown
                    have hrlt := hrow.lt
                    have hrow3 := Ext.owns hrow hx3
                    have Hels := Lib.hid hels
                    have Hdb := Lib.hid hdb
                    clear hdn hd0 hnew hels hdb
                    go_simp
                    go_wp2_with fail
                    have hszS := hx3.size
                    have hszr3 := x5.size
                    apply Facts.Dep.wp_region (Facts.App.two_but u12.ownBlock) 17 [.val _, .val _, .val _, .val _, .val _, .val _, .val _, .val _, .val _, .val _, .val _, .val _, .val _, .val (.string (strOf (r.1 ++ [x.c]))), .val _, .val _, .fact (NewR u12.ownBlock (.string (strOf (r.1 ++ [x.c]))) (.slice da d.length dc)),
                      .fact (Appd R.heap.size w3'.heap.size u12.ownBlock (cur.length + 1) (cellsE es ++ [.string (strOf (r.1 ++ [x.c])), .slice da d.length dc])), .fact (Appd R.heap.size w3'.heap.size u12.ownBlock (cur.length + 1) (cellsE es ++ [.string (strOf (r.1 ++ [x.c])), .slice da d.length dc]))] (by kernel_rfl) (by kernel_rfl) (.inl (by kernel_rfl)) (by kernel_rfl) ?keep ?main
                    case keep => exact ⟨fun u a c hx h => h.ext hx, fun _ u a c hx h => h.but hx, fun u a c hx h => h.ext hx, fun h => absurd h (Bool.eq_false_iff.1 (by kernel_rfl)), fun u a c hx h => h.ext hx, fun h => absurd h (Bool.eq_false_iff.1 (by kernel_rfl)), trivial⟩
                    case main =>
                      iterate 11 (refine ⟨fun w1 hE hC hh => ?_, ?_⟩; focus (have hx := hE (by kernel_rfl); clear hh hE hC; have e0 := hx.cell l0'; have e1 := hx.cell l1'; have e2 := hx.cell l2'; have e3 := hx.cell ct2; have e4 := hx.cell cs2; go_simp; first | exact ⟨Ext.refl _, rfl⟩ | exact Ext.refl _))
                      iterate 2 (refine ⟨fun w1 hE hC hh => ?_, ?_⟩; focus (have hx := hE (by kernel_rfl); clear hh hE hC; skip; go_simp; first | exact ⟨Ext.refl _, rfl⟩ | exact Ext.refl _))
                      refine ⟨fun w1 hE hC hh => ?_, ?_⟩
                      · have hx := hE (by kernel_rfl)
                        clear hh hE hC
                        go_simp
                        exact ⟨Ext.refl _, Htx.out⟩
                      iterate 2 (refine ⟨fun w1 hE hC hh => ?_, ?_⟩; focus (have hx := hE (by kernel_rfl); clear hh hE hC; skip; go_simp; first | exact ⟨Ext.refl _, rfl⟩ | exact Ext.refl _))
                      refine ⟨fun w1 hE hC hh => ?_, ?_⟩
                      · have hx := hE (by kernel_rfl)
                        clear hh hE hC
                        have hlt' := fun k hk => (hrow3.lt k hk).2
                        have hsz1 := hx.size
                        go_simp
                        exact ⟨ext_alloc _ _, w1.heap.size, rfl, by simp [go_sem], by simp [go_sem], fun e => by have := hlt' _ e.symm; omega⟩
                      intro u16
                      refine ⟨fun w1 hE hC hh => ?_, ?_⟩
                      · have hx := hE (by kernel_rfl)
                        have h16 : NewR u12.ownBlock (.string (strOf (r.1 ++ [x.c]))) (.slice da d.length dc) u16 w1 := hh 16 _ List.mem_cons_self (by kernel_rfl)
                        clear hh hE hC
                        have s16 := h16.spec
                        generalize h16.B = B at *
                        have e16 := s16.1
                        have c16 := s16.2.1
                        have c17 := s16.2.2.1
                        clear s16 h16
                        subst e16
                        have hsz1 := hx.size
                        refine Facts.App.stepG_append rfl (.tmp 69) (.tmp 85) 96 rfl R.heap.size 95 i0 (.agg #[.string ByteArray.empty, .slice none 0 0]) 2 40 Try.underlying96 hi hz0 hz1 hz2 rfl (by decide) u12 cur.length (cellsE es) (by go_simp) (Ext.owns hrow3 hx) ⟨B, 0, none⟩ 1 1 [.string (strOf (r.1 ++ [x.c])), .slice da d.length dc] (by go_simp) rfl (reach_cells c16 c17) (by simp [Value.oneCell']) (by unfold maxLen; omega) (by omega) (by omega) ?_
                        intro v' w' ho hg hbk
                        exact ⟨hg, ho, hbk.elim .inl fun e => .inr ⟨_, e, hsz1⟩⟩
                      intro u17
                      refine ⟨fun w1 hE hC hh => ?_, ?_⟩
                      · have h17 : Appd R.heap.size w3'.heap.size u12.ownBlock (cur.length + 1) (cellsE es ++ [.string (strOf (r.1 ++ [x.c])), .slice da d.length dc]) u17 w1 := hh 17 _ List.mem_cons_self (by kernel_rfl)
                        clear hh hE hC
                        go_simp
                        first | exact ⟨Ext.refl _, h17⟩ | exact Ext.refl _
                      intro u18 w5 hC hh
                      have h18 : Appd R.heap.size w3'.heap.size u12.ownBlock (cur.length + 1) (cellsE es ++ [.string (strOf (r.1 ++ [x.c])), .slice da d.length dc]) u18 w5 := hh 18 _ List.mem_cons_self
                      clear hh
                      have x6 : Ext R w5 := Ext.grown x5 hC fun k hk => (hrow.lt k hk).1
                      have hnewo := SplsOwn.push (base := R.heap.size) (r := (r.1 ++ [x.c], d)) hes hrow Hels.out hx3 rfl ⟨da, dc, rfl, hd, fun ad e => Hdb.out ad.block (by rw [e]; rfl)⟩ h18.1 hC h18.2
                      clear h18 hC hes hrow hrow3 hrlt l0' l1' l2' ct2 cs2 hd hx3
                      go_simp
                      go_wp2
                      go_roundw
                      case rel => exact ⟨k + 1, by omega, by go_num, x6, by rw [← Hnew.out]; exact hnewo⟩
                      case measure => simp [intOf]; omega
              · obtain rfl : k = ls.length := by omega
                rw [List.take_length] at hown
                have Hfin2 : Hid ((LL.take (q + 1)).flatMap (splStep ls l) = pre ++ ls.filterMap (splOne l r)) := Lib.hid (by rw [Hstn.out]; rfl)
                clear hkl
                go_wp2
                go_roundw
                case rel => exact ⟨q + 1, by omega, by go_num, hxr, by rw [Hfin2.out]; exact hown⟩
                case measure => simp [intOf]; omega
          · obtain rfl : q = LL.length := by omega
            rw [List.take_length, ← Hnext.out] at hown
            have hN := hown.at_
            have hfN := Hfin.out (m + 1)
            have x6 := hxm.trans hxr
            obtain ⟨NN, hNN⟩ : ∃ NN, NN = splTo ls l (m + 1) := ⟨_, rfl⟩
            rw [← hNN] at hN
            have hNl : NN.length ≤ 7776 := by
              have h1 := Hfew.out (m + 1)
              have h2 : ls.length ^ (m + 1) ≤ 6 ^ (m + 1) := Nat.pow_le_pow_left hls6.2 _
              have h3 : 6 ^ (m + 1) ≤ 6 ^ 5 := Nat.pow_le_pow_right (by decide) (by omega)
              rw [hNN]; omega
            obtain ⟨na, nc, rfl, -⟩ := hN.shape
            have HNN := Lib.hid hNN
            have hlN := hl.ext x6
            clear hown hNN hfN hql hLL
            go_wp2
            go_loopw [16] (fun i wr => ∃ j : Nat, j ≤ NN.length ∧ i = .int .i64 j ∧ Ext W4 wr ∧ SplsAt wr (.slice na NN.length nc) NN ∧ ∀ j' (_ : j' < j) (h : j' < NN.length), hitP l.length NN[j'] = false) (fun i _ => NN.length - (intOf i).toNat)
            case atStart => exact ⟨0, Nat.zero_le _, rfl, x6, hN, fun j' h => absurd h (Nat.not_lt_zero _)⟩
            case round =>
              obtain ⟨j, hj, rfl, hxj, hN, hnj⟩ := hrel
              have Hnj := Lib.hid hnj
              clear hnj
              by_cases hjl : j < NN.length
              · have k5 : (j : Int) < (NN.length : Int) := by omega
                have hN0 := hN
                obtain ⟨_, _, hea, -, -, hh⟩ := hN0
                obtain ⟨nb, no, rfl, d0, s, d1, hs⟩ := hh j hjl
                have hea1 := (Value.slice.inj hea).1
                subst hea1
                clear hea hh
                obtain ⟨r, hr⟩ : ∃ r, r = NN[j] := ⟨_, rfl⟩
                rw [← hr] at d0 hs
                have Hr := Lib.hid hr
                clear hr
                have zn := cell_lt d0
                go_wp2_with fail
                refine (has_any s l.length r.2 wr hs).mono ?_
                rintro e w6 ⟨rfl, hx6⟩
                have x7 := hxj.trans hx6
                have hN6 := hN.ext hx6
                have d06 := hx6.cell d0
                cases hhit : decide (((l.length : Nat) : Int) ∈ r.2)
                · have Hhit := Lib.hid hhit
                  clear hhit hx6 hN d0 d1 hs
                  go_wp2
                  go_roundw
                  case rel => exact ⟨j + 1, by omega, by go_num, x7, hN6, fun j' h1 h2 => by
                    rcases Nat.lt_or_ge j' j with h | h
                    · exact Hnj.out j' h h2
                    · obtain rfl : j' = j := by omega
                      rw [← Hr.out]; exact Hhit.out⟩
                  case measure => simp [intOf]; omega
                · have hfd : NN.find? (hitP l.length) = some r := by
                    rw [Hr.out]
                    exact find_at _ _ j hjl (fun j' h => Hnj.out j' h (by omega)) (by rw [← Hr.out]; exact hhit)
                  rw [HNN.out] at hfd
                  obtain ⟨g1, g2⟩ := Hans.out (m + 1) (by omega) r hfd Hno.out
                  have G1 := Lib.hid g1
                  have G2 := Lib.hid g2
                  clear hhit hx6 hN d0 d1 hs hfd g1 g2
                  go_wp2
                  go_ret2
                  exact ⟨ret_strInt (by rw [G1.out]) (by rw [G2.out]), x1.trans x7⟩
              · have hnone : (splTo ls l (m + 1)).find? (hitP l.length) = none := by
                  rw [← HNN.out, List.find?_eq_none]
                  intro r hr
                  obtain ⟨j', h1, rfl⟩ := List.getElem_of_mem hr
                  have := Hnj.out j' (by omega) h1
                  simp [this]
                have Hnew : Hid (∀ m', 1 ≤ m' → m' < m + 1 + 1 → (splTo ls l m').find? (hitP l.length) = none) := Lib.hid fun m' h1 h2 => by
                  rcases Nat.lt_or_ge m' (m + 1) with h | h
                  · exact Hno.out m' h1 h
                  · obtain rfl : m' = m + 1 := by omega
                    exact hnone
                have hN2 := hN
                rw [HNN.out] at hN2
                have HN2 := Lib.hid hN2
                clear hnone hN2
                have wm2 : IntKind.i64.wrap ((m : Int) + 1 + 1) = (m : Int) + 1 + 1 := IntWalk.i64_in _ (by omega)
                go_wp2
                go_roundw
                case rel => exact ⟨m + 1, by omega, by go_num, hxj, by (have h0 := HN2.out; rw [← HNN.out] at h0 ⊢; exact hN), Hnew.out⟩
                case measure => simp [intOf]; omega
      · obtain rfl : m = 5 := by omega
        obtain ⟨g1, g2⟩ := Hnoa.out fun m' h1 h2 => Hno.out m' h1 h2
        have G1 := Lib.hid g1
        have G2 := Lib.hid g2
        have x7 := x1.trans hxm
        clear g1 g2 hlt hLL
        go_wp2
        go_ret2
        exact ⟨ret_strInt (by rw [G1.out]; rfl) (by rw [G2.out]), x7⟩
end Go.Proofs.Ytoifmphpeflliaa

namespace Go.Proofs.Ytoifmphpeflliaa
open Go.RowKit
set_option linter.unusedVariables false

set_option maxRecDepth 100000 in
set_option maxHeartbeats 2000000 in
theorem spells_walk (ba bs : Option Addr) (bc bd : Nat) (b : Book) (n : Int) (la : Option Addr) (lc : Nat) (l : List Int) (er : Int) (S : ByteArray)
    (h1 : ∀ w, BookAt w (.agg #[.int .i64 b.sounds, .slice ba b.alphabets.length bc, .slice bs b.spellings.length bd]) b → IntsAt w (.slice la l.length lc) l → Calls Try.prog 11 #[(.agg #[.int .i64 b.sounds, .slice ba b.alphabets.length bc, .slice bs b.spellings.length bd]), .int .i64 n, .slice la l.length lc] w fun e w' => e = .returned (.tuple #[.string S, .int .i64 er]) ∧ Ext w w')
    (h2 : ∀ w, BookAt w (.agg #[.int .i64 b.sounds, .slice ba b.alphabets.length bc, .slice bs b.spellings.length bd]) b → IntsAt w (.slice la l.length lc) l → Calls Try.prog 12 #[(.agg #[.int .i64 b.sounds, .slice ba b.alphabets.length bc, .slice bs b.spellings.length bd]), .int .i64 n, .slice la l.length lc] w fun e w' => e = .returned (.tuple #[.string S, .int .i64 er]) ∧ Ext w w')
    (w : World) (hb : BookAt w (.agg #[.int .i64 b.sounds, .slice ba b.alphabets.length bc, .slice bs b.spellings.length bd]) b) (hl : IntsAt w (.slice la l.length lc) l) :
    Calls Try.prog 3 #[(.agg #[.int .i64 b.sounds, .slice ba b.alphabets.length bc, .slice bs b.spellings.length bd]), .int .i64 n, .slice la l.length lc] w fun e w' => e = .returned (.bool true) ∧ Ext w w' := by
  have aw := fun w => awake_any w
  go_enter Try.func3, Try.ntmps3
  go_wp2_with fail
  have hB : Boxed ((w).alloc (.cells #[.int .i64 b.sounds, .slice ba b.alphabets.length bc, .slice bs b.spellings.length bd] 25)) w.heap.size b ba bc bs bd := ⟨by simp [go_sem], by simp [go_sem], by simp [go_sem], hb.ext (by first | (with_reducible exact Ext.refl _) | (with_reducible assumption) | (show Below _ _ _; go_grown; done))⟩
  have hx : Ext w ((w).alloc (.cells #[.int .i64 b.sounds, .slice ba b.alphabets.length bc, .slice bs b.spellings.length bd] 25)) := ext_alloc _ _
  replace hl := hl.ext hx
  generalize ((w).alloc (.cells #[.int .i64 b.sounds, .slice ba b.alphabets.length bc, .slice bs b.spellings.length bd] 25)) = W at *
  have c0 := hB.c0
  have c1 := hB.c1
  have c2 := hB.c2
  have z1 := hB.lt
  refine (h1 _ hB.at_ hl).mono ?_
  rintro e w3 ⟨rfl, h3⟩
  (replace hB := hB.ext h3; replace hl := hl.ext h3; replace c0 := hB.c0; replace c1 := hB.c1; replace c2 := hB.c2; replace z1 := hB.lt; have x3 := Ext.trans (by assumption) h3)
  clear h3 h1 hx
  go_wp2_with fail
  refine (h2 _ hB.at_ hl).mono ?_
  rintro e w4 ⟨rfl, h4⟩
  (replace hB := hB.ext h4; replace hl := hl.ext h4; replace c0 := hB.c0; replace c1 := hB.c1; replace c2 := hB.c2; replace z1 := hB.lt; have x4 := Ext.trans (by assumption) h4)
  clear h4 h2 x3 hB hl c0 c1 c2 z1
  go_wp2_with fail
  refine (aw _).mono ?_
  rintro e w8 ⟨rfl, h8⟩
  have x8 := x4.trans h8
  clear h8 x4
  go_wp2
  go_ret
  exact ⟨rfl, x8⟩

theorem spellM_err {b : Book} {a : Int} {l : List Int} {er : Int} (h : hearsM b.sounds l (indicesM b [a] b.alphabets.length) = er) (h0 : er ≠ 0) : spellM b a l = (⟨#[]⟩, er) := by
  subst h
  unfold hearsM indicesM at *
  unfold spellM
  rw [withinM_one] at *
  by_cases he : errM b ≠ 0
  · simp only [if_pos he]
  · simp only [if_neg he] at *
    cases hi : inM a 0 (b.alphabets.length - 1)
    · have hn : ¬ (0 ≤ a ∧ a ≤ b.alphabets.length - 1) := fun h => by rw [(inM_iff _ _ _).2 h] at hi; cases hi
      simp only [if_true]
      simp only [ne_eq, Int.reduceEq, not_false_eq_true, if_true]
      by_cases hneg : a < 0
      · cases b.alphabets[a.toNat]? <;> simp [hneg]
      · rw [List.getElem?_eq_none (by omega)]
    · have hin := (inM_iff _ _ _).1 hi
      rw [hi] at h0
      simp only [Bool.true_eq_false, if_false, ne_eq, not_true_eq_false] at h0 ⊢
      rw [List.getElem?_eq_getElem (show a.toNat < b.alphabets.length by omega)]
      simp only
      rw [if_neg (by omega), if_pos h0]
theorem spellM_ok {b : Book} {a : Nat} (ha : a < b.alphabets.length) {l : List Int} (he : errM b = 0) (hh : heardErrM b.sounds l = 0) : spellM b a l = (strOf (shortS (b.alphabets[a]).letters (wantedM l)), shortE (b.alphabets[a]).letters (wantedM l)) := by
  unfold spellM
  rw [if_neg (by simpa using he), Int.toNat_natCast, List.getElem?_eq_getElem ha]
  simp only
  rw [if_neg (by omega), if_neg (by simpa using hh)]
theorem spells_law (bv v : Value) (b : Book) (n : Int) (hn : I64 n) (l : List Int) (w : World) (hb : BookAt w bv b) (hl : IntsAt w v l) :
    Calls Try.prog 3 #[bv, .int .i64 n, v] w fun e w' => e = .returned (.bool true) ∧ Ext w w' := by
  obtain ⟨ba, bc, bs, bd, rfl, -⟩ := hb.open
  obtain ⟨la, lc, rfl, -⟩ := hl.shape
  have hp := fun w hb hl => spell_any (.agg #[.int .i64 b.sounds, .slice ba b.alphabets.length bc, .slice bs b.spellings.length bd]) (.slice la l.length lc) b n hn l w hb hl
  by_cases h0 : hearsM b.sounds l (indicesM b [n] b.alphabets.length) = 0
  · have hi : indicesM b [n] b.alphabets.length = 0 := by
      unfold hearsM at h0
      split at h0
      · exact h0
      · rename_i h; exact Classical.byContradiction h
    have he := indices_zero hi
    have hh : heardErrM b.sounds l = 0 := by
      unfold hearsM at h0
      rw [hi, if_neg (by simp)] at h0
      exact h0
    have hr : 0 ≤ n ∧ n < b.alphabets.length := by
      unfold indicesM at hi
      rw [if_neg (by simpa using he), withinM_one] at hi
      split at hi
      · cases hi
      · rename_i h
        have := (inM_iff _ _ _).1 (Bool.not_eq_false _ ▸ h)
        omega
    obtain ⟨m, rfl⟩ : ∃ m : Nat, n = m := ⟨n.toNat, by omega⟩
    have hm : m < b.alphabets.length := by omega
    rw [spellM_ok hm he hh] at hp
    exact spells_walk ba bs bc bd b m la lc l _ _ hp (fun w hb hl => refSpell_ok _ _ b he m hm l hh w hb hl) w hb hl
  · rw [spellM_err rfl h0] at hp
    exact spells_walk ba bs bc bd b n la lc l _ _ hp (fun w hb hl => refSpell_err _ _ b n hn l h0 w hb hl) w hb hl
end Go.Proofs.Ytoifmphpeflliaa

namespace Go.Proofs.Ytoifmphpeflliaa.earSpells
open Go.ChangeShapes Go.WideShapes Go.ChangeAt Go.RowKit
set_option linter.unusedVariables false

theorem own : ownKnob Try.prog.godebug = none := by kernel_rfl
theorem laid : laidOutB Try.prog = true := by kernel_rfl
theorem read0 : Try.prog.readableRec 25 = true := by kernel_rfl
theorem row0 : 25 < Try.prog.types.size := of_decide_eq_true (by kernel_rfl)
theorem read1 : Try.prog.readableRec 3 = true := by kernel_rfl
theorem row1 : 3 < Try.prog.types.size := of_decide_eq_true (by kernel_rfl)
theorem read2 : Try.prog.readableRec 26 = true := by kernel_rfl
theorem row2 : 26 < Try.prog.types.size := of_decide_eq_true (by kernel_rfl)

set_option maxRecDepth 100000 in
theorem lifted (os : Os) (started : os.Started) (H : Type) (enc : TypeId × Value → H) :
    ReturnsInHanded {} Try.checked os 3 .any (Rows.earSpellsSpec.pre6 enc Try.prog Try.f3 Rows.earSpellsRow.domain false) (Rows.earSpellsSpec.post enc Try.prog Try.f3 false true false false) := by
  refine returnsInHanded_of_change (C := Try.checked) own started (by kernel_rfl) Try.func3
    (ChangeSpec.witness6 (enc := enc) (C := Try.checked) false ⟨#[], #[.agg #[.int .i64 0, .slice none 0 0, .slice none 0 0], .int .i64 0, .slice none 0 0], []⟩ 8 (by kernel_rfl) (by kernel_rfl) (by kernel_rfl) (by kernel_rfl)) ?_
  intro W base args ds gs before hval0 hW hcnd _
  have hval : ∀ (j : Nat) t v, Try.f3.params[j]? = some t → args[j]? = some v → Value.okWide Try.prog W .any base t v := hval0
  have hW' := hW
  obtain ⟨p, q, hA0, hV, rfl, hfz, hnd⟩ := hW
  have hA : DataW.TrodAll enc Try.prog W 0 (fun _ => true) true Try.f3.params.toList args.toList ds p := hA0
  rw [Try.params3] at hA hval
  obtain ⟨v0, vs0, d0, ds0, p0, q0, hargs0, rfl, rfl, h0, r0⟩ := trodAll_cons hA
  obtain ⟨v1, vs1, d1, ds1, p1, q1, hargs1, rfl, rfl, h1, r1⟩ := trodAll_cons r0
  obtain ⟨v2, vs2, d2, ds2, p2, q2, hargs2, rfl, rfl, h2, r2⟩ := trodAll_cons r1
  obtain ⟨rfl, rfl, rfl⟩ := trodAll_nil r2
  subst hargs2
  subst hargs1
  obtain rfl : args = #[v0, v1, v2] := by cases args; simp_all
  obtain ⟨rfl, rfl⟩ := trodVars_none hV
  obtain ⟨b, hb⟩ := book_of (hval 0 25 v0 rfl rfl) h0
  obtain ⟨n, rfl, hn⟩ := int_of (hval 1 3 v1 rfl rfl) h1
  obtain ⟨l, hl⟩ := intsArg_of (hval 2 26 v2 rfl rfl) h2
  clear hA0 hval0
  simp only [List.append_nil] at hW'
  refine (spells_law v0 v2 b n hn l W hb hl).mono fun e W' ⟨he, hg⟩ => ?_
  subst he
  have hlt := hW'.lt
  exact ⟨_, rfl, post_ext (pa := p0 ++ (p1 ++ p2)) (pv := []) hW' (fun _ _ _ => (trodAll_cons_mk (shut_bool Try.underlying4 _) trodAll_mk0))
    (fun sp hsp => by
      have g0 := Go.WideElems.Trod_stays (sp' := sp) laid read0 row0 h0 (W' := W') (fun p hp => same_of_ext hg (hlt p (List.mem_append_left _ hp))) (fun p hp => hsp p (List.mem_append_left _ hp))
      have g1 := Go.WideElems.Trod_stays (sp' := sp) laid read1 row1 h1 (W' := W') (fun p hp => same_of_ext hg (hlt p (List.mem_append_right _ (List.mem_append_left _ hp)))) (fun p hp => hsp p (List.mem_append_right _ (List.mem_append_left _ hp)))
      have g2 := Go.WideElems.Trod_stays (sp' := sp) laid read2 row2 h2 (W' := W') (fun p hp => same_of_ext hg (hlt p (List.mem_append_right _ (List.mem_append_right _ hp)))) (fun p hp => hsp p (List.mem_append_right _ (List.mem_append_right _ hp)))
      have := trodAll_cons_mk g0 (trodAll_cons_mk g1 (trodAll_cons_mk g2 (trodAll_mk0 (enc := enc) (P := Try.prog) (w := W') (base := 0) (spare := sp) (held := true))))
      rw [List.append_nil] at this
      exact this) (fun _ _ => rfl) (by simp)
    hg (ok_one (by kernel_rfl) rfl (okWide_bool_mk Try.underlying4 _))⟩

theorem over : Rows.earSpellsRow.holds Try.pinned (OpenSpec.ofChange Rows.earSpellsSpec) :=
  OpenClaim.holds_of_wide 3 Try.f3 rfl rfl rfl rfl rfl rfl rfl ⟨rfl, rfl, rfl, rfl, rfl⟩ rfl rfl rfl rfl rfl (by kernel_rfl) Try.func3 (by kernel_rfl)
    (of_decide_eq_true (by kernel_rfl)) (by unfold Func.isWrapper; first | (rw [if_pos (by decide +kernel)]; kernel_rfl) | (rw [if_neg (by decide +kernel)]; exact ⟨rfl, rfl⟩))
    (fun os started H enc _ => lifted os started H enc)

/-- ████ THE STATEMENT ████ -/
theorem earSpells_said : Rows.EarSpellsSaid :=
  over
end Go.Proofs.Ytoifmphpeflliaa.earSpells
