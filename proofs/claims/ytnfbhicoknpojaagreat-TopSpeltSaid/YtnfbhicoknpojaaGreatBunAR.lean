/-
  The law TopSpelt, with what ear's functions give as premises.
  TWO NAMES THAT WERE HEARD, handed in as one struct, opened; and the law TopSpelt for them.
-/
import Derived.Test.YtnfbhicoknpojaaGreatBunAQ
namespace Go.Proofs.YtnfbhicoknpojaaGreat
set_option linter.unusedSimpArgs false
set_option linter.unusedVariables false
open Go.RowKit
set_option linter.unusedVariables false
set_option linter.unusedSimpArgs false

/-- a store turns one block alone -/
theorem grown_setT (w : World) (p : Addr) (v : Value) : w.grownBy (w.setCell p v) (some p.block) :=
  ⟨rfl, rfl, rfl, by simp [World.setCell], fun k hk hne => Below.heap_setCell _ _ _ _ (fun e => hne (by rw [e]))⟩
/-- some fills of the note -/
def AnyN (u : Value) (w : World) : Prop := ∃ R0 R : List ByteArray, FillsAt w u [R0, R] ∧ (∀ s ∈ R, wordM s = true) ∧ R.length ≤ 2
theorem AnyN.ext {u : Value} {w w' : World} (h : AnyN u w) (hx : Ext w w') : AnyN u w' := by
  obtain ⟨R0, R, h1, h2⟩ := h
  exact ⟨R0, R, h1.ext hx, h2⟩
theorem AnyN.of {u : Value} {w : World} {fs : List (List ByteArray)} (h1 : FillsAt w u fs) (h2 : PutOk [roomP 1 2, roomP 0 2] fs) (h3 : fs.length = 2) : AnyN u w := by
  match fs, h3 with
  | [R0, R], _ =>
    refine ⟨R0, R, h1, h2.w R (by simp), ?_⟩
    have := (h2.at_ 1 (by simp) (by simp)).2
    simp [roomP] at this
    omega
theorem validE : ValidForm (formOf shelfE 1) := by
  have h : errS shelfE = 0 := by kernel_rfl
  exact (errS_ok h).forms _ (by simp [formOf, shelfE])
theorem tmod_small (n k : Nat) : Int.tmod (n : Int) (k : Int) = ((n % k : Nat) : Int) := by
  rw [Int.tmod_eq_emod_of_nonneg (by omega)]; simp
theorem bytes_U8 {w : World} {v : Value} {l : List Int} (h : BytesAt w v l) : ∀ y ∈ l, U8 y := fun y hy => by
  obtain ⟨j, hj, rfl⟩ := List.getElem_of_mem hy
  obtain ⟨_, _, hea, -, -, hq⟩ := h
  obtain ⟨-, -, -, -, dU⟩ := hq j hj
  exact dU
theorem wordT_size {s : ByteArray} (h : wordM s = true) : s.size ≤ 9223372036854775807 := by
  unfold wordM at h
  rw [Bool.and_eq_true] at h
  have := (inM_iff _ _ _).1 h.1
  omega
theorem StrsAt.one1 {w : World} {s : ByteArray} {t : TypeId} {B : Nat} (hB : w.heap.size = B) (hs : s.size ≤ 9223372036854775807) : StrsAt (w.alloc (.cells #[.string s] t)) (.slice (some ⟨B, 0, none⟩) 1 1) [s] := by
  subst hB
  refine ⟨_, _, rfl, by simp, by omega, fun i hi => ⟨w.heap.size, 0, rfl, ?_⟩⟩
  obtain rfl : i = 0 := by simp at hi; omega
  exact ⟨by simp [go_sem], hs⟩
/-- a spelling, in a block of its own -/
def SpV (B4 : Nat) (a : Nat) (T : ByteArray) (u : Value) (w : World) : Prop := ∃ B, u = .slice (some ⟨B, 0, none⟩) 1 1 ∧ w.cell? ⟨B, 0, none⟩ = some (.int .i64 a) ∧ w.cell? ⟨B, 1, none⟩ = some (.string T) ∧ some B ≠ some B4
theorem SpV.ext {B4 a : Nat} {T : ByteArray} {u : Value} {w w' : World} (h : SpV B4 a T u w) (hx : Ext w w') : SpV B4 a T u w' := by
  obtain ⟨B, e, h1, h2, h3⟩ := h; exact ⟨B, e, hx.cell h1, hx.cell h2, h3⟩
theorem SpV.but {B4 a : Nat} {T : ByteArray} {u : Value} {w w' : World} (h : SpV B4 a T u w) (hx : Facts.App.But (some B4) w w') : SpV B4 a T u w' := by
  obtain ⟨B, e, h1, h2, h3⟩ := h; exact ⟨B, e, World.grownBy.cell hx h1 h3, World.grownBy.cell hx h2 h3, h3⟩
noncomputable def SpV.B {B4 a : Nat} {T : ByteArray} {u : Value} {w : World} (h : SpV B4 a T u w) : Nat := Exists.choose h
theorem SpV.spec {B4 a : Nat} {T : ByteArray} {u : Value} {w : World} (h : SpV B4 a T u w) : u = .slice (some ⟨h.B, 0, none⟩) 1 1 ∧ w.cell? ⟨h.B, 0, none⟩ = some (.int .i64 a) ∧ w.cell? ⟨h.B, 1, none⟩ = some (.string T) ∧ some h.B ≠ some B4 := Exists.choose_spec h
/-- the book with this spelling alone -/
def COk (b : Book) (ba : Option Addr) (bc B4 a : Nat) (T : ByteArray) (u : Value) (w : World) : Prop := ∃ B, w.cell? ⟨B4, 0, none⟩ = some (.int .i64 b.sounds) ∧ w.cell? ⟨B4, 1, none⟩ = some (.slice ba b.alphabets.length bc) ∧ w.cell? ⟨B4, 2, none⟩ = some (.slice (some ⟨B, 0, none⟩) 1 1) ∧ w.cell? ⟨B, 0, none⟩ = some (.int .i64 a) ∧ w.cell? ⟨B, 1, none⟩ = some (.string T)
theorem COk.ext {b : Book} {ba : Option Addr} {bc B4 a : Nat} {T : ByteArray} {u : Value} {w w' : World} (h : COk b ba bc B4 a T u w) (hx : Ext w w') : COk b ba bc B4 a T u w' := by
  obtain ⟨B, h1, h2, h3, h4, h5⟩ := h; exact ⟨B, hx.cell h1, hx.cell h2, hx.cell h3, hx.cell h4, hx.cell h5⟩
def adB : Option Addr → Nat
  | some a => a.block
  | none => 0
def adO : Option Addr → Nat
  | some a => a.off
  | none => 0
theorem firstT {w : World} {a : Option Addr} {n c : Nat} {x : ByteArray} {r : List ByteArray} (h : StrsAt w (.slice a n c) (x :: r)) : a = some ⟨adB a, adO a, none⟩ ∧ w.cell? ⟨adB a, adO a, none⟩ = some (.string x) := by
  obtain ⟨b, o, rfl, h1, -⟩ := SliceAt.get h (show 0 < (x :: r).length by simp)
  rw [Nat.zero_mul, Nat.add_zero] at h1
  exact ⟨rfl, h1⟩
theorem one_atT {w w' : World} {ba bs : Option Addr} {bc bd : Nat} {b : Book} (hB : BookAt w (.agg #[.int .i64 b.sounds, .slice ba b.alphabets.length bc, .slice bs b.spellings.length bd]) b) (hx : Ext w w') {B : Nat} {a : Int} {t : ByteArray} (h0 : w'.cell? ⟨B, 0, none⟩ = some (.int .i64 a)) (h1 : w'.cell? ⟨B, 1, none⟩ = some (.string t)) (ha : I64 a) (ht : t.size ≤ 9223372036854775807) :
    BookAt w' (.agg #[.int .i64 b.sounds, .slice ba b.alphabets.length bc, .slice (some ⟨B, 0, none⟩) 1 1]) (oneBook b a t) := by
  obtain ⟨av, sv, e1, g2, g3, g4⟩ := hB
  simp only [Value.agg.injEq, Array.mk.injEq, List.cons.injEq, and_true, true_and] at e1
  obtain ⟨rfl, rfl⟩ := e1
  exact ⟨_, _, rfl, g2, g3.ext hx, ⟨_, _, rfl, Nat.le_refl _, by omega, fun j hj => by
    have hj0 : j = 0 := by have : j < 1 := hj; omega
    subst hj0
    exact ⟨B, 0, rfl, h0, h1, ha, ht⟩⟩⟩
theorem reads_canT {b : Book} {n : Nat} {l : List Int} : (getT l (canM b [n])).isSome = true ↔ Can (b.sounds.toNat + 1) (lettersAt b n) [] l := by
  rw [getT_keys, canM_keys]
  unfold stringsOf
  simp only [List.mem_singleton, exists_eq_left]
  exact mem_yields
/-- the two boxes -/
theorem box_top {w : World} {ba bs oa ra wa : Option Addr} {bc bd oc rc wc : Nat} {b : Book} {o r ws : List Int} {x0 x1 : Int} (hb : BookAt w (.agg #[.int .i64 b.sounds, .slice ba b.alphabets.length bc, .slice bs b.spellings.length bd]) b) :
    ∃ W, W = (w.alloc (.cells #[.int .i64 b.sounds, .slice ba b.alphabets.length bc, .slice bs b.spellings.length bd] 25)).alloc (.cells #[.slice oa o.length oc, .slice ra r.length rc, .int .u8 x0, .int .u8 x1, .slice wa ws.length wc] 29) ∧
      W.cell? ⟨w.heap.size, 0, none⟩ = some (.int .i64 b.sounds) ∧ W.cell? ⟨w.heap.size, 1, none⟩ = some (.slice ba b.alphabets.length bc) ∧ W.cell? ⟨w.heap.size, 2, none⟩ = some (.slice bs b.spellings.length bd) ∧
      W.cell? ⟨w.heap.size + 1, 0, none⟩ = some (.slice oa o.length oc) ∧ W.cell? ⟨w.heap.size + 1, 1, none⟩ = some (.slice ra r.length rc) ∧ W.cell? ⟨w.heap.size + 1, 2, none⟩ = some (.int .u8 x0) ∧ W.cell? ⟨w.heap.size + 1, 3, none⟩ = some (.int .u8 x1) ∧ W.cell? ⟨w.heap.size + 1, 4, none⟩ = some (.slice wa ws.length wc) ∧ Ext w W :=
  ⟨_, rfl, by simp [go_sem], by simp [go_sem], by simp [go_sem], by simp [go_sem], by simp [go_sem], by simp [go_sem], by simp [go_sem], by simp [go_sem], (ext_alloc _ _).alloc _⟩
set_option maxRecDepth 100000 in
set_option maxHeartbeats 4000000 in
theorem topSpelt_any (aw : ∀ w, Calls Tryz.prog 6 #[] w fun e w' => e = .returned (.bool true) ∧ Ext w w')
    (ck : ∀ (bv : Value) (b : Book) (w : World), BookAt w bv b → Calls Tryz.prog 4 #[bv] w fun e w' => e = .returned (.tuple #[.int .i64 (checkM b).1, .int .i64 (checkM b).2.1, .int .i64 (checkM b).2.2]) ∧ Ext w w')
    (ba bs : Option Addr) (bc bd : Nat) (b : Book) (ov rv wv : Value) (o r ws : List Int) (x0 x1 : Nat) (hx0 : x0 ≤ 255) (hx1 : x1 ≤ 255) (w : World) (hb : BookAt w (.agg #[.int .i64 b.sounds, .slice ba b.alphabets.length bc, .slice bs b.spellings.length bd]) b) (ho : BytesAt w ov o) (hr : BytesAt w rv r) (hws : BytesAt w wv ws) :
    Calls Tryz.prog 3 #[(.agg #[.int .i64 b.sounds, .slice ba b.alphabets.length bc, .slice bs b.spellings.length bd]), .agg #[ov, rv, .int .u8 x0, .int .u8 x1, wv]] w fun e w' => e = .returned (.bool true) ∧ Ext w w' := by
  obtain ⟨oa, oc, rfl, -⟩ := ho.shape
  obtain ⟨ra, rc, rfl, -⟩ := hr.shape
  obtain ⟨wa, wc, rfl, -⟩ := hws.shape
  obtain ⟨W, hW, q0, q1, q2, p0, p1, p2, p3, p4, xx⟩ := box_top (oa := oa) (ra := ra) (wa := wa) (oc := oc) (rc := rc) (wc := wc) (o := o) (r := r) (ws := ws) (x0 := x0) (x1 := x1) hb
  replace hb := hb.ext xx
  replace ho := ho.ext xx
  replace hr := hr.ext xx
  replace hws := hws.ext xx
  have z1 := cell_lt q0
  have z2 := cell_lt p0
  have HW := Lib.hid hW
  clear hW
  go_enter Tryz.func3, Tryz.ntmps3
  go_wp2_with fail
  rw [← HW.out]
  clear HW
  obtain ⟨B0, hB0⟩ : ∃ B0, w.heap.size = B0 := ⟨_, rfl⟩
  rw [hB0] at q0 q1 q2 p0 p1 p2 p3 p4 z1 z2
  rw [hB0]
  clear hB0
  refine (ck _ b _ hb).mono ?_
  have hce : (checkM b).2.2 = errM b := rfl
  rw [hce]
  rintro e w1 ⟨rfl, hx⟩
  (replace hb := hb.ext hx; replace ho := ho.ext hx; replace hr := hr.ext hx; replace hws := hws.ext hx; replace q0 := hx.cell q0; replace q1 := hx.cell q1; replace q2 := hx.cell q2; replace p0 := hx.cell p0; replace p1 := hx.cell p1; replace p2 := hx.cell p2; replace p3 := hx.cell p3; replace p4 := hx.cell p4; replace z1 := cell_lt q0; replace z2 := cell_lt p0; replace xx := xx.trans hx; clear hx)
  generalize (checkM b).1 = ck1
  generalize (checkM b).2.1 = ck2
  clear hce ck
  by_cases he : errM b = 0
  rotate_left
  · have hs := spell_any (.agg #[.int .i64 b.sounds, .slice ba b.alphabets.length bc, .slice bs b.spellings.length bd]) (.slice none 0 0) b 0 (by unfold I64; omega) [] w1 hb SliceAt.nil
    have hsm : spellM b 0 [] = (⟨#[]⟩, errM b) := by unfold spellM; rw [if_pos he]
    rw [hsm] at hs
    have he' : (errM b != 0) = true := by simpa using he
    generalize errM b = er at *
    clear hsm he
    go_wp2_with fail
    refine hs.mono ?_
    rintro e w2 ⟨rfl, hx⟩
    clear hs
    (replace hb := hb.ext hx; replace ho := ho.ext hx; replace hr := hr.ext hx; replace hws := hws.ext hx; replace q0 := hx.cell q0; replace q1 := hx.cell q1; replace q2 := hx.cell q2; replace p0 := hx.cell p0; replace p1 := hx.cell p1; replace p2 := hx.cell p2; replace p3 := hx.cell p3; replace p4 := hx.cell p4; replace z1 := cell_lt q0; replace z2 := cell_lt p0; replace xx := xx.trans hx; clear hx)
    go_wp2_with fail
    refine (aw _).mono ?_
    rintro e w3 ⟨rfl, hx⟩
    (replace hb := hb.ext hx; replace ho := ho.ext hx; replace hr := hr.ext hx; replace hws := hws.ext hx; replace q0 := hx.cell q0; replace q1 := hx.cell q1; replace q2 := hx.cell q2; replace p0 := hx.cell p0; replace p1 := hx.cell p1; replace p2 := hx.cell p2; replace p3 := hx.cell p3; replace p4 := hx.cell p4; replace z1 := cell_lt q0; replace z2 := cell_lt p0; replace xx := xx.trans hx; clear hx)
    go_wp2_with fail
    refine (awakeL_any _).mono ?_
    rintro e w4 ⟨rfl, hx⟩
    go_wp2
    go_ret
    exact ⟨rfl, xx.trans hx⟩
  have hv := valid_of he
  have hS := hv.s
  have ha3 := hv.a
  have He := Lib.hid he
  have er0 : (errM b != 0) = false := by simpa using he
  rw [he]
  clear he hv er0
  go_wp2_with fail
  have hvf : ValidForm (formOf shelfE 1) := validE
  have hroom := note_rooms
  have hS3 : shelfE.forms.length = 3 := rfl
  have hf1 : shelfE.forms.getD 1 ⟨⟨#[]⟩, []⟩ = formOf shelfE 1 := rfl
  have hmk := fun T R h1 h2 h3 => note_make (T := T) (R := R) h1 h2 h3
  have hbu := note_built
  have herS : errS shelfE = 0 := by kernel_rfl
  have hshelf := Shelf_any
  obtain ⟨S, hSS⟩ : ∃ S, S = shelfE := ⟨_, rfl⟩
  rw [← hSS] at hvf hroom hS3 hf1 hbu herS
  simp only [← hSS] at hmk hshelf
  clear hSS
  obtain ⟨F, hF⟩ : ∃ F, F = formOf S 1 := ⟨_, rfl⟩
  rw [← hF] at hvf hroom hf1
  have HF := Lib.hid hF
  have HR := Lib.hid hroom
  have HMK := Lib.hid hmk
  have HBU := Lib.hid hbu
  have HES := Lib.hid herS
  clear hF hroom hmk hbu herS
  refine (hshelf _).mono ?_
  rintro e w2 ⟨sv, rfl, hsh, hx⟩
  clear hshelf
  (replace hb := hb.ext hx; replace ho := ho.ext hx; replace hr := hr.ext hx; replace hws := hws.ext hx; replace q0 := hx.cell q0; replace q1 := hx.cell q1; replace q2 := hx.cell q2; replace p0 := hx.cell p0; replace p1 := hx.cell p1; replace p2 := hx.cell p2; replace p3 := hx.cell p3; replace p4 := hx.cell p4; replace z1 := cell_lt q0; replace z2 := cell_lt p0; replace xx := xx.trans hx; clear hx)
  obtain ⟨fa, fc, rfl, -⟩ := hsh.open
  obtain ⟨fb, fo, rfl, f0, fsz, pu, f1, hps⟩ : ∃ b o, fa = some ⟨b, o, none⟩ ∧ w2.cell? ⟨b, o + 1 * 2, none⟩ = some (.string F.name) ∧ F.name.size ≤ 9223372036854775807 ∧ ∃ u, w2.cell? ⟨b, o + 1 * 2 + 1, none⟩ = some u ∧ PartsAt w2 u F.parts := by
    obtain ⟨u, e, -, h⟩ := hsh
    obtain rfl : u = .slice fa S.forms.length fc := by simpa using e.symm
    have hl : 1 < S.forms.length := by omega
    have e1 : S.forms[1] = F := by rw [← hf1]; simp [hl]
    obtain ⟨b, o, e, h1, h2, u, h3, h4⟩ := h.get hl
    rw [e1] at h1 h2 h4
    exact ⟨b, o, e, h1, h2, u, h3, h4⟩
  obtain ⟨pa, pc, rfl, -⟩ := hps.shape
  have hform : FormV w2 (.agg #[.string F.name, .slice pa F.parts.length pc]) F := ⟨_, rfl, fsz, hps⟩
  rw [hS3] at hsh ⊢
  clear hS3 hf1 hps fsz
  go_wp2_with fail
  obtain ⟨W, hW⟩ : ∃ W, W = w2.alloc (.cells #[.int .i64 S.width, .slice (some ⟨fb, fo, none⟩) 3 fc] 38) := ⟨_, rfl⟩
  have g0 : W.cell? ⟨w2.heap.size, 0, none⟩ = some (.int .i64 S.width) := by rw [hW]; simp [go_sem]
  have g1 : W.cell? ⟨w2.heap.size, 1, none⟩ = some (.slice (some ⟨fb, fo, none⟩) 3 fc) := by rw [hW]; simp [go_sem]
  have hx : Ext w2 W := by rw [hW]; exact ext_alloc _ _
  rw [← hW]
  clear hW
  replace f0 := hx.cell f0
  replace f1 := hx.cell f1
  replace hform := hform.ext hx
  replace hsh := hsh.ext hx
  (replace hb := hb.ext hx; replace ho := ho.ext hx; replace hr := hr.ext hx; replace hws := hws.ext hx; replace q0 := hx.cell q0; replace q1 := hx.cell q1; replace q2 := hx.cell q2; replace p0 := hx.cell p0; replace p1 := hx.cell p1; replace p2 := hx.cell p2; replace p3 := hx.cell p3; replace p4 := hx.cell p4; replace z1 := cell_lt q0; replace z2 := cell_lt p0; replace xx := xx.trans hx; clear hx)
  obtain ⟨B2, hB2⟩ : ∃ B2, w2.heap.size = B2 := ⟨_, rfl⟩
  rw [hB2] at g0 g1 ⊢
  clear hB2
  have z3 := cell_lt g0
  apply Facts.wp_region [.val _, .val _, .val _, .val (.agg #[.string F.name, .slice pa F.parts.length pc]), .val _, .val _, .fact AnyN, .fact AnyN] (by kernel_rfl) (by kernel_rfl) ⟨fun u a c hx h => AnyN.ext h hx, fun u a c hx h => AnyN.ext h hx, trivial⟩ ?main
  case main =>
  iterate 6 (refine ⟨fun w1 hx hh => ?_, ?_⟩; focus (clear hh; (have e0 := hx.cell g1; have e1 := hx.cell f0; have e2 := hx.cell f1; have e3 := hx.cell p4); go_simp; first | exact ⟨Ext.refl _, rfl⟩ | exact Ext.refl _))
  refine ⟨fun w3 hx hh => ?_, ?_⟩
  · clear hh
    go_simp
    refine (any_any _ _ F ws _ hvf (hform.ext hx) (hws.ext hx)).mono ?_
    rintro e w' ⟨u, fs, rfl, h1, h2, h3, hx⟩
    rw [HR.out] at h2 h3
    exact ⟨_, rfl, hx, AnyN.of h1 h2 h3⟩
  intro u6
  refine ⟨fun w3 hx hh => ?_, ?_⟩
  · have h6 : AnyN u6 w3 := hh 6 _ List.mem_cons_self (by kernel_rfl)
    clear hh
    go_simp
    first | exact ⟨Ext.refl _, h6⟩ | exact Ext.refl _
  intro u7 w4 hx hh
  have hany : AnyN u7 w4 := hh 7 _ List.mem_cons_self
  clear hh
  replace hsh := hsh.ext hx
  replace g0 := hx.cell g0
  replace g1 := hx.cell g1
  replace z3 := cell_lt g0
  (replace hb := hb.ext hx; replace ho := ho.ext hx; replace hr := hr.ext hx; replace hws := hws.ext hx; replace q0 := hx.cell q0; replace q1 := hx.cell q1; replace q2 := hx.cell q2; replace p0 := hx.cell p0; replace p1 := hx.cell p1; replace p2 := hx.cell p2; replace p3 := hx.cell p3; replace p4 := hx.cell p4; replace z1 := cell_lt q0; replace z2 := cell_lt p0; replace xx := xx.trans hx; clear hx)
  clear f0 f1 hform hvf HR
  obtain ⟨R0, R, hfi, hRw, hR2⟩ := hany
  obtain ⟨ya, yc, rfl, -⟩ := hfi.shape
  go_simp
  go_wp2_with fail
  obtain ⟨a0, ha0⟩ : ∃ a0, a0 = x0 % b.alphabets.length := ⟨_, rfl⟩
  obtain ⟨a1, ha1⟩ : ∃ a1, a1 = x1 % b.alphabets.length := ⟨_, rfl⟩
  have l0 : a0 < b.alphabets.length := by rw [ha0]; exact Nat.mod_lt _ (by omega)
  have l1 : a1 < b.alphabets.length := by rw [ha1]; exact Nat.mod_lt _ (by omega)
  have t0 : Int.tmod (x0 : Int) (b.alphabets.length : Int) = (a0 : Int) := by rw [ha0]; exact tmod_small _ _
  have t1 : Int.tmod (x1 : Int) (b.alphabets.length : Int) = (a1 : Int) := by rw [ha1]; exact tmod_small _ _
  have wx0 : IntKind.i64.wrap (x0 : Int) = x0 := IntWalk.i64_in _ (by omega)
  have wx1 : IntKind.i64.wrap (x1 : Int) = x1 := IntWalk.i64_in _ (by omega)
  have wa0 : IntKind.i64.wrap (a0 : Int) = a0 := IntWalk.i64_in _ (by omega)
  have wa1 : IntKind.i64.wrap (a1 : Int) = a1 := IntWalk.i64_in _ (by omega)
  have nz : ((b.alphabets.length : Int) == 0) = false := by rw [beq_eq_false_iff_ne]; omega
  have nz0 : ¬ (b.alphabets.length : Int) = 0 := by omega
  have nzb : ¬ b.alphabets = [] := fun e => by rw [e] at ha3; simp at ha3
  obtain ⟨T1, hT1⟩ : ∃ T1, (spellM b a0 (soundsT b.sounds o)).1 = T1 := ⟨_, rfl⟩
  obtain ⟨E1, hE1⟩ : ∃ E1, (spellM b a0 (soundsT b.sounds o)).2 = E1 := ⟨_, rfl⟩
  obtain ⟨T2, hT2⟩ : ∃ T2, (spellM b a1 (soundsT b.sounds r)).1 = T2 := ⟨_, rfl⟩
  obtain ⟨E2, hE2⟩ : ∃ E2, (spellM b a1 (soundsT b.sounds r)).2 = E2 := ⟨_, rfl⟩
  have HT1 := Lib.hid hT1
  have HE1 := Lib.hid hE1
  have HT2 := Lib.hid hT2
  have HE2 := Lib.hid hE2
  clear ha0 ha1 hT1 hE1 hT2 hE2
  -- Spell 1
  apply Facts.wp_region [.val _, .val _, .val _, .val _, .val _, .val _, .val (.int .i64 a0), .val _, .val _, .val _, .fact (fun u w => IntsAt w u (soundsT b.sounds o)), .val (.tuple #[.string T1, .int .i64 E1]), .val _, .val _, .val _, .val _, .val _] (by kernel_rfl) (by kernel_rfl) ⟨fun u a c hx h => IntsAt.ext h hx, trivial⟩ ?main1
  case main1 =>
  iterate 10 (refine ⟨fun w1 hx hh => ?_, ?_⟩; focus (clear hh; (have e0 := hx.cell q0; have e1 := hx.cell q1; have e2 := hx.cell q2; have e3 := hx.cell p2; have e4 := hx.cell p3; have e5 := hx.cell p0; have e6 := hx.cell p1); go_simp; first | exact ⟨Ext.refl _, rfl⟩ | exact Ext.refl _))
  refine ⟨fun w3 hx hh => ?_, ?_⟩
  · clear hh
    go_simp
    refine (sounds_any _ _ b o _ hS (hb.ext hx) (ho.ext hx)).mono ?_
    rintro e w' ⟨u, rfl, h1, hx⟩
    exact ⟨_, rfl, hx, h1⟩
  intro u10
  refine ⟨fun w3 hx hh => ?_, ?_⟩
  · have h10 : IntsAt w3 u10 (soundsT b.sounds o) := hh 10 _ List.mem_cons_self (by kernel_rfl)
    clear hh
    go_simp
    refine (spell_any _ _ b a0 (by unfold I64; omega) _ _ (hb.ext hx) h10).mono ?_
    rintro e w' ⟨rfl, hx⟩
    exact ⟨_, rfl, hx, by rw [HT1.out, HE1.out]⟩
  iterate 5 (refine ⟨fun w1 hx hh => ?_, ?_⟩; focus (clear hh; skip; go_simp; first | exact ⟨Ext.refl _, rfl⟩ | exact Ext.refl _))
  intro w5 hx hh
  clear hh
  replace hsh := hsh.ext hx
  replace hfi := hfi.ext hx
  replace g0 := hx.cell g0
  replace g1 := hx.cell g1
  replace z3 := cell_lt g0
  (replace hb := hb.ext hx; replace ho := ho.ext hx; replace hr := hr.ext hx; replace hws := hws.ext hx; replace q0 := hx.cell q0; replace q1 := hx.cell q1; replace q2 := hx.cell q2; replace p0 := hx.cell p0; replace p1 := hx.cell p1; replace p2 := hx.cell p2; replace p3 := hx.cell p3; replace p4 := hx.cell p4; replace z1 := cell_lt q0; replace z2 := cell_lt p0; replace xx := xx.trans hx; clear hx)
  go_simp
  go_wp2_with fail
  -- Spell 2
  apply Facts.wp_region [.val _, .val _, .val _, .val _, .val _, .val _, .val (.int .i64 a1), .val _, .val _, .val _, .fact (fun u w => IntsAt w u (soundsT b.sounds r)), .val (.tuple #[.string T2, .int .i64 E2]), .val _, .val _, .val _, .val _, .val _] (by kernel_rfl) (by kernel_rfl) ⟨fun u a c hx h => IntsAt.ext h hx, trivial⟩ ?main2
  case main2 =>
  iterate 10 (refine ⟨fun w1 hx hh => ?_, ?_⟩; focus (clear hh; (have e0 := hx.cell q0; have e1 := hx.cell q1; have e2 := hx.cell q2; have e3 := hx.cell p2; have e4 := hx.cell p3; have e5 := hx.cell p0; have e6 := hx.cell p1); go_simp; first | exact ⟨Ext.refl _, rfl⟩ | exact Ext.refl _))
  refine ⟨fun w3 hx hh => ?_, ?_⟩
  · clear hh
    go_simp
    refine (sounds_any _ _ b r _ hS (hb.ext hx) (hr.ext hx)).mono ?_
    rintro e w' ⟨u, rfl, h1, hx⟩
    exact ⟨_, rfl, hx, h1⟩
  intro u10
  refine ⟨fun w3 hx hh => ?_, ?_⟩
  · have h10 : IntsAt w3 u10 (soundsT b.sounds r) := hh 10 _ List.mem_cons_self (by kernel_rfl)
    clear hh
    go_simp
    refine (spell_any _ _ b a1 (by unfold I64; omega) _ _ (hb.ext hx) h10).mono ?_
    rintro e w' ⟨rfl, hx⟩
    exact ⟨_, rfl, hx, by rw [HT2.out, HE2.out]⟩
  iterate 5 (refine ⟨fun w1 hx hh => ?_, ?_⟩; focus (clear hh; skip; go_simp; first | exact ⟨Ext.refl _, rfl⟩ | exact Ext.refl _))
  intro w6 hx hh
  clear hh
  replace hsh := hsh.ext hx
  replace hfi := hfi.ext hx
  replace g0 := hx.cell g0
  replace g1 := hx.cell g1
  replace z3 := cell_lt g0
  (replace hb := hb.ext hx; replace ho := ho.ext hx; replace hr := hr.ext hx; replace hws := hws.ext hx; replace q0 := hx.cell q0; replace q1 := hx.cell q1; replace q2 := hx.cell q2; replace p0 := hx.cell p0; replace p1 := hx.cell p1; replace p2 := hx.cell p2; replace p3 := hx.cell p3; replace p4 := hx.cell p4; replace z1 := cell_lt q0; replace z2 := cell_lt p0; replace xx := xx.trans hx; clear hx)
  go_simp
  have sp1 := top_spell He.out l0 (soundsT_ok hS (bytes_U8 ho)).1 (soundsT_ok hS (bytes_U8 ho)).2
  have sp2 := top_spell He.out l1 (soundsT_ok hS (bytes_U8 hr)).1 (soundsT_ok hS (bytes_U8 hr)).2
  rw [HT1.out, HE1.out] at sp1
  rw [HT2.out, HE2.out] at sp2
  rcases sp1 with e9 | ⟨e0, w1', b1, can1⟩
  · subst e9
    clear sp2
    go_wp2_with fail
    refine (aw _).mono ?_
    rintro e w7 ⟨rfl, hx⟩
    (replace hb := hb.ext hx; replace ho := ho.ext hx; replace hr := hr.ext hx; replace hws := hws.ext hx; replace q0 := hx.cell q0; replace q1 := hx.cell q1; replace q2 := hx.cell q2; replace p0 := hx.cell p0; replace p1 := hx.cell p1; replace p2 := hx.cell p2; replace p3 := hx.cell p3; replace p4 := hx.cell p4; replace z1 := cell_lt q0; replace z2 := cell_lt p0; replace xx := xx.trans hx; clear hx)
    go_wp2_with fail
    refine (awakeL_any _).mono ?_
    rintro e w8 ⟨rfl, hx⟩
    go_wp2
    go_ret
    exact ⟨rfl, xx.trans hx⟩
  rcases sp2 with e9 | ⟨e0', w2', -, -⟩
  · subst e0
    subst e9
    clear w1' b1 can1
    go_wp2_with fail
    refine (aw _).mono ?_
    rintro e w7 ⟨rfl, hx⟩
    (replace hb := hb.ext hx; replace ho := ho.ext hx; replace hr := hr.ext hx; replace hws := hws.ext hx; replace q0 := hx.cell q0; replace q1 := hx.cell q1; replace q2 := hx.cell q2; replace p0 := hx.cell p0; replace p1 := hx.cell p1; replace p2 := hx.cell p2; replace p3 := hx.cell p3; replace p4 := hx.cell p4; replace z1 := cell_lt q0; replace z2 := cell_lt p0; replace xx := xx.trans hx; clear hx)
    go_wp2_with fail
    refine (awakeL_any _).mono ?_
    rintro e w8 ⟨rfl, hx⟩
    go_wp2
    go_ret
    exact ⟨rfl, xx.trans hx⟩
  subst e0
  subst e0'
  have W1 := Lib.hid w1'
  have W2 := Lib.hid w2'
  have HB1 := Lib.hid b1
  have HC1 := Lib.hid can1
  clear w1' w2' b1 can1
  go_wp2_with fail
  refine (refWord_any T1 _ (wordT_size W1.out)).mono ?_
  rw [W1.out]
  rintro e w7 ⟨rfl, rfl⟩
  go_wp2_with fail
  refine (refWord_any T2 _ (wordT_size W2.out)).mono ?_
  rw [W2.out]
  rintro e w7 ⟨rfl, rfl⟩
  go_wp2_with fail
  obtain ⟨yb, yo, rfl, d0, hRs⟩ : ∃ b o, ya = some ⟨b, o, none⟩ ∧ ∃ u, w6.cell? ⟨b, o + 1, none⟩ = some u ∧ StrsAt w6 u R := by
    obtain ⟨b, o, e, u, h1, h2⟩ := hfi.get (show 1 < [R0, R].length by simp)
    exact ⟨b, o, e, u, by simpa using h1, h2⟩
  obtain ⟨d0, hRs⟩ := hRs
  obtain ⟨Ra, Rc, rfl, -⟩ := hRs.shape
  -- Make 1
  apply Facts.wp_region [.val _, .val _, .fact (fun u w => StrsAt w u [T1]), .val _, .val _, .val (.slice Ra R.length Rc), .fact (fun u w => FillsAt w u [[T1], R]), .fact (TupL (noteM T1 R)), .fact (TupL (noteM T1 R)), .fact (fun u w => StrsAt w u (noteM T1 R)), .val (.int .i64 0), .fact (fun u w => StrsAt w u (noteM T1 R)), .val (.int .i64 0)] (by kernel_rfl) (by kernel_rfl) ⟨fun u a c hx h => StrsAt.ext h hx, fun u a c hx h => FillsAt.ext h hx, fun u a c hx h => TupL.ext h hx, fun u a c hx h => TupL.ext h hx, fun u a c hx h => StrsAt.ext h hx, fun u a c hx h => StrsAt.ext h hx, trivial⟩ ?mainM1
  case mainM1 =>
  iterate 2 (refine ⟨fun w1 hx hh => ?_, ?_⟩; focus (clear hh; (have e0 := hx.cell g0; have e1 := hx.cell g1); go_simp; first | exact ⟨Ext.refl _, rfl⟩ | exact Ext.refl _))
  refine ⟨fun w3 hx hh => ?_, ?_⟩
  · clear hh
    go_simp
    exact ⟨ext_alloc _ _, StrsAt.one1 rfl (wordT_size W1.out)⟩
  intro um2
  iterate 3 (refine ⟨fun w1 hx hh => ?_, ?_⟩; focus (clear hh; (have e0 := hx.cell g0; have e1 := hx.cell g1; have e2 := hx.cell d0); go_simp; first | exact ⟨Ext.refl _, rfl⟩ | exact Ext.refl _))
  refine ⟨fun w3 hx hh => ?_, ?_⟩
  · have h2 : StrsAt w3 um2 [T1] := hh 2 _ (by first | exact List.mem_cons_self | exact List.mem_cons_of_mem _ List.mem_cons_self) (by kernel_rfl)
    clear hh
    have h5 := hRs.ext hx
    have eo := h2.form
    generalize slA um2 = ao at eo
    generalize slC um2 = co at eo
    subst eo
    go_simp
    exact ⟨ext_alloc _ _, FillsAt.twoAt rfl h2 h5⟩
  intro um6
  refine ⟨fun w3 hx hh => ?_, ?_⟩
  · have h6 : FillsAt w3 um6 [[T1], R] := hh 6 _ (by first | exact List.mem_cons_self | exact List.mem_cons_of_mem _ List.mem_cons_self) (by kernel_rfl)
    have hx2 := hx
    clear hh
    go_simp
    refine (make_any _ _ S 1 (by constructor <;> decide) [[T1], R] _ (hsh.ext hx2) h6).mono ?_
    rw [HMK.out T1 R W1.out hRw hR2, HBU.out]
    rintro e w' ⟨u, rfl, ⟨v, rfl, hv, -⟩, hx⟩
    exact ⟨_, rfl, hx, ⟨rfl, hv rfl⟩⟩
  intro um7
  (refine ⟨fun w1 hx hh => ?_, ?_⟩; focus (have h4 : TupL (noteM T1 R) um7 w1 := hh 7 _ List.mem_cons_self (by kernel_rfl); clear hh; go_simp; first | exact ⟨Ext.refl _, h4⟩ | exact Ext.refl _))
  intro um8
  (refine ⟨fun w1 hx hh => ?_, ?_⟩; focus (have h5 : TupL (noteM T1 R) um8 w1 := hh 8 _ List.mem_cons_self (by kernel_rfl); have e := h5.1; have hs := h5.2; clear hh h5; generalize fstV um8 = f5 at *; subst e; go_simp; first | exact ⟨Ext.refl _, hs⟩ | exact ⟨Ext.refl _, rfl⟩ | exact Ext.refl _))
  intro um9
  (refine ⟨fun w1 hx hh => ?_, ?_⟩; focus (have h5 : TupL (noteM T1 R) um8 w1 := hh 8 _ (List.mem_cons_of_mem _ List.mem_cons_self) (by kernel_rfl); have e := h5.1; have hs := h5.2; clear hh h5; generalize fstV um8 = f5 at *; subst e; go_simp; first | exact ⟨Ext.refl _, hs⟩ | exact ⟨Ext.refl _, rfl⟩ | exact Ext.refl _))
  (refine ⟨fun w1 hx hh => ?_, ?_⟩; focus (have h6 : (fun w => StrsAt w um9 (noteM T1 R)) w1 := hh 9 _ List.mem_cons_self (by kernel_rfl); clear hh; go_simp; first | exact ⟨Ext.refl _, h6⟩ | exact Ext.refl _))
  intro um11
  iterate 1 (refine ⟨fun w1 hx hh => ?_, ?_⟩; focus (clear hh; skip; go_simp; first | exact ⟨Ext.refl _, rfl⟩ | exact Ext.refl _))
  intro w7 hx hh
  have hN1 : StrsAt w7 um11 (noteM T1 R) := hh 11 _ List.mem_cons_self
  clear hh
  replace hsh := hsh.ext hx
  replace hfi := hfi.ext hx
  replace hRs := hRs.ext hx
  replace g0 := hx.cell g0
  replace g1 := hx.cell g1
  replace d0 := hx.cell d0
  replace z3 := cell_lt g0
  (replace hb := hb.ext hx; replace ho := ho.ext hx; replace hr := hr.ext hx; replace hws := hws.ext hx; replace q0 := hx.cell q0; replace q1 := hx.cell q1; replace q2 := hx.cell q2; replace p0 := hx.cell p0; replace p1 := hx.cell p1; replace p2 := hx.cell p2; replace p3 := hx.cell p3; replace p4 := hx.cell p4; replace z1 := cell_lt q0; replace z2 := cell_lt p0; replace xx := xx.trans hx; clear hx)
  have eM := hN1.form
  generalize slA um11 = na1 at *
  generalize slC um11 = nc1 at *
  subst eM
  go_simp
  go_wp2_with fail
  -- Make 2
  apply Facts.wp_region [.val _, .val _, .fact (fun u w => StrsAt w u [T2]), .val _, .val _, .val (.slice Ra R.length Rc), .fact (fun u w => FillsAt w u [[T2], R]), .fact (TupL (noteM T2 R)), .fact (TupL (noteM T2 R)), .fact (fun u w => StrsAt w u (noteM T2 R)), .val (.int .i64 0), .fact (fun u w => StrsAt w u (noteM T2 R)), .val (.int .i64 0)] (by kernel_rfl) (by kernel_rfl) ⟨fun u a c hx h => StrsAt.ext h hx, fun u a c hx h => FillsAt.ext h hx, fun u a c hx h => TupL.ext h hx, fun u a c hx h => TupL.ext h hx, fun u a c hx h => StrsAt.ext h hx, fun u a c hx h => StrsAt.ext h hx, trivial⟩ ?mainM2
  case mainM2 =>
  iterate 2 (refine ⟨fun w1 hx hh => ?_, ?_⟩; focus (clear hh; (have e0 := hx.cell g0; have e1 := hx.cell g1); go_simp; first | exact ⟨Ext.refl _, rfl⟩ | exact Ext.refl _))
  refine ⟨fun w3 hx hh => ?_, ?_⟩
  · clear hh
    go_simp
    exact ⟨ext_alloc _ _, StrsAt.one1 rfl (wordT_size W2.out)⟩
  intro um2
  iterate 3 (refine ⟨fun w1 hx hh => ?_, ?_⟩; focus (clear hh; (have e0 := hx.cell g0; have e1 := hx.cell g1; have e2 := hx.cell d0); go_simp; first | exact ⟨Ext.refl _, rfl⟩ | exact Ext.refl _))
  refine ⟨fun w3 hx hh => ?_, ?_⟩
  · have h2 : StrsAt w3 um2 [T2] := hh 2 _ (by first | exact List.mem_cons_self | exact List.mem_cons_of_mem _ List.mem_cons_self) (by kernel_rfl)
    clear hh
    have h5 := hRs.ext hx
    have eo := h2.form
    generalize slA um2 = ao at eo
    generalize slC um2 = co at eo
    subst eo
    go_simp
    exact ⟨ext_alloc _ _, FillsAt.twoAt rfl h2 h5⟩
  intro um6
  refine ⟨fun w3 hx hh => ?_, ?_⟩
  · have h6 : FillsAt w3 um6 [[T2], R] := hh 6 _ (by first | exact List.mem_cons_self | exact List.mem_cons_of_mem _ List.mem_cons_self) (by kernel_rfl)
    have hx2 := hx
    clear hh
    go_simp
    refine (make_any _ _ S 1 (by constructor <;> decide) [[T2], R] _ (hsh.ext hx2) h6).mono ?_
    rw [HMK.out T2 R W2.out hRw hR2, HBU.out]
    rintro e w' ⟨u, rfl, ⟨v, rfl, hv, -⟩, hx⟩
    exact ⟨_, rfl, hx, ⟨rfl, hv rfl⟩⟩
  intro um7
  (refine ⟨fun w1 hx hh => ?_, ?_⟩; focus (have h4 : TupL (noteM T2 R) um7 w1 := hh 7 _ List.mem_cons_self (by kernel_rfl); clear hh; go_simp; first | exact ⟨Ext.refl _, h4⟩ | exact Ext.refl _))
  intro um8
  (refine ⟨fun w1 hx hh => ?_, ?_⟩; focus (have h5 : TupL (noteM T2 R) um8 w1 := hh 8 _ List.mem_cons_self (by kernel_rfl); have e := h5.1; have hs := h5.2; clear hh h5; generalize fstV um8 = f5 at *; subst e; go_simp; first | exact ⟨Ext.refl _, hs⟩ | exact ⟨Ext.refl _, rfl⟩ | exact Ext.refl _))
  intro um9
  (refine ⟨fun w1 hx hh => ?_, ?_⟩; focus (have h5 : TupL (noteM T2 R) um8 w1 := hh 8 _ (List.mem_cons_of_mem _ List.mem_cons_self) (by kernel_rfl); have e := h5.1; have hs := h5.2; clear hh h5; generalize fstV um8 = f5 at *; subst e; go_simp; first | exact ⟨Ext.refl _, hs⟩ | exact ⟨Ext.refl _, rfl⟩ | exact Ext.refl _))
  (refine ⟨fun w1 hx hh => ?_, ?_⟩; focus (have h6 : (fun w => StrsAt w um9 (noteM T2 R)) w1 := hh 9 _ List.mem_cons_self (by kernel_rfl); clear hh; go_simp; first | exact ⟨Ext.refl _, h6⟩ | exact Ext.refl _))
  intro um11
  iterate 1 (refine ⟨fun w1 hx hh => ?_, ?_⟩; focus (clear hh; skip; go_simp; first | exact ⟨Ext.refl _, rfl⟩ | exact Ext.refl _))
  intro w8 hx hh
  have hN2 : StrsAt w8 um11 (noteM T2 R) := hh 11 _ List.mem_cons_self
  clear hh
  replace hsh := hsh.ext hx
  replace hfi := hfi.ext hx
  replace hRs := hRs.ext hx
  replace g0 := hx.cell g0
  replace g1 := hx.cell g1
  replace d0 := hx.cell d0
  replace z3 := cell_lt g0
  replace hN1 := hN1.ext hx
  (replace hb := hb.ext hx; replace ho := ho.ext hx; replace hr := hr.ext hx; replace hws := hws.ext hx; replace q0 := hx.cell q0; replace q1 := hx.cell q1; replace q2 := hx.cell q2; replace p0 := hx.cell p0; replace p1 := hx.cell p1; replace p2 := hx.cell p2; replace p3 := hx.cell p3; replace p4 := hx.cell p4; replace z1 := cell_lt q0; replace z2 := cell_lt p0; replace xx := xx.trans hx; clear hx)
  have eM := hN2.form
  generalize slA um11 = na2 at *
  generalize slC um11 = nc2 at *
  subst eM
  go_simp
  go_wp2_with fail
  clear hfi hRs d0
  have hl1 : letterErrL (noteM T1 R) = 0 := note_letter W1.out hRw hR2
  have hl2 : letterErrL (noteM T2 R) = 0 := note_letter W2.out hRw hR2
  have hse : shelfErrM S (noteM T1 R) = 0 := by unfold shelfErrM; rw [if_neg (by rw [HES.out]; simp)]; exact hl1
  obtain ⟨r1, r2, -⟩ := read_write HES.out hl1
  obtain ⟨f1, f2, f3⟩ := note_far W1.out W2.out hRw hR2
  have hlen : (noteM T1 R).length = R.length + 3 := rfl
  have Hl1 := Lib.hid hl1
  have Hse := Lib.hid hse
  have R1 := Lib.hid r1
  have F1 := Lib.hid f1
  have F3 := Lib.hid f3
  clear hl1 hl2 hse r1 f1 f3
  refine (write_any _ _ S _ _ hsh hN1).mono ?_
  rw [Hse.out]
  rintro e w9 ⟨rfl, hx⟩
  replace hsh := hsh.ext hx
  replace g0 := hx.cell g0
  replace g1 := hx.cell g1
  replace z3 := cell_lt g0
  replace hN1 := hN1.ext hx
  replace hN2 := hN2.ext hx
  (replace hb := hb.ext hx; replace ho := ho.ext hx; replace hr := hr.ext hx; replace hws := hws.ext hx; replace q0 := hx.cell q0; replace q1 := hx.cell q1; replace q2 := hx.cell q2; replace p0 := hx.cell p0; replace p1 := hx.cell p1; replace p2 := hx.cell p2; replace p3 := hx.cell p3; replace p4 := hx.cell p4; replace z1 := cell_lt q0; replace z2 := cell_lt p0; replace xx := xx.trans hx; clear hx)
  generalize writeM S (noteM T1 R) = TX at *
  go_wp2_with fail
  refine (read_any _ S TX (by omega) _ hsh).mono ?_
  rw [R1.out]
  rintro e w10 ⟨uu, rfl, ⟨uR, rfl, hRd, -⟩, hx⟩
  replace hsh := hsh.ext hx
  replace g0 := hx.cell g0
  replace g1 := hx.cell g1
  replace z3 := cell_lt g0
  replace hN1 := hN1.ext hx
  replace hN2 := hN2.ext hx
  (replace hb := hb.ext hx; replace ho := ho.ext hx; replace hr := hr.ext hx; replace hws := hws.ext hx; replace q0 := hx.cell q0; replace q1 := hx.cell q1; replace q2 := hx.cell q2; replace p0 := hx.cell p0; replace p1 := hx.cell p1; replace p2 := hx.cell p2; replace p3 := hx.cell p3; replace p4 := hx.cell p4; replace z1 := cell_lt q0; replace z2 := cell_lt p0; replace xx := xx.trans hx; clear hx)
  obtain ⟨rda, rdc, rfl, -⟩ := hRd.shape
  go_wp2_with fail
  refine (Fewest_any _ _ _ _ _ hN1 hN2).mono ?_
  rw [F1.out]
  rintro e w11 ⟨um, rfl, -, hx⟩
  replace hRd := hRd.ext hx
  replace hsh := hsh.ext hx
  replace g0 := hx.cell g0
  replace g1 := hx.cell g1
  replace z3 := cell_lt g0
  replace hN1 := hN1.ext hx
  replace hN2 := hN2.ext hx
  (replace hb := hb.ext hx; replace ho := ho.ext hx; replace hr := hr.ext hx; replace hws := hws.ext hx; replace q0 := hx.cell q0; replace q1 := hx.cell q1; replace q2 := hx.cell q2; replace p0 := hx.cell p0; replace p1 := hx.cell p1; replace p2 := hx.cell p2; replace p3 := hx.cell p3; replace p4 := hx.cell p4; replace z1 := cell_lt q0; replace z2 := cell_lt p0; replace xx := xx.trans hx; clear hx)
  clear hN2
  obtain ⟨fm, hfm⟩ : ∃ fm, fewManyM (noteM T1 R) (noteM T2 R) = fm := ⟨_, rfl⟩
  rw [hfm] at f2 F3 ⊢
  clear hfm
  go_wp2_with fail
  refine (same_any _ _ _ _ _ hRd hN1).mono ?_
  rw [decide_eq_true rfl]
  rintro e w12 ⟨rfl, hx⟩
  replace hRd := hRd.ext hx
  replace hsh := hsh.ext hx
  replace hN1 := hN1.ext hx
  (replace hb := hb.ext hx; replace ho := ho.ext hx; replace hr := hr.ext hx; replace hws := hws.ext hx; replace q0 := hx.cell q0; replace q1 := hx.cell q1; replace q2 := hx.cell q2; replace p0 := hx.cell p0; replace p1 := hx.cell p1; replace p2 := hx.cell p2; replace p3 := hx.cell p3; replace p4 := hx.cell p4; replace z1 := cell_lt q0; replace z2 := cell_lt p0; replace xx := xx.trans hx; clear hx)
  have hzl : (((R.length + 3 : Nat) : Int) == 0) = false := by rw [beq_eq_false_iff_ne]; omega
  have hcase : (fm = 0 ∧ T1 = T2) ∨ (fm = 1 ∧ ¬ T1 = T2) := by
    by_cases e : T1 = T2
    · exact .inl ⟨F3.out.2 e, e⟩
    · refine .inr ⟨?_, e⟩
      have : fm ≠ 0 := fun h => e (F3.out.1 h)
      omega
  clear F3 f2 r2
  rcases hcase with ⟨rfl, e⟩ | ⟨rfl, e⟩
  · subst e
    go_wp2_with fail
    obtain ⟨B4, hB4⟩ : ∃ B4, w12.heap.size = B4 := ⟨_, rfl⟩
    obtain ⟨W, hW⟩ : ∃ W, W = w12.alloc (.cells #[.int .i64 b.sounds, .slice ba b.alphabets.length bc, .slice bs b.spellings.length bd] 25) := ⟨_, rfl⟩
    have k0 : W.cell? ⟨B4, 0, none⟩ = some (.int .i64 b.sounds) := by subst hW; subst hB4; simp [go_sem]
    have k1 : W.cell? ⟨B4, 1, none⟩ = some (.slice ba b.alphabets.length bc) := by subst hW; subst hB4; simp [go_sem]
    have k2 : W.cell? ⟨B4, 2, none⟩ = some (.slice bs b.spellings.length bd) := by subst hW; subst hB4; simp [go_sem]
    have k3 : W.frozen? ⟨B4, 2, none⟩ = false := by subst hW; subst hB4; simp [go_sem]
    have xW : Ext w12 W := by subst hW; exact ext_alloc _ _
    rw [← hW, hB4]
    have HB4 := Lib.hid hB4
    have HbO := Lib.hid hb
    have HoO := Lib.hid ho
    have q0' := xW.cell q0
    have q1' := xW.cell q1
    have q2' := xW.cell q2
    have p0' := xW.cell p0
    have p2' := xW.cell p2
    have d1 : W.cell? ⟨adB rda, adO rda, none⟩ = some (.string T1) := xW.cell (firstT hRd).2
    have erd := (firstT hRd).1
    have zB : B4 < W.heap.size := cell_lt k0
    have hlp : (0 : Int) < (R.length : Int) + 3 := by omega
    have hlq : (0 : Int) < ((R.length + 3 : Nat) : Int) := by omega
    have XX := Lib.hid xx
    have Q0 := Lib.hid q0
    have Q1 := Lib.hid q1
    have Q2 := Lib.hid q2
    have P0 := Lib.hid p0
    clear hW hB4 hsh hN1 hr hws hx0 hx1 W2 q0 q1 q2 p0 p1 p2 p3 p4 hRd xx g0 g1 z1 z2 z3
    generalize adB rda = rb at *
    generalize adO rda = ro at *
    subst erd
    apply Facts.Dep.wp_region (Facts.App.two_but (some B4)) 12 [.val _, .val _, .val _, .val _, .val _, .val (.int .i64 a0), .val _, .val _, .val (.string T1), .val (.agg #[.int .i64 a0, .string T1]), .fact (SpV B4 a0 T1), .val (.pointer (some ⟨B4, 2, none⟩)), .fact (COk b ba bc B4 a0 T1)] (by kernel_rfl) (by kernel_rfl) (.inl (by kernel_rfl)) (by kernel_rfl) ?keep ?main
    case keep =>
      exact ⟨fun u a c hx h => SpV.ext h hx, fun _ u a c hx h => SpV.but h hx, fun u a c hx h => COk.ext h hx, fun h => absurd h (Bool.eq_false_iff.1 (by kernel_rfl)), trivial⟩
    case main =>
      iterate 10 (refine ⟨fun w1 hE hC hh => ?_, ?_⟩; focus (have hx := hE (by kernel_rfl); clear hh hE hC; (have e0 := hx.cell p2'; have e1 := hx.cell d1); go_simp; first | exact ⟨Ext.refl _, rfl⟩ | exact Ext.refl _))
      refine ⟨fun w1 hE hC hh => ?_, ?_⟩
      focus
        have hx := hE (by kernel_rfl)
        clear hh hE hC
        have hsz1 := hx.size
        go_simp
        exact ⟨ext_alloc _ _, w1.heap.size, rfl, by simp [go_sem], by simp [go_sem], fun e => absurd (Option.some.inj e) (by omega)⟩
      intro u10
      iterate 1 (refine ⟨fun w1 hE hC hh => ?_, ?_⟩; focus (have hx := hE (by kernel_rfl); clear hh hE hC; (have e0 := hx.cell p2'); go_simp; first | exact ⟨Ext.refl _, rfl⟩ | exact Ext.refl _))
      refine ⟨fun w1 hE hC hh => ?_, ?_⟩
      focus
        have hx := hE (by kernel_rfl)
        have h10 : SpV B4 a0 T1 u10 w1 := hh 10 _ (by first | exact List.mem_cons_self | exact List.mem_cons_of_mem _ List.mem_cons_self) (by kernel_rfl)
        clear hh hE hC
        have s10 := h10.spec
        generalize h10.B = B at *
        have e10 := s10.1
        subst e10
        have e0 := hx.cell k0
        have e1 := hx.cell k1
        have e2 := hx.cell k2
        have e3 := hx.frozen (p := ⟨B4, 2, none⟩) zB
        rw [k3] at e3
        go_simp
        exact ⟨grown_setT w1 ⟨B4, 2, none⟩ _, B, set_other e0 (.inr (by simp)) _, set_other e1 (.inr (by simp)) _, set_cell e2 _, set_other s10.2.1 (.inl (fun e => s10.2.2.2 (by simpa using e.symm))) _, set_other s10.2.2.1 (.inl (fun e => s10.2.2.2 (by simpa using e.symm))) _⟩
      intro u12 w13 hC hh
      have h12 : COk b ba bc B4 a0 T1 u12 w13 := hh 12 _ List.mem_cons_self
      clear hh
      have xD : Ext w12 w13 := Ext.grown xW hC (fun k hk => (by have := Option.some.inj hk; have := HB4.out; omega))
      obtain ⟨B5, h50, h51, h52, h53, h54⟩ := h12
      have hC5 := one_atT HbO.out xD h53 h54 (by unfold I64; omega) (wordT_size W1.out)
      have ho5 := HoO.out.ext xD
      have hb5 := HbO.out.ext xD
      replace q0' := xD.cell Q0.out
      replace q1' := xD.cell Q1.out
      replace q2' := xD.cell Q2.out
      replace p0' := xD.cell P0.out
      have xx5 := XX.out.trans xD
      have hok := soundsT_ok hS (bytes_U8 ho5)
      have hcan := (reads_canT (b := oneBook b (a0 : Int) T1) (n := 0) (l := soundsT b.sounds o)).2 HC1.out
      have HCN := Lib.hid hcan
      go_simp
      go_wp2_with fail
      clear xD hC d1 k0 k1 k2 k3 xW p2' zB hcan
      apply Facts.wp_region [.val _, .val _, .val _, .val _, .fact (fun u w => IntsAt w u (soundsT b.sounds o)), .val (.tuple #[.bool true, .int .i64 0]), .val _, .val _, .val _, .val _, .val _] (by kernel_rfl) (by kernel_rfl) ⟨fun u a c hx h => IntsAt.ext h hx, trivial⟩ ?mainR
      case mainR =>
        iterate 4 (refine ⟨fun w1 hx hh => ?_, ?_⟩; focus (clear hh; (have e0 := hx.cell q0'; have e1 := hx.cell q1'; have e2 := hx.cell q2'; have e3 := hx.cell p0'; have e4 := hx.cell h50; have e5 := hx.cell h51; have e6 := hx.cell h52); go_simp; first | exact ⟨Ext.refl _, rfl⟩ | exact Ext.refl _))
        refine ⟨fun w3 hx hh => ?_, ?_⟩
        focus
          clear hh
          go_simp
          refine (sounds_any _ _ b o _ hS (hb5.ext hx) (ho5.ext hx)).mono ?_
          rintro e w' ⟨u, rfl, h1, hx⟩
          exact ⟨_, rfl, hx, h1⟩
        intro v4
        refine ⟨fun w3 hx hh => ?_, ?_⟩
        focus
          have h10 : IntsAt w3 v4 (soundsT b.sounds o) := hh 4 _ List.mem_cons_self (by kernel_rfl)
          clear hh
          go_simp
          refine (reads_ok _ _ (oneBook b a0 T1) HB1.out 0 (show 0 < 1 by omega) (soundsT b.sounds o) hok.1 _ (hC5.ext hx) h10).mono ?_
          rw [HCN.out]
          rintro e w' ⟨rfl, hx⟩
          exact ⟨_, rfl, hx, rfl⟩
        iterate 5 (refine ⟨fun w1 hx hh => ?_, ?_⟩; focus (clear hh; skip; go_simp; first | exact ⟨Ext.refl _, rfl⟩ | exact Ext.refl _))
        intro w14 hx hh
        clear hh
        have x14 := xx5.trans hx
        go_simp
        go_wp2_with fail
        refine (aw _).mono ?_
        rintro e w15 ⟨rfl, hx15⟩
        go_wp2_with fail
        refine (awakeL_any _).mono ?_
        rintro e w16 ⟨rfl, hx16⟩
        go_wp2
        go_ret
        exact ⟨rfl, (x14.trans hx15).trans hx16⟩
  · have e2 : (T1.toList == T2.toList) = false := by rw [beq_str, decide_eq_false e]
    go_wp2_with fail
    obtain ⟨B4, hB4⟩ : ∃ B4, w12.heap.size = B4 := ⟨_, rfl⟩
    obtain ⟨W, hW⟩ : ∃ W, W = w12.alloc (.cells #[.int .i64 b.sounds, .slice ba b.alphabets.length bc, .slice bs b.spellings.length bd] 25) := ⟨_, rfl⟩
    have k0 : W.cell? ⟨B4, 0, none⟩ = some (.int .i64 b.sounds) := by subst hW; subst hB4; simp [go_sem]
    have k1 : W.cell? ⟨B4, 1, none⟩ = some (.slice ba b.alphabets.length bc) := by subst hW; subst hB4; simp [go_sem]
    have k2 : W.cell? ⟨B4, 2, none⟩ = some (.slice bs b.spellings.length bd) := by subst hW; subst hB4; simp [go_sem]
    have k3 : W.frozen? ⟨B4, 2, none⟩ = false := by subst hW; subst hB4; simp [go_sem]
    have xW : Ext w12 W := by subst hW; exact ext_alloc _ _
    rw [← hW, hB4]
    have HB4 := Lib.hid hB4
    have HbO := Lib.hid hb
    have HoO := Lib.hid ho
    have q0' := xW.cell q0
    have q1' := xW.cell q1
    have q2' := xW.cell q2
    have p0' := xW.cell p0
    have p2' := xW.cell p2
    have d1 : W.cell? ⟨adB rda, adO rda, none⟩ = some (.string T1) := xW.cell (firstT hRd).2
    have erd := (firstT hRd).1
    have zB : B4 < W.heap.size := cell_lt k0
    have hlp : (0 : Int) < (R.length : Int) + 3 := by omega
    have hlq : (0 : Int) < ((R.length + 3 : Nat) : Int) := by omega
    have XX := Lib.hid xx
    have Q0 := Lib.hid q0
    have Q1 := Lib.hid q1
    have Q2 := Lib.hid q2
    have P0 := Lib.hid p0
    clear hW hB4 hsh hN1 hr hws hx0 hx1 W2 q0 q1 q2 p0 p1 p2 p3 p4 hRd xx g0 g1 z1 z2 z3
    generalize adB rda = rb at *
    generalize adO rda = ro at *
    subst erd
    apply Facts.Dep.wp_region (Facts.App.two_but (some B4)) 12 [.val _, .val _, .val _, .val _, .val _, .val (.int .i64 a0), .val _, .val _, .val (.string T1), .val (.agg #[.int .i64 a0, .string T1]), .fact (SpV B4 a0 T1), .val (.pointer (some ⟨B4, 2, none⟩)), .fact (COk b ba bc B4 a0 T1)] (by kernel_rfl) (by kernel_rfl) (.inl (by kernel_rfl)) (by kernel_rfl) ?keep ?main
    case keep =>
      exact ⟨fun u a c hx h => SpV.ext h hx, fun _ u a c hx h => SpV.but h hx, fun u a c hx h => COk.ext h hx, fun h => absurd h (Bool.eq_false_iff.1 (by kernel_rfl)), trivial⟩
    case main =>
      iterate 10 (refine ⟨fun w1 hE hC hh => ?_, ?_⟩; focus (have hx := hE (by kernel_rfl); clear hh hE hC; (have e0 := hx.cell p2'; have e1 := hx.cell d1); go_simp; first | exact ⟨Ext.refl _, rfl⟩ | exact Ext.refl _))
      refine ⟨fun w1 hE hC hh => ?_, ?_⟩
      focus
        have hx := hE (by kernel_rfl)
        clear hh hE hC
        have hsz1 := hx.size
        go_simp
        exact ⟨ext_alloc _ _, w1.heap.size, rfl, by simp [go_sem], by simp [go_sem], fun e => absurd (Option.some.inj e) (by omega)⟩
      intro u10
      iterate 1 (refine ⟨fun w1 hE hC hh => ?_, ?_⟩; focus (have hx := hE (by kernel_rfl); clear hh hE hC; (have e0 := hx.cell p2'); go_simp; first | exact ⟨Ext.refl _, rfl⟩ | exact Ext.refl _))
      refine ⟨fun w1 hE hC hh => ?_, ?_⟩
      focus
        have hx := hE (by kernel_rfl)
        have h10 : SpV B4 a0 T1 u10 w1 := hh 10 _ (by first | exact List.mem_cons_self | exact List.mem_cons_of_mem _ List.mem_cons_self) (by kernel_rfl)
        clear hh hE hC
        have s10 := h10.spec
        generalize h10.B = B at *
        have e10 := s10.1
        subst e10
        have e0 := hx.cell k0
        have e1 := hx.cell k1
        have e2 := hx.cell k2
        have e3 := hx.frozen (p := ⟨B4, 2, none⟩) zB
        rw [k3] at e3
        go_simp
        exact ⟨grown_setT w1 ⟨B4, 2, none⟩ _, B, set_other e0 (.inr (by simp)) _, set_other e1 (.inr (by simp)) _, set_cell e2 _, set_other s10.2.1 (.inl (fun e => s10.2.2.2 (by simpa using e.symm))) _, set_other s10.2.2.1 (.inl (fun e => s10.2.2.2 (by simpa using e.symm))) _⟩
      intro u12 w13 hC hh
      have h12 : COk b ba bc B4 a0 T1 u12 w13 := hh 12 _ List.mem_cons_self
      clear hh
      have xD : Ext w12 w13 := Ext.grown xW hC (fun k hk => (by have := Option.some.inj hk; have := HB4.out; omega))
      obtain ⟨B5, h50, h51, h52, h53, h54⟩ := h12
      have hC5 := one_atT HbO.out xD h53 h54 (by unfold I64; omega) (wordT_size W1.out)
      have ho5 := HoO.out.ext xD
      have hb5 := HbO.out.ext xD
      replace q0' := xD.cell Q0.out
      replace q1' := xD.cell Q1.out
      replace q2' := xD.cell Q2.out
      replace p0' := xD.cell P0.out
      have xx5 := XX.out.trans xD
      have hok := soundsT_ok hS (bytes_U8 ho5)
      have hcan := (reads_canT (b := oneBook b (a0 : Int) T1) (n := 0) (l := soundsT b.sounds o)).2 HC1.out
      have HCN := Lib.hid hcan
      go_simp
      go_wp2_with fail
      clear xD hC d1 k0 k1 k2 k3 xW p2' zB hcan
      apply Facts.wp_region [.val _, .val _, .val _, .val _, .fact (fun u w => IntsAt w u (soundsT b.sounds o)), .val (.tuple #[.bool true, .int .i64 0]), .val _, .val _, .val _, .val _, .val _] (by kernel_rfl) (by kernel_rfl) ⟨fun u a c hx h => IntsAt.ext h hx, trivial⟩ ?mainR
      case mainR =>
        iterate 4 (refine ⟨fun w1 hx hh => ?_, ?_⟩; focus (clear hh; (have e0 := hx.cell q0'; have e1 := hx.cell q1'; have e2 := hx.cell q2'; have e3 := hx.cell p0'; have e4 := hx.cell h50; have e5 := hx.cell h51; have e6 := hx.cell h52); go_simp; first | exact ⟨Ext.refl _, rfl⟩ | exact Ext.refl _))
        refine ⟨fun w3 hx hh => ?_, ?_⟩
        focus
          clear hh
          go_simp
          refine (sounds_any _ _ b o _ hS (hb5.ext hx) (ho5.ext hx)).mono ?_
          rintro e w' ⟨u, rfl, h1, hx⟩
          exact ⟨_, rfl, hx, h1⟩
        intro v4
        refine ⟨fun w3 hx hh => ?_, ?_⟩
        focus
          have h10 : IntsAt w3 v4 (soundsT b.sounds o) := hh 4 _ List.mem_cons_self (by kernel_rfl)
          clear hh
          go_simp
          refine (reads_ok _ _ (oneBook b a0 T1) HB1.out 0 (show 0 < 1 by omega) (soundsT b.sounds o) hok.1 _ (hC5.ext hx) h10).mono ?_
          rw [HCN.out]
          rintro e w' ⟨rfl, hx⟩
          exact ⟨_, rfl, hx, rfl⟩
        iterate 5 (refine ⟨fun w1 hx hh => ?_, ?_⟩; focus (clear hh; skip; go_simp; first | exact ⟨Ext.refl _, rfl⟩ | exact Ext.refl _))
        intro w14 hx hh
        clear hh
        have x14 := xx5.trans hx
        go_simp
        go_wp2_with fail
        refine (aw _).mono ?_
        rintro e w15 ⟨rfl, hx15⟩
        go_wp2_with fail
        refine (awakeL_any _).mono ?_
        rintro e w16 ⟨rfl, hx16⟩
        go_wp2
        go_ret
        exact ⟨rfl, (x14.trans hx15).trans hx16⟩
end Go.Proofs.YtnfbhicoknpojaaGreat

namespace Go.Proofs.YtnfbhicoknpojaaGreat
set_option linter.unusedSimpArgs false
set_option linter.unusedVariables false
open Go.ChangeShapes Go.WideShapes Go.RowKit
set_option maxRecDepth 100000
section
variable {H : Type} {enc : TypeId × Value → H} {w : World} {base : Nat} {sp : Nat → Bool} {held : Bool}
theorem five_of {cs : List Value} (h : cs.length = 5) : ∃ a b c d e, cs = [a, b, c, d, e] := by
  match cs, h with
  | [a, b, c, d, e], _ => exact ⟨a, b, c, d, e, rfl⟩
theorem pair_in {fuel : Nat} {c d : Value} {x : DataW H × List MemPlace} (h : DataW.trod enc Tryz.prog w base sp held fuel 27 [c, d] = some x) : ∃ m n : Nat, c = .int .u8 m ∧ d = .int .u8 n ∧ m ≤ 255 ∧ n ≤ 255 := by
  obtain ⟨xs, m, -, -, hl, hxl, hel⟩ := DataW.trod_array Tryz.underlying27 h
  rw [cellsU8] at hel
  have h0 := hel 0 (by decide)
  have h1 := hel 1 (by decide)
  rw [List.getElem?_eq_getElem (by omega)] at h0 h1
  simp only [Nat.zero_mul, Nat.one_mul, List.drop_zero, List.drop_succ_cons, List.take_succ_cons, List.take_zero] at h0 h1
  obtain ⟨a, ea, -, wa⟩ := DataW.trod_int Tryz.underlying5 h0
  obtain ⟨b, eb, -, wb⟩ := DataW.trod_int Tryz.underlying5 h1
  simp only [List.cons.injEq, and_true] at ea eb
  have ha := wf_u8 wa
  have hb := wf_u8 wb
  unfold U8 at ha hb
  exact ⟨a.toNat, b.toNat, by rw [ea]; congr 1; omega, by rw [eb]; congr 1; omega, by omega, by omega⟩
theorem cellsPair : Tryz.prog.cellsOf 27 = 2 := by kernel_rfl
theorem cellsHeard : Tryz.prog.cellsOf 29 = 5 := by kernel_rfl
theorem heard_of {r : Reach} {b0 : Nat} {v : Value} {d : DataW H} {ps : List MemPlace} (hval : Value.okWide Tryz.prog w r b0 29 v) (hd : DataW.Trod enc Tryz.prog w base sp held 29 v d ps) :
    ∃ (ov rv wv : Value) (o q ws : List Int) (x0 x1 : Nat), v = .agg #[ov, rv, .int .u8 x0, .int .u8 x1, wv] ∧ x0 ≤ 255 ∧ x1 ≤ 255 ∧ BytesAt w ov o ∧ BytesAt w rv q ∧ BytesAt w wv ws := by
  simp only [Value.okWide, Tryz.underlying29] at hval
  obtain ⟨cs, rfl, -, -⟩ := hval
  obtain ⟨fuel, h⟩ := hd
  simp only [Value.cells] at h
  obtain ⟨y0, y1, y2, y3, m, -, hl, h0, h1, h2, h3⟩ := Joins.trod_struct4 Tryz.underlying29 h
  rw [cellsHeard] at hl
  obtain ⟨cs⟩ := cs
  obtain ⟨c0, c1, c2, c3, c4, rfl⟩ := five_of hl
  simp only [cellsPair, cellsBytes, List.drop_zero, List.drop_succ_cons, List.take_succ_cons, List.take_zero] at h0 h1 h2 h3
  obtain ⟨o, ho⟩ := bytes_in h0
  obtain ⟨q, hq⟩ := bytes_in h1
  obtain ⟨x0, x1, e0, e1, hx0, hx1⟩ := pair_in h2
  obtain ⟨ws, hws⟩ := bytes_in h3
  subst e0 e1
  exact ⟨c0, c1, c4, o, q, ws, x0, x1, rfl, hx0, hx1, ho, hq, hws⟩
end
theorem topSpelt_law (v : Value) (b : Book) (ov rv wv : Value) (o r ws : List Int) (x0 x1 : Nat) (hx0 : x0 ≤ 255) (hx1 : x1 ≤ 255) (w : World) (hb : BookAt w v b) (ho : BytesAt w ov o) (hr : BytesAt w rv r) (hws : BytesAt w wv ws) :
    Calls Tryz.prog 3 #[v, .agg #[ov, rv, .int .u8 x0, .int .u8 x1, wv]] w fun e w' => e = .returned (.bool true) ∧ Ext w w' := by
  obtain ⟨ba, bc, bs, bd, rfl, -⟩ := hb.open
  exact topSpelt_any awake_any refCheck_any ba bs bc bd b ov rv wv o r ws x0 x1 hx0 hx1 w hb ho hr hws
end Go.Proofs.YtnfbhicoknpojaaGreat
