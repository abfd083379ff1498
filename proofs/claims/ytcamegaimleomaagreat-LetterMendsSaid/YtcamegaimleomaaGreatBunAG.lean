/-
  THE FIRST OF SOME COUNTS: best of the program, for whatever iterator that yields a list of counts.
  THE FIRST WAY IN WHICH A LETTER IS OF A FORM, and how many there are: firstWay of the program.
  THE FORMS THAT A LETTER IS OF: Of of the program.
  THE WORDS OF A LETTER THAT ARE IN THE ROOMS OF A FORM: fills of the program.
  A LETTER's TEXT, plain: the bytes and how wide the last line is, word by word; and what a text's words are.
  A LETTER's TEXT: textOf of the program, over strings.Builder.
  A LETTER's TEXT WRITTEN AND READ: Write and Read of the program.
  THE MAP OF WHAT IS FOUND at places: what is looked up in it, and how it is written.
-/
import Derived.Test.YtcamegaimleomaaGreatBunAF
import Derived.RangeFuncCalls
import Derived.Shelf.RegionOpen
import Derived.OwnWalkIn
import Derived.Test.YtcamegaimleomaaGreatBunAC
import Derived.Laws.IdiomCopy
import Derived.Test.YtcamegaimleomaaGreatBunAE
import Derived.Lib.FieldsP
import Derived.Test.YtcamegaimleomaaGreatShelf
import Derived.Shelf.Strings.Builder1
import Derived.Shelf.Strings.FieldsFuncGrows
import Derived.Maps.RangeRun
import Derived.MapKept
import Derived.RangeFuncBox
namespace Go.Proofs.YtcamegaimleomaaGreat
set_option linter.unusedSimpArgs false
set_option linter.unusedVariables false
open Go.RowKit
set_option linter.unusedVariables false
attribute [local go_sem] Oper.semAt_some

theorem KeptO.setIn {lo hi : Nat} {a w : World} (h : KeptO lo hi a w) {p : Addr} (h1 : lo ≤ p.block) (h2 : p.block < hi) (v : Value) : KeptO lo hi a (w.setCell p v) := ⟨Nat.le_trans h.size (by simp [World.setCell]), fun q u hb hq => by
  obtain ⟨k1, k2⟩ := h.all q u hb hq
  have he := Below.heap_setCell w p v q.block (by omega)
  exact ⟨(World.cell?_of_block (w := w) he).trans k1, (World.frozen?_of_block (w := w) he).trans k2⟩⟩
theorem Ext.keepsFrom {w w' : World} (h : Ext w w') (B : Nat) : KeepsFrom B w w' := ⟨h.size, fun k o _ hk _ => (h.below.block k (Array.getElem?_eq_some_iff.1 hk).1).trans hk⟩
/-- five cells are written -/
def set5 (w : World) (b : Nat) (c : Nat → Int) : World := ((((w.setCell ⟨b, 0, none⟩ (.int .i64 (c 0))).setCell ⟨b, 1, none⟩ (.int .i64 (c 1))).setCell ⟨b, 2, none⟩ (.int .i64 (c 2))).setCell ⟨b, 3, none⟩ (.int .i64 (c 3))).setCell ⟨b, 4, none⟩ (.int .i64 (c 4))
theorem set5_cells {w : World} {b : Nat} {c : Nat → Int} (h : CellsC w b c) (d : Nat → Int) : CellsC (set5 w b d) b d := by
  have h0 := h.set (k := 0) (by omega) (d 0)
  have h1 := h0.set (k := 1) (by omega) (d 1)
  have h2 := h1.set (k := 2) (by omega) (d 2)
  have h3 := h2.set (k := 3) (by omega) (d 3)
  have h4 := h3.set (k := 4) (by omega) (d 4)
  unfold set5
  have e : ∀ j, j < 5 → updC (updC (updC (updC (updC c 0 (d 0)) 1 (d 1)) 2 (d 2)) 3 (d 3)) 4 (d 4) j = d j := by
    intro j hj
    have : j = 0 ∨ j = 1 ∨ j = 2 ∨ j = 3 ∨ j = 4 := by omega
    rcases this with rfl | rfl | rfl | rfl | rfl <;> simp [updC]
  generalize updC (updC (updC (updC (updC c 0 (d 0)) 1 (d 1)) 2 (d 2)) 3 (d 3)) 4 (d 4) = q at *
  intro j hj
  rw [← e j hj]
  exact h4 j hj
theorem set5_other {w : World} {b : Nat} {c : Nat → Int} {k : Nat} (h : k ≠ b) : (set5 w b c).heap[k]? = w.heap[k]? := by
  unfold set5
  iterate 4 rw [Below.heap_setCell _ _ _ _ (by simpa using h)]
  exact Below.heap_setCell _ _ _ _ (by simpa using h)
theorem set5_size {w : World} {b : Nat} {c : Nat → Int} : (set5 w b c).heap.size = w.heap.size := by simp [set5, World.setCell]
theorem set5_kept {lo hi : Nat} {a w : World} (h : KeptO lo hi a w) {b : Nat} (h1 : lo ≤ b) (h2 : b < hi) (c : Nat → Int) : KeptO lo hi a (set5 w b c) :=
  ((((h.setIn (p := ⟨b, 0, none⟩) h1 h2 _).setIn (p := ⟨b, 1, none⟩) h1 h2 _).setIn (p := ⟨b, 2, none⟩) h1 h2 _).setIn (p := ⟨b, 3, none⟩) h1 h2 _).setIn (p := ⟨b, 4, none⟩) h1 h2 _
theorem set5_keeps {B : Nat} {w : World} {b : Nat} {c : Nat → Int} : KeepsFrom B w (set5 w b c) :=
  ((((KeepsOthers.setCell w ⟨b, 0, none⟩ (.int .i64 (c 0))).trans (KeepsOthers.setCell _ ⟨b, 1, none⟩ (.int .i64 (c 1)))).trans (KeepsOthers.setCell _ ⟨b, 2, none⟩ (.int .i64 (c 2)))).trans (KeepsOthers.setCell _ ⟨b, 3, none⟩ (.int .i64 (c 3)))).trans (KeepsOthers.setCell _ ⟨b, 4, none⟩ (.int .i64 (c 4))) |>.from B
/-- what the loop of best holds between two rounds, its variables in the blocks f and m -/
structure BestI (w0 : World) (bb fb mb : Nat) (bf : Value) (s : (Nat → Int) × Nat) (W : World) : Prop where
  first : CellsC W fb s.1
  ffree : ∀ o, W.frozen? ⟨fb, o, none⟩ = false
  many : W.cell? ⟨mb, 0, none⟩ = some (.int .i64 s.2)
  mfree : W.frozen? ⟨mb, 0, none⟩ = false
  fn : W.cell? ⟨bb, 0, none⟩ = some bf
  ext : Below fb w0 W
theorem BestI.later {w0 : World} {bb fb mb B : Nat} {bf : Value} {s : (Nat → Int) × Nat} {A W : World} (h : BestI w0 bb fb mb bf s A) (hx : Below B A W) (h1 : bb < B) (h2 : fb < B) (h3 : mb < B) : BestI w0 bb fb mb bf s W :=
  ⟨fun j hj => (hx.cell (p := ⟨fb, j, none⟩) h2).trans (h.first j hj), fun o => (hx.frozen (p := ⟨fb, o, none⟩) h2).trans (h.ffree o), (hx.cell (p := ⟨mb, 0, none⟩) h3).trans h.many, (hx.frozen (p := ⟨mb, 0, none⟩) h3).trans h.mfree, (hx.cell (p := ⟨bb, 0, none⟩) h1).trans h.fn, h.ext.trans (hx.mono (Nat.le_of_lt h2))⟩
theorem frozen_set5 {w : World} {b : Nat} {c : Nat → Int} (p : Addr) : (set5 w b c).frozen? p = w.frozen? p := by simp [set5, go_sem]
theorem cell_set5_other {w : World} {b : Nat} {c : Nat → Int} {p : Addr} (h : p.block ≠ b) : (set5 w b c).cell? p = w.cell? p := World.cell?_of_block (set5_other h)
theorem BestI.kept {w0 : World} {bb fb mb : Nat} {bf : Value} {s : (Nat → Int) × Nat} {W : World} (h : BestI w0 bb fb mb bf s W) (h1 : bb < fb) (h2 : fb < mb) : BestI w0 bb fb mb bf (s.1, s.2 + 1) (W.setCell ⟨mb, 0, none⟩ (.int .i64 ((s.2 : Int) + 1))) :=
  ⟨fun j hj => (World.cell?_setCell_other _ _ _ _ (fun e => by have := (Addr.mk.inj e).1; omega)).trans (h.first j hj), fun o => by simpa [go_sem] using h.ffree o, World.cell?_setCell_same _ _ _ h.many, by simpa [go_sem] using h.mfree, (World.cell?_setCell_other _ _ _ _ (fun e => by have := (Addr.mk.inj e).1; omega)).trans h.fn, h.ext.setCell (p := ⟨mb, 0, none⟩) (Nat.le_of_lt h2) _⟩
theorem BestI.took {w0 : World} {bb fb mb : Nat} {bf : Value} {s : (Nat → Int) × Nat} {W : World} (h : BestI w0 bb fb mb bf s W) (h1 : bb < fb) (h2 : fb < mb) (x : Nat → Int) : BestI w0 bb fb mb bf (x, s.2) (set5 W fb x) :=
  ⟨set5_cells h.first x, fun o => (frozen_set5 _).trans (h.ffree o), (cell_set5_other (p := ⟨mb, 0, none⟩) (Nat.ne_of_gt h2)).trans h.many, (frozen_set5 _).trans h.mfree, (cell_set5_other (p := ⟨bb, 0, none⟩) (Nat.ne_of_lt h1)).trans h.fn, ((((h.ext.setCell (p := ⟨fb, 0, none⟩) (Nat.le_refl _) _).setCell (p := ⟨fb, 1, none⟩) (Nat.le_refl _) _).setCell (p := ⟨fb, 2, none⟩) (Nat.le_refl _) _).setCell (p := ⟨fb, 3, none⟩) (Nat.le_refl _) _).setCell (p := ⟨fb, 4, none⟩) (Nat.le_refl _) _⟩
def zeroC : Nat → Int := fun _ => 0
def beforeF : Value := .func (.func 100) #[] #[]

set_option maxRecDepth 100000 in
set_option maxHeartbeats 1000000 in
theorem bestC_any (gf : Nat) (lb : Array Value) (xs : List (Nat → Int)) (hxs : xs.length ≤ 100000) (w : World) (heg : ∀ args w, (callFunc gf args).run Tryz.prog w = .ok (.enter gf args) w)
    (hseq : ∀ w', Ext w w' → w.heap.size + 4 ≤ w'.heap.size → SeqOwn 3 Tryz.prog gf lb (fun c => #[countsV c]) (KeptO (w.heap.size + 2) (w.heap.size + 4)) xs w') :
    Calls Tryz.prog 98 #[.func (.func gf) #[] lb, beforeF] w fun e w' => e = .returned (.tuple #[countsV (pickB beforeM zeroC xs).1, .int .i64 xs.length]) ∧ Ext w w' := by
  refine (callsIn_wide (n := 4)).1 (callsIn_of_wp_marks Tryz.func98 rfl trivial ?_ rfl)
  simp only [Tryz.ntmps98, List.size_toArray, List.length_cons, List.length_nil, Nat.reduceAdd, Nat.reduceSub, Array.replicate_succ, Array.replicate_zero, List.push_toArray, List.append_toArray, List.nil_append, List.cons_append]
  refine wpIn_wide.2 ?_
  unfold beforeF
  go_wp2
  obtain ⟨W0, hW0⟩ : ∃ W0, W0 = ((((w.alloc (.cells #[.func (.func 100) #[] #[]] 173)).alloc (.cells #[.int .i64 0, .int .i64 0, .int .i64 0, .int .i64 0, .int .i64 0] 89)).alloc (.cells #[.int .i64 0, .int .i64 0, .int .i64 0, .int .i64 0, .int .i64 0] 89)).alloc (.cells #[.int .i64 0] 3)) := ⟨_, rfl⟩
  have x0 : Ext w W0 := by rw [hW0]; exact (((ext_alloc _ _).alloc _).alloc _).alloc _
  have z0 : W0.heap.size = w.heap.size + 4 := by rw [hW0]; simp
  have c0 : BestI W0 w.heap.size (w.heap.size + 2) (w.heap.size + 3) beforeF (pickB beforeM zeroC []) W0 := by
    refine ⟨?_, fun o => by rw [hW0]; simp [go_sem], by rw [hW0]; simp [go_sem, pickB], by rw [hW0]; simp [go_sem], by rw [hW0]; simp [go_sem, beforeF], Below.refl _ _⟩
    rw [hW0]
    exact cells_five (by simp [go_sem, pickB, zeroC]) (by simp [go_sem, pickB, zeroC]) (by simp [go_sem, pickB, zeroC]) (by simp [go_sem, pickB, zeroC]) (by simp [go_sem, pickB, zeroC])
  have r0 : CellsC W0 (w.heap.size + 1) zeroC := by
    rw [hW0]
    exact cells_five (by simp [go_sem, zeroC]) (by simp [go_sem, zeroC]) (by simp [go_sem, zeroC]) (by simp [go_sem, zeroC]) (by simp [go_sem, zeroC])
  have rf : ∀ o, W0.frozen? ⟨w.heap.size + 1, o, none⟩ = false := fun o => by rw [hW0]; simp [go_sem]
  rw [← hW0]
  clear hW0
  have hsq := hseq W0 x0 (by omega)
  refine (wpIn_wide (n := 4)).1 ?_
  refine wpIn_seqOwn (by omega) rfl heg hsq (fun h k => KeptO.trans h k) ?kb (Below.refl _ _) (fun _ => rfl)
    (fun pre W => BestI W0 w.heap.size (w.heap.size + 2) (w.heap.size + 3) beforeF (pickB beforeM zeroC pre) W) ?hI c0
    (fun x a' W => ∃ tb, w.heap.size + 4 ≤ tb ∧ a' = { tmps := #[.func (.func gf) #[] lb, .func (.func 100) #[] #[], undef, .pointer (some ⟨w.heap.size, 0, none⟩), .pointer (some ⟨w.heap.size + 1, 0, none⟩), .int .i64 0, .pointer (some ⟨w.heap.size + 1 + 1, 0, none⟩), .pointer (some ⟨w.heap.size + 1 + 1 + 1, 0, none⟩), .pointer (some ⟨tb, 0, none⟩), .func (.func gf) #[] lb, countsV x, undef, undef, undef, undef, undef, undef, undef, undef, undef, undef, undef, undef, undef], defers := [] } ∧ CellsC W tb x) ?hAx ?assign ?body ?done
  case kb => exact fun W l o o' _ h hc _ => KeptO.putObj h hc
  case hI => exact fun s A B hx h => h.later hx (by omega) (by omega) (by omega)
  case hAx =>
    rintro x a' A l o' hl ⟨o, ho, hc⟩ ⟨tb, h1, h2, h3⟩
    exact ⟨tb, h1, h2, h3.kept (lo := 0) (hi := 0) (KeptO.putObj ho hc) (by omega)⟩
  case assign =>
    intro l pre x W K hI hK
    have hz := hI.ext.size
    unfold countsV
    gi_wp2
    refine hK _ _ ((KeepsOthers.alloc _ _).from _) ((ext_alloc _ _).kept _ _) (hI.later ((ext_alloc _ _).below) (by omega) (by omega) (by omega)) ⟨W.heap.size, by omega, rfl, cells_five (by simp [go_sem]) (by simp [go_sem]) (by simp [go_sem]) (by simp [go_sem]) (by simp [go_sem])⟩
  case body =>
    rintro l pre x a' W hI ⟨tb, htb, rfl, htc⟩ hpre
    have hz := hI.ext.size
    have hple : pre.length < xs.length := by have := hpre.length_le; simp at this; omega
    have hpm := pickB_many beforeM zeroC pre
    have hnext := pickB_snoc beforeM zeroC pre x
    generalize hs : pickB beforeM zeroC pre = st at *
    obtain ⟨sf, sm⟩ := st
    simp only at hpm hnext
    subst hpm
    have Hnext := Lib.hid hnext
    have Hpre := Lib.hid hpre
    have hIk := hI
    obtain ⟨h1, h2, h3, h4, h5, h6⟩ := hI
    simp only at h1 h3
    have f0 : W.cell? ⟨w.heap.size + 1 + 1, 0, none⟩ = some (.int .i64 (sf 0)) := h1 0 (by omega)
    have f1 : W.cell? ⟨w.heap.size + 1 + 1, 1, none⟩ = some (.int .i64 (sf 1)) := h1 1 (by omega)
    have f2 : W.cell? ⟨w.heap.size + 1 + 1, 2, none⟩ = some (.int .i64 (sf 2)) := h1 2 (by omega)
    have f3 : W.cell? ⟨w.heap.size + 1 + 1, 3, none⟩ = some (.int .i64 (sf 3)) := h1 3 (by omega)
    have f4 : W.cell? ⟨w.heap.size + 1 + 1, 4, none⟩ = some (.int .i64 (sf 4)) := h1 4 (by omega)
    have ff : ∀ o, W.frozen? ⟨w.heap.size + 1 + 1, o, none⟩ = false := h2
    have g0 : W.cell? ⟨w.heap.size + 1 + 1 + 1, 0, none⟩ = some (.int .i64 pre.length) := h3
    have gf' : W.frozen? ⟨w.heap.size + 1 + 1 + 1, 0, none⟩ = false := h4
    have t0 := htc 0 (by omega)
    have t1 := htc 1 (by omega)
    have t2 := htc 2 (by omega)
    have t3 := htc 3 (by omega)
    have t4 := htc 4 (by omega)
    have wp : IntKind.i64.wrap ((pre.length : Int) + 1) = (pre.length : Int) + 1 := IntWalk.i64_in _ (by omega)
    clear hnext hpre hs h1 h2 h3 h4 hseq hsq c0 r0 rf hxs
    unfold countsV beforeF at *
    by_cases hp0 : pre.length = 0
    · have k0 : ((pre.length : Int) == 0) = true := by simp [hp0]
      have Hp0 := Lib.hid hp0
      clear hp0
      gi_wp2
      refine ⟨fun _ h => (by cases h), ?_⟩
      gi_wp2
      show goesOn _ _ _ _ _ .normal _ ((set5 W (w.heap.size + 2) x).setCell ⟨w.heap.size + 3, 0, none⟩ (.int .i64 ((pre.length : Int) + 1)))
      refine ⟨set5_keeps.trans ((KeepsOthers.setCell _ _ _).from _), (set5_kept (KeptO.refl _ _ _) (by omega) (by omega) x).setIn (by simp) (by simp) _, ?_⟩
      show BestI _ _ _ _ _ (pickB beforeM zeroC (pre ++ [x])) _
      rw [Hnext.out, if_pos (.inl Hp0.out)]
      exact (hIk.took (by omega) (by omega) x).kept (by omega) (by omega)
    · have k0 : ((pre.length : Int) == 0) = false := by simpa using hp0
      have Hp0 := Lib.hid hp0
      clear hp0
      have hbf := fun w => before_any x sf w
      unfold countsV at hbf
      gi_wp2_with fail
      refine ⟨trivial, ?_⟩
      refine (CallsIn.inRound l (callsIn_wide.2 (hbf W))).mono ?_
      rintro e w1 ⟨rfl, hx1⟩
      replace f0 := hx1.cell f0
      replace f1 := hx1.cell f1
      replace f2 := hx1.cell f2
      replace f3 := hx1.cell f3
      replace f4 := hx1.cell f4
      replace t0 := hx1.cell t0
      replace t1 := hx1.cell t1
      replace t2 := hx1.cell t2
      replace t3 := hx1.cell t3
      replace t4 := hx1.cell t4
      replace ff : ∀ o, w1.frozen? ⟨w.heap.size + 1 + 1, o, none⟩ = false := fun o => (hx1.frozen (p := ⟨w.heap.size + 1 + 1, o, none⟩) (by have := cell_lt g0; simp at this ⊢; omega)).trans (ff o)
      replace g0 := hx1.cell g0
      replace gf' : w1.frozen? ⟨w.heap.size + 1 + 1 + 1, 0, none⟩ = false := (hx1.frozen (p := ⟨w.heap.size + 1 + 1 + 1, 0, none⟩) (by simp; omega)).trans gf'
      have hI1 := hIk.later hx1.below (by omega) (by omega) (by omega)
      have hz1 := hx1.size
      cases hb : beforeM x sf
      · have Hb := Lib.hid hb
        clear hb hbf
        gi_wp2
        show goesOn _ _ _ _ _ .normal _ (w1.setCell ⟨w.heap.size + 3, 0, none⟩ (.int .i64 ((pre.length : Int) + 1)))
        refine ⟨(hx1.keepsFrom _).trans ((KeepsOthers.setCell _ _ _).from _), (hx1.kept _ _).setIn (by simp) (by simp) _, ?_⟩
        show BestI _ _ _ _ _ (pickB beforeM zeroC (pre ++ [x])) _
        rw [Hnext.out, if_neg (by rintro (h | h); exact Hp0.out h; rw [Hb.out] at h; cases h)]
        exact hI1.kept (by omega) (by omega)
      · have Hb := Lib.hid hb
        clear hb hbf
        gi_wp2
        show goesOn _ _ _ _ _ .normal _ ((set5 w1 (w.heap.size + 2) x).setCell ⟨w.heap.size + 3, 0, none⟩ (.int .i64 ((pre.length : Int) + 1)))
        refine ⟨(hx1.keepsFrom _).trans (set5_keeps.trans ((KeepsOthers.setCell _ _ _).from _)), (set5_kept (hx1.kept _ _) (by omega) (by omega) x).setIn (by simp) (by simp) _, ?_⟩
        show BestI _ _ _ _ _ (pickB beforeM zeroC (pre ++ [x])) _
        rw [Hnext.out, if_pos (.inr Hb.out)]
        exact (hI1.took (by omega) (by omega) x).kept (by omega) (by omega)
  case done =>
    intro D W hD hI hDm
    have hz := hI.ext.size
    have hpm := pickB_many beforeM zeroC xs
    generalize hs : pickB beforeM zeroC xs = st at *
    obtain ⟨sf, sm⟩ := st
    simp only at hpm
    subst hpm
    obtain ⟨h1, h2, h3, h4, h5, h6⟩ := hI
    simp only at h1 h3
    have f0 : W.cell? ⟨w.heap.size + 1 + 1, 0, none⟩ = some (.int .i64 (sf 0)) := h1 0 (by omega)
    have f1 : W.cell? ⟨w.heap.size + 1 + 1, 1, none⟩ = some (.int .i64 (sf 1)) := h1 1 (by omega)
    have f2 : W.cell? ⟨w.heap.size + 1 + 1, 2, none⟩ = some (.int .i64 (sf 2)) := h1 2 (by omega)
    have f3 : W.cell? ⟨w.heap.size + 1 + 1, 3, none⟩ = some (.int .i64 (sf 3)) := h1 3 (by omega)
    have f4 : W.cell? ⟨w.heap.size + 1 + 1, 4, none⟩ = some (.int .i64 (sf 4)) := h1 4 (by omega)
    have g0 : W.cell? ⟨w.heap.size + 1 + 1 + 1, 0, none⟩ = some (.int .i64 xs.length) := h3
    have hr : CellsC W (w.heap.size + 1) zeroC := fun j hj => (h6.cell (p := ⟨w.heap.size + 1, j, none⟩) (by simp)).trans (r0 j hj)
    have q0 := hr 0 (by omega)
    have q1 := hr 1 (by omega)
    have q2 := hr 2 (by omega)
    have q3 := hr 3 (by omega)
    have q4 := hr 4 (by omega)
    have hrf : ∀ o, W.frozen? ⟨w.heap.size + 1, o, none⟩ = false := fun o => (h6.frozen (p := ⟨w.heap.size + 1, o, none⟩) (by simp)).trans (rf o)
    have xW : Ext w W := ⟨h6.os.trans x0.os, h6.tape.trans x0.tape, h6.output.trans x0.output, by omega, fun k hk => (h6.block k (by omega)).trans (x0.block k hk)⟩
    have hset := set5_cells hr sf
    have hDs : ((set5 W (w.heap.size + 1) sf).drew).heap[D]? = some (.deferred (some [])) := (set5_other (by omega)).trans hDm
    have xs5 : Ext w (set5 W (w.heap.size + 1) sf) := ((((xW.setCell (p := ⟨w.heap.size + 1, 0, none⟩) (by simp) _).setCell (p := ⟨w.heap.size + 1, 1, none⟩) (by simp) _).setCell (p := ⟨w.heap.size + 1, 2, none⟩) (by simp) _).setCell (p := ⟨w.heap.size + 1, 3, none⟩) (by simp) _).setCell (p := ⟨w.heap.size + 1, 4, none⟩) (by simp) _
    obtain ⟨Ws, hWs⟩ : ∃ Ws, set5 W (w.heap.size + 1) sf = Ws := ⟨_, rfl⟩
    rw [hWs] at hset hDs xs5
    have hgr := grownBy_putObj' Ws.drew D (.deferred none)
    have hfin : ∀ j, j < 5 → (Ws.drew.putObj D (.deferred none)).cell? ⟨w.heap.size + 1, j, none⟩ = some (.int .i64 (sf j)) := fun j hj => cell_kept (show Ws.drew.cell? ⟨w.heap.size + 1, j, none⟩ = _ from hset j hj) hgr (fun r e => by cases e; exact ⟨_, hDs, rfl⟩)
    have x5 : Ext w (Ws.drew.putObj D (.deferred none)) := Ext.grown xs5.drew hgr (fun r e => by cases e; omega)
    have E0 := Lib.hid (hfin 0 (by omega))
    have E1 := Lib.hid (hfin 1 (by omega))
    have E2 := Lib.hid (hfin 2 (by omega))
    have E3 := Lib.hid (hfin 3 (by omega))
    have E4 := Lib.hid (hfin 4 (by omega))
    have HD := Lib.hid hDs
    have HX := Lib.hid x5
    unfold set5 at hWs
    have HWs := Lib.hid hWs
    clear hset hDs hgr xs5 hfin x5 hseq hsq c0 r0 rf h1 h2 h3 h4 h5 h6 hr hWs
    go_wp2_with fail
    go_region
    go_wp2
    rw [HWs.out]
    refine ⟨by simp, .inl ⟨D, _, rfl, run_takeDeferred HD.out, ?_⟩⟩
    have e0 := E0.out
    have e1 := E1.out
    have e2 := E2.out
    have e3 := E3.out
    have e4 := E4.out
    have hx := HX.out
    generalize (Ws.drew.putObj D (.deferred none)) = Wf at *
    refine ⟨.tuple #[countsV sf, .int .i64 xs.length], by simp [results, Tryz.results98, go_sem, e0, e1, e2, e3, e4, countsV], by rw [hs], hx⟩
end Go.Proofs.YtcamegaimleomaaGreat

namespace Go.Proofs.YtcamegaimleomaaGreat
set_option linter.unusedSimpArgs false
set_option linter.unusedVariables false
open Go.RowKit
set_option linter.unusedVariables false

def firstWayM (ps : List Part) (l : List ByteArray) : Nat → Int := (pickB beforeM zeroC (formWays ps l)).1
theorem formWays_len {ps : List Part} (hV : ∀ p ∈ ps, ValidPart p) (h5 : ps.length ≤ 5) (l : List ByteArray) : (formWays ps l).length ≤ 1024 := by
  have := waysF_len (ps.map partSlotsM) 0 l (fun _ => 0) (fun sl hs => by
    obtain ⟨p, hp, rfl⟩ := List.mem_map.1 hs
    exact (partSlots_len (hV p hp)).2)
  rw [List.length_map] at this
  exact Nat.le_trans this (Nat.le_trans (Nat.pow_le_pow_right (by omega) h5) (by decide))
set_option maxRecDepth 100000 in
set_option maxHeartbeats 1000000 in
theorem firstWay_any (fv lv : Value) (f : Form) (l : List ByteArray) (hV : ValidForm f) (h15 : l.length ≤ 15) (w : World) (hf : FormV w fv f) (hl : StrsAt w lv l) :
    Calls Tryz.prog 43 #[fv, lv] w fun e w' => e = .returned (.tuple #[countsV (firstWayM f.parts l), .int .i64 (formWays f.parts l).length]) ∧ Ext w w' := by
  have hf0 := hf
  have hlen := formWays_len hV.parts hV.n l
  obtain ⟨pv, rfl, hns, hp⟩ := hf
  obtain ⟨a, cap, rfl, hlc, hcm⟩ := hp.shape
  obtain ⟨la, lc, rfl, -⟩ := hl.shape
  have Hlen := Lib.hid hlen
  have HV := Lib.hid hV
  clear hlen hV
  go_enter Tryz.func43, Tryz.ntmps43
  go_wp2_with fail
  refine (ways_any _ _ f l _ (hf0.ext (by first | (with_reducible exact Ext.refl _) | (with_reducible assumption) | (show Below _ _ _; go_grown; done))) (hl.ext (by first | (with_reducible exact Ext.refl _) | (with_reducible assumption) | (show Below _ _ _; go_grown; done)))).mono ?_
  rintro e w1 ⟨fb, wb, pv, rfl, h1, h2, h3, hx1⟩
  have x1 : Ext w w1 := Ext.trans (by first | (with_reducible exact Ext.refl _) | (with_reducible assumption) | (show Below _ _ _; go_grown; done)) hx1
  have q0 : w1.cell? ⟨w.heap.size + 1, 0, none⟩ = some (.int .i64 0) := hx1.cell (by simp [go_sem])
  have q1 : w1.cell? ⟨w.heap.size + 1, 1, none⟩ = some (.int .i64 0) := hx1.cell (by simp [go_sem])
  have q2 : w1.cell? ⟨w.heap.size + 1, 2, none⟩ = some (.int .i64 0) := hx1.cell (by simp [go_sem])
  have q3 : w1.cell? ⟨w.heap.size + 1, 3, none⟩ = some (.int .i64 0) := hx1.cell (by simp [go_sem])
  have q4 : w1.cell? ⟨w.heap.size + 1, 4, none⟩ = some (.int .i64 0) := hx1.cell (by simp [go_sem])
  have qf : ∀ o, w1.frozen? ⟨w.heap.size + 1, o, none⟩ = false := fun o => by rw [hx1.frozen (by simp)]; simp [go_sem]
  have hl1 := hl.ext x1
  have zf := cell_lt h1
  have zw := cell_lt h3
  clear hx1
  have hb := bestC_any 140 #[.pointer (some ⟨fb, 0, none⟩), .pointer (some ⟨wb, 0, none⟩)] (formWays f.parts l) (by have := Hlen.out; omega) w1 (enters_of Tryz.func140 (by kernel_rfl) rfl)
    (fun w' hx hs => ways_seq 3 (w1.heap.size + 2) (w1.heap.size + 4) fb wb pv (.slice la l.length lc) f.parts l w1 w' (by omega) (by omega) hs h2 HV.out.parts HV.out.n h15 hl1 (hx.kept _ _) (by simp at zf; omega) (by simp at zw; omega) (hx.cell h1) (hx.cell h3))
  unfold beforeF at hb
  generalize hpk : (pickB beforeM zeroC (formWays f.parts l)).1 = pk at *
  have Hpk := Lib.hid hpk
  clear hpk h1 h2 h3
  unfold countsV at *
  go_wp2_with fail
  refine hb.mono ?_
  rintro e w2 ⟨rfl, hx2⟩
  have x2 := x1.trans hx2
  have zq : w.heap.size + 1 < w1.heap.size := cell_lt q0
  replace q0 := hx2.cell q0
  replace q1 := hx2.cell q1
  replace q2 := hx2.cell q2
  replace q3 := hx2.cell q3
  replace q4 := hx2.cell q4
  have hcc : CellsC w2 (w.heap.size + 1) zeroC := cells_five q0 q1 q2 q3 q4
  have hset := set5_cells hcc pk
  have xs5 : Ext w (set5 w2 (w.heap.size + 1) pk) := ((((x2.setCell (p := ⟨w.heap.size + 1, 0, none⟩) (by simp) _).setCell (p := ⟨w.heap.size + 1, 1, none⟩) (by simp) _).setCell (p := ⟨w.heap.size + 1, 2, none⟩) (by simp) _).setCell (p := ⟨w.heap.size + 1, 3, none⟩) (by simp) _).setCell (p := ⟨w.heap.size + 1, 4, none⟩) (by simp) _
  have qf2 : ∀ o, w2.frozen? ⟨w.heap.size + 1, o, none⟩ = false := fun o => by rw [hx2.frozen zq]; exact qf o
  obtain ⟨Ws, hWs⟩ : ∃ Ws, set5 w2 (w.heap.size + 1) pk = Ws := ⟨_, rfl⟩
  rw [hWs] at hset xs5
  have E0 := Lib.hid (hset 0 (by omega))
  have E1 := Lib.hid (hset 1 (by omega))
  have E2 := Lib.hid (hset 2 (by omega))
  have E3 := Lib.hid (hset 3 (by omega))
  have E4 := Lib.hid (hset 4 (by omega))
  have HX := Lib.hid xs5
  unfold set5 at hWs
  have HWs := Lib.hid hWs
  have zq2 : w.heap.size + 1 < w2.heap.size := cell_lt q0
  clear hset xs5 hWs hb hcc qf
  go_wp2_with fail
  rw [HWs.out]
  refine bodyPost_ret (v := .tuple #[countsV pk, .int .i64 (formWays f.parts l).length]) (by simp [results, Tryz.results43, go_sem, E0.out, E1.out, E2.out, E3.out, E4.out, countsV]) rfl ⟨?_, HX.out⟩
  rw [show firstWayM f.parts l = pk from Hpk.out]
end Go.Proofs.YtcamegaimleomaaGreat

namespace Go.Proofs.YtcamegaimleomaaGreat
set_option linter.unusedSimpArgs false
set_option linter.unusedVariables false
open Go.RowKit
set_option linter.unusedVariables false

/-- the forms that a letter is of, of the first k -/
def ofTo (fs : List Form) (l : List ByteArray) : Nat → List Int
  | 0 => []
  | k + 1 => ofTo fs l k ++ if 0 < (formWays (fs.getD k ⟨⟨#[]⟩, []⟩).parts l).length then [(k : Int)] else []
def ofM (s : Shelf) (l : List ByteArray) : List Int := ofTo s.forms l s.forms.length
theorem ofTo_len (fs : List Form) (l : List ByteArray) : ∀ k, (ofTo fs l k).length ≤ k
  | 0 => Nat.le_refl _
  | k + 1 => by
    have := ofTo_len fs l k
    rw [ofTo, List.length_append]
    split <;> simp <;> omega
theorem ofTo_I64 (fs : List Form) (l : List ByteArray) : ∀ k, k ≤ 1000 → ∀ x ∈ ofTo fs l k, I64 x
  | 0, _ => by simp [ofTo]
  | k + 1, hk => by
    intro x hx
    rw [ofTo] at hx
    rcases List.mem_append.1 hx with h | h
    · exact ofTo_I64 fs l k (by omega) x h
    · split at h
      · simp at h; subst h; exact ⟨by omega, by omega⟩
      · cases h
theorem cell_one_at {W : World} {b : Nat} {v : Value} (h : W.cell? ⟨b, 0, none⟩ = some v) : ∀ j u, [v][j]? = some u → W.cell? ((⟨b, 0, none⟩ : Addr).add j) = some u := by
  intro j u hu
  match j, hu with
  | 0, hu => simp at hu; subst hu; simpa [Addr.add] using h
  | j + 1, hu => simp at hu
/-- a list of numbers, if there is no error -/
def ListI (w : World) (l : List Int) (e : Int) (v : Value) : Prop := ∃ u, v = .tuple #[u, .int .i64 e] ∧ (e = 0 → IntsAt w u l) ∧ (e ≠ 0 → u = .slice none 0 0)
set_option maxRecDepth 100000 in
set_option maxHeartbeats 2000000 in
theorem of_any (sv lv : Value) (s : Shelf) (l : List ByteArray) (w : World) (hs : ShelfAt w sv s) (hl : StrsAt w lv l) :
    Calls Tryz.prog 8 #[sv, lv] w fun e w' => ∃ u, e = .returned u ∧ ListI w' (ofM s l) (shelfErrM s l) u ∧ Ext w w' := by
  have hs0 := hs
  obtain ⟨a, c, rfl, hw, hc1, hc2, hf⟩ := hs.open
  obtain ⟨la, lc, rfl, -⟩ := hl.shape
  obtain ⟨i0, hi, hz0, hz1, hz2⟩ := info_parts infoInt
  go_enter Tryz.func8, Tryz.ntmps8
  go_wp2_with fail
  refine (shelfError_any _ _ s l _ (hs0.ext (by first | (with_reducible exact Ext.refl _) | (with_reducible assumption) | (show Below _ _ _; go_grown; done))) (hl.ext (by first | (with_reducible exact Ext.refl _) | (with_reducible assumption) | (show Below _ _ _; go_grown; done)))).mono ?_
  rintro e w1 ⟨rfl, hx1⟩
  have x1 : Ext w w1 := Ext.trans (by first | (with_reducible exact Ext.refl _) | (with_reducible assumption) | (show Below _ _ _; go_grown; done)) hx1
  have q1 : w1.cell? ⟨w.heap.size, 1, none⟩ = some (.slice a s.forms.length c) := hx1.cell (by simp [go_sem])
  have zq : w.heap.size < w1.heap.size := cell_lt q1
  clear hx1
  obtain ⟨er, herr⟩ : ∃ er, shelfErrM s l = er := ⟨_, rfl⟩
  rw [herr]
  have Herr := Lib.hid herr
  by_cases h0 : er = 0
  · have hE : errS s = 0 ∧ letterErrL l = 0 := by
      subst h0
      unfold shelfErrM at herr
      split at herr
      · rename_i h; exact absurd herr h
      · rename_i h; exact ⟨by simpa using h, herr⟩
    have hV := errS_ok hE.1
    have h15 : l.length ≤ 15 := by
      have := hE.2
      unfold letterErrL at this
      split at this
      · cases this
      · omega
    have HV := Lib.hid hV
    subst h0
    clear hE hV
    have hn4 := HV.out.n
    go_wp2_with fail
    go_loopw [7, 21] (fun v i wr => ∃ k : Nat, k ≤ s.forms.length ∧ i = .int .i64 k ∧ Ext w1 wr ∧ wr.ownsRow w1.heap.size 3 1 v (ofTo s.forms l k).length ((ofTo s.forms l k).map (Value.int .i64))) (fun _ i _ => s.forms.length - (intOf i).toNat)
    case atStart => exact ⟨0, Nat.zero_le _, rfl, Ext.refl _, World.ownsRow_nil _ _ _ _⟩
    case round =>
      obtain ⟨k, hk, rfl, hxr, hown⟩ := hrel
      by_cases hlt : k < s.forms.length
      · have k1 : (k : Int) < (s.forms.length : Int) := by omega
        have hxw := x1.trans hxr
        obtain ⟨fb, fo, rfl, h1, hns, u, h2, hp⟩ := (hf.ext hxw).get hlt
        have hVf := HV.out.forms _ (List.getElem_mem hlt)
        have hst : ofTo s.forms l (k + 1) = ofTo s.forms l k ++ if 0 < (formWays (s.forms[k]).parts l).length then [(k : Int)] else [] := by
          rw [ofTo, List.getD_eq_getElem?_getD, List.getElem?_eq_getElem hlt]; rfl
        have hlk := ofTo_len s.forms l k
        generalize s.forms[k] = f at *
        obtain ⟨pa, pc, rfl, -⟩ := hp.shape
        generalize hO : ofTo s.forms l k = O at *
        have hw4 := formWays_len hVf.parts hVf.n l
        generalize hm : (formWays f.parts l).length = m at *
        have Hst := Lib.hid hst
        have Hown := Lib.hid hown
        have HO := Lib.hid hO
        have Hm := Lib.hid hm
        have hszr := hxr.size
        have hfw := firstWay_any (.agg #[.string f.name, .slice pa f.parts.length pc]) (.slice la l.length lc) f l hVf h15 (wr.alloc (.cells #[.string f.name, .slice pa f.parts.length pc] 55)) ⟨_, rfl, hns, hp.ext (by first | (with_reducible exact Ext.refl _) | (with_reducible assumption) | (show Below _ _ _; go_grown; done))⟩ ((hl.ext hxw).ext (by first | (with_reducible exact Ext.refl _) | (with_reducible assumption) | (show Below _ _ _; go_grown; done)))
        rw [hm] at hfw
        unfold countsV at hfw
        clear hst hown hO hm
        go_wp2_with fail
        refine hfw.mono ?_
        rintro e w2 ⟨rfl, hx2⟩
        have hx3 : Ext w1 w2 := hxr.trans (Ext.trans (by first | (with_reducible exact Ext.refl _) | (with_reducible assumption) | (show Below _ _ _; go_grown; done)) hx2)
        have own2 := Ext.owns Hown.out (Ext.trans (ext_alloc _ _) hx2)
        have Own2 := Lib.hid own2
        have hsz2 := hx3.size
        clear own2 hfw
        by_cases hm0 : 0 < m
        · have km : (0 : Int) < (m : Int) := by omega
          have hst2 := Hst.out
          rw [if_pos hm0] at hst2
          have Hst2 := Lib.hid hst2
          clear hst2 hm0
          go_wp2_with (at_builtin; go_loud (refine wpList_append_own_at _ rfl _ _ 26 rfl w1.heap.size 3 i0 (.int .i64 0) 1 8 Tryz.underlying26 hi hz0 hz1 hz2 rfl (by decide) u7 O.length (O.map (Value.int .i64)) rfl (World.ownsRow.alloc (World.ownsRow.alloc Own2.out _) _) ⟨w2.heap.size + 1, 0, none⟩ 1 1 [.int .i64 k] rfl rfl (cell_one_at (by simp [go_sem])) (by simp [Value.oneCell']) (by unfold maxLen; omega) (by omega) (by simp; omega) ?_; intro v' w3 hown' hgrow _ _))
          have hx4 : Ext w1 w3 := Ext.grown ((hx3.alloc _).alloc _) hgrow fun k hk => (Own2.out.lt k hk).1
          go_roundw
          case rel => exact ⟨k + 1, by omega, by go_num, hx4, by rw [Hst2.out, List.length_append, List.map_append]; exact hown'⟩
          case measure => simp [intOf]; omega
        · have km : ¬ (0 : Int) < (m : Int) := by omega
          have hst2 := Hst.out
          rw [if_neg hm0, List.append_nil] at hst2
          have Hst2 := Lib.hid hst2
          clear hst2 hm0
          go_wp2
          go_roundw
          case rel => exact ⟨k + 1, by omega, by go_num, hx3.alloc _, by rw [Hst2.out]; exact Own2.out.alloc _⟩
          case measure => simp [intOf]; omega
      · have hke : k = s.forms.length := by omega
        subst hke
        have hI := IntsAt.of_own hown (ofTo_I64 _ _ _ (by omega))
        obtain ⟨va, vc, rfl, -⟩ := hI.shape
        go_wp2
        go_ret2
        exact ⟨_, rfl, ⟨.slice va (ofTo s.forms l s.forms.length).length vc, by rw [Herr.out]; rfl, fun _ => hI, fun h => absurd Herr.out h⟩, x1.trans hxr⟩
  · have h0' : (er != 0) = true := by simpa using h0
    have H0 := Lib.hid h0
    clear h0
    go_wp2_with fail
    go_ret2
    exact ⟨_, rfl, ⟨.slice none 0 0, by rw [Herr.out]; rfl, fun h => absurd (Herr.out.symm.trans h) H0.out, fun _ => rfl⟩, x1⟩
end Go.Proofs.YtcamegaimleomaaGreat

namespace Go.Proofs.YtcamegaimleomaaGreat
set_option linter.unusedSimpArgs false
set_option linter.unusedVariables false
open Go.RowKit
set_option linter.unusedVariables false

/-- the fills of the first k parts, and the words that are left -/
def fillsTo (ps : List Part) (c : Nat → Int) (l : List ByteArray) : Nat → List (List ByteArray) × List ByteArray
  | 0 => ([], l)
  | k + 1 => (if roomyM (ps.getD k ⟨[], 0, 0⟩) then (fillsTo ps c l k).1 ++ [(fillsTo ps c l k).2.take (c k).toNat] else (fillsTo ps c l k).1, (fillsTo ps c l k).2.drop (c k).toNat)
def fillsM (ps : List Part) (c : Nat → Int) (l : List ByteArray) : List (List ByteArray) := (fillsTo ps c l ps.length).1
theorem fillsTo_len (ps : List Part) (c : Nat → Int) (l : List ByteArray) : ∀ k, (fillsTo ps c l k).1.length ≤ k
  | 0 => Nat.le_refl _
  | k + 1 => by
    have := fillsTo_len ps c l k
    rw [fillsTo]
    simp only
    split
    · simp; omega
    · omega
theorem fillsTo_left (ps : List Part) (c : Nat → Int) (l : List ByteArray) : ∀ k, (fillsTo ps c l k).2.length ≤ l.length
  | 0 => Nat.le_refl _
  | k + 1 => by
    have := fillsTo_left ps c l k
    rw [fillsTo]
    simp only [List.length_drop]
    omega
/-- no more words are in a part than are left -/
def FitsC (ps : List Part) (c : Nat → Int) (l : List ByteArray) : Prop := ∀ k, k < ps.length → 0 ≤ c k ∧ (c k).toNat ≤ (fillsTo ps c l k).2.length
theorem setCells_below (g : Nat) : ∀ (vs : List Value) (o : Nat) (w : World), Below g w (w.setCells g o vs)
  | [], _, w => Below.refl _ _
  | v :: r, o, w => by
    rw [World.setCells]
    exact ((Below.refl g w).setCell (p := ⟨g, o, none⟩) (Nat.le_refl _) v).trans (setCells_below g r (o + 1) _)
theorem setCells_size (g : Nat) : ∀ (vs : List Value) (o : Nat) (w : World), (w.setCells g o vs).heap.size = w.heap.size
  | [], _, w => rfl
  | v :: r, o, w => by rw [World.setCells, setCells_size g r]; simp [World.setCell]
/-- new words: a slice is made, and so many words are copied into it -/
theorem make_strs (w : World) (n : Nat) (hn : n ≤ 100) (lv : Value) (l : List ByteArray) (hl : StrsAt w lv l) (hnl : n ≤ l.length) :
    ∃ w2 w3, (Instr.makeSlice 25 (.int .i64 (n : Int)) (.int .i64 (n : Int))).run Tryz.prog w = .ok (.slice (some ⟨w.heap.size, 0, none⟩) n n) w2 ∧
      (Builtin.copy_ #[25, 25] 3 #[.slice (some ⟨w.heap.size, 0, none⟩) n n, lv]).run Tryz.prog w2 = .ok (goInt n) w3 ∧ Ext w w2 ∧ Ext w w3 ∧ StrsAt w3 (.slice (some ⟨w.heap.size, 0, none⟩) n n) (l.take n) ∧ w.heap.size < w3.heap.size := by
  obtain ⟨i0, hi, hz0, hz1, hz2⟩ := info_parts infoString
  obtain ⟨w2, h1, h2, h3⟩ := run_makeSlice_full (P := Tryz.prog) w w.heap.size 25 9 i0 (.string ByteArray.empty) 1 Tryz.underlying25 hi hz0 hz1 .i64 .i64 n (by omega) (by rw [hz2]; omega) (by unfold maxLen; omega) (Nat.le_refl _)
  have e : (madeCells (Value.string ByteArray.empty).cells (n * 1)).toList = List.replicate n (.string ByteArray.empty) := by
    rw [Nat.mul_one]; exact toList_madeCells_one _ _
  rw [e] at h2
  have hx : Ext w w2 := Ext.grown (Ext.refl _) h3 fun k hk => by cases hk
  have hcell : ∀ j, j < n → w2.cell? ⟨w.heap.size, 0 + j, none⟩ = some (.string ByteArray.empty) := fun j hj => by
    have := World.ownsRow.cells h2 (g := w.heap.size) rfl j (.string ByteArray.empty) (by rw [List.getElem?_replicate, if_pos hj])
    rwa [show (⟨w.heap.size, 0, none⟩ : Addr).add j = ⟨w.heap.size, 0 + j, none⟩ by unfold Addr.add; split <;> simp_all] at this
  have hfree : ∀ j, w2.frozen? ⟨w.heap.size, 0 + j, none⟩ = false := fun j => by
    rcases h2.2 with ⟨h, -⟩ | ⟨g, cap, cur, hv, hb, hg, -⟩
    · cases h
    · obtain ⟨hg2, -⟩ := Value.slice.inj hv
      obtain rfl : w.heap.size = g := by simpa using hg2
      simp [World.frozen?, hg]
  have hlt2 : w.heap.size < w2.heap.size := (World.ownsRow.lt h2 w.heap.size rfl).2
  by_cases h0 : n = 0
  · subst h0
    refine ⟨w2, w2, h1, ?_, hx, hx, ⟨_, _, rfl, by simp, by decide, fun i hi => by simp at hi⟩, hlt2⟩
    obtain ⟨a, c, rfl, -⟩ := hl.shape
    exact run_copy_none _ _ _ _ 9 _ _ _ _ _ _ Tryz.underlying25 (by kernel_rfl) (by simp)
  · obtain ⟨a, c, rfl, hlc, hcm⟩ := hl.shape
    obtain ⟨b, o, rfl, -⟩ := hl.get (i := 0) (by omega)
    have hlen : ((l.take n).map Value.string).length = n := by simp; omega
    have hcp := run_copy_cells (P := Tryz.prog) w2 25 25 3 9 w.heap.size 0 n n ⟨b, o, none⟩ l.length c ((l.take n).map Value.string) Tryz.underlying25 (by kernel_rfl) (by rw [hlen]; exact (Nat.min_eq_right hnl).symm) (fun j v hv => by
      have hj : j < n := by
        rcases Nat.lt_or_ge j n with h | h
        · exact h
        · rw [List.getElem?_eq_none (by rw [hlen]; exact h)] at hv; cases hv
      obtain ⟨b', o', e', r, -⟩ := (hl.ext hx).get (i := j) (by omega)
      simp only [Option.some.injEq, Addr.mk.injEq, and_true] at e'
      obtain ⟨rfl, rfl⟩ := e'
      rw [List.getElem?_map, List.getElem?_take, if_pos hj, List.getElem?_eq_getElem (by omega)] at hv
      obtain rfl := Option.some.inj hv
      rw [show (⟨b, o, none⟩ : Addr).add j = ⟨b, o + j * 1, none⟩ by unfold Addr.add; split <;> simp_all]
      exact r) (fun j hj => by rw [hlen] at hj; rw [hcell j hj]; rfl) (fun j hj => hfree j) (fun v hv => by
      obtain ⟨x, -, rfl⟩ := List.mem_map.1 hv
      rfl)
    rw [hlen] at hcp
    have hx3 : Ext w (w2.setCells w.heap.size 0 ((l.take n).map Value.string)) := Below.trans hx (setCells_below _ _ _ _)
    refine ⟨w2, _, h1, hcp, hx, hx3, ⟨_, _, by rw [List.length_take, Nat.min_eq_left hnl], by rw [List.length_take]; omega, by omega, fun i hi => ⟨w.heap.size, 0, rfl, ?_, ?_⟩⟩, by rw [setCells_size]; exact hlt2⟩
    · have hin : i < n := by rw [List.length_take] at hi; omega
      have := World.cell?_setCells_in w.heap.size ((l.take n).map Value.string) 0 w2 (fun j hj => by rw [hlen] at hj; rw [hcell j hj]; rfl) i (by rw [hlen]; exact hin)
      rw [Nat.mul_one, this, List.getElem_map]
    · exact hl.sizes _ (List.mem_of_mem_take (List.getElem_mem hi))
theorem infoStrs : (Tryz.prog.info? 25).map (fun i => (i.zero, i.size, i.bytes)) = some (some (.slice none 0 0), 1, 24) := by kernel_rfl
theorem StrsAt.grownBy {w w' : World} {row : Option Nat} {sa : Option Addr} {n sc : Nat} {l : List ByteArray} (h : StrsAt w (.slice sa n sc) l) (hg : w.grownBy w' row) (hne : ∀ ad, sa = some ad → some ad.block ≠ row) : StrsAt w' (.slice sa n sc) l := by
  obtain ⟨a, cap, e, h2, h3, h4⟩ := h
  obtain ⟨rfl, rfl, rfl⟩ := Value.slice.inj e
  refine ⟨_, _, rfl, h2, h3, fun i hi => ?_⟩
  obtain ⟨b, o, rfl, r⟩ := h4 i hi
  exact ⟨b, o, rfl, hg.cell r.1 (show some b ≠ row from hne ⟨b, o, none⟩ rfl), r.2⟩
/-- one element: a slice with these words, not in the row's own block -/
def ElemS (w : World) (own : Option Nat) (x : Value) (L : List ByteArray) : Prop := ∃ sa sc, x = .slice sa L.length sc ∧ StrsAt w (.slice sa L.length sc) L ∧ ∀ ad, sa = some ad → ad.block < w.heap.size ∧ some ad.block ≠ own
/-- a row of fills of the call's own -/
def RowF (base : Nat) (fl : List (List ByteArray)) (u : Value) (w : World) : Prop :=
  ∃ vs : List Value, w.ownsRow base 25 1 u fl.length vs ∧ ∀ (i : Nat) (x : Value) (L : List ByteArray), vs[i]? = some x → fl[i]? = some L → ElemS w u.ownBlock x L
theorem ElemS.ext {w w' : World} {own : Option Nat} {x : Value} {L : List ByteArray} (h : ElemS w own x L) (hx : Ext w w') : ElemS w' own x L := by
  obtain ⟨sa, sc, rfl, h3, h4⟩ := h
  exact ⟨sa, sc, rfl, h3.ext hx, fun ad e => ⟨Nat.lt_of_lt_of_le (h4 ad e).1 hx.size, (h4 ad e).2⟩⟩
theorem RowF.ext {base : Nat} {fl : List (List ByteArray)} {u : Value} {w w' : World} (h : RowF base fl u w) (hx : Ext w w') : RowF base fl u w' := by
  obtain ⟨vs, h1, h2⟩ := h
  exact ⟨vs, Ext.owns h1 hx, fun i x L hi hL => (h2 i x L hi hL).ext hx⟩
theorem RowF.at_ {base : Nat} {fl : List (List ByteArray)} {u : Value} {w : World} (h : RowF base fl u w) : FillsAt w u fl := by
  obtain ⟨vs, h1, h2⟩ := h
  have hlen : vs.length = fl.length := by have := h1.1; omega
  have hcells := fun g hg => h1.cells (g := g) hg
  rcases h1.2 with ⟨rfl, hn⟩ | ⟨g, cap, cur, rfl, hb, hg, hnc, hcm, hcs, htake⟩
  · have : fl = [] := List.eq_nil_of_length_eq_zero hn
    subst this; exact SliceAt.nil
  · refine ⟨_, _, rfl, hnc, by simpa [maxLen] using hcm, fun i hi => ⟨g, 0, rfl, ?_⟩⟩
    have hv : vs[i]? = some vs[i] := List.getElem?_eq_getElem (by omega)
    obtain ⟨sa, sc, e, h3, -⟩ := h2 i vs[i] fl[i] hv (List.getElem?_eq_getElem hi)
    have := hcells g rfl i vs[i] hv
    have ea : (⟨g, 0, none⟩ : Addr).add i = ⟨g, 0 + i * 1, none⟩ := by unfold Addr.add; split <;> simp_all
    rw [ea, e] at this
    exact ⟨_, this, h3⟩
theorem rowF_push {w wA w' : World} {base : Nat} {v v' x : Value} {LL : List (List ByteArray)} {L : List ByteArray} {vs : List Value} (h1 : w.ownsRow base 25 1 v LL.length vs) (h2 : ∀ (i : Nat) (x : Value) (L : List ByteArray), vs[i]? = some x → LL[i]? = some L → ElemS w v.ownBlock x L) (hx : Ext w wA) {t : TypeId}
    (hv : ∃ sa sc, x = .slice sa L.length sc ∧ StrsAt wA x L ∧ ∀ ad, sa = some ad → w.heap.size ≤ ad.block ∧ ad.block < wA.heap.size)
    (hown : w'.ownsRow base 25 1 v' (LL.length + 1) (vs ++ [x])) (hg : (wA.alloc (.cells #[x] t)).grownBy w' v.ownBlock) (hb : v'.ownBlock = v.ownBlock ∨ v'.ownBlock = some (wA.heap.size + 1)) :
    RowF base (LL ++ [L]) v' w' := by
  have hlt := fun k hk => h1.lt k hk
  have hlen : vs.length = LL.length := by have := h1.1; omega
  have hg0 : wA.grownBy (wA.alloc (.cells #[x] t)) v.ownBlock := World.grownBy_alloc _ _ _
  have hsz : (wA.alloc (.cells #[x] t)).heap.size = wA.heap.size + 1 := by simp
  have hsz2 := hg.size
  have keep : ∀ (sa : Option Addr) (n sc : Nat) (l : List ByteArray), StrsAt wA (.slice sa n sc) l → (∀ ad, sa = some ad → ad.block < wA.heap.size ∧ some ad.block ≠ v.ownBlock) → StrsAt w' (.slice sa n sc) l ∧ ∀ ad, sa = some ad → ad.block < w'.heap.size ∧ some ad.block ≠ v'.ownBlock := fun sa n sc l hi hne => by
    refine ⟨(hi.grownBy hg0 fun ad e => (hne ad e).2).grownBy hg fun ad e => (hne ad e).2, fun ad e => ⟨by have := (hne ad e).1; omega, ?_⟩⟩
    rcases hb with hb | hb
    · rw [hb]; exact (hne ad e).2
    · rw [hb]; intro e2; have := (hne ad e).1; have := Option.some.inj e2; omega
  refine ⟨vs ++ [x], by rw [List.length_append]; exact hown, fun i y M hi hM => ?_⟩
  rcases Nat.lt_or_ge i vs.length with h3 | h3
  · rw [List.getElem?_append_left h3] at hi
    rw [List.getElem?_append_left (by omega)] at hM
    obtain ⟨sa, sc, rfl, h4, h5⟩ := (h2 i y M hi hM).ext hx
    obtain ⟨k1, k2⟩ := keep sa _ sc _ h4 h5
    exact ⟨sa, sc, rfl, k1, k2⟩
  · rw [List.getElem?_append_right h3] at hi
    rw [List.getElem?_append_right (by omega)] at hM
    have hi0 : i - vs.length = 0 := by
      rcases Nat.eq_zero_or_pos (i - vs.length) with h6 | h6
      · exact h6
      · rw [List.getElem?_eq_none (by simp; omega)] at hi; cases hi
    rw [hi0] at hi
    rw [show i - LL.length = 0 from by omega] at hM
    obtain rfl : x = y := by simpa using hi
    obtain rfl : L = M := by simpa using hM
    obtain ⟨sa, sc, rfl, h4, h5⟩ := hv
    obtain ⟨k1, k2⟩ := keep sa _ sc _ h4 fun ad e => ⟨(h5 ad e).2, fun e2 => by have := (hlt ad.block e2.symm).2; have := (h5 ad e).1; omega⟩
    exact ⟨sa, sc, rfl, k1, k2⟩
set_option maxRecDepth 100000 in
set_option maxHeartbeats 2000000 in
theorem fills_any (fv lv : Value) (f : Form) (l : List ByteArray) (c : Nat → Int) (hV : ValidForm f) (h15 : l.length ≤ 15) (hC : FitsC f.parts c l) (w : World) (hf : FormV w fv f) (hl : StrsAt w lv l) :
    Calls Tryz.prog 49 #[fv, lv, countsV c] w fun e w' => ∃ u, e = .returned u ∧ FillsAt w' u (fillsM f.parts c l) ∧ Ext w w' := by
  obtain ⟨pv, rfl, hns, hp⟩ := hf
  obtain ⟨a, cap, rfl, hlc, hcm⟩ := hp.shape
  obtain ⟨i0, hi, hz0, hz1, hz2⟩ := info_parts infoStrs
  have h5 := hV.n
  unfold countsV
  obtain ⟨W1, hW1⟩ : ∃ W1, W1 = (w.alloc (.cells #[.string f.name, .slice a f.parts.length cap] 92)).alloc (.cells #[.int .i64 (c 0), .int .i64 (c 1), .int .i64 (c 2), .int .i64 (c 3), .int .i64 (c 4)] 89) := ⟨_, rfl⟩
  have xW : Ext w W1 := by rw [hW1]; exact (ext_alloc _ _).alloc _
  have hcc : CellsC W1 (w.heap.size + 1) c := by
    rw [hW1]; exact cells_five (by simp [go_sem]) (by simp [go_sem]) (by simp [go_sem]) (by simp [go_sem]) (by simp [go_sem])
  have HW := Lib.hid hW1
  clear hW1
  go_enter Tryz.func49, Tryz.ntmps49
  go_wp2_with fail
  rw [← HW.out]
  go_loopw [1, 7, 15] (fun lw v i wr => ∃ k : Nat, k ≤ f.parts.length ∧ i = .int .i64 k ∧ Ext W1 wr ∧ RowF W1.heap.size (fillsTo f.parts c l k).1 v wr ∧ StrsAt w lw (fillsTo f.parts c l k).2) (fun _ _ i _ => f.parts.length - (intOf i).toNat)
  case atStart => exact ⟨0, Nat.zero_le _, rfl, Ext.refl _, ⟨[], World.ownsRow_nil _ _ _ _, fun i x L h => by simp at h⟩, hl⟩
  case round =>
    obtain ⟨k, hk, rfl, hxr, hown, hlw⟩ := hrel
    have hxw := xW.trans hxr
    by_cases hlt : k < f.parts.length
    · have k1 : (k : Int) < (f.parts.length : Int) := by omega
      obtain ⟨b, o, rfl, ⟨u, h1, hs⟩, h2, h3, hlo, hhi⟩ := (hp.ext hxw).get hlt
      have hck := hxr.cell (hcc k (by omega))
      have hck0 := hcc k (by omega)
      have zck := cell_lt hck
      obtain ⟨hc0, hcl⟩ := hC k hlt
      have hst : fillsTo f.parts c l (k + 1) = (if roomyM f.parts[k] then (fillsTo f.parts c l k).1 ++ [(fillsTo f.parts c l k).2.take (c k).toNat] else (fillsTo f.parts c l k).1, (fillsTo f.parts c l k).2.drop (c k).toNat) := by
        rw [fillsTo, List.getD_eq_getElem?_getD, List.getElem?_eq_getElem hlt]; rfl
      have hfl := fillsTo_len f.parts c l k
      obtain ⟨n, hn⟩ : ∃ n : Nat, c k = n := ⟨(c k).toNat, by omega⟩
      rw [hn] at hck hst hcl hck0
      have Hck0 := Lib.hid hck0
      clear hck0
      rw [Int.toNat_natCast] at hst hcl
      have hle : (fillsTo f.parts c l k).2.length ≤ 15 := Nat.le_trans (fillsTo_left f.parts c l k) h15
      generalize f.parts[k] = y at *
      obtain ⟨ua, uc, rfl, -⟩ := hs.shape
      generalize fillsTo f.parts c l k = st at *
      obtain ⟨fs, left⟩ := st
      simp only at hst hfl hcl hle hown hlw
      obtain ⟨la, lcap, rfl, hllc, hlcm⟩ := hlw.shape
      have Hst := Lib.hid hst
      have Hown := Lib.hid hown
      have Hlw := Lib.hid hlw
      have nl : (n : Int) ≤ (left.length : Int) := by omega
      have hszr := hxr.size
      clear hst hown hlw hC
      go_wp2_with fail
      refine (isRoom_any ua _ uc y.lo y.hi _).mono ?_
      rintro e w1 ⟨rfl, hx1⟩
      have x1 : Ext wr w1 := Ext.trans (by first | (with_reducible exact Ext.refl _) | (with_reducible assumption) | (show Below _ _ _; go_grown; done)) hx1
      replace hck := x1.cell hck
      have zck := cell_lt hck
      have hsl := Hlw.out.sliced n hcl
      have Hsl := Lib.hid hsl
      clear hx1 hsl h1 h2 h3
      cases hro : roomyM y
      · have e0 : ((y.words.length : Int) == 0) = false := by
          unfold roomyM at hro
          simp at hro ⊢
          exact hro
        rw [e0]
        have hs2 := Hst.out
        rw [hro] at hs2
        have Hs2 := Lib.hid hs2
        clear e0 hro hs2
        go_wp2
        go_roundw
        case rel => exact ⟨k + 1, by omega, by go_num, hxr.trans x1, by rw [Hs2.out]; exact Hown.out.ext x1, by rw [Hs2.out]; simpa using Hsl.out⟩
        case measure => simp [intOf]; omega
      · have e0 : ((y.words.length : Int) == 0) = true := by
          unfold roomyM at hro
          simp at hro ⊢
          exact hro
        rw [e0]
        have hs2 := Hst.out
        rw [hro] at hs2
        have Hs2 := Lib.hid hs2
        clear e0 hro hs2
        obtain ⟨w2, w3, hmk, hcp, x2, x3, hfill, hlt3⟩ := make_strs w1 n (by omega) _ left (Hlw.out.ext (hxw.trans x1)) hcl
        have Hfill := Lib.hid hfill
        replace hck2 := x2.cell hck
        have hck3 := x3.cell hck
        have zck2 := cell_lt hck2
        have zck3 := cell_lt hck3
        obtain ⟨vals, hv2, hv3⟩ := Hown.out
        have hvn : vals.length = fs.length := by have := hv2.1; omega
        have hx3 := x1.trans x3
        have own3 := Ext.owns hv2 hx3
        have Own3 := Lib.hid own3
        have Hv2 := Lib.hid hv2
        have Hv3 := Lib.hid hv3
        have hsz3 := hx3.size
        have hsz1 := x1.size
        have hsz13 := x3.size
        have hszW := xW.size
        have Hlt3 := Lib.hid hlt3
        clear own3 hv2 hv3 hfill Hown hlt3
        go_wp2_with (at_builtin; go_loud (refine wpList_append_own_at _ rfl _ _ 31 rfl W1.heap.size 25 i0 (.slice none 0 0) 1 24 Tryz.underlying31 hi hz0 hz1 hz2 rfl (by decide) u7 fs.length vals rfl (World.ownsRow.alloc Own3.out _) ⟨w3.heap.size, 0, none⟩ 1 1 [.slice (some ⟨w1.heap.size, 0, none⟩) n n] rfl rfl (cell_one_at (by simp [go_sem])) (by simp [Value.oneCell']) (by unfold maxLen; omega) (by omega) (by simp; omega) ?_; intro v' w4 hown' hgrow _ hblk; have hx4 : Ext W1 w4 := Ext.grown ((hxr.trans hx3).alloc _) hgrow fun k hk => (Own3.out.lt k hk).1; have hck4 := hx4.cell Hck0.out; have zck4 := cell_lt hck4))
        have hrow := rowF_push (L := left.take n) Hv2.out Hv3.out hx3 ⟨some ⟨w1.heap.size, 0, none⟩, n, by rw [List.length_take, Nat.min_eq_left hcl], Hfill.out, fun ad e => by
          obtain rfl := Option.some.inj e
          have := Hlt3.out
          exact ⟨by simp; omega, by simpa using this⟩⟩ hown' hgrow (by simpa using hblk)
        go_roundw
        case rel => exact ⟨k + 1, by omega, by go_num, hx4, by rw [Hs2.out]; exact hrow, by rw [Hs2.out]; simpa using Hsl.out⟩
        case measure => simp [intOf]; omega
    · have hke : k = f.parts.length := by omega
      subst hke
      have hF := hown.at_
      obtain ⟨va, vc, rfl, -⟩ := hF.shape
      go_wp2
      go_ret
      exact ⟨_, rfl, hF, hxw⟩
end Go.Proofs.YtcamegaimleomaaGreat

namespace Go.Proofs.YtcamegaimleomaaGreat
set_option linter.unusedSimpArgs false
set_option linter.unusedVariables false
set_option linter.unusedVariables false

def bytesL (s : ByteArray) : List UInt8 := s.data.toList
theorem bytesL_len (s : ByteArray) : (bytesL s).length = s.size := rfl
/-- the text, how wide its last line is, and whether there is a word -/
abbrev TextSt := List UInt8 × Nat × Bool
def lineStep (width : Int) (st : TextSt) (x : ByteArray) : TextSt :=
  if st.2.2 = false then (bytesL x, x.size, true)
  else if (st.2.1 : Int) + 1 + x.size ≤ width then (st.1 ++ [32] ++ bytesL x, st.2.1 + 1 + x.size, true)
  else (st.1 ++ [10] ++ bytesL x, x.size, true)
def textSt (width : Int) (l : List ByteArray) : TextSt := l.foldl (lineStep width) ([], 0, false)
def textM (width : Int) (l : List ByteArray) : List UInt8 := if l.length = 0 then [] else (textSt width l).1 ++ [10]
theorem textSt_nil (width : Int) : textSt width [] = ([], 0, false) := rfl
theorem textSt_snoc (width : Int) (l : List ByteArray) (x : ByteArray) : textSt width (l ++ [x]) = lineStep width (textSt width l) x := by simp [textSt]
theorem textSt_some (width : Int) (l : List ByteArray) : (textSt width l).2.2 = decide (l ≠ []) := by
  refine snoc_ind (p := fun l => (textSt width l).2.2 = decide (l ≠ [])) rfl (fun l x ih => ?_) l
  rw [textSt_snoc]
  unfold lineStep
  split
  · simp
  · split <;> simp
theorem textSt_step (width : Int) (l : List ByteArray) (k : Nat) (h : k < l.length) : textSt width (l.take (k + 1)) = lineStep width (textSt width (l.take k)) l[k] := by
  rw [List.take_succ_eq_append_getElem h, textSt_snoc]
/-- no text is longer than its words and one byte for each -/
theorem textSt_len (width : Int) (l : List ByteArray) (N : Nat) (h : ∀ s ∈ l, s.size ≤ N) : (textSt width l).1.length ≤ l.length * (N + 1) ∧ (textSt width l).2.1 ≤ l.length * (N + 1) := by
  revert h
  refine snoc_ind (p := fun l => (∀ s ∈ l, s.size ≤ N) → (textSt width l).1.length ≤ l.length * (N + 1) ∧ (textSt width l).2.1 ≤ l.length * (N + 1)) (by simp [textSt_nil]) (fun l x ih h => ?_) l
  obtain ⟨i1, i2⟩ := ih fun s hs => h s (List.mem_append_left _ hs)
  have hx := h x (by simp)
  have hb := bytesL_len x
  rw [textSt_snoc, List.length_append, List.length_singleton, Nat.succ_mul]
  unfold lineStep
  split
  · simp only; omega
  · split <;> simp only [List.length_append, List.length_singleton] <;> omega
/-- whether a rune stands between words -/
def betweenP (r : Nat) : Bool := r == 32 || r == 10
/-- the words of a text -/
def fieldsM (s : ByteArray) : List ByteArray := Lib.goFieldsP betweenP s
end Go.Proofs.YtcamegaimleomaaGreat

namespace Go.Proofs.YtcamegaimleomaaGreat
set_option linter.unusedSimpArgs false
set_option linter.unusedVariables false
open Go.RowKit
set_option linter.unusedVariables false

/-- a builder of the call's own, in block b, with these bytes -/
def Bld (w : World) (b : Nat) (l : List UInt8) : Prop := Lib.IsBuilder 218 5 b b (Lib.byteCells l) w
theorem infoU8 : (Tryz.prog.info? 5).map (fun i => (i.zero, i.size, i.bytes)) = some (some (.int .u8 0), 1, 1) := by kernel_rfl
set_option maxRecDepth 100000 in
theorem copyCheck_any (b : Nat) (bs : List Value) (w : World) (h : Lib.IsBuilder 218 5 b b bs w) :
    Calls Tryz.prog 161 #[.pointer (some ⟨b, 0, none⟩)] w fun e w' => e = .returned (.tuple #[]) ∧ Lib.BuilderAt 218 5 b b (.pointer (some ⟨b, 0, none⟩)) bs w' ∧ Below b w w' := by
  obtain ⟨j, hj, hjs⟩ := Option.map_eq_some_iff.1 (show (Tryz.prog.info? 218).map (·.size) = some 2 by kernel_rfl)
  rcases h with h | h
  · have h0 := h.cell0
    have hsh := h.shape
    have hfz := h.frozen0
    go_enter Tryz.func161, Tryz.ntmps161
    go_wp2
    rw [Lib.run_to_unsafe w ⟨b, 0, none⟩ Tryz.underlying216 Tryz.underlying263 hj (by rw [hjs]; decide) hsh (Nat.zero_lt_succ 1)]
    simp only [Result.andThen]
    rw [Oper.upon_value]
    go_wp2
    rw [run_callFunc_extern Tryz.func180 (by kernel_rfl) (by kernel_rfl) (by kernel_rfl) (e := Extern.AbiNoEscape.same) (by kernel_rfl)]
    rw [Lib.run_noEscape]
    simp only [Result.andThen]
    rw [Oper.upon_value]
    go_wp2
    rw [Lib.run_from_unsafe w ⟨b, 0, none⟩ Tryz.underlying263 Tryz.underlying216 hj hsh (by kernel_rfl)]
    simp only [Result.andThen]
    rw [Oper.upon_value]
    go_wp2
    go_end0
    exact ⟨rfl, h.used _, (Below.refl _ _).setCell (p := ⟨b, 0, none⟩) (Nat.le_refl _) _⟩
  · have h0 := h.cell0
    go_enter Tryz.func161, Tryz.ntmps161
    go_wp2
    rw [Lib.run_neq_ptr_same w _ Tryz.underlying216 hj]
    go_wp2
    go_end0
    exact ⟨rfl, h, Below.refl _ _⟩
set_option maxRecDepth 100000 in
set_option maxHeartbeats 1000000 in
theorem writeByte_any (b : Nat) (l : List UInt8) (c : UInt8) (w : World) (h : Bld w b l) (hn : l.length ≤ 100000) (hb : b < w.heap.size) :
    Calls Tryz.prog 134 #[.pointer (some ⟨b, 0, none⟩), .int .u8 (c.toNat : Int)] w fun e w' => e = .returned .nilIface ∧ Bld w' b (l ++ [c]) ∧ Below b w w' := by
  obtain ⟨i0, hi, hz0, hz1, hz2⟩ := info_parts infoU8
  have hcc := copyCheck_any b _ w h
  go_enter Tryz.func134, Tryz.ntmps134
  go_wp2_with fail
  refine hcc.mono ?_
  rintro e w1 ⟨rfl, h1, hb1⟩
  obtain ⟨hB, v, hbk, hown, hne⟩ := h1
  have hsz := hb1.size
  have hlen := Lib.byteCells_length l
  have c0 : w1.cell? ⟨b, 0, none⟩ = some (.pointer (some ⟨b, 0, none⟩)) := by rw [Lib.cell_of_heap hbk]; rfl
  have c1 : w1.cell? ⟨b, 1, none⟩ = some v := by rw [Lib.cell_of_heap hbk]; rfl
  have zb : b < w1.heap.size := cell_lt c0
  go_wp2_with (at_builtin; go_loud (refine wpList_append_own_at _ rfl _ _ 68 rfl b 5 i0 (.int .u8 0) 1 1 Tryz.underlying68 hi hz0 hz1 hz2 rfl (by decide) v (Lib.byteCells l).length (Lib.byteCells l) rfl (World.ownsRow.alloc hown _) ⟨w1.heap.size, 0, none⟩ 1 1 [.int .u8 c.toNat] rfl rfl (cell_one_at (by simp [go_sem])) (by simp [Value.oneCell']) (by unfold maxLen; omega) (by omega) (by simp; omega) ?_; intro v' w2 hown' hgrow _ hblk; obtain ⟨g', cap', rfl⟩ := ownsRow_succ hown'; have hb2 : w2.heap[b]? = some (.cells #[.pointer (some ⟨b, 0, none⟩), v] 218 (0, 0)) := (by rw [hgrow.block b (by simp; omega) (fun e => hne e.symm), Lib.alloc_old w1 _ b zb]; exact hbk); have d0 : w2.cell? ⟨b, 0, none⟩ = some (.pointer (some ⟨b, 0, none⟩)) := (by rw [Lib.cell_of_heap hb2]; rfl); have d1 : w2.cell? ⟨b, 1, none⟩ = some v := (by rw [Lib.cell_of_heap hb2]; rfl); have f1 : w2.frozen? ⟨b, 1, none⟩ = false := Lib.frozen_of_heap hb2 1; have zb2 := cell_lt d0))
  go_ret
  refine ⟨rfl, .inr ?_, ?_⟩
  · have := Lib.BuilderAt.put (T := 218) (e := 5) hB hb2 (bs' := Lib.byteCells l ++ [.int .u8 c.toNat]) (by simpa using hown') (by decide)
    rw [Lib.byteCells_append]
    rw [hlen] at this
    exact this
  · exact ((hb1.alloc (by omega) _).grown hgrow (by simp; omega) (fun k hk => (hown.lt k hk).1)).setCell (p := ⟨b, 1, none⟩) hB _
set_option maxRecDepth 100000 in
set_option maxHeartbeats 1000000 in
theorem writeString_any (b : Nat) (l : List UInt8) (s : ByteArray) (w : World) (h : Bld w b l) (hn : l.length ≤ 100000) (hs : s.size ≤ 100000) (hb : b < w.heap.size) :
    Calls Tryz.prog 135 #[.pointer (some ⟨b, 0, none⟩), .string s] w fun e w' => e = .returned (.tuple #[.int .i64 s.size, .nilIface]) ∧ Bld w' b (l ++ bytesL s) ∧ Below b w w' := by
  obtain ⟨i0, hi, hz0, hz1, hz2⟩ := info_parts infoU8
  have hcc := copyCheck_any b _ w h
  go_enter Tryz.func135, Tryz.ntmps135
  go_wp2_with fail
  refine hcc.mono ?_
  rintro e w1 ⟨rfl, h1, hb1⟩
  obtain ⟨hB, v, hbk, hown, hne⟩ := h1
  have hsz := hb1.size
  have hlen := Lib.byteCells_length l
  have c0 : w1.cell? ⟨b, 0, none⟩ = some (.pointer (some ⟨b, 0, none⟩)) := by rw [Lib.cell_of_heap hbk]; rfl
  have c1 : w1.cell? ⟨b, 1, none⟩ = some v := by rw [Lib.cell_of_heap hbk]; rfl
  have zb : b < w1.heap.size := cell_lt c0
  go_wp2_with (at_builtin; go_loud (refine Lib.wpList_append_own_string _ rfl _ _ 68 9 rfl b 5 i0 Tryz.underlying68 Tryz.underlying9 hi hz0 hz1 hz2 v (Lib.byteCells l).length (Lib.byteCells l) rfl hown s rfl (by unfold maxLen; omega) (by omega) (by omega) ?_; intro v' w2 hown' hgrow _; obtain ⟨ao, n', cap', rfl⟩ : ∃ ao n' cap', v' = .slice ao n' cap' := (by rcases hown'.2 with ⟨hv, _⟩ | ⟨g, cap, cur, hv, _⟩; exact ⟨_, _, _, hv⟩; exact ⟨_, _, _, hv⟩); have hb2 : w2.heap[b]? = some (.cells #[.pointer (some ⟨b, 0, none⟩), v] 218 (0, 0)) := (by rw [hgrow.block b (by omega) (fun e => hne e.symm)]; exact hbk); have d0 : w2.cell? ⟨b, 0, none⟩ = some (.pointer (some ⟨b, 0, none⟩)) := (by rw [Lib.cell_of_heap hb2]; rfl); have d1 : w2.cell? ⟨b, 1, none⟩ = some v := (by rw [Lib.cell_of_heap hb2]; rfl); have f1 : w2.frozen? ⟨b, 1, none⟩ = false := Lib.frozen_of_heap hb2 1; have zb2 := cell_lt d0))
  go_ret2
  refine ⟨rfl, .inr ?_, ?_⟩
  · have := Lib.BuilderAt.put (T := 218) (e := 5) hB hb2 (bs' := Lib.byteCells l ++ Lib.strCells s) (by simpa [Lib.strCells_length] using hown') (by decide)
    rw [Lib.byteCells_append]
    exact this
  · exact (hb1.grown hgrow (by omega) (fun k hk => (hown.lt k hk).1)).setCell (p := ⟨b, 1, none⟩) hB _
theorem Bld.below {w w' : World} {b : Nat} {l : List UInt8} (h : Bld w b l) : b < w.heap.size := by
  rcases h with h | h
  · exact cell_lt h.cell0
  · exact cell_lt h.cell0
set_option maxRecDepth 100000 in
set_option maxHeartbeats 2000000 in
theorem textOf_any (v : Value) (l : List ByteArray) (width : Int) (hw : -1000 ≤ width ∧ width ≤ 1000) (hn : l.length ≤ 100) (hs : ∀ s ∈ l, s.size ≤ 100) (w : World) (hl : StrsAt w v l) :
    Calls Tryz.prog 92 #[v, .int .i64 width] w fun e w' => e = .returned (.string ⟨(textM width l).toArray⟩) ∧ Ext w w' := by
  obtain ⟨a, cap, rfl, hlc, hcm⟩ := hl.shape
  have Hs := Lib.hid hs
  clear hs
  go_enter Tryz.func92, Tryz.ntmps92
  go_wp2_with fail
  go_loopw [6, 11] (fun ln i wr => ∃ k : Nat, k ≤ l.length ∧ i = .int .i64 k ∧ Ext w wr ∧ ln = .int .i64 (textSt width (l.take k)).2.1 ∧ Bld wr w.heap.size (textSt width (l.take k)).1) (fun _ i _ => l.length - (intOf i).toNat)
  case atStart => exact ⟨0, Nat.zero_le _, rfl, ext_alloc _ _, rfl, Lib.fresh_isBuilder _ _ w⟩
  case round =>
    obtain ⟨k, hk, rfl, hxr, rfl, hB⟩ := hrel
    have zb := hB.below (w' := wr)
    by_cases hlt : k < l.length
    · have k1 : (k : Int) < (l.length : Int) := by omega
      obtain ⟨b, o, rfl, h1, -⟩ := (hl.ext hxr).get hlt
      rw [Nat.mul_one] at h1
      have hst := textSt_step width l k hlt
      have hlen := textSt_len width (l.take k) 100 fun s h => Hs.out s (List.mem_of_mem_take h)
      have hsome := textSt_some width (l.take k)
      have hx100 := Hs.out _ (List.getElem_mem hlt)
      have hlk : (l.take k).length = k := by rw [List.length_take]; omega
      rw [hlk] at hlen
      generalize l[k] = x at *
      generalize hts : textSt width (l.take k) = ts at *
      obtain ⟨out, line, sm⟩ := ts
      simp only at hst hlen hsome hB
      have k101 : k * 101 ≤ 10100 := by omega
      have wl1 : IntKind.i64.wrap ((line : Int) + 1) = (line : Int) + 1 := IntWalk.i64_in _ (by omega)
      have wl2 : IntKind.i64.wrap ((line : Int) + 1 + x.size) = (line : Int) + 1 + x.size := IntWalk.i64_in _ (by omega)
      have wl3 : IntKind.i64.wrap ((line : Int) + x.size) = (line : Int) + x.size := IntWalk.i64_in _ (by omega)
      have wl4 : IntKind.i64.wrap ((0 : Int) + x.size) = (x.size : Int) := by rw [Int.zero_add]; exact IntWalk.i64_in _ (by omega)
      have Hst := Lib.hid hst
      have HB := Lib.hid hB
      have Hts := Lib.hid hts
      by_cases h0 : k = 0
      · subst h0
        have hsm : sm = false := by rw [hsome]; simp
        have ho : out = [] ∧ line = 0 := by
          have : textSt width (l.take 0) = ([], 0, false) := rfl
          rw [this] at hts
          cases hts
          exact ⟨rfl, rfl⟩
        obtain ⟨rfl, rfl⟩ := ho
        subst hsm
        have hst2 := Hst.out
        unfold lineStep at hst2
        rw [if_pos rfl] at hst2
        have Hst2 := Lib.hid hst2
        clear hst hts hst2 hsome hB
        rw [Nat.add_zero] at h1
        go_wp2_with fail
        refine (writeString_any _ [] x _ HB.out (by first | (simp; omega) | simp) (by omega) zb).mono ?_
        rintro e w3 ⟨rfl, hB3, hb3⟩
        have x3 : Ext w w3 := Below.trans hxr hb3
        have zb3 := hB3.below (w' := w3)
        go_wp2
        go_roundw
        case rel => exact ⟨1, by omega, by go_num, x3, by rw [Hst2.out] <;> simp, by rw [Hst2.out]; exact hB3⟩
        case measure => simp [intOf]; omega
      · have hsm : sm = true := by
          rw [hsome]; simp; exact ⟨h0, fun h => by rw [h] at hlt; simp at hlt⟩
        subst hsm
        have kk : ((k : Int) == 0) = false := by simpa using h0
        have hst2 := Hst.out
        unfold lineStep at hst2
        rw [if_neg (by simp)] at hst2
        simp only at hst2
        clear hst hts hsome hB
        by_cases hfit : (line : Int) + 1 + x.size ≤ width
        · rw [if_pos hfit] at hst2
          have Hst2 := Lib.hid hst2
          clear hst2
          have hwb := writeByte_any w.heap.size out 32 wr HB.out (by omega) zb
          rw [show (((32 : UInt8).toNat : Nat) : Int) = 32 from rfl] at hwb
          go_wp2_with fail
          refine hwb.mono ?_
          rintro e w2 ⟨rfl, hB2, hb2⟩
          have x2 : Ext w w2 := Below.trans hxr hb2
          have zb2 := hB2.below (w' := w2)
          clear hwb
          go_wp2_with fail
          refine (writeString_any _ (out ++ [32]) x _ hB2 (by first | (simp; omega) | simp) (by omega) zb2).mono ?_
          rintro e w3 ⟨rfl, hB3, hb3⟩
          have x3 : Ext w w3 := Below.trans x2 hb3
          have zb3 := hB3.below (w' := w3)
          go_wp2
          go_roundw
          case rel => exact ⟨k + 1, by omega, by go_num, x3, by rw [Hst2.out] <;> simp, by rw [Hst2.out]; exact hB3⟩
          case measure => simp [intOf]; omega
        · rw [if_neg hfit] at hst2
          have Hst2 := Lib.hid hst2
          clear hst2
          have hwb := writeByte_any w.heap.size out 10 wr HB.out (by omega) zb
          rw [show (((10 : UInt8).toNat : Nat) : Int) = 10 from rfl] at hwb
          go_wp2_with fail
          refine hwb.mono ?_
          rintro e w2 ⟨rfl, hB2, hb2⟩
          have x2 : Ext w w2 := Below.trans hxr hb2
          have zb2 := hB2.below (w' := w2)
          clear hwb
          go_wp2_with fail
          refine (writeString_any _ (out ++ [10]) x _ hB2 (by first | (simp; omega) | simp) (by omega) zb2).mono ?_
          rintro e w3 ⟨rfl, hB3, hb3⟩
          have x3 : Ext w w3 := Below.trans x2 hb3
          have zb3 := hB3.below (w' := w3)
          go_wp2
          go_roundw
          case rel => exact ⟨k + 1, by omega, by go_num, x3, by rw [Hst2.out] <;> simp, by rw [Hst2.out]; exact hB3⟩
          case measure => simp [intOf]; omega
    · have hke : k = l.length := by omega
      subst hke
      rw [List.take_length] at hB
      have hlen := textSt_len width l 100 Hs.out
      by_cases h0 : l.length = 0
      · have k0 : ¬ (0 : Int) < (l.length : Int) := by omega
        have hl0 : l = [] := List.eq_nil_of_length_eq_zero h0
        have htx : textM width l = [] := by rw [textM, if_pos h0]
        have hst0 : (textSt width l).1 = [] := by rw [hl0]; rfl
        rw [hst0] at hB
        have hstr := Tryz.Builder_String_any w.heap.size w.heap.size [] wr hB (by omega)
        have Htx := Lib.hid htx
        clear htx hst0 h0 hl0
        go_wp2_with fail
        refine hstr.mono ?_
        rintro e w2 ⟨rfl, hb2⟩
        go_wp2
        go_ret
        exact ⟨by rw [Htx.out] <;> rfl, Below.trans hxr hb2⟩
      · have k0 : (0 : Int) < (l.length : Int) := by omega
        have htx : textM width l = (textSt width l).1 ++ [10] := by rw [textM, if_neg h0]
        have Htx := Lib.hid htx
        clear htx h0
        have hwb := writeByte_any w.heap.size (textSt width l).1 10 wr hB (by omega) zb
        rw [show (((10 : UInt8).toNat : Nat) : Int) = 10 from rfl] at hwb
        go_wp2_with fail
        refine hwb.mono ?_
        rintro e w2 ⟨rfl, hB2, hb2⟩
        have zb2 := hB2.below (w' := w2)
        have hstr := Tryz.Builder_String_any w.heap.size w.heap.size _ w2 hB2 (by omega)
        go_wp2_with fail
        refine hstr.mono ?_
        rintro e w3 ⟨rfl, hb3⟩
        go_wp2
        go_ret
        exact ⟨by rw [Htx.out] <;> rfl, Below.trans hxr (Below.trans hb2 hb3)⟩
end Go.Proofs.YtcamegaimleomaaGreat

namespace Go.Proofs.YtcamegaimleomaaGreat
set_option linter.unusedSimpArgs false
set_option linter.unusedVariables false
open Go.RowKit
set_option linter.unusedVariables false

theorem lettErr_ok {l : List ByteArray} (h : letterErrL l = 0) : l.length ≤ 15 ∧ ∀ s ∈ l, wordM s = true := by
  unfold letterErrL at h
  split at h
  · cases h
  rename_i h1
  split at h
  · cases h
  rename_i h2
  refine ⟨by omega, ?_⟩
  have h3 : wordsM l = true := by simpa using h2
  unfold wordsM at h3
  rw [List.all_eq_true] at h3
  exact h3
theorem word_size {s : ByteArray} (h : wordM s = true) : 1 ≤ s.size ∧ s.size ≤ 8 := by
  unfold wordM at h
  rw [Bool.and_eq_true] at h
  have := inM_true (by rw [h.1]; decide)
  omega
theorem shelfErr_ok {s : Shelf} {l : List ByteArray} (h : shelfErrM s l = 0) : ValidShelf s ∧ letterErrL l = 0 := by
  unfold shelfErrM at h
  split at h
  · rename_i h1; exact absurd h h1
  · rename_i h1; exact ⟨errS_ok (by simpa using h1), h⟩
def writeM (s : Shelf) (l : List ByteArray) : ByteArray := if shelfErrM s l = 0 then ⟨(textM s.width l).toArray⟩ else ⟨#[]⟩
set_option maxRecDepth 100000 in
set_option maxHeartbeats 1000000 in
theorem write_any (sv lv : Value) (s : Shelf) (l : List ByteArray) (w : World) (hs : ShelfAt w sv s) (hl : StrsAt w lv l) :
    Calls Tryz.prog 39 #[sv, lv] w fun e w' => e = .returned (.tuple #[.string (writeM s l), .int .i64 (shelfErrM s l)]) ∧ Ext w w' := by
  have hs0 := hs
  obtain ⟨a, c, rfl, hw, hc1, hc2, hf⟩ := hs.open
  obtain ⟨la, lc, rfl, -⟩ := hl.shape
  go_enter Tryz.func39, Tryz.ntmps39
  go_wp2_with fail
  refine (shelfError_any _ _ s l _ (hs0.ext (by first | (with_reducible exact Ext.refl _) | (with_reducible assumption) | (show Below _ _ _; go_grown; done))) (hl.ext (by first | (with_reducible exact Ext.refl _) | (with_reducible assumption) | (show Below _ _ _; go_grown; done)))).mono ?_
  rintro e w1 ⟨rfl, hx1⟩
  have x1 : Ext w w1 := Ext.trans (by first | (with_reducible exact Ext.refl _) | (with_reducible assumption) | (show Below _ _ _; go_grown; done)) hx1
  have q0 : w1.cell? ⟨w.heap.size, 0, none⟩ = some (.int .i64 s.width) := hx1.cell (by simp [go_sem])
  have zq : w.heap.size < w1.heap.size := cell_lt q0
  clear hx1
  obtain ⟨er, herr⟩ : ∃ er, shelfErrM s l = er := ⟨_, rfl⟩
  rw [herr]
  have Herr := Lib.hid herr
  by_cases h0 : er = 0
  · subst h0
    obtain ⟨hV, hL⟩ := shelfErr_ok herr
    obtain ⟨h15, hwd⟩ := lettErr_ok hL
    have hws := hV.w
    have htx := textOf_any (.slice la l.length lc) l s.width (by omega) (by omega) (fun s hs => by have := word_size (hwd s hs); omega) w1 (hl.ext x1)
    have hwr : writeM s l = ⟨(textM s.width l).toArray⟩ := by rw [writeM, if_pos herr]
    have Hwr := Lib.hid hwr
    clear herr hV hL hwd hwr
    go_wp2_with fail
    refine htx.mono ?_
    rintro e w2 ⟨rfl, hx2⟩
    go_wp2
    go_ret2
    exact ⟨by rw [Hwr.out, Herr.out]; rfl, x1.trans hx2⟩
  · have h0' : (er != 0) = true := by simpa using h0
    have hwr : writeM s l = ⟨#[]⟩ := by rw [writeM, if_neg (by rw [herr]; exact h0)]
    have Hwr := Lib.hid hwr
    clear h0 hwr herr
    go_wp2_with fail
    go_ret2
    exact ⟨by rw [Hwr.out, Herr.out]; rfl, x1⟩
theorem between_any (r : Nat) (w : World) : Calls Tryz.prog 94 #[.int .i32 (r : Int)] w fun e w' => e = .returned (.bool (betweenP r)) ∧ Ext w w' := by
  unfold betweenP
  by_cases h1 : r = 32
  · have e1 : ((r : Int) == 32) = true := by simp [h1]
    have hr : (r == 32 || r == 10) = true := by simp [h1]
    rw [hr]
    clear h1 hr
    go_enter Tryz.func94, Tryz.ntmps94
    go_wp2
    go_ret
    exact ⟨rfl, (by first | (with_reducible exact Ext.refl _) | (with_reducible assumption) | (show Below _ _ _; go_grown; done))⟩
  · have e1 : ((r : Int) == 32) = false := by simp; omega
    by_cases h2 : r = 10
    · have e2 : ((r : Int) == 10) = true := by simp [h2]
      have hr : (r == 32 || r == 10) = true := by simp [h2]
      rw [hr]
      clear h1 h2 hr
      go_enter Tryz.func94, Tryz.ntmps94
      go_wp2
      go_ret
      exact ⟨rfl, (by first | (with_reducible exact Ext.refl _) | (with_reducible assumption) | (show Below _ _ _; go_grown; done))⟩
    · have e2 : ((r : Int) == 10) = false := by simp; omega
      have hr : (r == 32 || r == 10) = false := by simp [h1, h2]
      rw [hr]
      clear h1 h2 hr
      go_enter Tryz.func94, Tryz.ntmps94
      go_wp2
      go_ret
      exact ⟨rfl, (by first | (with_reducible exact Ext.refl _) | (with_reducible assumption) | (show Below _ _ _; go_grown; done))⟩
theorem fields_size (s : ByteArray) : ∀ x ∈ fieldsM s, x.size ≤ s.size := by
  intro x hx
  unfold fieldsM Lib.goFieldsP at hx
  obtain ⟨p, -, rfl⟩ := List.mem_map.1 hx
  rw [ByteArray.size_extract]
  omega
theorem fieldsFunc_any (s : ByteArray) (hs : s.size ≤ 4294967296) (w : World) :
    Calls Tryz.prog 93 #[.string s, .func (.func 94) #[] #[]] w fun e w' => ∃ A, e = .returned (.slice (some ⟨A, 0, none⟩) (fieldsM s).length (fieldsM s).length) ∧ StrsAt w' (.slice (some ⟨A, 0, none⟩) (fieldsM s).length (fieldsM s).length) (fieldsM s) ∧ Ext w w' := by
  refine (Tryz.strings_FieldsFunc_grows 94 #[] (enters_of Tryz.func94 (by kernel_rfl) rfl) betweenP s w hs (fun W x _ _ => between_any x W)).mono ?_
  rintro e w' ⟨A, rfl, hA, hown, hb⟩
  refine ⟨A, rfl, ?_, hb⟩
  have hr : RowW w.heap.size (fieldsM s) (.slice (some ⟨A, 0, none⟩) (fieldsM s).length (fieldsM s).length) w' := hown
  exact hr.at_ fun x hx => by have := fields_size s x hx; omega
/-- the letter that a text is of -/
def readM (s : Shelf) (t : ByteArray) : List ByteArray × Int :=
  if shelfErrM s [] ≠ 0 then ([], shelfErrM s []) else if 160 < t.size then ([], 3) else if letterErrL (fieldsM t) ≠ 0 then ([], 6) else if textM s.width (fieldsM t) = bytesL t then (fieldsM t, 0) else ([], 6)
/-- words, if there is no error -/
def WordsE (w : World) (r : List ByteArray × Int) (v : Value) : Prop := ∃ u, v = .tuple #[u, .int .i64 r.2] ∧ StrsAt w u r.1 ∧ (r.2 ≠ 0 → u = .slice none 0 0)
set_option maxRecDepth 100000 in
set_option maxHeartbeats 1000000 in
theorem read_any (sv : Value) (s : Shelf) (t : ByteArray) (ht : t.size ≤ 9223372036854775807) (w : World) (hs : ShelfAt w sv s) :
    Calls Tryz.prog 40 #[sv, .string t] w fun e w' => ∃ u, e = .returned u ∧ WordsE w' (readM s t) u ∧ Ext w w' := by
  have hs0 := hs
  obtain ⟨a, c, rfl, hw, hc1, hc2, hf⟩ := hs.open
  go_enter Tryz.func40, Tryz.ntmps40
  go_wp2_with fail
  refine (shelfError_any _ _ s [] _ (hs0.ext (by first | (with_reducible exact Ext.refl _) | (with_reducible assumption) | (show Below _ _ _; go_grown; done))) SliceAt.nil).mono ?_
  rintro e w1 ⟨rfl, hx1⟩
  have x1 : Ext w w1 := Ext.trans (by first | (with_reducible exact Ext.refl _) | (with_reducible assumption) | (show Below _ _ _; go_grown; done)) hx1
  have q0 : w1.cell? ⟨w.heap.size, 0, none⟩ = some (.int .i64 s.width) := hx1.cell (by simp [go_sem])
  have zq : w.heap.size < w1.heap.size := cell_lt q0
  clear hx1
  obtain ⟨er, herr⟩ : ∃ er, shelfErrM s [] = er := ⟨_, rfl⟩
  rw [herr]
  by_cases h0 : er = 0
  · subst h0
    obtain ⟨hV, -⟩ := shelfErr_ok herr
    have hws := hV.w
    have hr1 : readM s t = if 160 < t.size then ([], 3) else if letterErrL (fieldsM t) ≠ 0 then ([], 6) else if textM s.width (fieldsM t) = bytesL t then (fieldsM t, 0) else ([], 6) := by rw [readM, if_neg (by rw [herr]; simp)]
    clear herr hV
    by_cases h160 : 160 < t.size
    · have k1 : (160 : Int) < (t.size : Int) := by omega
      rw [if_pos h160] at hr1
      have Hr1 := Lib.hid hr1
      clear hr1 h160
      go_wp2_with fail
      go_ret2
      exact ⟨_, rfl, ⟨.slice none 0 0, by rw [Hr1.out]; rfl, by rw [Hr1.out]; exact SliceAt.nil, fun _ => rfl⟩, x1⟩
    · have k1 : ¬ (160 : Int) < (t.size : Int) := by omega
      rw [if_neg h160] at hr1
      go_wp2_with fail
      refine (fieldsFunc_any t (by omega) w1).mono ?_
      rintro e w2 ⟨A, rfl, hA, hx2⟩
      have x2 := x1.trans hx2
      replace q0 := hx2.cell q0
      replace zq : w.heap.size < w2.heap.size := cell_lt q0
      clear h160
      generalize fieldsM t = fl at *
      by_cases hle : letterErrL fl = 0
      · obtain ⟨h15, hwd⟩ := lettErr_ok hle
        rw [if_neg (by simp [hle])] at hr1
        have hlr := letterError_any' _ fl w2 hA
        rw [hle] at hlr
        have htx := fun w h => textOf_any (.slice (some ⟨A, 0, none⟩) fl.length fl.length) fl s.width (by omega) (by omega) (fun s hs => by have := word_size (hwd s hs); omega) w h
        clear hle hwd
        go_wp2_with fail
        refine hlr.mono ?_
        rintro e w3 ⟨rfl, hx3⟩
        have x3 := x2.trans hx3
        have hA3 := hA.ext hx3
        replace q0 := hx3.cell q0
        replace zq : w.heap.size < w3.heap.size := cell_lt q0
        clear hlr
        go_wp2_with fail
        refine (htx w3 hA3).mono ?_
        rintro e w4 ⟨rfl, hx4⟩
        have x4 := x3.trans hx4
        have hA4 := hA3.ext hx4
        clear htx
        have Hr1 := Lib.hid hr1
        clear hr1
        go_wp2_with fail
        · rename_i hq
          have hne : textM s.width fl ≠ bytesL t := fun h => by
            rw [ByteArray.toList_eq, h] at hq
            simp [bytesL] at hq
          have hr1 := Hr1.out
          rw [if_neg hne] at hr1
          go_ret2
          exact ⟨_, rfl, ⟨.slice none 0 0, by rw [hr1]; rfl, by rw [hr1]; exact SliceAt.nil, fun _ => rfl⟩, x4⟩
        · rename_i hq
          have heq : textM s.width fl = bytesL t := by
            rw [ByteArray.toList_eq] at hq
            simpa [bytesL] using hq
          have hr1 := Hr1.out
          rw [if_pos heq] at hr1
          go_ret2
          exact ⟨_, rfl, ⟨.slice (some ⟨A, 0, none⟩) fl.length fl.length, by rw [hr1]; rfl, by rw [hr1]; exact hA4, fun h => absurd (by rw [hr1]) h⟩, x4⟩
      · have hlr := letterError_any' _ fl w2 hA
        rw [if_pos hle] at hr1
        have Hr1 := Lib.hid hr1
        generalize letterErrL fl = le at *
        have kle : (le != 0) = true := by simpa using hle
        clear hr1 hle
        go_wp2_with fail
        refine hlr.mono ?_
        rintro e w3 ⟨rfl, hx3⟩
        go_wp2_with fail
        go_ret2
        exact ⟨_, rfl, ⟨.slice none 0 0, by rw [Hr1.out]; rfl, by rw [Hr1.out]; exact SliceAt.nil, fun _ => rfl⟩, x2.trans hx3⟩
  · have h0' : (er != 0) = true := by simpa using h0
    have hr1 : readM s t = ([], er) := by rw [readM, if_pos (by rw [herr]; exact h0), herr]
    have Hr1 := Lib.hid hr1
    clear h0 hr1 herr
    go_wp2_with fail
    go_ret2
    exact ⟨_, rfl, ⟨.slice none 0 0, by rw [Hr1.out]; rfl, by rw [Hr1.out]; exact SliceAt.nil, fun _ => rfl⟩, x1⟩
end Go.Proofs.YtcamegaimleomaaGreat

namespace Go.Proofs.YtcamegaimleomaaGreat
set_option linter.unusedSimpArgs false
set_option linter.unusedVariables false
set_option linter.unusedVariables false
set_option linter.unusedSimpArgs false
open Go.RowKit
open Go.ChangeMaps (setBlock)

def placeV (p : Nat × Nat) : Value := .agg #[.int .i64 (p.1 : Nat), .int .i64 (p.2 : Nat)]
def chV (c : Ch) : Value := .agg #[.int .i64 (c.1 : Nat), .int .i64 (c.2 : Nat)]
abbrev Tab := List ((Nat × Nat) × Ch)
def findP (k : Nat × Nat) : Tab → Nat → Option (Nat × Ch)
  | [], _ => none
  | p :: M, i => if p.1 = k then some (i, p.2) else findP k M (i + 1)
def getP (k : Nat × Nat) : Tab → Option Ch
  | [] => none
  | p :: M => if p.1 = k then some p.2 else getP k M
theorem findP_get (k : Nat × Nat) : ∀ (M : Tab) (i : Nat), (findP k M i).map (·.2) = getP k M
  | [], _ => rfl
  | p :: M, i => by
    simp only [findP, getP]
    split
    · rfl
    · exact findP_get k M (i + 1)
theorem getP_snoc (k q : Nat × Nat) (c : Ch) : ∀ M : Tab, getP k (M ++ [(q, c)]) = (getP k M).or (if q = k then some c else none)
  | [] => by simp [getP]
  | p :: M => by
    simp only [List.cons_append, getP]
    split
    · rfl
    · exact getP_snoc k q c M
def entsP (M : Tab) : List (Value × Value) := M.map fun p => (placeV p.1, chV p.2)
/-- the map in block B is this one -/
def MapP (w : World) (B : Nat) (M : Tab) : Prop := ∃ es n, w.heap[B]? = some (.map es n) ∧ es.toList.map (fun e => (e.key, e.val)) = entsP M
theorem MapP.kept {w w' : World} {B : Nat} {M : Tab} (h : MapP w B M) (e : w'.heap[B]? = w.heap[B]?) : MapP w' B M := by
  obtain ⟨es, n, hb, h1⟩ := h; exact ⟨es, n, e.trans hb, h1⟩
theorem MapP.lt {w : World} {B : Nat} {M : Tab} (h : MapP w B M) : B < w.heap.size := by
  obtain ⟨es, n, hb, -⟩ := h; exact (Array.getElem?_eq_some_iff.1 hb).1
theorem place_fields : ∃ f g, (Tryz.prog.fieldsOf 186).toList = [f, g] ∧ f.type = 3 ∧ f.offset = 0 ∧ g.type = 3 ∧ g.offset = 1 ∧ f.name = "word" ∧ g.name = "slot" := by
  have hf : ((Tryz.prog.fieldsOf 186).toList.map fun f => (f.name, f.type, f.offset)) = [("word", 3, 0), ("slot", 3, 1)] := by kernel_rfl
  generalize (Tryz.prog.fieldsOf 186).toList = fs at *
  obtain ⟨f, g, rfl⟩ : ∃ f g, fs = [f, g] := by
    rcases fs with _ | ⟨f, _ | ⟨g, _ | ⟨h, r⟩⟩⟩
    · simp at hf
    · simp at hf
    · exact ⟨f, g, rfl⟩
    · simp at hf
  simp only [List.map_cons, List.map_nil, List.cons.injEq, Prod.mk.injEq, and_true] at hf
  obtain ⟨⟨h1, h2, h3⟩, h4, h5, h6⟩ := hf
  exact ⟨f, g, rfl, h2, h3, h5, h6, h1, h4⟩
theorem equal_place (k m : Nat × Nat) (w : World) : (Op.equal 186 (placeV k) (placeV m)).run Tryz.prog w = .ok (decide (k = m)) w := by
  have hop : ∀ x y : Value, Op.equal 186 x y = Op.equalIn Op.maxDepth 186 x y := fun _ _ => rfl
  obtain ⟨m0, hd⟩ : ∃ m0, Op.maxDepth = m0 + 2 := ⟨9998, by decide⟩
  have ha : ∀ w, (isAgg 3).run Tryz.prog w = .ok false w := fun _ => by kernel_rfl
  rw [hop, hd]
  unfold placeV
  rw [run_equalIn_struct _ _ _ _ _ (by kernel_rfl) (by kernel_rfl)]
  obtain ⟨f, g, hfs, h2, h3, h5, h6, n1, n2⟩ := place_fields
  rw [hfs]
  obtain ⟨a, b⟩ := k
  obtain ⟨c, d⟩ := m
  simp [Op.eqFields, h2, h3, h5, h6, n1, n2, part, ha, go_sem]
  by_cases e1 : a = c <;> by_cases e2 : b = d <;> simp [e1, e2] <;> omega
theorem run_findAsking_p (k : Nat × Nat) (w : World) : ∀ (es : List MapEntry) (M : Tab) (i : Nat), es.map (fun e => (e.key, e.val)) = entsP M →
    (Instr.findAsking 186 (placeV k) es i).run Tryz.prog w = .ok ((findP k M i).map fun q => (q.1, chV q.2)) w
  | [], M, i, h => by
    cases M with
    | nil => simp [Instr.findAsking, findP]
    | cons p M => simp [entsP] at h
  | e :: es, M, i, h => by
    cases M with
    | nil => simp [entsP] at h
    | cons p M =>
      simp only [entsP, List.map_cons, List.cons.injEq, Prod.mk.injEq] at h
      obtain ⟨⟨h1, h2⟩, h3⟩ := h
      have ih := run_findAsking_p k w es M (i + 1) h3
      unfold Instr.findAsking
      simp only [Sem.run_bind, h1, equal_place k p.1, Result.andThen, findP]
      by_cases hp : p.1 = k
      · rw [if_pos hp, decide_eq_true hp.symm]
        simp [h2, Sem.run]
      · rw [if_neg hp, decide_eq_false (fun x => hp x.symm)]
        simpa using ih
theorem run_findKey_p (k : Nat × Nat) (w : World) (es : List MapEntry) (M : Tab) (h : es.map (fun e => (e.key, e.val)) = entsP M) :
    (Instr.findKey 186 (placeV k) es).run Tryz.prog w = .ok ((findP k M 0).map fun q => (q.1, chV q.2)) w := by
  have hask := run_findAsking_p k w es M 0 h
  obtain ⟨fs, hu⟩ : ∃ fs, Tryz.prog.underlying 186 = some (.struct fs) := ⟨_, Tryz.underlying186⟩
  unfold Instr.findKey
  simp only [Sem.run_bind, run_underlying hu, Result.andThen]
  cases es with
  | nil =>
    cases M with
    | nil => simp [Instr.findNow, findP, Sem.run]
    | cons p M => simp [entsP] at h
  | cons e es => simpa [Instr.findNow, Instr.sameNow] using hask
theorem run_check_p (k : Nat × Nat) (em : Bool) (w : World) : (Instr.checkKey em 10000 186 (placeV k)).run Tryz.prog w = .ok () w := by
  have ha : ∀ w, (isAgg 3).run Tryz.prog w = .ok false w := fun _ => by kernel_rfl
  have hs1 : ∀ w, (sizeOf 3).run Tryz.prog w = .ok 1 w := fun _ => by kernel_rfl
  have hi : Tryz.prog.underlying 3 = some (.int .i64) := Tryz.underlying3
  have hint : ∀ (m : Nat) (x : Int) (w : World), (Instr.checkKey em (m + 1) 3 (.int .i64 x)).run Tryz.prog w = .ok () w := fun m x w => by
    simp [Instr.checkKey, run_underlying hi]
  obtain ⟨fs, hu⟩ : ∃ fs, Tryz.prog.underlying 186 = some (.struct fs) := ⟨_, Tryz.underlying186⟩
  have hfs : Tryz.prog.fieldsOf 186 = fs := by simp [Program.fieldsOf, hu]
  obtain ⟨f, g, hf, h2, h3, h5, h6, n1, n2⟩ := place_fields
  rw [hfs] at hf
  obtain ⟨fl⟩ := fs
  simp only at hf
  subst hf
  rw [Instr.checkKey]
  have hint' := hint 9998
  unfold placeV
  simp [run_underlying hu, Result.andThen, h2, h3, h5, h6, part, ha, go_sem, hint', hs1]
/-- WHAT IS LOOKED UP -/
theorem run_lookup_p {w : World} {B : Nat} {M : Tab} (k : Nat × Nat) (h : MapP w B M) (ok : Bool) :
    (Instr.lookup 106 (.map (some B)) (placeV k) ok).run Tryz.prog w = .ok (if ok then .tuple #[chV ((getP k M).getD (0, 0)), .bool (getP k M).isSome] else chV ((getP k M).getD (0, 0))) w := by
  obtain ⟨es, n, hb, hE⟩ := h
  have hu : Tryz.prog.underlying 106 = some (.map 186 120) := Tryz.underlying106
  have hz : (zeroValue 120).run Tryz.prog w = .ok (chV (0, 0)) w := Tryz.zeroValue120 w
  have hf := run_findKey_p k w es.toList M hE
  have hg := findP_get k M 0
  unfold Instr.lookup
  simp only [Sem.run_bind, run_underlying hu, MapKept.run_getObj_map hb, run_check_p, hf, Result.andThen, Sem.run_pure]
  cases hq : findP k M 0 with
  | none =>
    rw [hq] at hg
    cases ok <;> simp [hz, ← hg, Sem.run, Result.andThen]
  | some q =>
    rw [hq] at hg
    cases ok <;> simp [← hg, Sem.run, Result.andThen]
/-- WHAT IS WRITTEN, at a place that is not there yet -/
theorem run_update_p {w : World} {B : Nat} {M : Tab} (k : Nat × Nat) (c : Ch) (h : MapP w B M) (hn : getP k M = none) :
    ∃ w', (Instr.mapUpdate 106 (.map (some B)) (placeV k) (chV c)).run Tryz.prog w = .ok () w' ∧ MapP w' B (M ++ [(k, c)]) ∧ w.grownBy w' (some B) ∧ w'.heap.size = w.heap.size := by
  obtain ⟨es, n, hb, hE⟩ := h
  have hlt := (Array.getElem?_eq_some_iff.1 hb).1
  have hu : Tryz.prog.underlying 106 = some (.map 186 120) := Tryz.underlying106
  have hf := run_findKey_p k w es.toList M hE
  have hg := findP_get k M 0
  rw [hn] at hg
  have hq : findP k M 0 = none := by
    cases hq : findP k M 0 with
    | none => rfl
    | some q => rw [hq] at hg; cases hg
  rw [hq] at hf
  refine ⟨setBlock w B (.map (es.push { key := placeV k, val := chV c, born := n }) (n + 1)), ?_, ⟨_, _, by simp [setBlock, hlt]; exact ⟨rfl, rfl⟩, by simp [hE, entsP]⟩, grownBy_putObj' w B _, by simp [setBlock]⟩
  unfold Instr.mapUpdate
  simp [run_underlying hu, MapKept.run_getObj_map hb, run_check_p, hf, Result.andThen, MapKept.run_setObj_map _ hb, setBlock]
end Go.Proofs.YtcamegaimleomaaGreat
