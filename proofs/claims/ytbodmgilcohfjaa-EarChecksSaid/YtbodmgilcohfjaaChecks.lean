/-
  WHAT EarChecks RETURNS: true.
-/
import Derived.Test.YtbodmgilcohfjaaKnown2
import Derived.Test.YtbodmgilcohfjaaOpen
namespace Go.Proofs.Ytbodmgilcohfjaa
open Go.RowKit
set_option linter.unusedVariables false

set_option maxRecDepth 100000 in
set_option maxHeartbeats 4000000 in
theorem checks_any (bv : Value) (b : Book) (s : ByteArray) (hs : s.size ≤ 9223372036854775807) (w : World) (hb : BookAt w bv b) :
    Calls Try.prog 3 #[bv, .string s] w fun e w' => e = .returned (.bool true) ∧ Ext w w' := by
  have hb0 := hb
  obtain ⟨ba, bc, bs, bd, rfl, -⟩ := hb.open
  have hck := fun w (hb : BookAt w (.agg #[.int .i64 b.sounds, .slice ba b.alphabets.length bc, .slice bs b.spellings.length bd]) b) => check_any _ b w hb
  have hrc := fun w (hb : BookAt w (.agg #[.int .i64 b.sounds, .slice ba b.alphabets.length bc, .slice bs b.spellings.length bd]) b) => refCheck_any _ b w hb
  have hnm := fun w => name_any s w hs
  have hrn := fun w => refName_any s w hs
  generalize (checkM b).2.2 = c3 at hck hrc
  generalize (checkM b).2.1 = c2 at hck hrc
  generalize (checkM b).1 = c1 at hck hrc
  generalize nameM s = nm at hnm hrn
  go_enter Try.func3, Try.ntmps3
  go_wp2_with fail
  refine (hck _ (hb0.ext (ext_alloc _ _))).mono ?_
  rintro e w1 ⟨rfl, hx1⟩
  have q0 : w1.cell? ⟨w.heap.size, 0, none⟩ = some (.int .i64 b.sounds) := hx1.cell (by simp [go_sem])
  have q1 : w1.cell? ⟨w.heap.size, 1, none⟩ = some (.slice ba b.alphabets.length bc) := hx1.cell (by simp [go_sem])
  have q2 : w1.cell? ⟨w.heap.size, 2, none⟩ = some (.slice bs b.spellings.length bd) := hx1.cell (by simp [go_sem])
  have z0 : w.heap.size < w1.heap.size := cell_lt q0
  have x1 : Ext w w1 := hx1.of_alloc
  clear hx1 hck
  go_wp2_with fail
  refine (hrc _ (hb0.ext x1)).mono ?_
  rintro e w2 ⟨rfl, hx2⟩
  have x2 := x1.trans hx2
  clear hx2 hrc q0 q1 q2 z0
  go_wp2_with fail
  refine (hnm _).mono ?_
  rintro e w3 ⟨rfl, hx3⟩
  have x3 := x2.trans hx3
  clear hx3 hnm
  go_wp2_with fail
  refine (hrn _).mono ?_
  rintro e w4 ⟨rfl, rfl⟩
  go_wp2_with fail
  refine (awake_any _).mono ?_
  rintro e w5 ⟨rfl, hx5⟩
  have x5 := x3.trans hx5
  clear hx5
  go_wp2
  go_ret
  exact ⟨rfl, x5⟩
end Go.Proofs.Ytbodmgilcohfjaa
