/-
  WHAT Awake OF RATE'S STATEMENTS RETURNS: true.
  THE EXAMPLES: RateKnown returns true.
  A CALL THAT LETS ALL BE AS IT WAS, AND ANSWERS AS IT SHOULD, KEEPS A LAW's WORD.
  ALL RATES OF A HOUSE, day by day, as the reference finds them; plain.
  LISTS OF LISTS OF INTEGERS THAT A CALL MAKES ITSELF: a row of slices, each with numbers of its own.
  WHAT Rates OF THE REFERENCE RETURNS: all rates of a house, in order.
  WHAT AN AGENT PAYS, by the reference.
-/
import Derived.Test.YtdadffmagfknoaaBunAL
import Derived.Test.YtdadffmagfknoaaBunAJ
import Derived.RegionTactic
import Derived.BigRegion
import Derived.Test.YtdadffmagfknoaaBunAA
import Derived.ProofKit
import Derived.OpenShut
import Derived.Test.YtdadffmagfknoaaBunAB
import Derived.Test.YtdadffmagfknoaaBunAD
import Derived.Maps.AppendAt
import Derived.Laws.AppendOwnNone
import Derived.Test.YtdadffmagfknoaaBunAC
namespace Go.Proofs.Ytdadffmagfknoaa
set_option linter.unusedSimpArgs false
set_option linter.unusedVariables false
open Go.RowKit
set_option linter.unusedVariables false
set_option maxRecDepth 100000

set_option maxHeartbeats 20000000 in
theorem awakeR_any (w : World) : Calls Try.prog 23 #[] w fun e w' => e = .returned (.bool true) ∧ Ext w w' := by
  have hsp := eqlE_span
  go_enter Try.func23, Try.ntmps23
  go_wp2_with fail
  refine (lawHouse_any (-1) (by decide) _).mono ?_
  rintro e w1 ⟨vh, rfl, hH, hx1⟩
  go_wp2_with fail
  refine (lawHouse_any 17 (by decide) _).mono ?_
  rintro e w2 ⟨vj, rfl, hJ, hx2⟩
  go_wp2_with fail
  refine (lawHouse_any 24 (by decide) _).mono ?_
  rintro e w3 ⟨vv, rfl, hV, hx3⟩
  replace hJ := hJ.ext hx3
  replace hH := hH.ext (hx2.trans hx3)
  have x1 : Ext w w3 := (hx1.trans hx2).trans hx3
  clear hx1 hx2 hx3
  obtain ⟨a1, ra1, n1, rc1, s1, aa1, m1, ac1, ea1, k1, ec1, rfl⟩ := hH.form5
  obtain ⟨a2, ra2, n2, rc2, s2, aa2, m2, ac2, ea2, k2, ec2, rfl⟩ := hJ.form5
  obtain ⟨a3, ra3, n3, rc3, s3, aa3, m3, ac3, ea3, k3, ec3, rfl⟩ := hV.form5
  go_wp2_with fail
  obtain ⟨W, hW⟩ : ∃ W, W = (((w3.alloc (.cells #[.int .i64 a1, .slice ra1 n1 rc1, .int .i64 s1, .slice aa1 m1 ac1, .slice ea1 k1 ec1] 26)).alloc (.cells #[.int .i64 a2, .slice ra2 n2 rc2, .int .i64 s2, .slice aa2 m2 ac2, .slice ea2 k2 ec2] 26)).alloc (.cells #[.int .i64 a3, .slice ra3 n3 rc3, .int .i64 s3, .slice aa3 m3 ac3, .slice ea3 k3 ec3] 26)) := ⟨_, rfl⟩
  have xW : Ext w3 W := by rw [hW]; exact ((ext_alloc _ _).alloc _).alloc _
  have p0 : W.cell? ⟨w3.heap.size, 0, none⟩ = some (.int .i64 a1) := by rw [hW]; simp [go_sem]
  have p1 : W.cell? ⟨w3.heap.size, 1, none⟩ = some (.slice ra1 n1 rc1) := by rw [hW]; simp [go_sem]
  have p2 : W.cell? ⟨w3.heap.size, 2, none⟩ = some (.int .i64 s1) := by rw [hW]; simp [go_sem]
  have p3 : W.cell? ⟨w3.heap.size, 3, none⟩ = some (.slice aa1 m1 ac1) := by rw [hW]; simp [go_sem]
  have p4 : W.cell? ⟨w3.heap.size, 4, none⟩ = some (.slice ea1 k1 ec1) := by rw [hW]; simp [go_sem]
  have q0 : W.cell? ⟨w3.heap.size + 1, 0, none⟩ = some (.int .i64 a2) := by rw [hW]; simp [go_sem]
  have q1 : W.cell? ⟨w3.heap.size + 1, 1, none⟩ = some (.slice ra2 n2 rc2) := by rw [hW]; simp [go_sem]
  have q2 : W.cell? ⟨w3.heap.size + 1, 2, none⟩ = some (.int .i64 s2) := by rw [hW]; simp [go_sem]
  have q3 : W.cell? ⟨w3.heap.size + 1, 3, none⟩ = some (.slice aa2 m2 ac2) := by rw [hW]; simp [go_sem]
  have q4 : W.cell? ⟨w3.heap.size + 1, 4, none⟩ = some (.slice ea2 k2 ec2) := by rw [hW]; simp [go_sem]
  have r0 : W.cell? ⟨w3.heap.size + 1 + 1, 0, none⟩ = some (.int .i64 a3) := by rw [hW]; simp [go_sem]
  have r1 : W.cell? ⟨w3.heap.size + 1 + 1, 1, none⟩ = some (.slice ra3 n3 rc3) := by rw [hW]; simp [go_sem]
  have r2 : W.cell? ⟨w3.heap.size + 1 + 1, 2, none⟩ = some (.int .i64 s3) := by rw [hW]; simp [go_sem]
  have r3 : W.cell? ⟨w3.heap.size + 1 + 1, 3, none⟩ = some (.slice aa3 m3 ac3) := by rw [hW]; simp [go_sem]
  have r4 : W.cell? ⟨w3.heap.size + 1 + 1, 4, none⟩ = some (.slice ea3 k3 ec3) := by rw [hW]; simp [go_sem]
  rw [← hW]
  clear hW
  replace hH := hH.ext xW
  replace hJ := hJ.ext xW
  replace hV := hV.ext xW
  replace x1 := x1.trans xW
  clear xW
  obtain ⟨b1, hb1⟩ : ∃ b, b = w3.heap.size := ⟨_, rfl⟩
  obtain ⟨b2, hb2⟩ : ∃ b, b = b1 + 1 := ⟨_, rfl⟩
  obtain ⟨b3, hb3⟩ : ∃ b, b = b2 + 1 := ⟨_, rfl⟩
  simp only [← hb1, ← hb2, ← hb3] at p0 p1 p2 p3 p4 q0 q1 q2 q3 q4 r0 r1 r2 r3 r4 ⊢
  clear hb1 hb2 hb3
  have zp : b1 < W.heap.size := cell_lt p0
  have zq : b2 < W.heap.size := cell_lt q0
  have zr : b3 < W.heap.size := cell_lt r0
  refine (aw_first _ _ hH).mono ?_
  rintro e w4 ⟨u1, rfl, hu1, hx⟩
  replace hH := hH.ext hx
  replace hJ := hJ.ext hx
  replace hV := hV.ext hx
  replace p0 := hx.cell p0
  replace p1 := hx.cell p1
  replace p2 := hx.cell p2
  replace p3 := hx.cell p3
  replace p4 := hx.cell p4
  replace q0 := hx.cell q0
  replace q1 := hx.cell q1
  replace q2 := hx.cell q2
  replace q3 := hx.cell q3
  replace q4 := hx.cell q4
  replace r0 := hx.cell r0
  replace r1 := hx.cell r1
  replace r2 := hx.cell r2
  replace r3 := hx.cell r3
  replace r4 := hx.cell r4
  replace zp : b1 < w4.heap.size := cell_lt p0
  replace zq : b2 < w4.heap.size := cell_lt q0
  replace zr : b3 < w4.heap.size := cell_lt r0
  replace x1 := x1.trans hx
  clear hx
  obtain ⟨u1a, u1c, rfl, -⟩ := hu1.shape
  go_wp2_with fail
  refine (aw_rate _ _ hH).mono ?_
  rintro e w5 ⟨rfl, hx⟩
  replace hH := hH.ext hx
  replace hJ := hJ.ext hx
  replace hV := hV.ext hx
  replace hu1 := hu1.ext hx
  replace p0 := hx.cell p0
  replace p1 := hx.cell p1
  replace p2 := hx.cell p2
  replace p3 := hx.cell p3
  replace p4 := hx.cell p4
  replace q0 := hx.cell q0
  replace q1 := hx.cell q1
  replace q2 := hx.cell q2
  replace q3 := hx.cell q3
  replace q4 := hx.cell q4
  replace r0 := hx.cell r0
  replace r1 := hx.cell r1
  replace r2 := hx.cell r2
  replace r3 := hx.cell r3
  replace r4 := hx.cell r4
  replace zp : b1 < w5.heap.size := cell_lt p0
  replace zq : b2 < w5.heap.size := cell_lt q0
  replace zr : b3 < w5.heap.size := cell_lt r0
  replace x1 := x1.trans hx
  clear hx
  go_wp2_with fail
  refine (aw_worth _ _ (hH.ext (ext_alloc _ _))).mono ?_
  rintro e w6 ⟨rfl, hx'⟩
  have hx := hx'.of_alloc
  have d0 : w6.cell? ⟨w5.heap.size, 0, none⟩ = some (.int .i64 10) := hx'.cell (by simp [go_sem])
  have d1 : w6.cell? ⟨w5.heap.size, 1, none⟩ = some (.int .i64 14) := hx'.cell (by simp [go_sem])
  clear hx'
  replace hH := hH.ext hx
  replace hJ := hJ.ext hx
  replace hV := hV.ext hx
  replace hu1 := hu1.ext hx
  replace p0 := hx.cell p0
  replace p1 := hx.cell p1
  replace p2 := hx.cell p2
  replace p3 := hx.cell p3
  replace p4 := hx.cell p4
  replace q0 := hx.cell q0
  replace q1 := hx.cell q1
  replace q2 := hx.cell q2
  replace q3 := hx.cell q3
  replace q4 := hx.cell q4
  replace r0 := hx.cell r0
  replace r1 := hx.cell r1
  replace r2 := hx.cell r2
  replace r3 := hx.cell r3
  replace r4 := hx.cell r4
  replace zp : b1 < w6.heap.size := cell_lt p0
  replace zq : b2 < w6.heap.size := cell_lt q0
  replace zr : b3 < w6.heap.size := cell_lt r0
  replace x1 := x1.trans hx
  obtain ⟨db, hdb⟩ : ∃ b, b = w5.heap.size := ⟨_, rfl⟩
  rw [← hdb] at d0 d1 ⊢
  clear hdb
  have zd : db < w6.heap.size := cell_lt d0
  clear hx
  go_wp2_with fail
  refine (aw_may _ _ (hJ.ext (ext_alloc _ _))).mono ?_
  rintro e w7 ⟨rfl, hx'⟩
  have hx := hx'.of_alloc
  have g0 : w7.cell? ⟨w6.heap.size, 0, none⟩ = some (.int .i64 20) := hx'.cell (by simp [go_sem])
  have g1 : w7.cell? ⟨w6.heap.size, 1, none⟩ = some (.int .i64 28) := hx'.cell (by simp [go_sem])
  clear hx'
  replace hH := hH.ext hx
  replace hJ := hJ.ext hx
  replace hV := hV.ext hx
  replace hu1 := hu1.ext hx
  replace p0 := hx.cell p0
  replace p1 := hx.cell p1
  replace p2 := hx.cell p2
  replace p3 := hx.cell p3
  replace p4 := hx.cell p4
  replace q0 := hx.cell q0
  replace q1 := hx.cell q1
  replace q2 := hx.cell q2
  replace q3 := hx.cell q3
  replace q4 := hx.cell q4
  replace r0 := hx.cell r0
  replace r1 := hx.cell r1
  replace r2 := hx.cell r2
  replace r3 := hx.cell r3
  replace r4 := hx.cell r4
  replace d0 := hx.cell d0
  replace d1 := hx.cell d1
  replace zp : b1 < w7.heap.size := cell_lt p0
  replace zq : b2 < w7.heap.size := cell_lt q0
  replace zr : b3 < w7.heap.size := cell_lt r0
  replace zd : db < w7.heap.size := cell_lt d0
  replace x1 := x1.trans hx
  obtain ⟨gb, hgb⟩ : ∃ b, b = w6.heap.size := ⟨_, rfl⟩
  rw [← hgb] at g0 g1 ⊢
  clear hgb
  have zg : gb < w7.heap.size := cell_lt g0
  clear hx
  go_wp2_with fail
  refine (aw_never _ _ hV).mono ?_
  rintro e w8 ⟨rfl, hx⟩
  replace hH := hH.ext hx
  replace hJ := hJ.ext hx
  replace hV := hV.ext hx
  replace hu1 := hu1.ext hx
  replace p0 := hx.cell p0
  replace p1 := hx.cell p1
  replace p2 := hx.cell p2
  replace p3 := hx.cell p3
  replace p4 := hx.cell p4
  replace q0 := hx.cell q0
  replace q1 := hx.cell q1
  replace q2 := hx.cell q2
  replace q3 := hx.cell q3
  replace q4 := hx.cell q4
  replace r0 := hx.cell r0
  replace r1 := hx.cell r1
  replace r2 := hx.cell r2
  replace r3 := hx.cell r3
  replace r4 := hx.cell r4
  replace d0 := hx.cell d0
  replace d1 := hx.cell d1
  replace g0 := hx.cell g0
  replace g1 := hx.cell g1
  replace zp : b1 < w8.heap.size := cell_lt p0
  replace zq : b2 < w8.heap.size := cell_lt q0
  replace zr : b3 < w8.heap.size := cell_lt r0
  replace zd : db < w8.heap.size := cell_lt d0
  replace zg : gb < w8.heap.size := cell_lt g0
  replace x1 := x1.trans hx
  clear hx
  go_wp2_with fail
  refine (aw_wrong _ _ hV).mono ?_
  rintro e w9 ⟨u2, rfl, hu2, hx⟩
  replace hH := hH.ext hx
  replace hJ := hJ.ext hx
  replace hV := hV.ext hx
  replace hu1 := hu1.ext hx
  replace p0 := hx.cell p0
  replace p1 := hx.cell p1
  replace p2 := hx.cell p2
  replace p3 := hx.cell p3
  replace p4 := hx.cell p4
  replace q0 := hx.cell q0
  replace q1 := hx.cell q1
  replace q2 := hx.cell q2
  replace q3 := hx.cell q3
  replace q4 := hx.cell q4
  replace r0 := hx.cell r0
  replace r1 := hx.cell r1
  replace r2 := hx.cell r2
  replace r3 := hx.cell r3
  replace r4 := hx.cell r4
  replace d0 := hx.cell d0
  replace d1 := hx.cell d1
  replace g0 := hx.cell g0
  replace g1 := hx.cell g1
  replace zp : b1 < w9.heap.size := cell_lt p0
  replace zq : b2 < w9.heap.size := cell_lt q0
  replace zr : b3 < w9.heap.size := cell_lt r0
  replace zd : db < w9.heap.size := cell_lt d0
  replace zg : gb < w9.heap.size := cell_lt g0
  replace x1 := x1.trans hx
  clear hx
  obtain ⟨u2a, u2c, rfl, -⟩ := hu2.shape
  go_wp2_with fail
  refine (aw_none _ _ hJ).mono ?_
  rintro e w10 ⟨u3, rfl, hu3, hx⟩
  replace hH := hH.ext hx
  replace hJ := hJ.ext hx
  replace hV := hV.ext hx
  replace hu1 := hu1.ext hx
  replace hu2 := hu2.ext hx
  replace p0 := hx.cell p0
  replace p1 := hx.cell p1
  replace p2 := hx.cell p2
  replace p3 := hx.cell p3
  replace p4 := hx.cell p4
  replace q0 := hx.cell q0
  replace q1 := hx.cell q1
  replace q2 := hx.cell q2
  replace q3 := hx.cell q3
  replace q4 := hx.cell q4
  replace r0 := hx.cell r0
  replace r1 := hx.cell r1
  replace r2 := hx.cell r2
  replace r3 := hx.cell r3
  replace r4 := hx.cell r4
  replace d0 := hx.cell d0
  replace d1 := hx.cell d1
  replace g0 := hx.cell g0
  replace g1 := hx.cell g1
  replace zp : b1 < w10.heap.size := cell_lt p0
  replace zq : b2 < w10.heap.size := cell_lt q0
  replace zr : b3 < w10.heap.size := cell_lt r0
  replace zd : db < w10.heap.size := cell_lt d0
  replace zg : gb < w10.heap.size := cell_lt g0
  replace x1 := x1.trans hx
  clear hx
  obtain ⟨u3a, u3c, rfl, -⟩ := hu3.shape
  go_wp2_with fail
  refine (aw_paid _ _ hH).mono ?_
  rintro e w11 ⟨rfl, hx⟩
  replace hH := hH.ext hx
  replace hJ := hJ.ext hx
  replace hV := hV.ext hx
  replace hu1 := hu1.ext hx
  replace hu2 := hu2.ext hx
  replace hu3 := hu3.ext hx
  replace p0 := hx.cell p0
  replace p1 := hx.cell p1
  replace p2 := hx.cell p2
  replace p3 := hx.cell p3
  replace p4 := hx.cell p4
  replace q0 := hx.cell q0
  replace q1 := hx.cell q1
  replace q2 := hx.cell q2
  replace q3 := hx.cell q3
  replace q4 := hx.cell q4
  replace r0 := hx.cell r0
  replace r1 := hx.cell r1
  replace r2 := hx.cell r2
  replace r3 := hx.cell r3
  replace r4 := hx.cell r4
  replace d0 := hx.cell d0
  replace d1 := hx.cell d1
  replace g0 := hx.cell g0
  replace g1 := hx.cell g1
  replace zp : b1 < w11.heap.size := cell_lt p0
  replace zq : b2 < w11.heap.size := cell_lt q0
  replace zr : b3 < w11.heap.size := cell_lt r0
  replace zd : db < w11.heap.size := cell_lt d0
  replace zg : gb < w11.heap.size := cell_lt g0
  replace x1 := x1.trans hx
  clear hx
  go_wp2_with fail
  refine (aw_send _ _ (hH.ext (ext_alloc _ _))).mono ?_
  rintro e w12 ⟨rfl, hx'⟩
  have hx := hx'.of_alloc
  have y0 : w12.cell? ⟨w11.heap.size, 0, none⟩ = some (.int .i64 15) := hx'.cell (by simp [go_sem])
  have y1 : w12.cell? ⟨w11.heap.size, 1, none⟩ = some (.int .i64 21) := hx'.cell (by simp [go_sem])
  clear hx'
  replace hH := hH.ext hx
  replace hJ := hJ.ext hx
  replace hV := hV.ext hx
  replace hu1 := hu1.ext hx
  replace hu2 := hu2.ext hx
  replace hu3 := hu3.ext hx
  replace p0 := hx.cell p0
  replace p1 := hx.cell p1
  replace p2 := hx.cell p2
  replace p3 := hx.cell p3
  replace p4 := hx.cell p4
  replace q0 := hx.cell q0
  replace q1 := hx.cell q1
  replace q2 := hx.cell q2
  replace q3 := hx.cell q3
  replace q4 := hx.cell q4
  replace r0 := hx.cell r0
  replace r1 := hx.cell r1
  replace r2 := hx.cell r2
  replace r3 := hx.cell r3
  replace r4 := hx.cell r4
  replace d0 := hx.cell d0
  replace d1 := hx.cell d1
  replace g0 := hx.cell g0
  replace g1 := hx.cell g1
  replace zp : b1 < w12.heap.size := cell_lt p0
  replace zq : b2 < w12.heap.size := cell_lt q0
  replace zr : b3 < w12.heap.size := cell_lt r0
  replace zd : db < w12.heap.size := cell_lt d0
  replace zg : gb < w12.heap.size := cell_lt g0
  replace x1 := x1.trans hx
  obtain ⟨yb, hyb⟩ : ∃ b, b = w11.heap.size := ⟨_, rfl⟩
  rw [← hyb] at y0 y1 ⊢
  clear hyb
  have zy : yb < w12.heap.size := cell_lt y0
  clear hx
  go_wp2_with fail
  refine (aw_zero _ _ hV).mono ?_
  rintro e w13 ⟨sx, sy, rfl, hx⟩
  replace hH := hH.ext hx
  replace hJ := hJ.ext hx
  replace hV := hV.ext hx
  replace hu1 := hu1.ext hx
  replace hu2 := hu2.ext hx
  replace hu3 := hu3.ext hx
  replace p0 := hx.cell p0
  replace p1 := hx.cell p1
  replace p2 := hx.cell p2
  replace p3 := hx.cell p3
  replace p4 := hx.cell p4
  replace q0 := hx.cell q0
  replace q1 := hx.cell q1
  replace q2 := hx.cell q2
  replace q3 := hx.cell q3
  replace q4 := hx.cell q4
  replace r0 := hx.cell r0
  replace r1 := hx.cell r1
  replace r2 := hx.cell r2
  replace r3 := hx.cell r3
  replace r4 := hx.cell r4
  replace d0 := hx.cell d0
  replace d1 := hx.cell d1
  replace g0 := hx.cell g0
  replace g1 := hx.cell g1
  replace y0 := hx.cell y0
  replace y1 := hx.cell y1
  replace zp : b1 < w13.heap.size := cell_lt p0
  replace zq : b2 < w13.heap.size := cell_lt q0
  replace zr : b3 < w13.heap.size := cell_lt r0
  replace zd : db < w13.heap.size := cell_lt d0
  replace zg : gb < w13.heap.size := cell_lt g0
  replace zy : yb < w13.heap.size := cell_lt y0
  replace x1 := x1.trans hx
  clear hx
  go_wp2_with fail
  refine (aw_arg _ _ (hH.ext (ext_alloc _ _))).mono ?_
  rintro e w14 ⟨ax, rfl, hx'⟩
  have hx := hx'.of_alloc
  have t0 : w14.cell? ⟨w13.heap.size, 0, none⟩ = some (.int .i64 sx) := hx'.cell (by simp [go_sem])
  have t1 : w14.cell? ⟨w13.heap.size, 1, none⟩ = some (.int .i64 sy) := hx'.cell (by simp [go_sem])
  clear hx'
  replace hH := hH.ext hx
  replace hJ := hJ.ext hx
  replace hV := hV.ext hx
  replace hu1 := hu1.ext hx
  replace hu2 := hu2.ext hx
  replace hu3 := hu3.ext hx
  replace p0 := hx.cell p0
  replace p1 := hx.cell p1
  replace p2 := hx.cell p2
  replace p3 := hx.cell p3
  replace p4 := hx.cell p4
  replace q0 := hx.cell q0
  replace q1 := hx.cell q1
  replace q2 := hx.cell q2
  replace q3 := hx.cell q3
  replace q4 := hx.cell q4
  replace r0 := hx.cell r0
  replace r1 := hx.cell r1
  replace r2 := hx.cell r2
  replace r3 := hx.cell r3
  replace r4 := hx.cell r4
  replace d0 := hx.cell d0
  replace d1 := hx.cell d1
  replace g0 := hx.cell g0
  replace g1 := hx.cell g1
  replace y0 := hx.cell y0
  replace y1 := hx.cell y1
  replace zp : b1 < w14.heap.size := cell_lt p0
  replace zq : b2 < w14.heap.size := cell_lt q0
  replace zr : b3 < w14.heap.size := cell_lt r0
  replace zd : db < w14.heap.size := cell_lt d0
  replace zg : gb < w14.heap.size := cell_lt g0
  replace zy : yb < w14.heap.size := cell_lt y0
  replace x1 := x1.trans hx
  obtain ⟨tb, htb⟩ : ∃ b, b = w13.heap.size := ⟨_, rfl⟩
  rw [← htb] at t0 t1 ⊢
  clear htb
  have zt : tb < w14.heap.size := cell_lt t0
  clear hx
  go_wp2_with fail
  clear hH hJ hV p0 p1 p2 p3 p4 q0 q1 q2 q3 q4 r0 r1 r2 r3 r4 zp zq zr t0 t1 zt
  apply Facts.wp_frame
  intro A hA
  have f4 : ∀ h, A.tmps[4]'h = .slice u1a 2 u1c := by rw [hA]; exact fun _ => rfl
  have f5 : ∀ h, A.tmps[5]'h = .int .i64 5 := by rw [hA]; exact fun _ => rfl
  have f6 : ∀ h, A.tmps[6]'h = .int .i64 0 := by rw [hA]; exact fun _ => rfl
  have f7 : ∀ h, A.tmps[7]'h = .pointer (some ⟨db, 0, none⟩) := by rw [hA]; exact fun _ => rfl
  have f8 : ∀ h, A.tmps[8]'h = .int .i64 0 := by rw [hA]; exact fun _ => rfl
  have f9 : ∀ h, A.tmps[9]'h = .pointer (some ⟨gb, 0, none⟩) := by rw [hA]; exact fun _ => rfl
  have f10 : ∀ h, A.tmps[10]'h = .int .i64 0 := by rw [hA]; exact fun _ => rfl
  have f11 : ∀ h, A.tmps[11]'h = .int .i64 0 := by rw [hA]; exact fun _ => rfl
  have f12 : ∀ h, A.tmps[12]'h = .int .i64 0 := by rw [hA]; exact fun _ => rfl
  have f13 : ∀ h, A.tmps[13]'h = .int .i64 2 := by rw [hA]; exact fun _ => rfl
  have f14 : ∀ h, A.tmps[14]'h = .int .i64 0 := by rw [hA]; exact fun _ => rfl
  have f15 : ∀ h, A.tmps[15]'h = .slice u2a 1 u2c := by rw [hA]; exact fun _ => rfl
  have f16 : ∀ h, A.tmps[16]'h = .int .i64 0 := by rw [hA]; exact fun _ => rfl
  have f17 : ∀ h, A.tmps[17]'h = .slice u3a 0 u3c := by rw [hA]; exact fun _ => rfl
  have f18 : ∀ h, A.tmps[18]'h = .int .i64 0 := by rw [hA]; exact fun _ => rfl
  have f19 : ∀ h, A.tmps[19]'h = .pointer (some ⟨yb, 0, none⟩) := by rw [hA]; exact fun _ => rfl
  have f20 : ∀ h, A.tmps[20]'h = .int .i64 0 := by rw [hA]; exact fun _ => rfl
  have f21 : ∀ h, A.tmps[21]'h = .int .i64 0 := by rw [hA]; exact fun _ => rfl
  have f22 : ∀ h, A.tmps[22]'h = .int .i64 26 := by rw [hA]; exact fun _ => rfl
  have f23 : ∀ h, A.tmps[23]'h = .int .i64 0 := by rw [hA]; exact fun _ => rfl
  have f25 : ∀ h, A.tmps[25]'h = .int .i64 8 := by rw [hA]; exact fun _ => rfl
  have f27 : ∀ h, A.tmps[27]'h = .int .i64 2 := by rw [hA]; exact fun _ => rfl
  have fsz : A.tmps.size = 180 := by rw [hA]; rfl
  have HA := Lib.hid hA
  clear hA hsp
  have hu1 : IntsAt w14 (.slice u1a 2 u1c) [12, 10] := hu1
  have hu2 : IntsAt w14 (.slice u2a 1 u2c) [0] := hu2
  apply Facts.wp_region (.val _ :: .val _ :: .val _ :: .val _ :: .val _ :: .val _ :: .val _ :: .val _ :: .val _ :: .val _ :: .val _ :: .val _ :: .val _ :: .val _ :: .val _ :: .val _ :: .val _ :: .val _ :: .val _ :: .val _ :: .val _ :: .val _ :: .val _ :: .val _ :: .val _ :: .val _ :: .val _ :: .val _ :: .val _ :: .val _ :: .val _ :: .val _ :: .val _ :: .val _ :: .val _ :: .val _ :: .val _ :: .val _ :: .val _ :: .val _ :: .val _ :: .val _ :: .val _ :: .val _ :: .fact (fun u w => IntsAt w u [12, 10]) :: .val _ :: .val _ :: .val _ :: .val _ :: .val _ :: .val _ :: .val _ :: .val _ :: .val _ :: .val _ :: .val _ :: .val _ :: .val _ :: .val _ :: .val _ :: .val _ :: .val _ :: .val _ :: .val _ :: .val _ :: .val _ :: .val _ :: .val _ :: .val _ :: .val _ :: .val _ :: .fact (fun u w => IntsAt w u [0]) :: .val _ :: .val _ :: .val _ :: .val _ :: .val _ :: .val _ :: .val _ :: .val _ :: .val _ :: .val _ :: .val _ :: .val _ :: .val _ :: .val _ :: .val _ :: .val _ :: .val _ :: .val _ :: .val _ :: .val _ :: .val _ :: []) (by kernel_rfl) (by kernel_rfl) ⟨fun u a c hx h => IntsAt.ext h hx, fun u a c hx h => IntsAt.ext h hx, trivial⟩ ?main
  case main =>
    iterate 44 (refine ⟨fun w1 hx hh => ?_, ?_⟩; focus (clear hh; skip; go_simp; first | exact ⟨Ext.refl _, rfl⟩ | exact Ext.refl _))
    refine ⟨fun w1 hx hh => ?_, ?_⟩
    · clear hh
      go_simp
      exact ⟨ext_alloc _ _, IntsAt.twoA (m := 10) (n := 12) rfl (I64.lit (by decide)) (I64.lit (by decide))⟩
    intro u44
    refine ⟨fun w1 hx hh => ?_, ?_⟩
    · have h1 : IntsAt w1 u44 [12, 10] := hh 44 _ List.mem_cons_self (by kernel_rfl)
      clear hh
      go_simp
      refine (ints_any _ _ [12, 10] [12, 10] _ (hu1.ext hx) h1).mono ?_
      rintro e w' ⟨rfl, hx2⟩
      exact ⟨_, rfl, hx2, rfl⟩
    iterate 6 (refine ⟨fun w1 hx hh => ?_, ?_⟩; focus (clear hh; skip; go_simp; first | exact ⟨Ext.refl _, rfl⟩ | exact Ext.refl _))
    iterate 1 (refine ⟨fun w1 hx hh => ?_, ?_⟩; focus (clear hh; have e0 := hx.cell d0; have e1 := hx.cell d1; go_simp; first | exact ⟨Ext.refl _, rfl⟩ | exact Ext.refl _))
    refine ⟨fun w1 hx hh => ?_, ?_⟩
    · clear hh
      go_simp
      refine (lawSpan_any 10 14 _).mono ?_
      rintro e w' ⟨rfl, hx2⟩
      exact ⟨_, rfl, hx2, rfl⟩
    iterate 1 (refine ⟨fun w1 hx hh => ?_, ?_⟩; focus (clear hh; have e0 := equalInE_span; go_simp; first | exact ⟨Ext.refl _, rfl⟩ | exact Ext.refl _))
    iterate 2 (refine ⟨fun w1 hx hh => ?_, ?_⟩; focus (clear hh; skip; go_simp; first | exact ⟨Ext.refl _, rfl⟩ | exact Ext.refl _))
    iterate 1 (refine ⟨fun w1 hx hh => ?_, ?_⟩; focus (clear hh; have e0 := hx.cell g0; have e1 := hx.cell g1; go_simp; first | exact ⟨Ext.refl _, rfl⟩ | exact Ext.refl _))
    refine ⟨fun w1 hx hh => ?_, ?_⟩
    · clear hh
      go_simp
      refine (lawSpan_any 20 28 _).mono ?_
      rintro e w' ⟨rfl, hx2⟩
      exact ⟨_, rfl, hx2, rfl⟩
    iterate 1 (refine ⟨fun w1 hx hh => ?_, ?_⟩; focus (clear hh; have e0 := equalInE_span; go_simp; first | exact ⟨Ext.refl _, rfl⟩ | exact Ext.refl _))
    iterate 11 (refine ⟨fun w1 hx hh => ?_, ?_⟩; focus (clear hh; skip; go_simp; first | exact ⟨Ext.refl _, rfl⟩ | exact Ext.refl _))
    refine ⟨fun w1 hx hh => ?_, ?_⟩
    · clear hh
      go_simp
      exact ⟨ext_alloc _ _, IntsAt.oneAt (n := 0) rfl (I64.lit (by decide))⟩
    intro u71
    refine ⟨fun w1 hx hh => ?_, ?_⟩
    · have h1 : IntsAt w1 u71 [0] := hh 71 _ List.mem_cons_self (by kernel_rfl)
      clear hh
      go_simp
      refine (ints_any _ _ [0] [0] _ (hu2.ext hx) h1).mono ?_
      rintro e w' ⟨rfl, hx2⟩
      exact ⟨_, rfl, hx2, rfl⟩
    iterate 7 (refine ⟨fun w1 hx hh => ?_, ?_⟩; focus (clear hh; skip; go_simp; first | exact ⟨Ext.refl _, rfl⟩ | exact Ext.refl _))
    iterate 1 (refine ⟨fun w1 hx hh => ?_, ?_⟩; focus (clear hh; have e0 := hx.cell y0; have e1 := hx.cell y1; go_simp; first | exact ⟨Ext.refl _, rfl⟩ | exact Ext.refl _))
    refine ⟨fun w1 hx hh => ?_, ?_⟩
    · clear hh
      go_simp
      refine (lawSpan_any 15 21 _).mono ?_
      rintro e w' ⟨rfl, hx2⟩
      exact ⟨_, rfl, hx2, rfl⟩
    iterate 1 (refine ⟨fun w1 hx hh => ?_, ?_⟩; focus (clear hh; have e0 := equalInE_span; go_simp; first | exact ⟨Ext.refl _, rfl⟩ | exact Ext.refl _))
    iterate 10 (refine ⟨fun w1 hx hh => ?_, ?_⟩; focus (clear hh; skip; go_simp; first | exact ⟨Ext.refl _, rfl⟩ | exact Ext.refl _))
    intro w15 hx hh
    clear hh
    have hA := HA.out
    subst hA
    replace x1 := x1.trans hx
    go_simp
    go_wp2
    go_ret
    exact ⟨rfl, x1⟩
end Go.Proofs.Ytdadffmagfknoaa

namespace Go.Proofs.Ytdadffmagfknoaa
set_option linter.unusedSimpArgs false
set_option linter.unusedVariables false
open Go.RowKit
set_option linter.unusedVariables false
set_option maxRecDepth 100000

theorem kn_first (vv : Value) (w : World) (h : HouseAt w vv (exHouse (17))) : Calls Try.prog 18 #[vv] w fun e w' => ∃ v, e = .returned (.tuple #[v, .int .i64 1, .int .i64 0]) ∧ IntsAt w' v [12, 11] ∧ Ext w w' := by
  refine (firstPub_any vv _ w h).mono ?_
  rintro e w' ⟨v, rfl, hv, hx⟩
  rw [ex2_first.2.1] at hv
  rw [ex2_first.1, ex2_first.2.2]
  exact ⟨v, rfl, hv, hx⟩
theorem kn_rate (vv : Value) (w : World) (h : HouseAt w vv (exHouse (-1))) : Calls Try.prog 21 #[vv, .int .i64 0] w fun e w' => e = .returned (.tuple #[.agg #[.int .i64 12, .int .i64 12], .int .i64 0]) ∧ Ext w w' := by
  refine (ratePub_any vv _ 0 (I64.lit (by decide)) w h).mono ?_
  rintro e w' ⟨rfl, hx⟩
  exact ⟨ret_spE ex2_rate.2 ex2_rate.1, hx⟩
theorem kn_cadiz (vv : Value) (w : World) (h : HouseAt w vv (exHouse (-1))) : Calls Try.prog 24 #[vv, .int .i64 1, .int .i64 1, .int .i64 18] w fun e w' => e = .returned (.tuple #[.agg #[.int .i64 15, .int .i64 21], .int .i64 0]) ∧ Ext w w' := by
  refine (worthPub_any vv _ 1 1 18 (I64.lit (by decide)) (I64.lit (by decide)) (I64.lit (by decide)) w h).mono ?_
  rintro e w' ⟨rfl, hx⟩
  exact ⟨ret_spE ex2_cadiz.2 ex2_cadiz.1, hx⟩
theorem kn_nothing (vv : Value) (w : World) (h : HouseAt w vv (exHouse (-1))) : Calls Try.prog 24 #[vv, .int .i64 1, .int .i64 0, .int .i64 3] w fun e w' => e = .returned (.tuple #[.agg #[.int .i64 0, .int .i64 0], .int .i64 0]) ∧ Ext w w' := by
  refine (worthPub_any vv _ 1 0 3 (I64.lit (by decide)) (I64.lit (by decide)) (I64.lit (by decide)) w h).mono ?_
  rintro e w' ⟨rfl, hx⟩
  exact ⟨ret_spE ex2_nothing.2 ex2_nothing.1, hx⟩
theorem kn_may (vv : Value) (w : World) (h : HouseAt w vv (exHouse (17))) : Calls Try.prog 28 #[vv, .int .i64 0] w fun e w' => e = .returned (.tuple #[.int .i64 0, .int .i64 0]) ∧ Ext w w' := by
  refine (agreePub_any vv _ 0 (I64.lit (by decide)) w h).mono ?_
  rintro e w' ⟨rfl, hx⟩
  exact ⟨ret_inE ex2_may.2 ex2_may.1, hx⟩
theorem kn_wrong (vv : Value) (w : World) (h : HouseAt w vv (exHouse (25))) : Calls Try.prog 30 #[vv] w fun e w' => ∃ v, e = .returned (.tuple #[v, .int .i64 0]) ∧ IntsAt w' v [1] ∧ Ext w w' := by
  refine (wrong_any vv _ w h).mono ?_
  rintro e w' ⟨v, rfl, hv, hx⟩
  rw [ex2_wrong.2] at hv
  rw [ex2_wrong.1]
  exact ⟨v, rfl, hv, hx⟩
theorem kn_paid (vv : Value) (w : World) (h : HouseAt w vv (exHouse (-1))) : Calls Try.prog 26 #[vv, .int .i64 0] w fun e w' => e = .returned (.tuple #[.agg #[.int .i64 30, .int .i64 30], .int .i64 0]) ∧ Ext w w' := by
  refine (paidPub_any vv _ 0 (I64.lit (by decide)) w h).mono ?_
  rintro e w' ⟨rfl, hx⟩
  exact ⟨ret_spE ex2_paid.2 ex2_paid.1, hx⟩
theorem kn_send (vv : Value) (w : World) (h : HouseAt w vv (exHouse (-1))) : Calls Try.prog 32 #[vv, .int .i64 1, .int .i64 15] w fun e w' => e = .returned (.tuple #[.int .i64 0, .int .i64 16, .int .i64 0]) ∧ Ext w w' := by
  refine (sendPub_any vv _ 1 15 (I64.lit (by decide)) (I64.lit (by decide)) w h).mono ?_
  rintro e w' ⟨sa, sn, se, rfl, hs, hx⟩
  obtain ⟨rfl, rfl, rfl⟩ := ex2_send hs
  exact ⟨rfl, hx⟩
set_option maxHeartbeats 20000000 in
theorem known8_any (w : World) : Calls Try.prog 7 #[] w fun e w' => e = .returned (.bool true) ∧ Ext w w' := by
  have hsp := eqlE_span
  go_enter Try.func7, Try.ntmps7
  go_wp2_with fail
  refine (lawHouse_any (-1) (by decide) _).mono ?_
  rintro e w1 ⟨vh, rfl, hH, hx1⟩
  go_wp2_with fail
  refine (lawHouse_any 17 (by decide) _).mono ?_
  rintro e w2 ⟨vj, rfl, hJ, hx2⟩
  go_wp2_with fail
  refine (lawHouse_any 25 (by decide) _).mono ?_
  rintro e w3 ⟨vv, rfl, hV, hx3⟩
  replace hJ := hJ.ext hx3
  replace hH := hH.ext (hx2.trans hx3)
  have x1 : Ext w w3 := (hx1.trans hx2).trans hx3
  clear hx1 hx2 hx3
  obtain ⟨a1, ra1, n1, rc1, s1, aa1, m1, ac1, ea1, k1, ec1, rfl⟩ := hH.form5
  obtain ⟨a2, ra2, n2, rc2, s2, aa2, m2, ac2, ea2, k2, ec2, rfl⟩ := hJ.form5
  obtain ⟨a3, ra3, n3, rc3, s3, aa3, m3, ac3, ea3, k3, ec3, rfl⟩ := hV.form5
  go_wp2_with fail
  obtain ⟨W, hW⟩ : ∃ W, W = (((w3.alloc (.cells #[.int .i64 a1, .slice ra1 n1 rc1, .int .i64 s1, .slice aa1 m1 ac1, .slice ea1 k1 ec1] 26)).alloc (.cells #[.int .i64 a2, .slice ra2 n2 rc2, .int .i64 s2, .slice aa2 m2 ac2, .slice ea2 k2 ec2] 26)).alloc (.cells #[.int .i64 a3, .slice ra3 n3 rc3, .int .i64 s3, .slice aa3 m3 ac3, .slice ea3 k3 ec3] 26)) := ⟨_, rfl⟩
  have xW : Ext w3 W := by rw [hW]; exact ((ext_alloc _ _).alloc _).alloc _
  have p0 : W.cell? ⟨w3.heap.size, 0, none⟩ = some (.int .i64 a1) := by rw [hW]; simp [go_sem]
  have p1 : W.cell? ⟨w3.heap.size, 1, none⟩ = some (.slice ra1 n1 rc1) := by rw [hW]; simp [go_sem]
  have p2 : W.cell? ⟨w3.heap.size, 2, none⟩ = some (.int .i64 s1) := by rw [hW]; simp [go_sem]
  have p3 : W.cell? ⟨w3.heap.size, 3, none⟩ = some (.slice aa1 m1 ac1) := by rw [hW]; simp [go_sem]
  have p4 : W.cell? ⟨w3.heap.size, 4, none⟩ = some (.slice ea1 k1 ec1) := by rw [hW]; simp [go_sem]
  have q0 : W.cell? ⟨w3.heap.size + 1, 0, none⟩ = some (.int .i64 a2) := by rw [hW]; simp [go_sem]
  have q1 : W.cell? ⟨w3.heap.size + 1, 1, none⟩ = some (.slice ra2 n2 rc2) := by rw [hW]; simp [go_sem]
  have q2 : W.cell? ⟨w3.heap.size + 1, 2, none⟩ = some (.int .i64 s2) := by rw [hW]; simp [go_sem]
  have q3 : W.cell? ⟨w3.heap.size + 1, 3, none⟩ = some (.slice aa2 m2 ac2) := by rw [hW]; simp [go_sem]
  have q4 : W.cell? ⟨w3.heap.size + 1, 4, none⟩ = some (.slice ea2 k2 ec2) := by rw [hW]; simp [go_sem]
  have r0 : W.cell? ⟨w3.heap.size + 1 + 1, 0, none⟩ = some (.int .i64 a3) := by rw [hW]; simp [go_sem]
  have r1 : W.cell? ⟨w3.heap.size + 1 + 1, 1, none⟩ = some (.slice ra3 n3 rc3) := by rw [hW]; simp [go_sem]
  have r2 : W.cell? ⟨w3.heap.size + 1 + 1, 2, none⟩ = some (.int .i64 s3) := by rw [hW]; simp [go_sem]
  have r3 : W.cell? ⟨w3.heap.size + 1 + 1, 3, none⟩ = some (.slice aa3 m3 ac3) := by rw [hW]; simp [go_sem]
  have r4 : W.cell? ⟨w3.heap.size + 1 + 1, 4, none⟩ = some (.slice ea3 k3 ec3) := by rw [hW]; simp [go_sem]
  rw [← hW]
  clear hW
  replace hH := hH.ext xW
  replace hJ := hJ.ext xW
  replace hV := hV.ext xW
  replace x1 := x1.trans xW
  clear xW
  obtain ⟨b1, hb1⟩ : ∃ b, b = w3.heap.size := ⟨_, rfl⟩
  obtain ⟨b2, hb2⟩ : ∃ b, b = b1 + 1 := ⟨_, rfl⟩
  obtain ⟨b3, hb3⟩ : ∃ b, b = b2 + 1 := ⟨_, rfl⟩
  simp only [← hb1, ← hb2, ← hb3] at p0 p1 p2 p3 p4 q0 q1 q2 q3 q4 r0 r1 r2 r3 r4 ⊢
  clear hb1 hb2 hb3
  have zp : b1 < W.heap.size := cell_lt p0
  have zq : b2 < W.heap.size := cell_lt q0
  have zr : b3 < W.heap.size := cell_lt r0
  refine (kn_first _ _ hJ).mono ?_
  rintro e w4 ⟨u1, rfl, hu1, hx⟩
  replace hH := hH.ext hx
  replace hJ := hJ.ext hx
  replace hV := hV.ext hx
  replace p0 := hx.cell p0
  replace p1 := hx.cell p1
  replace p2 := hx.cell p2
  replace p3 := hx.cell p3
  replace p4 := hx.cell p4
  replace q0 := hx.cell q0
  replace q1 := hx.cell q1
  replace q2 := hx.cell q2
  replace q3 := hx.cell q3
  replace q4 := hx.cell q4
  replace r0 := hx.cell r0
  replace r1 := hx.cell r1
  replace r2 := hx.cell r2
  replace r3 := hx.cell r3
  replace r4 := hx.cell r4
  replace zp : b1 < w4.heap.size := cell_lt p0
  replace zq : b2 < w4.heap.size := cell_lt q0
  replace zr : b3 < w4.heap.size := cell_lt r0
  replace x1 := x1.trans hx
  clear hx
  obtain ⟨u1a, u1c, rfl, -⟩ := hu1.shape
  go_wp2_with fail
  refine (kn_rate _ _ hH).mono ?_
  rintro e w5 ⟨rfl, hx⟩
  replace hH := hH.ext hx
  replace hJ := hJ.ext hx
  replace hV := hV.ext hx
  replace hu1 := hu1.ext hx
  replace p0 := hx.cell p0
  replace p1 := hx.cell p1
  replace p2 := hx.cell p2
  replace p3 := hx.cell p3
  replace p4 := hx.cell p4
  replace q0 := hx.cell q0
  replace q1 := hx.cell q1
  replace q2 := hx.cell q2
  replace q3 := hx.cell q3
  replace q4 := hx.cell q4
  replace r0 := hx.cell r0
  replace r1 := hx.cell r1
  replace r2 := hx.cell r2
  replace r3 := hx.cell r3
  replace r4 := hx.cell r4
  replace zp : b1 < w5.heap.size := cell_lt p0
  replace zq : b2 < w5.heap.size := cell_lt q0
  replace zr : b3 < w5.heap.size := cell_lt r0
  replace x1 := x1.trans hx
  clear hx
  go_wp2_with fail
  refine (kn_cadiz _ _ (hH.ext (ext_alloc _ _))).mono ?_
  rintro e w6 ⟨rfl, hx'⟩
  have hx := hx'.of_alloc
  have d0 : w6.cell? ⟨w5.heap.size, 0, none⟩ = some (.int .i64 12) := hx'.cell (by simp [go_sem])
  have d1 : w6.cell? ⟨w5.heap.size, 1, none⟩ = some (.int .i64 12) := hx'.cell (by simp [go_sem])
  clear hx'
  replace hH := hH.ext hx
  replace hJ := hJ.ext hx
  replace hV := hV.ext hx
  replace hu1 := hu1.ext hx
  replace p0 := hx.cell p0
  replace p1 := hx.cell p1
  replace p2 := hx.cell p2
  replace p3 := hx.cell p3
  replace p4 := hx.cell p4
  replace q0 := hx.cell q0
  replace q1 := hx.cell q1
  replace q2 := hx.cell q2
  replace q3 := hx.cell q3
  replace q4 := hx.cell q4
  replace r0 := hx.cell r0
  replace r1 := hx.cell r1
  replace r2 := hx.cell r2
  replace r3 := hx.cell r3
  replace r4 := hx.cell r4
  replace zp : b1 < w6.heap.size := cell_lt p0
  replace zq : b2 < w6.heap.size := cell_lt q0
  replace zr : b3 < w6.heap.size := cell_lt r0
  replace x1 := x1.trans hx
  obtain ⟨db, hdb⟩ : ∃ b, b = w5.heap.size := ⟨_, rfl⟩
  rw [← hdb] at d0 d1 ⊢
  clear hdb
  have zd : db < w6.heap.size := cell_lt d0
  clear hx
  go_wp2_with fail
  refine (kn_nothing _ _ (hH.ext (ext_alloc _ _))).mono ?_
  rintro e w7 ⟨rfl, hx'⟩
  have hx := hx'.of_alloc
  have g0 : w7.cell? ⟨w6.heap.size, 0, none⟩ = some (.int .i64 15) := hx'.cell (by simp [go_sem])
  have g1 : w7.cell? ⟨w6.heap.size, 1, none⟩ = some (.int .i64 21) := hx'.cell (by simp [go_sem])
  clear hx'
  replace hH := hH.ext hx
  replace hJ := hJ.ext hx
  replace hV := hV.ext hx
  replace hu1 := hu1.ext hx
  replace p0 := hx.cell p0
  replace p1 := hx.cell p1
  replace p2 := hx.cell p2
  replace p3 := hx.cell p3
  replace p4 := hx.cell p4
  replace q0 := hx.cell q0
  replace q1 := hx.cell q1
  replace q2 := hx.cell q2
  replace q3 := hx.cell q3
  replace q4 := hx.cell q4
  replace r0 := hx.cell r0
  replace r1 := hx.cell r1
  replace r2 := hx.cell r2
  replace r3 := hx.cell r3
  replace r4 := hx.cell r4
  replace d0 := hx.cell d0
  replace d1 := hx.cell d1
  replace zp : b1 < w7.heap.size := cell_lt p0
  replace zq : b2 < w7.heap.size := cell_lt q0
  replace zr : b3 < w7.heap.size := cell_lt r0
  replace zd : db < w7.heap.size := cell_lt d0
  replace x1 := x1.trans hx
  obtain ⟨gb, hgb⟩ : ∃ b, b = w6.heap.size := ⟨_, rfl⟩
  rw [← hgb] at g0 g1 ⊢
  clear hgb
  have zg : gb < w7.heap.size := cell_lt g0
  clear hx
  go_wp2_with fail
  refine (kn_may _ _ (hJ.ext (ext_alloc _ _))).mono ?_
  rintro e w8 ⟨rfl, hx'⟩
  have hx := hx'.of_alloc
  have t0 : w8.cell? ⟨w7.heap.size, 0, none⟩ = some (.int .i64 0) := hx'.cell (by simp [go_sem])
  have t1 : w8.cell? ⟨w7.heap.size, 1, none⟩ = some (.int .i64 0) := hx'.cell (by simp [go_sem])
  clear hx'
  replace hH := hH.ext hx
  replace hJ := hJ.ext hx
  replace hV := hV.ext hx
  replace hu1 := hu1.ext hx
  replace p0 := hx.cell p0
  replace p1 := hx.cell p1
  replace p2 := hx.cell p2
  replace p3 := hx.cell p3
  replace p4 := hx.cell p4
  replace q0 := hx.cell q0
  replace q1 := hx.cell q1
  replace q2 := hx.cell q2
  replace q3 := hx.cell q3
  replace q4 := hx.cell q4
  replace r0 := hx.cell r0
  replace r1 := hx.cell r1
  replace r2 := hx.cell r2
  replace r3 := hx.cell r3
  replace r4 := hx.cell r4
  replace d0 := hx.cell d0
  replace d1 := hx.cell d1
  replace g0 := hx.cell g0
  replace g1 := hx.cell g1
  replace zp : b1 < w8.heap.size := cell_lt p0
  replace zq : b2 < w8.heap.size := cell_lt q0
  replace zr : b3 < w8.heap.size := cell_lt r0
  replace zd : db < w8.heap.size := cell_lt d0
  replace zg : gb < w8.heap.size := cell_lt g0
  replace x1 := x1.trans hx
  obtain ⟨tb, htb⟩ : ∃ b, b = w7.heap.size := ⟨_, rfl⟩
  rw [← htb] at t0 t1 ⊢
  clear htb
  have zt : tb < w8.heap.size := cell_lt t0
  clear hx
  go_wp2_with fail
  refine (kn_wrong _ _ hV).mono ?_
  rintro e w9 ⟨u2, rfl, hu2, hx⟩
  replace hH := hH.ext hx
  replace hJ := hJ.ext hx
  replace hV := hV.ext hx
  replace hu1 := hu1.ext hx
  replace p0 := hx.cell p0
  replace p1 := hx.cell p1
  replace p2 := hx.cell p2
  replace p3 := hx.cell p3
  replace p4 := hx.cell p4
  replace q0 := hx.cell q0
  replace q1 := hx.cell q1
  replace q2 := hx.cell q2
  replace q3 := hx.cell q3
  replace q4 := hx.cell q4
  replace r0 := hx.cell r0
  replace r1 := hx.cell r1
  replace r2 := hx.cell r2
  replace r3 := hx.cell r3
  replace r4 := hx.cell r4
  replace d0 := hx.cell d0
  replace d1 := hx.cell d1
  replace g0 := hx.cell g0
  replace g1 := hx.cell g1
  replace t0 := hx.cell t0
  replace t1 := hx.cell t1
  replace zp : b1 < w9.heap.size := cell_lt p0
  replace zq : b2 < w9.heap.size := cell_lt q0
  replace zr : b3 < w9.heap.size := cell_lt r0
  replace zd : db < w9.heap.size := cell_lt d0
  replace zg : gb < w9.heap.size := cell_lt g0
  replace zt : tb < w9.heap.size := cell_lt t0
  replace x1 := x1.trans hx
  clear hx
  obtain ⟨u2a, u2c, rfl, -⟩ := hu2.shape
  go_wp2_with fail
  refine (kn_paid _ _ hH).mono ?_
  rintro e w10 ⟨rfl, hx⟩
  replace hH := hH.ext hx
  replace hJ := hJ.ext hx
  replace hV := hV.ext hx
  replace hu1 := hu1.ext hx
  replace hu2 := hu2.ext hx
  replace p0 := hx.cell p0
  replace p1 := hx.cell p1
  replace p2 := hx.cell p2
  replace p3 := hx.cell p3
  replace p4 := hx.cell p4
  replace q0 := hx.cell q0
  replace q1 := hx.cell q1
  replace q2 := hx.cell q2
  replace q3 := hx.cell q3
  replace q4 := hx.cell q4
  replace r0 := hx.cell r0
  replace r1 := hx.cell r1
  replace r2 := hx.cell r2
  replace r3 := hx.cell r3
  replace r4 := hx.cell r4
  replace d0 := hx.cell d0
  replace d1 := hx.cell d1
  replace g0 := hx.cell g0
  replace g1 := hx.cell g1
  replace t0 := hx.cell t0
  replace t1 := hx.cell t1
  replace zp : b1 < w10.heap.size := cell_lt p0
  replace zq : b2 < w10.heap.size := cell_lt q0
  replace zr : b3 < w10.heap.size := cell_lt r0
  replace zd : db < w10.heap.size := cell_lt d0
  replace zg : gb < w10.heap.size := cell_lt g0
  replace zt : tb < w10.heap.size := cell_lt t0
  replace x1 := x1.trans hx
  clear hx
  go_wp2_with fail
  refine (kn_send _ _ (hH.ext (ext_alloc _ _))).mono ?_
  rintro e w11 ⟨rfl, hx'⟩
  have hx := hx'.of_alloc
  have y0 : w11.cell? ⟨w10.heap.size, 0, none⟩ = some (.int .i64 30) := hx'.cell (by simp [go_sem])
  have y1 : w11.cell? ⟨w10.heap.size, 1, none⟩ = some (.int .i64 30) := hx'.cell (by simp [go_sem])
  clear hx'
  replace hH := hH.ext hx
  replace hJ := hJ.ext hx
  replace hV := hV.ext hx
  replace hu1 := hu1.ext hx
  replace hu2 := hu2.ext hx
  replace p0 := hx.cell p0
  replace p1 := hx.cell p1
  replace p2 := hx.cell p2
  replace p3 := hx.cell p3
  replace p4 := hx.cell p4
  replace q0 := hx.cell q0
  replace q1 := hx.cell q1
  replace q2 := hx.cell q2
  replace q3 := hx.cell q3
  replace q4 := hx.cell q4
  replace r0 := hx.cell r0
  replace r1 := hx.cell r1
  replace r2 := hx.cell r2
  replace r3 := hx.cell r3
  replace r4 := hx.cell r4
  replace d0 := hx.cell d0
  replace d1 := hx.cell d1
  replace g0 := hx.cell g0
  replace g1 := hx.cell g1
  replace t0 := hx.cell t0
  replace t1 := hx.cell t1
  replace zp : b1 < w11.heap.size := cell_lt p0
  replace zq : b2 < w11.heap.size := cell_lt q0
  replace zr : b3 < w11.heap.size := cell_lt r0
  replace zd : db < w11.heap.size := cell_lt d0
  replace zg : gb < w11.heap.size := cell_lt g0
  replace zt : tb < w11.heap.size := cell_lt t0
  replace x1 := x1.trans hx
  obtain ⟨yb, hyb⟩ : ∃ b, b = w10.heap.size := ⟨_, rfl⟩
  rw [← hyb] at y0 y1 ⊢
  clear hyb
  have zy : yb < w11.heap.size := cell_lt y0
  clear hx
  go_wp2_with fail
  clear hH hJ hV p0 p1 p2 p3 p4 q0 q1 q2 q3 q4 r0 r1 r2 r3 r4 zp zq zr
  apply Facts.wp_frame
  intro A hA
  have f4 : ∀ h, A.tmps[4]'h = .slice u1a 2 u1c := by rw [hA]; exact fun _ => rfl
  have f5 : ∀ h, A.tmps[5]'h = .int .i64 1 := by rw [hA]; exact fun _ => rfl
  have f6 : ∀ h, A.tmps[6]'h = .int .i64 0 := by rw [hA]; exact fun _ => rfl
  have f7 : ∀ h, A.tmps[7]'h = .pointer (some ⟨db, 0, none⟩) := by rw [hA]; exact fun _ => rfl
  have f8 : ∀ h, A.tmps[8]'h = .int .i64 0 := by rw [hA]; exact fun _ => rfl
  have f9 : ∀ h, A.tmps[9]'h = .pointer (some ⟨gb, 0, none⟩) := by rw [hA]; exact fun _ => rfl
  have f10 : ∀ h, A.tmps[10]'h = .int .i64 0 := by rw [hA]; exact fun _ => rfl
  have f11 : ∀ h, A.tmps[11]'h = .pointer (some ⟨tb, 0, none⟩) := by rw [hA]; exact fun _ => rfl
  have f12 : ∀ h, A.tmps[12]'h = .int .i64 0 := by rw [hA]; exact fun _ => rfl
  have f13 : ∀ h, A.tmps[13]'h = .int .i64 0 := by rw [hA]; exact fun _ => rfl
  have f14 : ∀ h, A.tmps[14]'h = .int .i64 0 := by rw [hA]; exact fun _ => rfl
  have f15 : ∀ h, A.tmps[15]'h = .slice u2a 1 u2c := by rw [hA]; exact fun _ => rfl
  have f16 : ∀ h, A.tmps[16]'h = .int .i64 0 := by rw [hA]; exact fun _ => rfl
  have f17 : ∀ h, A.tmps[17]'h = .pointer (some ⟨yb, 0, none⟩) := by rw [hA]; exact fun _ => rfl
  have f18 : ∀ h, A.tmps[18]'h = .int .i64 0 := by rw [hA]; exact fun _ => rfl
  have f19 : ∀ h, A.tmps[19]'h = .int .i64 0 := by rw [hA]; exact fun _ => rfl
  have f20 : ∀ h, A.tmps[20]'h = .int .i64 16 := by rw [hA]; exact fun _ => rfl
  have f21 : ∀ h, A.tmps[21]'h = .int .i64 0 := by rw [hA]; exact fun _ => rfl
  have fsz : A.tmps.size = 146 := by rw [hA]; rfl
  have HA := Lib.hid hA
  clear hA hsp
  have hu1 : IntsAt w11 (.slice u1a 2 u1c) [12, 11] := hu1
  have hu2 : IntsAt w11 (.slice u2a 1 u2c) [1] := hu2
  apply Facts.wp_region (.val _ :: .val _ :: .val _ :: .val _ :: .val _ :: .val _ :: .val _ :: .val _ :: .val _ :: .val _ :: .val _ :: .val _ :: .val _ :: .val _ :: .val _ :: .val _ :: .val _ :: .val _ :: .val _ :: .val _ :: .val _ :: .val _ :: .val _ :: .val _ :: .val _ :: .val _ :: .val _ :: .val _ :: .val _ :: .val _ :: .val _ :: .val _ :: .fact (fun u w => IntsAt w u [12, 11]) :: .val _ :: .val _ :: .val _ :: .val _ :: .val _ :: .val _ :: .val _ :: .val _ :: .val _ :: .val _ :: .val _ :: .val _ :: .val _ :: .val _ :: .val _ :: .val _ :: .val _ :: .val _ :: .val _ :: .val _ :: .val _ :: .val _ :: .val _ :: .val _ :: .val _ :: .val _ :: .val _ :: .fact (fun u w => IntsAt w u [1]) :: .val _ :: .val _ :: .val _ :: .val _ :: .val _ :: .val _ :: .val _ :: .val _ :: .val _ :: .val _ :: .val _ :: .val _ :: .val _ :: .val _ :: .val _ :: .val _ :: .val _ :: .val _ :: .val _ :: []) (by kernel_rfl) (by kernel_rfl) ⟨fun u a c hx h => IntsAt.ext h hx, fun u a c hx h => IntsAt.ext h hx, trivial⟩ ?main
  case main =>
    iterate 32 (refine ⟨fun w1 hx hh => ?_, ?_⟩; focus (clear hh; skip; go_simp; first | exact ⟨Ext.refl _, rfl⟩ | exact Ext.refl _))
    refine ⟨fun w1 hx hh => ?_, ?_⟩
    · clear hh
      go_simp
      exact ⟨ext_alloc _ _, IntsAt.twoA (m := 11) (n := 12) rfl (I64.lit (by decide)) (I64.lit (by decide))⟩
    intro u32
    refine ⟨fun w1 hx hh => ?_, ?_⟩
    · have h1 : IntsAt w1 u32 [12, 11] := hh 32 _ List.mem_cons_self (by kernel_rfl)
      clear hh
      go_simp
      refine (ints_any _ _ [12, 11] [12, 11] _ (hu1.ext hx) h1).mono ?_
      rintro e w' ⟨rfl, hx2⟩
      exact ⟨_, rfl, hx2, rfl⟩
    iterate 6 (refine ⟨fun w1 hx hh => ?_, ?_⟩; focus (clear hh; skip; go_simp; first | exact ⟨Ext.refl _, rfl⟩ | exact Ext.refl _))
    iterate 1 (refine ⟨fun w1 hx hh => ?_, ?_⟩; focus (clear hh; have e0 := hx.cell d0; have e1 := hx.cell d1; go_simp; first | exact ⟨Ext.refl _, rfl⟩ | exact Ext.refl _))
    refine ⟨fun w1 hx hh => ?_, ?_⟩
    · clear hh
      go_simp
      refine (lawSpan_any 12 12 _).mono ?_
      rintro e w' ⟨rfl, hx2⟩
      exact ⟨_, rfl, hx2, rfl⟩
    iterate 1 (refine ⟨fun w1 hx hh => ?_, ?_⟩; focus (clear hh; have e0 := equalInE_span; go_simp; first | exact ⟨Ext.refl _, rfl⟩ | exact Ext.refl _))
    iterate 2 (refine ⟨fun w1 hx hh => ?_, ?_⟩; focus (clear hh; skip; go_simp; first | exact ⟨Ext.refl _, rfl⟩ | exact Ext.refl _))
    iterate 1 (refine ⟨fun w1 hx hh => ?_, ?_⟩; focus (clear hh; have e0 := hx.cell g0; have e1 := hx.cell g1; go_simp; first | exact ⟨Ext.refl _, rfl⟩ | exact Ext.refl _))
    refine ⟨fun w1 hx hh => ?_, ?_⟩
    · clear hh
      go_simp
      refine (lawSpan_any 15 21 _).mono ?_
      rintro e w' ⟨rfl, hx2⟩
      exact ⟨_, rfl, hx2, rfl⟩
    iterate 1 (refine ⟨fun w1 hx hh => ?_, ?_⟩; focus (clear hh; have e0 := equalInE_span; go_simp; first | exact ⟨Ext.refl _, rfl⟩ | exact Ext.refl _))
    iterate 2 (refine ⟨fun w1 hx hh => ?_, ?_⟩; focus (clear hh; skip; go_simp; first | exact ⟨Ext.refl _, rfl⟩ | exact Ext.refl _))
    iterate 1 (refine ⟨fun w1 hx hh => ?_, ?_⟩; focus (clear hh; have e0 := hx.cell t0; have e1 := hx.cell t1; go_simp; first | exact ⟨Ext.refl _, rfl⟩ | exact Ext.refl _))
    refine ⟨fun w1 hx hh => ?_, ?_⟩
    · clear hh
      go_simp
      refine (lawSpan_any 0 0 _).mono ?_
      rintro e w' ⟨rfl, hx2⟩
      exact ⟨_, rfl, hx2, rfl⟩
    iterate 1 (refine ⟨fun w1 hx hh => ?_, ?_⟩; focus (clear hh; have e0 := equalInE_span; go_simp; first | exact ⟨Ext.refl _, rfl⟩ | exact Ext.refl _))
    iterate 7 (refine ⟨fun w1 hx hh => ?_, ?_⟩; focus (clear hh; skip; go_simp; first | exact ⟨Ext.refl _, rfl⟩ | exact Ext.refl _))
    refine ⟨fun w1 hx hh => ?_, ?_⟩
    · clear hh
      go_simp
      exact ⟨ext_alloc _ _, IntsAt.oneAt (n := 1) rfl (I64.lit (by decide))⟩
    intro u60
    refine ⟨fun w1 hx hh => ?_, ?_⟩
    · have h1 : IntsAt w1 u60 [1] := hh 60 _ List.mem_cons_self (by kernel_rfl)
      clear hh
      go_simp
      refine (ints_any _ _ [1] [1] _ (hu2.ext hx) h1).mono ?_
      rintro e w' ⟨rfl, hx2⟩
      exact ⟨_, rfl, hx2, rfl⟩
    iterate 2 (refine ⟨fun w1 hx hh => ?_, ?_⟩; focus (clear hh; skip; go_simp; first | exact ⟨Ext.refl _, rfl⟩ | exact Ext.refl _))
    iterate 1 (refine ⟨fun w1 hx hh => ?_, ?_⟩; focus (clear hh; have e0 := hx.cell y0; have e1 := hx.cell y1; go_simp; first | exact ⟨Ext.refl _, rfl⟩ | exact Ext.refl _))
    refine ⟨fun w1 hx hh => ?_, ?_⟩
    · clear hh
      go_simp
      refine (lawSpan_any 30 30 _).mono ?_
      rintro e w' ⟨rfl, hx2⟩
      exact ⟨_, rfl, hx2, rfl⟩
    iterate 1 (refine ⟨fun w1 hx hh => ?_, ?_⟩; focus (clear hh; have e0 := equalInE_span; go_simp; first | exact ⟨Ext.refl _, rfl⟩ | exact Ext.refl _))
    iterate 10 (refine ⟨fun w1 hx hh => ?_, ?_⟩; focus (clear hh; skip; go_simp; first | exact ⟨Ext.refl _, rfl⟩ | exact Ext.refl _))
    refine ⟨fun w1 hx hh => ?_, ?_⟩
    · clear hh
      go_simp
      refine (awakeR_any _).mono ?_
      rintro e w' ⟨rfl, hx2⟩
      exact ⟨_, rfl, hx2, rfl⟩
    iterate 2 (refine ⟨fun w1 hx hh => ?_, ?_⟩; focus (clear hh; skip; go_simp; first | exact ⟨Ext.refl _, rfl⟩ | exact Ext.refl _))
    intro wz hx hh
    clear hh
    have hA := HA.out
    subst hA
    replace x1 := x1.trans hx
    go_simp
    go_wp2
    go_ret
    exact ⟨rfl, x1⟩
end Go.Proofs.Ytdadffmagfknoaa

namespace Go.Proofs.Ytdadffmagfknoaa
set_option linter.unusedSimpArgs false
set_option linter.unusedVariables false
open Go.ChangeShapes Go.WideShapes Go.ChangeAt Go.RowKit
section
variable {H : Type} {enc : TypeId × Value → H} {P : Program}
/-- a call that lets all that was there be, and answers as it should, keeps a law's word -/
theorem post_ext {f : Func} {s : ChangeSpec} {apart fresh handsOn again : Bool} {W W' : World} {args : Array Value} {v : Value} {ds gs : List (DataW H)} {before pa pv : List MemPlace}
    (hW : DataW.Whole enc P f.params.toList s.vars apart W args.toList ds gs before)
    (hres : ∀ (b : Nat) (sp : Nat → Bool) (hd : Bool), DataW.TrodAll enc P W' b sp hd f.resultTypes.toList (v.resultList f.resultTypes.size) (s.fn H (ds ++ gs)).results [])
    (hargs : ∀ sp : Nat → Bool, (∀ p ∈ before, sp p.block = true) → DataW.TrodAll enc P W' 0 sp true f.params.toList args.toList (s.fn H (ds ++ gs)).args pa)
    (hvars : ∀ sp : Nat → Bool, (∀ p ∈ before, sp p.block = true) → DataW.TrodVars enc P W' sp s.vars (s.fn H (ds ++ gs)).vars pv)
    (hps : before = pa ++ pv) (hx : Ext W W')
    (hok : ∀ (j : Nat) (t : TypeId) (r : Value), f.resultTypes[j]? = some t → (v.resultList f.resultTypes.size)[j]? = some r → Value.okWide P W' .any 0 t r) :
    s.post enc P f apart fresh handsOn again W args v W' := by
  have hlt := hW.lt
  have hold : ∀ p ∈ before, (fun b => decide (b < W.heap.size)) p.block = true := fun p hp => decide_eq_true (hlt p hp)
  have hin : ∀ p ∈ before, p ∈ pa ∨ p ∈ pv := fun p hp => List.mem_append.1 (hps ▸ hp)
  refine ⟨ds, gs, before, [], pa, pv, hW, hres _ _ _, hargs _ hold, hvars _ hold, World.keptBut_mono (fun p (hp : p ∈ before) => ⟨hp, .inr (hin p hp)⟩) (Below.frame hx _), fun _ => ⟨hok, ?_⟩⟩
  obtain ⟨_, _, _, _, _, hz, hn⟩ := hW
  refine ⟨_, _, pa ++ pv, ⟨[] ++ pa, pv, trodAll_append (hargs _ (fun _ _ => rfl)) (hres _ _ _), hvars _ (fun _ _ => rfl), by simp, fun b off hp => ?_, fun ha => by rw [← hps]; exact hn ha⟩, fun p hp _ => by rw [hps]; exact hp⟩
  rw [← hps] at hp
  rw [hx.frozen (p := ⟨b, off, none⟩) (hlt _ hp)]
  exact hz b off hp
end
end Go.Proofs.Ytdadffmagfknoaa

namespace Go.Proofs.Ytdadffmagfknoaa
set_option linter.unusedSimpArgs false
set_option linter.unusedVariables false
open Go.RowKit
set_option linter.unusedVariables false

/-- whether a day's rate is no further from that of the day before than a step -/
def stepOk (h : House) (d : Nat) (q : List Int) (x : Int) : Bool := if d = 0 then true else inM (x - q.getD (d - 1) 0) (0 - h.step) h.step
def extTo (h : House) (d : Nat) (q : List Int) (m : Int) : List (List Int) := ((rangeI (spanAt h d).1 (m - 1)).filter (stepOk h d q)).map fun x => q ++ [x]
def rExt (h : House) (d : Nat) (q : List Int) : List (List Int) := (rangeI (loAt h d q) (hiAt h d q)).map fun x => q ++ [x]
theorem rangeI_snoc {a m : Int} (h : a ≤ m) : rangeI a m = rangeI a (m - 1) ++ [m] := by
  unfold rangeI numI
  rw [show (m + 1 - a).toNat = (m - 1 + 1 - a).toNat + 1 from by omega, List.range_succ, List.map_append, List.map_singleton]
  rw [show a + (((m - 1 + 1 - a).toNat : Nat) : Int) = m from by omega]
theorem extTo_first (h : House) (d : Nat) (q : List Int) : extTo h d q (spanAt h d).1 = [] := by
  unfold extTo
  rw [rangeI_nil (by omega)]; rfl
theorem extTo_yes (h : House) (d : Nat) (q : List Int) (m : Int) (hm : (spanAt h d).1 ≤ m) (ho : stepOk h d q m = true) : extTo h d q (m + 1) = extTo h d q m ++ [q ++ [m]] := by
  unfold extTo
  rw [show m + 1 - 1 = m from by omega, rangeI_snoc hm, List.filter_append, List.map_append]
  simp [ho]
theorem extTo_no (h : House) (d : Nat) (q : List Int) (m : Int) (hm : (spanAt h d).1 ≤ m) (ho : stepOk h d q m = false) : extTo h d q (m + 1) = extTo h d q m := by
  unfold extTo
  rw [show m + 1 - 1 = m from by omega, rangeI_snoc hm, List.filter_append, List.map_append]
  simp [ho]
theorem extTo_len (h : House) (d : Nat) (q : List Int) (m : Int) (h1 : 1 ≤ (spanAt h d).1) (hm : m ≤ 21) : (extTo h d q m).length ≤ 20 := by
  unfold extTo
  rw [List.length_map]
  have := List.length_filter_le (stepOk h d q) (rangeI (spanAt h d).1 (m - 1))
  rw [rangeI_len] at this
  unfold numI at this
  omega
theorem extTo_all (h : House) (d : Nat) (q : List Int) : extTo h d q ((spanAt h d).2 + 1) = rExt h d q := by
  unfold extTo rExt
  rw [show (spanAt h d).2 + 1 - 1 = (spanAt h d).2 from by omega]
  congr 1
  by_cases hd : d = 0
  · have e : stepOk h d q = fun _ => true := by funext x; unfold stepOk; rw [if_pos hd]
    rw [e]
    unfold loAt hiAt
    rw [if_pos hd, if_pos hd]
    simp
  · have e : stepOk h d q = fun x => decide (q.getD (d - 1) 0 - h.step ≤ x) && decide (x ≤ q.getD (d - 1) 0 + h.step) := by
      funext x
      unfold stepOk
      rw [if_neg hd, Bool.eq_iff_iff, inM_iff]
      simp only [Bool.and_eq_true, decide_eq_true_eq]
      omega
    rw [e, filter_rangeI _ _ _ _ _ rfl]
    unfold loAt hiAt
    rw [if_neg hd, if_neg hd]
theorem levels_is (h : House) (d : Nat) : levelsR h d = ratesTo h d 0 [] := by
  have := levels_to h d 0
  rw [Nat.zero_add] at this
  rw [this]; simp [levelsR]
theorem levels_succ (h : House) (d : Nat) : levelsR h (d + 1) = (levelsR h d).flatMap (rExt h d) := rfl
theorem levels_len {h : House} (hv : ValidH h) {d : Nat} (hd : d ≤ h.days.toNat) : (levelsR h d).length ≤ 8000 := by
  rw [levels_is]
  have h1 := ratesTo_len hv d 0 [] (by omega)
  have h2 : 20 ^ d ≤ 20 ^ 3 := Nat.pow_le_pow_right (by omega) (by have := hv.days; omega)
  exact Nat.le_trans h1 (Nat.le_trans h2 (by decide))
theorem levels_mem {h : House} (hv : ValidH h) {d : Nat} (hd : d ≤ h.days.toNat) : ∀ q ∈ levelsR h d, q.length = d ∧ ∀ x ∈ q, 1 ≤ x ∧ x ≤ 20 := by
  intro q hq
  rw [levels_is] at hq
  obtain ⟨t, e, ht⟩ := ratesTo_ext h _ _ _ q hq
  rw [List.nil_append] at e
  subst e
  refine ⟨ht, fun x hx => ?_⟩
  obtain ⟨i, hi, rfl⟩ := List.getElem_of_mem hx
  have h1 := ratesTo_in h _ 0 [] rfl q hq i (by omega) (by omega)
  have h2 := hv.span (d := i) (by have := hv.many; have := hv.days; omega)
  rw [List.getD_eq_getElem?_getD, List.getElem?_eq_getElem hi] at h1
  simp only [Option.getD_some] at h1
  omega
theorem rExt_len {h : House} (hv : ValidH h) {d : Nat} (hd : d < h.days.toNat) (q : List Int) : (rExt h d q).length ≤ 20 := by
  rw [← extTo_all]
  have h2 := hv.span (d := d) (by have := hv.many; have := hv.days; omega)
  exact extTo_len h d q _ h2.1 (by omega)
theorem rExt_flat {h : House} (hv : ValidH h) {d : Nat} (hd : d < h.days.toNat) (LL : List (List Int)) : (LL.flatMap (rExt h d)).length ≤ LL.length * 20 :=
  rflatMap_len _ 20 LL fun x _ => rExt_len hv hd x
theorem rExt_next (h : House) (d : Nat) (LL : List (List Int)) (q : Nat) (hq : q < LL.length) : (LL.take (q + 1)).flatMap (rExt h d) = (LL.take q).flatMap (rExt h d) ++ rExt h d LL[q] := by
  rw [List.take_succ_eq_append_getElem hq, List.flatMap_append]
  simp
end Go.Proofs.Ytdadffmagfknoaa

namespace Go.Proofs.Ytdadffmagfknoaa
set_option linter.unusedSimpArgs false
set_option linter.unusedVariables false
open Go.RowKit
set_option linter.unusedVariables false

/-- a list of lists -/
def listRI (w : World) (b o : Nat) (l : List Int) : Prop := ∃ s, w.cell? ⟨b, o, none⟩ = some s ∧ IntsAt w s l
theorem listRI.keeps : Keeps listRI := fun _ _ _ _ _ hx ⟨s, h1, h2⟩ => ⟨s, hx.cell h1, h2.ext hx⟩
abbrev ListsAtI : World → Value → List (List Int) → Prop := SliceAt 1 listRI
theorem ListsAtI.ext {w w' : World} {v : Value} {l : List (List Int)} (h : ListsAtI w v l) (hx : Ext w w') : ListsAtI w' v l := SliceAt.ext listRI.keeps h hx
theorem IntsAt.nothingI (w : World) : IntsAt w (.slice none 0 0) [] := ⟨none, 0, rfl, Nat.le_refl _, by decide, fun i hi => absurd hi (Nat.not_lt_zero _)⟩
theorem IntsAt.grownByI {w w' : World} {row : Option Nat} {sa : Option Addr} {n sc : Nat} {l : List Int} (h : IntsAt w (.slice sa n sc) l) (hg : w.grownBy w' row) (hne : ∀ ad, sa = some ad → some ad.block ≠ row) : IntsAt w' (.slice sa n sc) l := by
  obtain ⟨a, cap, e, h2, h3, h4⟩ := h
  obtain ⟨rfl, rfl, rfl⟩ := Value.slice.inj e
  refine ⟨_, _, rfl, h2, h3, fun i hi => ?_⟩
  obtain ⟨b, o, rfl, r⟩ := h4 i hi
  exact ⟨b, o, rfl, hg.cell r.1 (show some b ≠ row from hne ⟨b, o, none⟩ rfl), r.2⟩
/-- one element: a slice with these numbers, not in the row's own block -/
def ElemAtI (w : World) (own : Option Nat) (x : Value) (L : List Int) : Prop := ∃ sa sc, x = .slice sa L.length sc ∧ IntsAt w (.slice sa L.length sc) L ∧ ∀ ad, sa = some ad → ad.block < w.heap.size ∧ some ad.block ≠ own
/-- a row of lists of one's own -/
def ListsOwnI (w : World) (base : Nat) (v : Value) (LL : List (List Int)) : Prop :=
  ∃ vs : List Value, w.ownsRow base 30 1 v LL.length vs ∧ ∀ (i : Nat) (x : Value) (L : List Int), vs[i]? = some x → LL[i]? = some L → ElemAtI w v.ownBlock x L
theorem ListsOwnI.nil (w : World) (base : Nat) : ListsOwnI w base (.slice none 0 0) [] := ⟨[], World.ownsRow_nil _ _ _ _, fun i x L h => by simp at h⟩
theorem ListsOwnI.ext {w w' : World} {base : Nat} {v : Value} {LL : List (List Int)} (h : ListsOwnI w base v LL) (hx : Ext w w') : ListsOwnI w' base v LL := by
  obtain ⟨vs, h1, h2⟩ := h
  refine ⟨vs, Ext.owns h1 hx, fun i x L hi hL => ?_⟩
  obtain ⟨sa, sc, rfl, h3, h4⟩ := h2 i x L hi hL
  exact ⟨sa, sc, rfl, h3.ext hx, fun ad e => ⟨Nat.lt_of_lt_of_le (h4 ad e).1 hx.size, (h4 ad e).2⟩⟩
theorem ListsOwnI.at_ {w : World} {base : Nat} {v : Value} {LL : List (List Int)} (h : ListsOwnI w base v LL) : ListsAtI w v LL := by
  obtain ⟨vs, h1, h2⟩ := h
  have hlen : vs.length = LL.length := by have := h1.1; omega
  have hcells := fun g hg => h1.cells (g := g) hg
  rcases h1.2 with ⟨rfl, hn⟩ | ⟨g, cap, cur, rfl, hb, hg, hnc, hcm, hcs, htake⟩
  · have : LL = [] := List.eq_nil_of_length_eq_zero hn
    subst this; exact SliceAt.nil
  · refine ⟨_, _, rfl, hnc, by simpa [maxLen] using hcm, fun i hi => ⟨g, 0, rfl, ?_⟩⟩
    have hv : vs[i]? = some vs[i] := List.getElem?_eq_getElem (by omega)
    obtain ⟨sa, sc, e, h3, -⟩ := h2 i vs[i] LL[i] hv (List.getElem?_eq_getElem hi)
    have := hcells g rfl i vs[i] hv
    have ea : (⟨g, 0, none⟩ : Addr).add i = ⟨g, 0 + i * 1, none⟩ := by unfold Addr.add; split <;> simp_all
    rw [ea, e] at this
    exact ⟨_, this, h3⟩
/-- one more list at the end -/
theorem ListsOwnI.push {w wA w' : World} {base : Nat} {v v' x : Value} {LL : List (List Int)} {L : List Int} {vs : List Value} (h1 : w.ownsRow base 30 1 v LL.length vs) (h2 : ∀ (i : Nat) (x : Value) (L : List Int), vs[i]? = some x → LL[i]? = some L → ElemAtI w v.ownBlock x L) (hx : Ext w wA) {t : TypeId}
    (hv : ∃ sa sc, x = .slice sa L.length sc ∧ IntsAt wA x L ∧ ∀ ad, sa = some ad → w.heap.size ≤ ad.block ∧ ad.block < wA.heap.size)
    (hown : w'.ownsRow base 30 1 v' (LL.length + 1) (vs ++ [x])) (hg : (wA.alloc (.cells #[x] t)).grownBy w' v.ownBlock) (hb : v'.ownBlock = v.ownBlock ∨ v'.ownBlock = some (wA.heap.size + 1)) :
    ListsOwnI w' base v' (LL ++ [L]) := by
  have hlt := fun k hk => h1.lt k hk
  have h2A : ∀ (i : Nat) (x : Value) (L : List Int), vs[i]? = some x → LL[i]? = some L → ElemAtI wA v.ownBlock x L := fun i x L hi hL => by
    obtain ⟨sa, sc, rfl, h3, h4⟩ := h2 i x L hi hL
    exact ⟨sa, sc, rfl, h3.ext hx, fun ad e => ⟨Nat.lt_of_lt_of_le (h4 ad e).1 hx.size, (h4 ad e).2⟩⟩
  have hlen : vs.length = LL.length := by have := h1.1; omega
  have hg0 : wA.grownBy (wA.alloc (.cells #[x] t)) v.ownBlock := World.grownBy_alloc _ _ _
  have hsz : (wA.alloc (.cells #[x] t)).heap.size = wA.heap.size + 1 := by simp
  have hsz2 := hg.size
  have keep : ∀ (sa : Option Addr) (n sc : Nat) (l : List Int), IntsAt wA (.slice sa n sc) l → (∀ ad, sa = some ad → ad.block < wA.heap.size ∧ some ad.block ≠ v.ownBlock) → IntsAt w' (.slice sa n sc) l ∧ ∀ ad, sa = some ad → ad.block < w'.heap.size ∧ some ad.block ≠ v'.ownBlock := fun sa n sc l hi hne => by
    refine ⟨(hi.grownByI hg0 fun ad e => (hne ad e).2).grownByI hg fun ad e => (hne ad e).2, fun ad e => ⟨by have := (hne ad e).1; omega, ?_⟩⟩
    rcases hb with hb | hb
    · rw [hb]; exact (hne ad e).2
    · rw [hb]; intro e2; have := (hne ad e).1; have := Option.some.inj e2; omega
  refine ⟨vs ++ [x], by rw [List.length_append]; exact hown, fun i y M hi hM => ?_⟩
  rcases Nat.lt_or_ge i vs.length with h3 | h3
  · rw [List.getElem?_append_left h3] at hi
    rw [List.getElem?_append_left (by omega)] at hM
    obtain ⟨sa, sc, rfl, h4, h5⟩ := h2A i y M hi hM
    obtain ⟨k1, k2⟩ := keep sa _ sc _ h4 h5
    exact ⟨sa, sc, rfl, k1, k2⟩
  · rw [List.getElem?_append_right h3] at hi
    rw [List.getElem?_append_right (by omega)] at hM
    have hi0 : i - vs.length = 0 := by
      rcases Nat.eq_zero_or_pos (i - vs.length) with h6 | h6
      · exact h6
      · rw [List.getElem?_eq_none (by simp; omega)] at hi; cases hi
    rw [hi0] at hi
    rw [show i - LL.length = 0 from by omega] at hM
    obtain rfl : x = y := by simpa using hi
    obtain rfl : L = M := by simpa using hM
    obtain ⟨sa, sc, rfl, h4, h5⟩ := hv
    obtain ⟨k1, k2⟩ := keep sa _ sc _ h4 fun ad e => ⟨(h5 ad e).2, fun e2 => by have := (hlt ad.block e2.symm).2; have := (h5 ad e).1; omega⟩
    exact ⟨sa, sc, rfl, k1, k2⟩
theorem intsI_news {w : World} {ad : Addr} {n c : Nat} {l : List Int} (h : IntsAt w (.slice (some ad) n c) l) : ∀ j u, (l.map (Value.int .i64))[j]? = some u → w.cell? (ad.add j) = some u := by
  intro j u hu
  have hj : j < l.length := by
    rcases Nat.lt_or_ge j l.length with h1 | h1
    · exact h1
    · rw [List.getElem?_eq_none (by simpa using h1)] at hu; cases hu
  obtain ⟨a, cap, e, -, -, h4⟩ := h
  obtain ⟨b, o, e2, r⟩ := h4 j hj
  have e3 := (Value.slice.inj e).1
  rw [e2] at e3
  obtain rfl := Option.some.inj e3
  rw [List.getElem?_eq_getElem (by simpa using hj)] at hu
  obtain rfl := Option.some.inj hu
  have ea : (⟨b, o, none⟩ : Addr).add j = ⟨b, o + j * 1, none⟩ := by unfold Addr.add; split <;> simp_all
  rw [ea, List.getElem_map]
  exact r.1
theorem intsI_cells (l : List Int) : ∀ u ∈ l.map (Value.int .i64), u.oneCell' = true := fun u hu => by
  obtain ⟨x, -, rfl⟩ := List.mem_map.1 hu
  simp [Value.oneCell']
theorem infoIntsI : (Try.prog.info? 30).map (fun i => (i.zero, i.size, i.bytes)) = some (some (.slice none 0 0), 1, 24) := by kernel_rfl
/-- a list of lists where a list of nothing is nil -/
def listZI (w : World) (b o : Nat) (l : List Int) : Prop := ∃ s, w.cell? ⟨b, o, none⟩ = some s ∧ IntsAt w s l ∧ (l = [] → s = .slice none 0 0)
theorem listZI.keeps : Keeps listZI := fun _ _ _ _ _ hx ⟨s, h1, h2, h3⟩ => ⟨s, hx.cell h1, h2.ext hx, h3⟩
abbrev ListsZI : World → Value → List (List Int) → Prop := SliceAt 1 listZI
theorem ListsZI.ext {w w' : World} {v : Value} {l : List (List Int)} (h : ListsZI w v l) (hx : Ext w w') : ListsZI w' v l := SliceAt.ext listZI.keeps h hx
theorem ListsZI.of {w : World} {v : Value} {l : List (List Int)} (h : ListsAtI w v l) (hne : ∀ L ∈ l, L ≠ []) : ListsZI w v l := by
  obtain ⟨a, cap, e, h2, h3, h4⟩ := h
  refine ⟨a, cap, e, h2, h3, fun i hi => ?_⟩
  obtain ⟨b, o, e2, s, h5, h6⟩ := h4 i hi
  exact ⟨b, o, e2, s, h5, h6, fun e3 => absurd e3 (hne _ (List.getElem_mem hi))⟩
theorem ListsZI.at_ {w : World} {v : Value} {l : List (List Int)} (h : ListsZI w v l) : ListsAtI w v l := by
  obtain ⟨a, cap, e, h2, h3, h4⟩ := h
  refine ⟨a, cap, e, h2, h3, fun i hi => ?_⟩
  obtain ⟨b, o, e2, s, h5, h6, -⟩ := h4 i hi
  exact ⟨b, o, e2, s, h5, h6⟩
end Go.Proofs.Ytdadffmagfknoaa

namespace Go.Proofs.Ytdadffmagfknoaa
set_option linter.unusedSimpArgs false
set_option linter.unusedVariables false
open Go.RowKit
set_option linter.unusedVariables false
set_option linter.unusedSimpArgs false
set_option maxRecDepth 100000

set_option maxHeartbeats 16000000 in
theorem refRates_any (hv : Value) (h : House) (hV : ValidH h) (w : World) (hh : HouseAt w hv h) :
    Calls Try.prog 89 #[hv] w fun e w' => ∃ u, e = .returned u ∧ ListsAtI w' u (ratesL h) ∧ Ext w w' := by
  rw [ratesL_levels]
  obtain ⟨ra, rc, aa, ac, ea, ec, rfl, hdi, hsi, hr, -, -⟩ := hh
  have hR := Lib.hid hr
  have HV := Lib.hid hV
  have hdays := hV.days
  have hmany := hV.many
  have hstep := hV.step
  obtain ⟨dn, hdn⟩ : ∃ dn : Nat, dn = h.days.toNat := ⟨_, rfl⟩
  have hdn2 : h.days = (dn : Int) := by omega
  have hdn3 : dn ≤ 3 := by omega
  have hrl : h.rates.length = dn := by omega
  rw [← hdn]
  have HD := Lib.hid hdn
  have HRL := Lib.hid hrl
  clear hr hV hdn hmany hrl hdays
  obtain ⟨i0, hi, hz0, hz1, hz2⟩ := info_parts infoInt
  obtain ⟨j0, hj, hy0, hy1, hy2⟩ := info_parts infoIntsI
  go_enter Try.func89, Try.ntmps89
  go_wp2
  rw [hdn2]
  go_loopw [3, 4] (fun v i wr => ∃ d : Nat, d ≤ dn ∧ i = .int .i64 d ∧ Ext w wr ∧ wr.cell? ⟨w.heap.size, 0, none⟩ = some (.int .i64 dn) ∧ wr.cell? ⟨w.heap.size, 1, none⟩ = some (.slice ra h.rates.length rc) ∧ wr.cell? ⟨w.heap.size, 2, none⟩ = some (.int .i64 h.step) ∧ ListsZI wr v (levelsR h d)) (fun _ i _ => dn - (intOf i).toNat)
  case atStart =>
    refine ⟨0, Nat.zero_le _, rfl, (by first | (with_reducible exact Ext.refl _) | (with_reducible assumption) | (show Below _ _ _; go_grown; done)), by simp [go_sem], by simp [go_sem], by simp [go_sem], some ⟨w.heap.size + 1, 0, none⟩, 1, rfl, Nat.le_refl _, by omega, fun i hi => ?_⟩
    have hi' : i < 1 := hi
    obtain rfl : i = 0 := by omega
    exact ⟨_, _, rfl, .slice none 0 0, by simp [go_sem], IntsAt.nothingI _, fun _ => rfl⟩
  case round =>
    obtain ⟨d, hd, rfl, hx, p0, p1, p2, hLL⟩ := hrel
    obtain ⟨R, hR0⟩ : ∃ R : World, R = wr := ⟨_, rfl⟩
    subst hR0
    have z0 := cell_lt p0
    by_cases hlt : d < dn
    · have k1 : (d : Int) < (dn : Int) := by omega
      have hch := levels_succ h d
      have hf := levels_mem HV.out (d := d) (by have := HD.out; omega)
      have hf2 := levels_mem HV.out (d := d + 1) (by have := HD.out; omega)
      have hll := levels_len HV.out (d := d) (by have := HD.out; omega)
      have hfl : ∀ q, (((levelsR h d).take q).flatMap (rExt h d)).length ≤ 8000 * 20 := fun q => by
        have h1 := rExt_flat HV.out (d := d) (by have := HD.out; omega) ((levelsR h d).take q)
        have h2 : ((levelsR h d).take q).length ≤ (levelsR h d).length := by rw [List.length_take]; omega
        omega
      rw [hch] at hf2
      have hsp := HV.out.span (d := d) (by have := HRL.out; omega)
      have hrd : d < h.rates.length := by have := HRL.out; omega
      obtain ⟨rb, ro, rfl, c0, c1, -⟩ := SliceAt.get (hR.out.ext hx) hrd
      have hsd : h.rates[d] = spanAt h d := by unfold spanAt; rw [List.getD_eq_getElem?_getD, List.getElem?_eq_getElem hrd]; rfl
      rw [hsd] at c0 c1
      have hstp : ∀ L, extTo h d L (spanAt h d).1 = [] := fun L => extTo_first h d L
      have hall : ∀ L, extTo h d L ((spanAt h d).2 + 1) = rExt h d L := fun L => extTo_all h d L
      have hlen : ∀ L (m : Int), m ≤ (spanAt h d).2 → (extTo h d L m).length ≤ 20 := fun L m hm => extTo_len h d L m hsp.1 (by omega)
      have hyes : ∀ L (m : Int), (spanAt h d).1 ≤ m → stepOk h d L m = true → extTo h d L (m + 1) = extTo h d L m ++ [L ++ [m]] := fun L m hm => extTo_yes h d L m hm
      have hno : ∀ L (m : Int), (spanAt h d).1 ≤ m → stepOk h d L m = false → extTo h d L (m + 1) = extTo h d L m := fun L m hm => extTo_no h d L m hm
      obtain ⟨LL, hLLe⟩ : ∃ LL, LL = levelsR h d := ⟨_, rfl⟩
      rw [← hLLe] at hLL hf hll hch hf2
      simp only [← hLLe] at hfl
      obtain ⟨s1, hs1⟩ : ∃ s1, s1 = (spanAt h d).1 := ⟨_, rfl⟩
      obtain ⟨s2, hs2⟩ : ∃ s2, s2 = (spanAt h d).2 := ⟨_, rfl⟩
      simp only [← hs1, ← hs2] at c0 c1 hsp hstp hall hlen hyes hno
      obtain ⟨g1, g2, g3⟩ := hsp
      have Hfl := Lib.hid hfl
      have Hch := Lib.hid hch
      have Hf2 := Lib.hid hf2
      have Hf := Lib.hid hf
      have Hstp := Lib.hid hstp
      have Hall := Lib.hid hall
      have Hlen := Lib.hid hlen
      have Hyes := Lib.hid hyes
      have Hno := Lib.hid hno
      have HRD : Hid (d < h.rates.length) := Lib.hid hrd
      have k9 : (d : Int) < (h.rates.length : Int) := by omega
      clear hch hLLe hf2 hf hs1 hs2 hstp hall hlen hyes hno hfl hsd hrd
      obtain ⟨oa, oc, rfl, -⟩ := hLL.shape
      have z1 := cell_lt c0
      go_wp2
      go_loopw [5, 6, 7] (fun v i n wr => ∃ q : Nat, q ≤ LL.length ∧ i = .int .i64 q ∧ Ext R wr ∧ ListsOwnI wr R.heap.size v ((LL.take q).flatMap (rExt h d))) (fun _ i _ _ => LL.length - (intOf i).toNat)
      case atStart => exact ⟨0, Nat.zero_le _, rfl, Ext.refl _, ListsOwnI.nil _ _⟩
      case round =>
        obtain ⟨q, hq, rfl, hxr, hown⟩ := hrel
        have e0 := hxr.cell p0
        have e1 := hxr.cell p1
        have f0 := hxr.cell c0
        have f1 := hxr.cell c1
        have y0 := cell_lt e0
        have y1 := cell_lt f0
        by_cases hql : q < LL.length
        · have k2 : (q : Int) < (LL.length : Int) := by omega
          have hnx := rExt_next h d LL q hql
          have hplen := Hfl.out q
          have hLf := Hf.out LL[q] (List.getElem_mem hql)
          have hLL0 := hLL
          obtain ⟨_, _, hea, -, -, hh⟩ := hLL0
          obtain ⟨ob, oo, rfl, s, cs, hs, hs0⟩ := hh q hql
          have hea1 := (Value.slice.inj hea).1
          subst hea1
          simp only [Nat.mul_one] at cs
          clear hea hh
          generalize LL[q] = L at *
          generalize (LL.take q).flatMap (rExt h d) = pre at *
          have Hnx := Lib.hid hnx
          clear hnx
          go_wp2
          clear e0 e1 f0 f1 y0 y1
          go_loopw [5, 7] (fun v n wr => ∃ m : Int, s1 ≤ m ∧ m ≤ s2 + 1 ∧ n = .int .i64 m ∧ Ext R wr ∧ ListsOwnI wr R.heap.size v (pre ++ extTo h d L m)) (fun _ n _ => (s2 + 1 - intOf n).toNat)
          case atStart => exact ⟨s1, Int.le_refl _, by omega, rfl, hxr, by rw [Hstp.out, List.append_nil]; exact hown⟩
          case round =>
            clear hxr hown
            obtain ⟨m, hm1, hm2, rfl, hxr, hown⟩ := hrel
            have e0 := hxr.cell p0
            have e1 := hxr.cell p1
            have e2 := hxr.cell p2
            have f1 := hxr.cell c1
            have t0 := hxr.cell cs
            have hsr := hs.ext hxr
            have y0 := cell_lt e0
            have y1 := cell_lt f1
            have y2 := cell_lt t0
            by_cases hmn : m ≤ s2
            · have hm64 : I64 m := by unfold I64; omega
              have wm : IntKind.i64.wrap (m + 1) = m + 1 := IntWalk.i64_in _ (by omega)
              have hyes := Hyes.out L m hm1
              have hno := Hno.out L m hm1
              have hcl : (pre ++ extTo h d L m).length ≤ 160020 := by
                rw [List.length_append]; have := Hlen.out L m hmn; omega
              have hil : (L ++ [m]).length = L.length + 1 := by simp
              by_cases hd0 : d = 0
              · have hL0 : L = [] := List.eq_nil_of_length_eq_zero (by rw [hLf.1, hd0])
                have hso : stepOk h d L m = true := by unfold stepOk; rw [if_pos hd0]
                obtain rfl := hs0 hL0
                have hsn2 : pre ++ extTo h d L (m + 1) = (pre ++ extTo h d L m) ++ [L ++ [m]] := by rw [hyes hso, List.append_assoc]
                have Hsn := Lib.hid hsn2
                have HL0 := Lib.hid hL0
                have Hn0 : Hid (0 = L.length) := Lib.hid (by rw [hL0]; rfl)
                have HIL : Hid (∀ x ∈ L ++ [m], I64 x) := Lib.hid (by rw [hL0]; intro x hx; simp at hx; subst hx; exact hm64)
                generalize pre ++ extTo h d L m = cur at *
                clear hsn2 hyes hno hso hs0 hL0 hil
                subst hd0
                simp only [Nat.zero_mul, Nat.add_zero] at f1 c0 c1
                go_wp2_with fail
                apply Facts.wp_region (.val _ :: .val _ :: .val _ :: .val _ :: .val _ :: .val _ :: .val _ :: .val _ :: .val _ :: .val _ :: .val _ :: .val _ :: .val _ :: .val _ :: .val _ :: .val _ :: .val _ :: .val _ :: .val _ :: .val _ :: .val _ :: []) (by kernel_rfl) (by kernel_rfl) trivial ?main
                case main =>
                  iterate 21 (refine ⟨fun w1 hx hh => ?_, ?_⟩; focus (clear hh; skip; go_simp; first | exact ⟨Ext.refl _, rfl⟩ | exact Ext.refl _))
                  intro w5 hx5 hh
                  clear hh
                  replace hxr := hxr.trans hx5
                  replace e0 := hx5.cell e0
                  replace e1 := hx5.cell e1
                  replace f1 := hx5.cell f1
                  replace t0 := hx5.cell t0
                  replace hown := hown.ext hx5
                  clear hx5 hsr y0 y1 y2
                  have y0 := cell_lt e0
                  have y1 := cell_lt f1
                  have y2 := cell_lt t0
                  obtain ⟨wr, hwr⟩ : ∃ wr : World, wr = w5 := ⟨_, rfl⟩
                  subst hwr
                  obtain ⟨vs, hrow, helem⟩ := hown
                  have hszr := hxr.size
                  have hvl := hrow.1
                  have Hvl := Lib.hid hvl
                  have Helem := Lib.hid helem
                  clear hvl helem
                  go_simp
                  go_wp2_with (at_builtin; first | (refine wpList_append_own_none rfl _ _ 30 rfl (wr.heap.size) 3 i0 1 Try.underlying30 hi _ _ _ rfl (World.ownsRow_made wr #[] 0 (Nat.le_refl _) (by unfold maxLen; omega) rfl) rfl ?_; have hown1 := World.ownsRow_made (base := wr.heap.size) (e := 3) (size := 1) wr #[] 0 (Nat.le_refl _) (by unfold maxLen; omega) rfl; have x1 : Ext wr (wr.alloc (.cells #[] 3)) := ext_alloc _ _; have x1s := x1.size; generalize wr.alloc (.cells #[] 3) = w1 at *) | (refine wpList_append_own _ rfl _ _ 30 rfl (wr.heap.size) 3 i0 (.int .i64 0) 1 8 Try.underlying30 hi hz0 hz1 hz2 rfl (by decide) _ _ _ rfl (hown1.alloc _) ⟨w1.heap.size, 0, none⟩ 1 1 [.int .i64 m] rfl rfl (cell_one_new _ _ _) (by simp [Value.oneCell']) (by unfold maxLen; omega) (by omega) (by simp; omega) ?_; intro v2 w2 hown2 hgrow2 _; have hl2 : IntsAt w2 v2 (L ++ [m]) := IntsAt.of_own (by simpa [HL0.out] using hown2) HIL.out; have x2 : Ext wr w2 := Ext.grown (x1.alloc _) hgrow2 (fun k hk => (hown1.lt k hk).1); have hx2s := x2.size; have hlt2 := hown2.lt; obtain ⟨sa2, sc2, rfl, -⟩ := hl2.shape; obtain ⟨nl, hnl⟩ : ∃ nl, nl = (L ++ [m]).length := ⟨_, rfl⟩; rw [← hnl] at hl2 hlt2 ⊢; have Hnl := Lib.hid hnl; clear hown2 hgrow2 hnl) | (refine wpList_append_own_at _ rfl _ _ 67 rfl R.heap.size 30 j0 (.slice none 0 0) 1 24 Try.underlying67 hj hy0 hy1 hy2 rfl (by decide) _ _ _ rfl ((Ext.owns hrow x2).alloc _) ⟨w2.heap.size, 0, none⟩ 1 1 [.slice sa2 nl sc2] rfl rfl (cell_one_new _ _ _) (by simp [Value.oneCell']) (by unfold maxLen; omega) (by omega) (by simp; omega) ?_; intro v3 w3 hown3 hgrow3 _ hblk))
                  (have x3 : Ext R w3 := Ext.grown ((hxr.trans x2).alloc _) hgrow3 (fun k hk => (hrow.lt k hk).1); have hnew := ListsOwnI.push hrow Helem.out x2 ⟨sa2, sc2, (by rw [Hnl.out]), hl2, fun ad e => hlt2 ad.block (by rw [e]; rfl)⟩ hown3 hgrow3 (hblk.elim .inl (fun e => .inr (e.trans (by simp)))))
                  go_roundw
                  case rel => exact ⟨m + 1, by omega, by omega, by go_num, x3, by rw [Hsn.out]; exact hnew⟩
                  case measure => simp [intOf]; omega
              · obtain ⟨d', hdd⟩ : ∃ d', d = d' + 1 := ⟨d - 1, by omega⟩
                have hLd : d' < L.length := by rw [hLf.1]; omega
                obtain ⟨sa0, sc, rfl, hsc1, hsc2⟩ := hs.shape
                obtain ⟨sb, so, rfl, sv, -⟩ := SliceAt.get hsr hLd
                have hp : L.getD (d - 1) 0 = L[d'] := by
                  rw [hdd, Nat.add_sub_cancel, List.getD_eq_getElem?_getD, List.getElem?_eq_getElem hLd]; rfl
                have hpr := hLf.2 _ (List.getElem_mem hLd)
                generalize L[d'] = p at *
                have hso : stepOk h d L m = inM (m - p) (-h.step) h.step := by unfold stepOk; rw [if_neg hd0, hp, Int.zero_sub]
                obtain ⟨b, hb⟩ : ∃ b, inM (m - p) (-h.step) h.step = b := ⟨_, rfl⟩
                rw [hb] at hso
                have HIL : Hid (∀ x ∈ L ++ [m], I64 x) := Lib.hid (by
                  intro x hx
                  rcases List.mem_append.1 hx with h | h
                  · have := hLf.2 x h; unfold I64; omega
                  · rw [List.mem_singleton] at h; subst h; exact hm64)
                obtain ⟨n0, hn0⟩ : ∃ n0, n0 = L.length := ⟨_, rfl⟩
                rw [← hn0] at hs cs hsc1 hsr t0
                have hn05 : n0 ≤ 5 := by rw [hn0, hLf.1]; omega
                have Hn0 := Lib.hid hn0
                have hkL : (d' : Int) < (n0 : Int) := by rw [hn0]; omega
                have wd : IntKind.i64.wrap ((d : Int) - 1) = (d' : Int) := by rw [hdd, show ((d' + 1 : Nat) : Int) - 1 = (d' : Int) from by omega]; exact IntWalk.i64_in _ (by omega)
                have wp : IntKind.i64.wrap (m - p) = m - p := IntWalk.i64_in _ (by omega)
                have ws : IntKind.i64.wrap (-h.step) = -h.step := IntWalk.i64_in _ (by omega)
                have kd : (0 : Int) < (d : Int) := by omega
                have kn : 0 < d := by omega
                have Hso := Lib.hid hso
                have Hyes1 := Lib.hid hyes
                have Hno1 := Lib.hid hno
                have HB := Lib.hid hb
                have y3 := cell_lt sv
                rw [Nat.mul_one] at sv
                generalize hcur : pre ++ extTo h d L m = cur at *
                have Hcur := Lib.hid hcur
                clear hs0 hp hdd hLd hn0 hso hyes hno hil hd0 hb hcur
                go_wp2_with fail
                apply Facts.wp_region (.val _ :: .val _ :: .val _ :: .val _ :: .val _ :: .val _ :: .val _ :: .val _ :: .val _ :: .val _ :: .val _ :: .val _ :: .val _ :: .val _ :: .val _ :: .val _ :: .val _ :: .val _ :: .val _ :: .val _ :: .val _ :: []) (by kernel_rfl) (by kernel_rfl) trivial ?main
                case main =>
                  iterate 18 (refine ⟨fun w1 hx hh => ?_, ?_⟩; focus (clear hh; have j0 := hx.cell e0; have j1 := hx.cell e1; have j2 := hx.cell e2; have j3 := hx.cell t0; have j4 := hx.cell sv; go_simp; first | exact ⟨Ext.refl _, rfl⟩ | exact Ext.refl _))
                  refine ⟨fun w1 hx hh => ?_, ?_⟩
                  · clear hh
                    go_simp
                    refine (In_any _ _ _ _).mono ?_
                    rintro e w' ⟨rfl, rfl⟩
                    rw [HB.out]
                    exact ⟨_, rfl, Ext.refl _, rfl⟩
                  iterate 2 (refine ⟨fun w1 hx hh => ?_, ?_⟩; focus (clear hh; skip; go_simp; first | exact ⟨Ext.refl _, rfl⟩ | exact Ext.refl _))
                  intro w5 hx5 hh
                  clear hh
                  replace hxr := hxr.trans hx5
                  replace e0 := hx5.cell e0
                  replace e1 := hx5.cell e1
                  replace f1 := hx5.cell f1
                  replace t0 := hx5.cell t0
                  replace hsr := hsr.ext hx5
                  replace hown := hown.ext hx5
                  clear hx5 sv y0 y1 y2 y3 e2
                  have y0 := cell_lt e0
                  have y1 := cell_lt f1
                  have y2 := cell_lt t0
                  obtain ⟨wr, hwr⟩ : ∃ wr : World, wr = w5 := ⟨_, rfl⟩
                  subst hwr
                  go_simp
                  cases b
                  · go_wp2
                    go_roundw
                    case rel => exact ⟨m + 1, by omega, by omega, by go_num, hxr, by rw [Hno1.out Hso.out, Hcur.out]; exact hown⟩
                    case measure => simp [intOf]; omega
                  have Hsn : Hid (pre ++ extTo h d L (m + 1) = cur ++ [L ++ [m]]) := Lib.hid (by rw [Hyes1.out Hso.out, ← List.append_assoc, Hcur.out])
                  obtain ⟨vs, hrow, helem⟩ := hown
                  have hszr := hxr.size
                  have hvl := hrow.1
                  have Hvl := Lib.hid hvl
                  have Helem := Lib.hid helem
                  clear hvl helem
                  go_wp2_with (at_builtin; first | (refine wpList_append_own _ rfl _ _ 30 rfl (wr.heap.size) 3 i0 (.int .i64 0) 1 8 Try.underlying30 hi hz0 hz1 hz2 rfl (by decide) _ _ _ rfl (World.ownsRow_made wr #[] 0 (Nat.le_refl _) (by unfold maxLen; omega) rfl) ⟨sb, so, none⟩ n0 sc (L.map (Value.int .i64)) rfl (by have := Hn0.out; simp; omega) (intsI_news (hsr.ext (ext_alloc _ _))) (intsI_cells _) (by unfold maxLen; omega) (by omega) (by simp) ?_; intro v1 w1 hown1 hgrow1 _; have x1 : Ext wr w1 := Ext.grown (ext_alloc _ _) hgrow1 (fun k hk => Nat.le_of_eq (Option.some.inj (show some wr.heap.size = some k from hk))); have x1s := x1.size) | (refine wpList_append_own _ rfl _ _ 30 rfl (wr.heap.size) 3 i0 (.int .i64 0) 1 8 Try.underlying30 hi hz0 hz1 hz2 rfl (by decide) _ _ _ rfl (hown1.alloc _) ⟨w1.heap.size, 0, none⟩ 1 1 [.int .i64 m] rfl rfl (cell_one_new _ _ _) (by simp [Value.oneCell']) (by unfold maxLen; omega) (by omega) (by simp; omega) ?_; intro v2 w2 hown2 hgrow2 _; have hl2 : IntsAt w2 v2 (L ++ [m]) := IntsAt.of_own (by have h0 := Hn0.out; subst h0; simpa using hown2) HIL.out; have x2 : Ext wr w2 := Ext.grown (x1.alloc _) hgrow2 (fun k hk => (hown1.lt k hk).1); have hx2s := x2.size; have hlt2 := hown2.lt; obtain ⟨sa2, sc2, rfl, -⟩ := hl2.shape; obtain ⟨nl, hnl⟩ : ∃ nl, nl = (L ++ [m]).length := ⟨_, rfl⟩; rw [← hnl] at hl2 hlt2 ⊢; have Hnl := Lib.hid hnl; clear hown2 hgrow2 hnl) | (refine wpList_append_own_at _ rfl _ _ 67 rfl R.heap.size 30 j0 (.slice none 0 0) 1 24 Try.underlying67 hj hy0 hy1 hy2 rfl (by decide) _ _ _ rfl ((Ext.owns hrow x2).alloc _) ⟨w2.heap.size, 0, none⟩ 1 1 [.slice sa2 nl sc2] rfl rfl (cell_one_new _ _ _) (by simp [Value.oneCell']) (by unfold maxLen; omega) (by omega) (by simp; omega) ?_; intro v3 w3 hown3 hgrow3 _ hblk))
                  (have x3 : Ext R w3 := Ext.grown ((hxr.trans x2).alloc _) hgrow3 (fun k hk => (hrow.lt k hk).1); have hnew := ListsOwnI.push hrow Helem.out x2 ⟨sa2, sc2, (by rw [Hnl.out]), hl2, fun ad e => hlt2 ad.block (by rw [e]; rfl)⟩ hown3 hgrow3 (hblk.elim .inl (fun e => .inr (e.trans (by simp)))))
                  go_roundw
                  case rel => exact ⟨m + 1, by omega, by omega, by go_num, x3, by rw [Hsn.out]; exact hnew⟩
                  case measure => simp [intOf]; omega
            · obtain rfl : m = s2 + 1 := by omega
              have k3 : ¬ (s2 + 1 ≤ s2) := by omega
              have Hfin : Hid ((LL.take (q + 1)).flatMap (rExt h d) = pre ++ extTo h d L (s2 + 1)) := Lib.hid (by rw [Hnx.out, Hall.out])
              clear hmn
              go_wp2
              go_roundw
              case rel => exact ⟨q + 1, by omega, by go_num, hxr, by rw [Hfin.out]; exact hown⟩
              case measure => simp [intOf]; omega
        · obtain rfl : q = LL.length := by omega
          rw [List.take_length] at hown
          have hlists := ListsZI.of hown.at_ fun L hL e => by
            have := (Hf2.out L hL).1
            rw [e] at this; simp at this
          rw [← Hch.out] at hlists
          have x3 := hx.trans hxr
          have e2 := hxr.cell p2
          clear hql f0 f1 y1
          go_wp2
          go_roundw
          case rel => exact ⟨d + 1, by omega, by go_num, x3, e0, e1, e2, hlists⟩
          case measure => simp [intOf]; omega
    · obtain rfl : d = dn := by omega
      have hres := hLL.at_
      obtain ⟨oa, oc, rfl, -⟩ := hLL.shape
      clear hlt
      go_wp2
      go_ret
      exact ⟨_, rfl, hres, hx⟩
end Go.Proofs.Ytdadffmagfknoaa

namespace Go.Proofs.Ytdadffmagfknoaa
set_option linter.unusedSimpArgs false
set_option linter.unusedVariables false
open Go.RowKit
set_option linter.unusedVariables false
set_option maxRecDepth 100000

set_option maxHeartbeats 1000000 in
theorem refPays_any (v : Value) (a : Agt) (near rate : Int) (hv : AgentV v a) (hf : 0 ≤ a.fee ∧ a.fee ≤ 20) (hr : 0 ≤ a.round ∧ a.round ≤ 2) (hn : 0 ≤ near ∧ near ≤ 99) (h20 : 0 ≤ rate ∧ rate ≤ 20) (w : World) :
    Calls Try.prog 47 #[v, .int .i64 near, .int .i64 rate] w fun r w' => r = .returned (.int .i64 (payM a near rate)) ∧ Ext w w' := by
  obtain ⟨rfl, -, -, -⟩ := hv
  have w1 : IntKind.i64.wrap (near - a.fee) = near - a.fee := IntWalk.i64_in _ (by omega)
  have p0 : 0 ≤ near - a.fee → 0 ≤ (near - a.fee) * rate := fun h => Int.mul_nonneg h h20.1
  have p1 : 0 ≤ near - a.fee → (near - a.fee) * rate ≤ 99 * 20 := fun h => Int.mul_le_mul (by omega) h20.2 h20.1 (by omega)
  have hr3 : a.round = 0 ∨ a.round = 1 ∨ a.round = 2 := by omega
  have w0 : wrap64 0 = 0 := by kernel_rfl
  unfold payM
  by_cases hneg : near ≤ a.fee
  · rw [show max (near - a.fee) 0 = 0 from by omega, Int.zero_mul]
    clear p0 p1
    rcases hr3 with h0 | h0 | h0
    · have b1 : (a.round == 1) = false := by rw [h0]; rfl
      have b2 : (a.round == 2) = false := by rw [h0]; rfl
      rw [h0, if_neg (by decide), if_neg (by decide)]
      clear h0 hr
      (go_enter Try.func47, Try.ntmps47; go_wp2; go_ret; exact ⟨ret_int (by first | rfl | omega), (by first | (with_reducible exact Ext.refl _) | (with_reducible assumption) | (show Below _ _ _; go_grown; done))⟩)
    · have b1 : (a.round == 1) = true := by rw [h0]; rfl
      rw [h0, if_pos rfl]
      clear h0 hr
      (go_enter Try.func47, Try.ntmps47; go_wp2; go_ret; exact ⟨ret_int (by first | rfl | omega), (by first | (with_reducible exact Ext.refl _) | (with_reducible assumption) | (show Below _ _ _; go_grown; done))⟩)
    · have b1 : (a.round == 1) = false := by rw [h0]; rfl
      have b2 : (a.round == 2) = true := by rw [h0]; rfl
      rw [h0, if_neg (by decide), if_pos rfl]
      clear h0 hr
      (go_enter Try.func47, Try.ntmps47; go_wp2; go_ret; exact ⟨ret_int (by first | rfl | omega), (by first | (with_reducible exact Ext.refl _) | (with_reducible assumption) | (show Below _ _ _; go_grown; done))⟩)
  · rw [show max (near - a.fee) 0 = near - a.fee from by omega]
    have q0 := p0 (by omega)
    have q1 := p1 (by omega)
    clear p0 p1
    have w2 : wrap64 ((near - a.fee) * rate) = (near - a.fee) * rate := IntWalk.wrap64_in _ (by omega)
    have e1 : wrap64 ((near - a.fee) * rate + 10) = (near - a.fee) * rate + 10 := IntWalk.wrap64_in _ (by omega)
    have e2 : wrap64 ((near - a.fee) * rate + 10 - 1) = (near - a.fee) * rate + 9 := by rw [show (near - a.fee) * rate + 10 - 1 = (near - a.fee) * rate + 9 from by omega]; exact IntWalk.wrap64_in _ (by omega)
    have e3 : wrap64 (Int.tdiv ((near - a.fee) * rate + 9) 10) = ((near - a.fee) * rate + 9) / 10 := by rw [quo10 (by omega)]; exact IntWalk.wrap64_in _ (by omega)
    have e4 : wrap64 ((near - a.fee) * rate + 5) = (near - a.fee) * rate + 5 := IntWalk.wrap64_in _ (by omega)
    have e5 : wrap64 (Int.tdiv ((near - a.fee) * rate + 5) 10) = ((near - a.fee) * rate + 5) / 10 := by rw [quo10 (by omega)]; exact IntWalk.wrap64_in _ (by omega)
    have e6 : wrap64 (Int.tdiv ((near - a.fee) * rate) 10) = (near - a.fee) * rate / 10 := by rw [quo10 (by omega)]; exact IntWalk.wrap64_in _ (by omega)
    rcases hr3 with h0 | h0 | h0
    · have b1 : (a.round == 1) = false := by rw [h0]; rfl
      have b2 : (a.round == 2) = false := by rw [h0]; rfl
      rw [h0, if_neg (by decide), if_neg (by decide)]
      clear h0 hr
      (go_enter Try.func47, Try.ntmps47; go_wp2; go_ret; exact ⟨ret_int (by first | rfl | omega), (by first | (with_reducible exact Ext.refl _) | (with_reducible assumption) | (show Below _ _ _; go_grown; done))⟩)
    · have b1 : (a.round == 1) = true := by rw [h0]; rfl
      rw [h0, if_pos rfl]
      clear h0 hr
      (go_enter Try.func47, Try.ntmps47; go_wp2; go_ret; exact ⟨ret_int (by first | rfl | omega), (by first | (with_reducible exact Ext.refl _) | (with_reducible assumption) | (show Below _ _ _; go_grown; done))⟩)
    · have b1 : (a.round == 1) = false := by rw [h0]; rfl
      have b2 : (a.round == 2) = true := by rw [h0]; rfl
      rw [h0, if_neg (by decide), if_pos rfl]
      clear h0 hr
      (go_enter Try.func47, Try.ntmps47; go_wp2; go_ret; exact ⟨ret_int (by first | rfl | omega), (by first | (with_reducible exact Ext.refl _) | (with_reducible assumption) | (show Below _ _ _; go_grown; done))⟩)
end Go.Proofs.Ytdadffmagfknoaa
