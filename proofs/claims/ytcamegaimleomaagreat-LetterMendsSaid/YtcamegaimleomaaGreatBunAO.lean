/-
  LetterRoom, its loop: each part that is room gets more.
  A LETTER's TEXT: Text and Write of the reference.
  WHAT A LETTER's TEXT IS PARTED INTO, plain: by its spaces and line feeds, and by fields: the letter again.
  A TEXT READ: Read of the reference.
  LetterTexts: Write and Read of the program return what those of the reference do.
  LetterNearest: no form needs fewer corrections than Nearest says; those that need none are the forms of Of.
  A LETTER MADE OF A FORM: Rooms, Put, Built and Make of the reference.
  ANY FILLS OF A FORM, by turns: Any of the statements: they are right for its rooms.
-/
import Derived.Test.YtcamegaimleomaaGreatBunAN
import Derived.Test.YtcamegaimleomaaGreatBunAL
import Derived.Test.YtcamegaimleomaaGreatBunAM
import Derived.Test.YtcamegaimleomaaGreatBunAJ
import Derived.Test.YtcamegaimleomaaGreatBunAG
import Derived.Laws.RangeString
import Derived.Test.YtcamegaimleomaaGreatBunAD
import Derived.Laws.AppendOwnNone
namespace Go.Proofs.YtcamegaimleomaaGreat
set_option linter.unusedSimpArgs false
set_option linter.unusedVariables false
open Go.RowKit
set_option linter.unusedVariables false
set_option linter.unusedSimpArgs false

/-- a row of parts of the call's own, cell by cell -/
structure PCell (w : World) (g j : Nat) (u : Value) (p : Part) : Prop where
  a : w.cell? ⟨g, j * 3, none⟩ = some u
  b : w.cell? ⟨g, j * 3 + 1, none⟩ = some (.int .i64 p.lo)
  c : w.cell? ⟨g, j * 3 + 2, none⟩ = some (.int .i64 p.hi)
  fa : w.frozen? ⟨g, j * 3, none⟩ = false
  fb : w.frozen? ⟨g, j * 3 + 1, none⟩ = false
  fc : w.frozen? ⟨g, j * 3 + 2, none⟩ = false
def PRow (w : World) (g m : Nat) (us : Nat → Value) (F : Nat → Part) : Prop := ∀ j, j < m → PCell w g j (us j) (F j)
def setP3 (w : World) (g o : Nat) (a b c : Value) : World := ((w.setCell ⟨g, o, none⟩ a).setCell ⟨g, o + 1, none⟩ b).setCell ⟨g, o + 2, none⟩ c
theorem PRow.ext {w w' : World} {g m : Nat} {us : Nat → Value} {F : Nat → Part} (h : PRow w g m us F) (hx : Ext w w') : PRow w' g m us F := fun j hj => by
  obtain ⟨h1, h2, h3, h4, h5, h6⟩ := h j hj
  exact ⟨hx.cell h1, hx.cell h2, hx.cell h3, by rw [hx.frozen (cell_lt h1)]; exact h4, by rw [hx.frozen (cell_lt h2)]; exact h5, by rw [hx.frozen (cell_lt h3)]; exact h6⟩
theorem PRow.other {w : World} {g m : Nat} {us : Nat → Value} {F : Nat → Part} (h : PRow w g m us F) {p : Addr} (hp : p.block ≠ g) (v : Value) : PRow (w.setCell p v) g m us F := fun j hj => by
  obtain ⟨h1, h2, h3, h4, h5, h6⟩ := h j hj
  exact ⟨set_other h1 (.inl hp) _, set_other h2 (.inl hp) _, set_other h3 (.inl hp) _, by rw [World.frozen?_setCell]; exact h4, by rw [World.frozen?_setCell]; exact h5, by rw [World.frozen?_setCell]; exact h6⟩
theorem PRow.step {w : World} {g m : Nat} {us : Nat → Value} {F : Nat → Part} (h : PRow w g m us F) {i : Nat} (hi : i < m) (p : Part) :
    PRow (setP3 w g (i * 3) (us i) (.int .i64 p.lo) (.int .i64 p.hi)) g m us (fun j => if j = i then p else F j) := fun j hj => by
  obtain ⟨h1, h2, h3, h4, h5, h6⟩ := h j hj
  unfold setP3
  by_cases e : j = i
  · subst e
    simp only [if_true]
    exact ⟨set_other (set_other (set_cell h1 _) (.inr (by simp)) _) (.inr (by simp)) _, set_other (set_cell (set_other h2 (.inr (by simp)) _) _) (.inr (by simp)) _, set_cell (set_other (set_other h3 (.inr (by simp)) _) (.inr (by simp)) _) _,
      by rw [World.frozen?_setCell, World.frozen?_setCell, World.frozen?_setCell]; exact h4, by rw [World.frozen?_setCell, World.frozen?_setCell, World.frozen?_setCell]; exact h5, by rw [World.frozen?_setCell, World.frozen?_setCell, World.frozen?_setCell]; exact h6⟩
  · simp only [if_neg e]
    have ne : ∀ (x y : Nat), x < 3 → y < 3 → i * 3 + x ≠ j * 3 + y := fun x y h1 h2 => by omega
    have n0 : ∀ y, y < 3 → i * 3 ≠ j * 3 + y := fun y h => by omega
    have m0 : ∀ x, x < 3 → i * 3 + x ≠ j * 3 := fun x h => by omega
    have o0 : i * 3 ≠ j * 3 := by omega
    exact ⟨set_other (set_other (set_other h1 (.inr o0) _) (.inr (m0 1 (by omega))) _) (.inr (m0 2 (by omega))) _, set_other (set_other (set_other h2 (.inr (n0 1 (by omega))) _) (.inr (ne 1 1 (by omega) (by omega))) _) (.inr (ne 2 1 (by omega) (by omega))) _, set_other (set_other (set_other h3 (.inr (n0 2 (by omega))) _) (.inr (ne 1 2 (by omega) (by omega))) _) (.inr (ne 2 2 (by omega) (by omega))) _,
      by rw [World.frozen?_setCell, World.frozen?_setCell, World.frozen?_setCell]; exact h4, by rw [World.frozen?_setCell, World.frozen?_setCell, World.frozen?_setCell]; exact h5, by rw [World.frozen?_setCell, World.frozen?_setCell, World.frozen?_setCell]; exact h6⟩
/-- what the loop leaves -/
def RoomPost (w : World) (g m : Nat) (us : Nat → Value) (F : Nat → Part) (wc : World) : Prop := Below g w wc ∧ PRow wc g m us F
set_option maxRecDepth 100000 in
set_option maxHeartbeats 4000000 in
theorem room_b0 {u0 u1 u2 u3 u4 u6 u7 u8 u9 u10 u13 u14 u15 u16 u17 u18 u19 u20 u21 u22 u23 u24 u25 u26 u27 u28 u29 u30 u31 u32 u33 u34 u35 u36 u37 u38 u39 u40 u41 u42 u43 u44 u45 u46 u47 u48 u49 u50 u51 u52 u53 u54 u55 u56 u57 u58 u59 u60 u61 u62 u63 u64 u65 u66 u67 u68 u69 u70 u71 u72 u73 u74 u75 u76 u77 u78 u79 u80 u81 u82 u83 u84 u85 u86 u87 u88 u89 u90 u91 u92 u93 u94 u95 u96 u97 u98 u99 u100 u101 u102 u103 u104 u105 u106 u107 u108 u109 u110 u111 u112 u113 u114 u115 u116 u117 u118 u119 u120 u121 u122 u123 u124 u125 u126 u127 u128 u129 u130 u131 u132 u133 u134 u135 u136 u137 u138 u139 u140 u141 u142 u143 u144 u145 u146 u147 u148 u149 u150 u151 u152 u153 u154 u155 u156 u157 u158 u159 u160 u161 u162 u163 u164 u165 u166 u167 u168 u169 u170 : Value} {X B3 g m cap x1 x2 : Nat} {us : Nat → Value} {ps : Nat → Part} {wE w : World} (hx1 : x1 ≤ 255) (hx2 : x2 ≤ 255)
    (hX1 : w.cell? ⟨X, 1, none⟩ = some (.int .u8 x1)) (hX2 : w.cell? ⟨X, 2, none⟩ = some (.int .u8 x2)) (hXg : X < g) (hB : w.cell? ⟨B3, 1, none⟩ = some (.slice (some ⟨g, 0, none⟩) m cap)) (hBg : B3 < g) (hm5 : m ≤ 5) (hmc : m ≤ cap)
    (hrow : PRow w g m us ps) (hgz : g < w.heap.size) (hstr : ∀ j < m, StrsAt wE (us j) (ps j).words) (hval : ∀ j < m, ValidPart (ps j)) (Q : Exit → Act → World → Prop)
    (hQ : ∀ (v12 v13 v68 v69 v70 v71 v72 v73 v74 v75 v76 v77 v78 v79 v80 v81 v82 v83 v84 v85 v86 v87 v88 v89 v90 v91 v92 v93 v94 v95 v96 v97 v98 v99 v100 v101 v102 v103 v104 v105 v106 : Value) (wc : World), RoomPost w g m us (fun j => morePart ((x1 % 3 : Nat) : Int) ((x2 % 3 : Nat) : Int) (ps j)) wc → Q .normal ⟨#[u0, u1, u2, u3, u4, .pointer (some ⟨X, 0, none⟩), u6, u7, u8, u9, u10, .pointer (some ⟨B3, 0, none⟩), v12, v13, u14, u15, u16, u17, u18, u19, u20, u21, u22, u23, u24, u25, u26, u27, u28, u29, u30, u31, u32, u33, u34, u35, u36, u37, u38, u39, u40, u41, u42, u43, u44, u45, u46, u47, u48, u49, u50, u51, u52, u53, u54, u55, u56, u57, u58, u59, u60, u61, u62, u63, u64, u65, u66, u67, v68, v69, v70, v71, v72, v73, v74, v75, v76, v77, v78, v79, v80, v81, v82, v83, v84, v85, v86, v87, v88, v89, v90, v91, v92, v93, v94, v95, v96, v97, v98, v99, v100, v101, v102, v103, v104, v105, v106, u107, u108, u109, u110, u111, u112, u113, u114, u115, u116, u117, u118, u119, u120, u121, u122, u123, u124, u125, u126, u127, u128, u129, u130, u131, u132, u133, u134, u135, u136, u137, u138, u139, u140, u141, u142, u143, u144, u145, u146, u147, u148, u149, u150, u151, u152, u153, u154, u155, u156, u157, u158, u159, u160, u161, u162, u163, u164, u165, u166, u167, u168, u169, u170], []⟩ wc) :
    Code.wp Tryz.prog (blockOf Tryz.f6 0) Q ⟨#[u0, u1, u2, u3, u4, .pointer (some ⟨X, 0, none⟩), u6, u7, u8, u9, u10, .pointer (some ⟨B3, 0, none⟩), .int .i64 0, u13, u14, u15, u16, u17, u18, u19, u20, u21, u22, u23, u24, u25, u26, u27, u28, u29, u30, u31, u32, u33, u34, u35, u36, u37, u38, u39, u40, u41, u42, u43, u44, u45, u46, u47, u48, u49, u50, u51, u52, u53, u54, u55, u56, u57, u58, u59, u60, u61, u62, u63, u64, u65, u66, u67, u68, u69, u70, u71, u72, u73, u74, u75, u76, u77, u78, u79, u80, u81, u82, u83, u84, u85, u86, u87, u88, u89, u90, u91, u92, u93, u94, u95, u96, u97, u98, u99, u100, u101, u102, u103, u104, u105, u106, u107, u108, u109, u110, u111, u112, u113, u114, u115, u116, u117, u118, u119, u120, u121, u122, u123, u124, u125, u126, u127, u128, u129, u130, u131, u132, u133, u134, u135, u136, u137, u138, u139, u140, u141, u142, u143, u144, u145, u146, u147, u148, u149, u150, u151, u152, u153, u154, u155, u156, u157, u158, u159, u160, u161, u162, u163, u164, u165, u166, u167, u168, u169, u170], []⟩ w := by
  conv => arg 2; whnf
  have q1 := mod_nat x1 3
  have q2 := mod_nat x2 3
  have l1 : x1 % 3 < 3 := Nat.mod_lt _ (by omega)
  have l2 : x2 % 3 < 3 := Nat.mod_lt _ (by omega)
  generalize x1 % 3 = a at *
  generalize x2 % 3 = b at *
  simp only [Int.cast_ofNat_Int] at q1 q2
  have wx1 : IntKind.i64.wrap (x1 : Int) = x1 := IntWalk.i64_in _ (by omega)
  have wx2 : IntKind.i64.wrap (x2 : Int) = x2 := IntWalk.i64_in _ (by omega)
  have wa : IntKind.i64.wrap (a : Int) = a := IntWalk.i64_in _ (by omega)
  have wb : IntKind.i64.wrap (b : Int) = b := IntWalk.i64_in _ (by omega)
  have Hval := Lib.hid hval
  have Hstr := Lib.hid hstr
  have Hrow0 := Lib.hid hrow
  clear hval hstr hrow
  go_wp2_with fail
  go_loopw [12] (fun iv wr => ∃ i : Nat, i ≤ m ∧ iv = .int .i64 i ∧ Below g w wr ∧ g < wr.heap.size ∧ PRow wr g m us (fun j => if j < i then morePart (a : Int) (b : Int) (ps j) else ps j)) (fun i _ => m - (intOf i).toNat)
  case atStart => exact ⟨0, Nat.zero_le _, rfl, Below.refl _ _, hgz, fun j hj => by simpa using Hrow0.out j hj⟩
  case round =>
    obtain ⟨i, him, rfl, hbw, hgr, hrow⟩ := hrel
    have X1 := (hbw.cell (p := ⟨X, 1, none⟩) hXg).trans hX1
    have X2 := (hbw.cell (p := ⟨X, 2, none⟩) hXg).trans hX2
    have B1 := (hbw.cell (p := ⟨B3, 1, none⟩) hBg).trans hB
    have zX := cell_lt X1
    have zB := cell_lt B1
    by_cases hlt : i < m
    · have k1 : (i : Int) < (m : Int) := by omega
      have hpc := hrow i hlt
      simp only [Nat.lt_irrefl, if_false] at hpc
      obtain ⟨p0, p1, p2, p3, p4, p5⟩ := hpc
      have hst := Hstr.out i hlt
      have hv := Hval.out i hlt
      obtain ⟨sa, sc, hu, -⟩ := hst.shape
      rw [hu] at p0
      have Hu := Lib.hid hu
      have Hv := Lib.hid hv
      have Hrow := Lib.hid hrow
      obtain ⟨n, hn⟩ : ∃ n, (ps i).words.length = n := ⟨_, rfl⟩
      rw [hn] at p0
      have Hn := Lib.hid hn
      clear hst hv hu hrow hn
      go_wp2_with fail
      refine (refRoomy_any _ _ _ _ _ _).mono ?_
      rintro e w2 ⟨rfl, hx⟩
      obtain ⟨Bp, hBp⟩ : ∃ Bp, Bp = wr.heap.size := ⟨_, rfl⟩
      have xr2 : Ext wr w2 := Ext.of_alloc hx
      have b0 := hx.cell (p := ⟨Bp, 0, none⟩) (v := .slice sa n sc) (by rw [hBp]; simp [go_sem])
      have b1 := hx.cell (p := ⟨Bp, 1, none⟩) (v := .int .i64 (ps i).lo) (by rw [hBp]; simp [go_sem])
      have b2 := hx.cell (p := ⟨Bp, 2, none⟩) (v := .int .i64 (ps i).hi) (by rw [hBp]; simp [go_sem])
      have bf : ∀ o, w2.frozen? ⟨Bp, o, none⟩ = false := fun o => by
        rw [hx.frozen (p := ⟨Bp, o, none⟩) (by rw [hBp]; simp), hBp]; simp [go_sem]
      rw [← hBp]
      have zp := cell_lt b0
      have hBpg : g < Bp := by omega
      have hrow2 := Hrow.out.ext xr2
      have hbw2 : Below g w w2 := hbw.trans (Below.mono xr2 (by omega))
      have hg2 : g < w2.heap.size := by have := xr2.size; omega
      replace X1 := xr2.cell X1
      replace X2 := xr2.cell X2
      replace B1 := xr2.cell B1
      replace p0 := xr2.cell p0
      replace p1 := xr2.cell p1
      replace p2 := xr2.cell p2
      obtain ⟨f1, f2, f3⟩ : w2.frozen? ⟨g, i * 3, none⟩ = false ∧ w2.frozen? ⟨g, i * 3 + 1, none⟩ = false ∧ w2.frozen? ⟨g, i * 3 + 2, none⟩ = false := by
        have := hrow2 i hlt
        exact ⟨this.fa, this.fb, this.fc⟩
      have Hrow2 := Lib.hid hrow2
      have Hb := Lib.hid hbw2
      have hv := Hv.out
      have hn' := Hn.out
      have hroom : roomyM (ps i) = ((n : Int) == 0) := by 
        unfold roomyM
        rw [Hn.out]
        by_cases h0 : n = 0
        · subst h0; rfl
        · rw [beq_eq_false_iff_ne.2 h0, beq_eq_false_iff_ne.2 (by omega)]
      generalize hP : ps i = P at *
      have HP := Lib.hid hP
      have Hn' := Lib.hid hn'
      have Hroom := Lib.hid hroom
      clear hrow2 hbw2 p3 p4 p5 hx xr2 hbw hP hroom hBp hn'
      have hfin : ∀ W : World, PRow W g m us (fun j => if j < i then morePart (a : Int) (b : Int) (ps j) else ps j) → Below g w W → g < W.heap.size → ∀ lo hi, (morePart (a : Int) (b : Int) P).lo = lo → (morePart (a : Int) (b : Int) P).hi = hi →
          Below g w (setP3 W g (i * 3) (.slice sa n sc) (.int .i64 lo) (.int .i64 hi)) ∧ g < (setP3 W g (i * 3) (.slice sa n sc) (.int .i64 lo) (.int .i64 hi)).heap.size ∧ PRow (setP3 W g (i * 3) (.slice sa n sc) (.int .i64 lo) (.int .i64 hi)) g m us (fun j => if j < i + 1 then morePart (a : Int) (b : Int) (ps j) else ps j) := by
        rintro W h1 h2 h3 lo hi rfl rfl
        refine ⟨?_, ?_, ?_⟩
        · unfold setP3
          exact ((h2.setCell (p := ⟨g, _, none⟩) (Nat.le_refl _) _).setCell (p := ⟨g, _, none⟩) (Nat.le_refl _) _).setCell (p := ⟨g, _, none⟩) (Nat.le_refl _) _
        · unfold setP3
          simpa [World.setCell] using h3
        · have h4 := h1.step hlt (morePart (a : Int) (b : Int) P)
          have hu := Hu.out
          rw [Hn'.out] at hu
          rw [hu] at h4
          intro j hj
          have h5 : PCell _ g j (us j) (if j = i then morePart (a : Int) (b : Int) P else (if j < i then morePart (a : Int) (b : Int) (ps j) else ps j)) := h4 j hj
          show PCell _ g j (us j) (if j < i + 1 then morePart (a : Int) (b : Int) (ps j) else ps j)
          by_cases e : j = i
          · rw [if_pos e] at h5
            rw [if_pos (by omega), e, HP.out]
            rw [e] at h5
            exact h5
          · rw [if_neg e] at h5
            by_cases e2 : j < i
            · rw [if_pos e2] at h5
              rw [if_pos (by omega)]
              exact h5
            · rw [if_neg e2] at h5
              rw [if_neg (by omega)]
              exact h5
      have Hfin := Lib.hid hfin
      clear hfin
      cases hz : ((n : Int) == 0)
      · have hm1 : morePart (a : Int) (b : Int) P = P := by unfold morePart; rw [Hroom.out, hz]; rfl
        have Hm1 := Lib.hid hm1
        clear hm1
        go_wp2_with fail
        exact ⟨⟨i + 1, by omega, by go_num, Hfin.out w2 Hrow2.out Hb.out hg2 _ _ (by rw [Hm1.out]) (by rw [Hm1.out])⟩, by simp [intOf]; omega⟩
      · have hne : P.words = [] := List.eq_nil_of_length_eq_zero (by have := Hn'.out; simp at hz; omega)
        obtain ⟨v1, v2, v3, v4⟩ := hv.r hne
        have wl : IntKind.i64.wrap (P.lo - (a : Int)) = P.lo - a := IntWalk.i64_in _ (by omega)
        have wh : IntKind.i64.wrap (P.hi + (b : Int)) = P.hi + b := IntWalk.i64_in _ (by omega)
        have hm1 : morePart (a : Int) (b : Int) P = ⟨P.words, max 0 (P.lo - a), min 3 (P.hi + b)⟩ := by unfold morePart; rw [Hroom.out, hz]; rfl
        have Hm1 := Lib.hid hm1
        clear hm1 hne v1 v2 v3 v4
        go_wp2_with fail
        refine (span_any _ _ _).mono ?_
        rintro e w3 ⟨rfl, hx⟩
        obtain ⟨lo2, hlo⟩ : ∃ x, max 0 (P.lo - (a : Int)) = x := ⟨_, rfl⟩
        obtain ⟨hi2, hhi⟩ : ∃ x, min 3 (P.hi + (b : Int)) = x := ⟨_, rfl⟩
        rw [hlo, hhi]
        have Hlo := Lib.hid hlo
        have Hhi := Lib.hid hhi
        have hsz3 := hx.size
        have zB3 := cell_lt B1
        have hne1 : ¬ Bp = B3 := by omega
        have hne2 : ¬ Bp = g := by omega
        have hne3 : ¬ B3 = Bp := by omega
        have hne4 : ¬ g = Bp := by omega
        have bf1 := (hx.frozen (p := ⟨Bp, 1, none⟩) (cell_lt b1)).trans (bf 1)
        have bf2 := (hx.frozen (p := ⟨Bp, 2, none⟩) (cell_lt b2)).trans (bf 2)
        replace f1 := (hx.frozen (cell_lt p0)).trans f1
        replace f2 := (hx.frozen (cell_lt p1)).trans f2
        replace f3 := (hx.frozen (cell_lt p2)).trans f3
        replace B1 := hx.cell B1
        replace b0 := hx.cell b0
        replace b1 := hx.cell b1
        replace b2 := hx.cell b2
        replace p0 := hx.cell p0
        replace p1 := hx.cell p1
        replace p2 := hx.cell p2
        replace zp := cell_lt b0
        have hW : Below g w ((w3.setCell ⟨Bp, 1, none⟩ (.int .i64 lo2)).setCell ⟨Bp, 2, none⟩ (.int .i64 hi2)) := ((Hb.out.trans (Below.mono hx (by omega))).setCell (p := ⟨Bp, 1, none⟩) (by show g ≤ Bp; omega) _).setCell (p := ⟨Bp, 2, none⟩) (by show g ≤ Bp; omega) _
        have hP3 : PRow ((w3.setCell ⟨Bp, 1, none⟩ (.int .i64 lo2)).setCell ⟨Bp, 2, none⟩ (.int .i64 hi2)) g m us (fun j => if j < i then morePart (a : Int) (b : Int) (ps j) else ps j) := ((Hrow2.out.ext hx).other hne2 _).other hne2 _
        have hg3 : g < ((w3.setCell ⟨Bp, 1, none⟩ (.int .i64 lo2)).setCell ⟨Bp, 2, none⟩ (.int .i64 hi2)).heap.size := by simp [World.setCell]; omega
        have HW := Lib.hid hW
        have HP3 := Lib.hid hP3
        have Hg3 := Lib.hid hg3
        clear hlo hhi hx bf hW hP3 hg3
        go_wp2_with fail
        exact ⟨⟨i + 1, by omega, by go_num, Hfin.out _ HP3.out HW.out Hg3.out _ _ (by rw [Hm1.out]; exact Hlo.out) (by rw [Hm1.out]; exact Hhi.out)⟩, by simp [intOf]; omega⟩
    · obtain rfl : i = m := by omega
      have k1 : ¬ (i : Int) < (i : Int) := by omega
      have HQ := Lib.hid hQ
      have hpost : RoomPost w g i us (fun j => morePart (a : Int) (b : Int) (ps j)) wr := ⟨hbw, fun j hj => by
        have h5 : PCell wr g j (us j) (if j < i then morePart (a : Int) (b : Int) (ps j) else ps j) := hrow j hj
        rw [if_pos hj] at h5
        exact h5⟩
      have Hpost := Lib.hid hpost
      clear hQ hrow hpost
      go_wp2_with fail
      exact HQ.out _ _ _ _ _ _ _ _ _ _ _ _ _ _ _ _ _ _ _ _ _ _ _ _ _ _ _ _ _ _ _ _ _ _ _ _ _ _ _ _ _ wr Hpost.out
end Go.Proofs.YtcamegaimleomaaGreat

namespace Go.Proofs.YtcamegaimleomaaGreat
set_option linter.unusedSimpArgs false
set_option linter.unusedVariables false
open Go.RowKit
set_option linter.unusedVariables false

def mkS (l : List UInt8) : ByteArray := ⟨l.toArray⟩
theorem mkS_append (a b : List UInt8) : mkS a ++ mkS b = mkS (a ++ b) := by
  apply ByteArray.ext
  rw [ByteArray.data_append]
  simp [mkS]
theorem mkS_size (l : List UInt8) : (mkS l).size = l.length := by
  show l.toArray.size = _
  simp
theorem mkS_bytes (x : ByteArray) : mkS (bytesL x) = x := by
  obtain ⟨x⟩ := x
  simp [mkS, bytesL]
theorem bytes_mkS (l : List UInt8) : bytesL (mkS l) = l := by simp [mkS, bytesL]
theorem ret_str {a b : ByteArray} (h : a = b) : Ending.returned (.string a) = .returned (.string b) := by rw [h]
theorem textSt_has (width : Int) (l : List ByteArray) (k : Nat) (h0 : 0 < k) (hk : k ≤ l.length) : (textSt width (l.take k)).2.2 = true := by
  rw [textSt_some]
  simp
  refine ⟨by omega, fun h => ?_⟩
  subst h; simp at hk; omega
theorem lett_small {l : List ByteArray} (h : letterErrL l = 0) : l.length ≤ 15 ∧ ∀ s ∈ l, s.size ≤ 8 := by
  obtain ⟨h15, hw⟩ := lettErr_ok h
  exact ⟨h15, fun s hs => (word_size (hw s hs)).2⟩
end Go.Proofs.YtcamegaimleomaaGreat

namespace Go.Proofs.YtcamegaimleomaaGreat
set_option linter.unusedSimpArgs false
set_option linter.unusedVariables false
set_option linter.unusedVariables false

/-- whether a byte stands between words -/
def sepB (b : UInt8) : Bool := b == 32 || b == 10
/-- parted by what stands between words -/
def splitP : List UInt8 → List UInt8 → List (List UInt8)
  | [], cur => [cur]
  | x :: r, cur => if sepB x then cur :: splitP r [] else splitP r (cur ++ [x])
/-- the words between -/
def fieldsB : List UInt8 → Option (List UInt8) → List (List UInt8)
  | [], none => []
  | [], some c => [c]
  | x :: r, none => if sepB x then fieldsB r none else fieldsB r (some [x])
  | x :: r, some c => if sepB x then c :: fieldsB r none else fieldsB r (some (c ++ [x]))
theorem splitB_snoc (c : UInt8) : ∀ (T cur : List UInt8), splitB c (T ++ [c]) cur = splitB c T cur ++ [[]]
  | [], cur => by simp [splitB]
  | x :: T, cur => by
    rw [List.cons_append, splitB, splitB]
    split
    · rw [splitB_snoc c T []]; rfl
    · exact splitB_snoc c T _
theorem splitB_end (c : UInt8) : ∀ (T cur : List UInt8) (pre : List (List UInt8)) (cw : List UInt8) (x : UInt8), splitB c T cur = pre ++ [cw] → splitB c (T ++ [x]) cur = if x = c then pre ++ [cw] ++ [[]] else pre ++ [cw ++ [x]]
  | [], cur, pre, cw, x, h => by
    rw [splitB] at h
    have : pre = [] ∧ cur = cw := by
      cases pre with
      | nil => simpa using h
      | cons a pre => simp at h
    obtain ⟨rfl, rfl⟩ := this
    simp only [List.nil_append, splitB]
    split <;> simp
  | y :: T, cur, pre, cw, x, h => by
    rw [splitB] at h
    rw [List.cons_append, splitB]
    split
    · rename_i hy
      rw [if_pos hy] at h
      obtain ⟨p2, rfl⟩ : ∃ p2, pre = cur :: p2 := by
        cases pre with
        | nil =>
          exfalso
          have h2 := (List.cons.inj h).2
          cases T with
          | nil => simp [splitB] at h2
          | cons z T => rw [splitB] at h2; split at h2 <;> simp at h2; exact splitB_ne c T [z] h2
        | cons a pre => exact ⟨pre, by rw [(List.cons.inj h).1]⟩
      have h2 : splitB c T [] = p2 ++ [cw] := (List.cons.inj h).2
      rw [splitB_end c T [] p2 cw x h2]
      split <;> rfl
    · rename_i hy
      rw [if_neg hy] at h
      exact splitB_end c T _ pre cw x h
where splitB_ne (c : UInt8) : ∀ (T cur : List UInt8), splitB c T cur ≠ []
  | [], cur => by simp [splitB]
  | x :: T, cur => by
    rw [splitB]
    split
    · simp
    · exact splitB_ne c T _
/-- first into lines, then each line -/
theorem split_lines : ∀ (T cur : List UInt8) (pre : List (List UInt8)) (cw : List UInt8), splitB 32 cur [] = pre ++ [cw] → (splitB 10 T cur).flatMap (fun l => splitB 32 l []) = pre ++ splitP T cw
  | [], cur, pre, cw, h => by simp [splitB, splitP, h]
  | x :: T, cur, pre, cw, h => by
    rw [splitB, splitP]
    by_cases h10 : x = 10
    · subst h10
      have := split_lines T [] [] [] (by rfl)
      rw [if_pos rfl, if_pos (by decide), List.flatMap_cons, this, h, List.nil_append, List.append_assoc]
      rfl
    · rw [if_neg h10]
      have he := splitB_end 32 cur [] pre cw x h
      by_cases h32 : x = 32
      · subst h32
        rw [if_pos rfl] at he
        rw [if_pos (by decide), split_lines T (cur ++ [32]) (pre ++ [cw]) [] he, List.append_assoc]
        rfl
      · rw [if_neg h32] at he
        rw [if_neg (by simp [sepB, h32, h10]), split_lines T (cur ++ [x]) pre (cw ++ [x]) he]
/-- a word has nothing that stands between words -/
theorem word_bytes {x : ByteArray} (h : wordM x = true) : ∀ b ∈ bytesL x, 97 ≤ b.toNat ∧ b.toNat ≤ 122 := by
  intro b hb
  unfold wordM at h
  rw [Bool.and_eq_true, List.all_eq_true] at h
  obtain ⟨i, hi, rfl⟩ := List.getElem_of_mem hb
  have hi' : i < x.size := hi
  have h2 := h.2 i (List.mem_range.2 hi')
  rw [byteAt_eq x i hi'] at h2
  have h3 : inM (((x[i]'hi').toNat : Nat) : Int) 97 122 = true := h2
  unfold inM at h3
  simp at h3
  have e : ((bytesL x)[i]).toNat = (x[i]'hi').toNat := rfl
  omega
theorem word_nosep {x : ByteArray} (h : wordM x = true) : ∀ b ∈ bytesL x, sepB b = false := fun b hb => by
  have := word_bytes h b hb
  unfold sepB
  have h1 : b ≠ 32 := fun e => by subst e; simp at this
  have h2 : b ≠ 10 := fun e => by subst e; simp at this
  simp [h1, h2]
theorem splitP_word : ∀ (x r cur : List UInt8), (∀ b ∈ x, sepB b = false) → splitP (x ++ r) cur = splitP r (cur ++ x)
  | [], r, cur, _ => by simp
  | b :: x, r, cur, h => by
    rw [List.cons_append, splitP, if_neg (by rw [h b List.mem_cons_self]; decide), splitP_word x r _ fun c hc => h c (List.mem_cons_of_mem _ hc), List.append_assoc]
    rfl
theorem fieldsB_word : ∀ (x r c : List UInt8), (∀ b ∈ x, sepB b = false) → fieldsB (x ++ r) (some c) = fieldsB r (some (c ++ x))
  | [], r, c, _ => by simp
  | b :: x, r, c, h => by
    rw [List.cons_append, fieldsB, if_neg (by rw [h b List.mem_cons_self]; decide), fieldsB_word x r _ fun c hc => h c (List.mem_cons_of_mem _ hc), List.append_assoc]
    rfl
theorem fieldsB_first (x r : List UInt8) (hx : x ≠ []) (h : ∀ b ∈ x, sepB b = false) : fieldsB (x ++ r) none = fieldsB r (some x) := by
  cases x with
  | nil => exact absurd rfl hx
  | cons b x =>
    rw [List.cons_append, fieldsB, if_neg (by rw [h b List.mem_cons_self]; decide), fieldsB_word x r _ fun c hc => h c (List.mem_cons_of_mem _ hc)]
    rfl
/-- what the lines of a letter are parted into -/
theorem text_parts (width : Int) (l : List ByteArray) : (∀ s ∈ l, wordM s = true) → ∀ (y : ByteArray) (hy : wordM y = true) (r : List UInt8),
    splitP ((textSt width (l ++ [y])).1 ++ r) [] = l.map bytesL ++ splitP r (bytesL y) ∧ fieldsB ((textSt width (l ++ [y])).1 ++ r) none = l.map bytesL ++ fieldsB r (some (bytesL y)) := by
  refine snoc_ind (p := fun l => (∀ s ∈ l, wordM s = true) → ∀ (y : ByteArray) (hy : wordM y = true) (r : List UInt8), splitP ((textSt width (l ++ [y])).1 ++ r) [] = l.map bytesL ++ splitP r (bytesL y) ∧ fieldsB ((textSt width (l ++ [y])).1 ++ r) none = l.map bytesL ++ fieldsB r (some (bytesL y))) ?_ ?_ l
  · intro _ y hy r
    have hne : bytesL y ≠ [] := fun e => by
      have := (word_size hy).1
      have h2 := bytesL_len y
      rw [e] at h2; simp at h2; omega
    show splitP (bytesL y ++ r) [] = _ ∧ fieldsB (bytesL y ++ r) none = _
    exact ⟨by rw [splitP_word _ _ _ (word_nosep hy)]; simp, by rw [fieldsB_first _ _ hne (word_nosep hy)]; simp⟩
  · intro l x ih h y hy r
    have hl : ∀ s ∈ l, wordM s = true := fun s hs => h s (List.mem_append_left _ hs)
    have hx : wordM x = true := h x (by simp)
    have hne : bytesL y ≠ [] := fun e => by
      have := (word_size hy).1
      have h2 := bytesL_len y
      rw [e] at h2; simp at h2; omega
    have key : ∀ sp : UInt8, sepB sp = true → splitP ((textSt width (l ++ [x])).1 ++ [sp] ++ bytesL y ++ r) [] = (l ++ [x]).map bytesL ++ splitP r (bytesL y) ∧ fieldsB ((textSt width (l ++ [x])).1 ++ [sp] ++ bytesL y ++ r) none = (l ++ [x]).map bytesL ++ fieldsB r (some (bytesL y)) := fun sp hsp => by
      obtain ⟨i1, i2⟩ := ih hl x hx ([sp] ++ bytesL y ++ r)
      simp only [List.append_assoc] at i1 i2 ⊢
      rw [i1, i2]
      simp only [List.singleton_append, splitP, fieldsB, hsp, if_true]
      rw [splitP_word _ _ _ (word_nosep hy), fieldsB_first _ _ hne (word_nosep hy)]
      simp
    rw [textSt_snoc width (l ++ [x]) y]
    unfold lineStep
    rw [if_neg (by rw [textSt_some]; simp)]
    split
    · exact key 32 (by decide)
    · exact key 10 (by decide)
/-- the words of a text, as the reference takes them -/
def refWordsM (t : ByteArray) : List ByteArray := (splitM 10 t).dropLast.flatMap (splitM 32)
theorem splitM_mk (c : UInt8) (l : List UInt8) : splitM c (mkS l) = (splitB c l []).map mkS := rfl
theorem refWords_snoc (T : List UInt8) : refWordsM (mkS (T ++ [10])) = (splitP T []).map mkS := by
  unfold refWordsM
  rw [splitM_mk, splitB_snoc, List.map_append]
  simp only [List.map_cons, List.map_nil, List.dropLast_concat]
  have := split_lines T [] [] [] (by rfl)
  rw [List.nil_append] at this
  rw [← this, List.flatMap_map, List.map_flatMap]
  rfl
theorem map_mkS (l : List ByteArray) : (l.map bytesL).map mkS = l := by
  rw [List.map_map]
  have : (mkS ∘ bytesL) = id := by funext x; exact mkS_bytes x
  rw [this, List.map_id]
/-- written and parted: the letter -/
theorem refWords_text (width : Int) (l : List ByteArray) (h : ∀ s ∈ l, wordM s = true) : refWordsM (mkS (textM width l)) = l := by
  rcases List.eq_nil_or_concat l with rfl | ⟨l, y, rfl⟩
  · rfl
  · rw [List.concat_eq_append] at *
    have h1 : ∀ s ∈ l, wordM s = true := fun s hs => h s (List.mem_append_left _ hs)
    have hy : wordM y = true := h y (by simp)
    obtain ⟨i1, -⟩ := text_parts width l h1 y hy []
    unfold textM
    rw [if_neg (by simp), refWords_snoc]
    rw [List.append_nil] at i1
    rw [i1, splitP, List.map_append, map_mkS]
    simp [mkS_bytes]
/-! ### the fields of a text -/
theorem spans_fields (T : List UInt8) (ha : ∀ b ∈ T, b.toNat < 128) : ∀ (f pos : Nat) (st : Option Nat) (acc : List (Nat × Nat)), T.length - pos ≤ f → pos ≤ T.length → (∀ a, st = some a → a ≤ pos) →
    (Lib.closeSpans (mkS T) (Lib.spansFromP betweenP (mkS T) f pos st acc)).map (fun x => (mkS T).extract x.1 x.2) = acc.map (fun x => (mkS T).extract x.1 x.2) ++ (fieldsB (T.drop pos) (st.map fun a => (T.drop a).take (pos - a))).map mkS := by
  have hext : ∀ a b, (mkS T).extract a b = mkS ((T.drop a).take (b - a)) := fun a b => extract_part (mkS T) a b
  have hend : ∀ (st : Option Nat) (acc : List (Nat × Nat)), (∀ a, st = some a → a ≤ T.length) → (Lib.closeSpans (mkS T) (acc, st)).map (fun x => (mkS T).extract x.1 x.2) = acc.map (fun x => (mkS T).extract x.1 x.2) ++ (fieldsB [] (st.map fun a => (T.drop a).take (T.length - a))).map mkS := fun st acc hst => by
    cases st with
    | none => simp [Lib.closeSpans, fieldsB]
    | some a => simp [Lib.closeSpans, fieldsB, hext, mkS_size]
  intro f
  induction f with
  | zero =>
    intro pos st acc hf hpos hst
    obtain rfl : pos = T.length := by omega
    rw [Lib.spansFromP, List.drop_length]
    exact hend st acc hst
  | succ f ih =>
    intro pos st acc hf hpos hst
    by_cases hlt : pos < T.length
    · have hlt' : pos < (mkS T).size := by rw [mkS_size]; exact hlt
      have hb : ((mkS T)[pos]'hlt').toNat < 128 := ha _ (by show T[pos] ∈ T; exact List.getElem_mem hlt)
      have hd := decode_ascii (mkS T) pos hlt' hb
      have hg : (mkS T)[pos]'hlt' = T[pos] := rfl
      rw [hg] at hd
      unfold Lib.spansFromP
      rw [if_pos hlt', hd]
      have hbt : betweenP T[pos].toNat = sepB T[pos] := by
        unfold betweenP sepB
        have h1 : (T[pos].toNat == 32) = (T[pos] == 32) := by
          rw [Bool.eq_iff_iff]; simp [← UInt8.toNat_inj]
        have h2 : (T[pos].toNat == 10) = (T[pos] == 10) := by
          rw [Bool.eq_iff_iff]; simp [← UInt8.toNat_inj]
        rw [h1, h2]
      have hdrop : T.drop pos = T[pos] :: T.drop (pos + 1) := List.drop_eq_getElem_cons hlt
      have h1 : (T.drop pos).take (pos + 1 - pos) = [T[pos]] := by
        rw [show pos + 1 - pos = 1 from by omega, hdrop]; rfl
      have h2 : ∀ a, a ≤ pos → (T.drop a).take (pos + 1 - a) = (T.drop a).take (pos - a) ++ [T[pos]] := fun a hap => by
        rw [show pos + 1 - a = (pos - a) + 1 from by omega, List.take_succ_eq_append_getElem (by rw [List.length_drop]; omega), List.getElem_drop]
        simp only [show a + (pos - a) = pos from by omega]
        rfl
      simp only [hbt]
      rw [hdrop]
      clear hbt hd hg hb hdrop
      generalize T[pos] = c at *
      cases hs : sepB c
      · cases st with
        | none =>
          simp only [Bool.false_eq_true, if_false]
          rw [ih (pos + 1) (some pos) acc (by omega) (by omega) (fun a e => by cases e; omega)]
          simp only [Option.map_none, Option.map_some, fieldsB, hs, Bool.false_eq_true, if_false, h1]
        | some a =>
          have hap := hst a rfl
          simp only [Bool.false_eq_true, if_false]
          rw [ih (pos + 1) (some a) acc (by omega) (by omega) (fun b e => by cases e; omega)]
          simp only [Option.map_some, fieldsB, hs, Bool.false_eq_true, if_false, h2 a hap]
      · cases st with
        | none =>
          simp only [if_true]
          rw [ih (pos + 1) none acc (by omega) (by omega) (fun a e => by cases e)]
          simp only [Option.map_none, fieldsB, hs, if_true]
        | some a =>
          simp only [if_true]
          rw [ih (pos + 1) none (acc ++ [(a, pos)]) (by omega) (by omega) (fun a e => by cases e)]
          simp only [Option.map_none, Option.map_some, fieldsB, hs, if_true, List.map_append, List.map_cons, List.map_nil, hext, List.append_assoc]
          rfl
    · obtain rfl : pos = T.length := by omega
      rw [Lib.spansFromP_end _ _ _ _ _ _ (by rw [mkS_size]; omega), List.drop_length]
      exact hend st acc hst
theorem fields_mk (T : List UInt8) (ha : ∀ b ∈ T, b.toNat < 128) : fieldsM (mkS T) = (fieldsB T none).map mkS := by
  have := spans_fields T ha (mkS T).size 0 none [] (by rw [mkS_size]; omega) (Nat.zero_le _) (fun a e => by cases e)
  unfold fieldsM Lib.goFieldsP Lib.spansOfP
  rw [this]
  simp
theorem text_ascii (width : Int) (l : List ByteArray) : (∀ s ∈ l, wordM s = true) → ∀ b ∈ (textSt width l).1, b.toNat < 128 := by
  refine snoc_ind (p := fun l => (∀ s ∈ l, wordM s = true) → ∀ b ∈ (textSt width l).1, b.toNat < 128) (by simp [textSt_nil]) (fun l x ih h => ?_) l
  have i := ih fun s hs => h s (List.mem_append_left _ hs)
  have hx := word_bytes (h x (by simp))
  rw [textSt_snoc]
  unfold lineStep
  intro b hb
  split at hb
  · have := hx b hb; omega
  · split at hb
    all_goals
      simp only [List.mem_append, List.mem_singleton] at hb
      rcases hb with (hb | hb) | hb
      · exact i b hb
      · subst hb; decide
      · have := hx b hb; omega
theorem fields_text (width : Int) (l : List ByteArray) (h : ∀ s ∈ l, wordM s = true) : fieldsM (mkS (textM width l)) = l := by
  rcases List.eq_nil_or_concat l with rfl | ⟨l, y, rfl⟩
  · rfl
  · rw [List.concat_eq_append] at *
    have h1 : ∀ s ∈ l, wordM s = true := fun s hs => h s (List.mem_append_left _ hs)
    have hy : wordM y = true := h y (by simp)
    obtain ⟨-, i2⟩ := text_parts width l h1 y hy [10]
    have hasc : ∀ b ∈ textM width (l ++ [y]), b.toNat < 128 := by
      unfold textM
      rw [if_neg (by simp)]
      intro b hb
      rcases List.mem_append.1 hb with hb | hb
      · exact text_ascii width (l ++ [y]) h b hb
      · rw [List.mem_singleton] at hb; subst hb; decide
    rw [fields_mk _ hasc]
    unfold textM
    rw [if_neg (by simp), i2]
    simp only [fieldsB, sepB, List.map_append]
    rw [map_mkS]
    simp [mkS_bytes]
/-- the letter that a text is of, as the reference takes it -/
def refReadM (s : Shelf) (t : ByteArray) : List ByteArray × Int :=
  if errS s ≠ 0 then ([], errS s) else if 160 < t.size then ([], 3) else if letterErrL (refWordsM t) ≠ 0 ∨ mkS (textM s.width (refWordsM t)) ≠ t then ([], 6) else (refWordsM t, 0)
theorem read_same (s : Shelf) (t : ByteArray) : refReadM s t = readM s t := by
  unfold refReadM readM
  have he : shelfErrM s [] = errS s := by
    unfold shelfErrM
    by_cases h : errS s = 0
    · rw [if_neg (by simpa using h), h]; rfl
    · rw [if_pos h]
  rw [he]
  by_cases h0 : errS s = 0
  · have hne : ¬ (errS s ≠ 0) := by simpa using h0
    rw [if_neg hne, if_neg hne]
    by_cases h1 : 160 < t.size
    · rw [if_pos h1, if_pos h1]
    · rw [if_neg h1, if_neg h1]
      have hmk : ∀ l : List ByteArray, (textM s.width l = bytesL t) ↔ mkS (textM s.width l) = t := fun l => ⟨fun h => by rw [h, mkS_bytes], fun h => by rw [← h, bytes_mkS]⟩
      by_cases hp : letterErrL (fieldsM t) = 0 ∧ textM s.width (fieldsM t) = bytesL t
      · have hw := (lettErr_ok hp.1).2
        have ht := (hmk _).1 hp.2
        have hr : refWordsM t = fieldsM t := by
          have := refWords_text s.width (fieldsM t) hw
          rw [ht] at this
          exact this
        have hne2 : ¬ (letterErrL (fieldsM t) ≠ 0) := by simpa using hp.1
        have hne3 : ¬ (letterErrL (fieldsM t) ≠ 0 ∨ mkS (textM s.width (fieldsM t)) ≠ t) := by
          rintro (h | h)
          · exact h hp.1
          · exact h ht
        rw [hr, if_neg hne3, if_neg hne2, if_pos hp.2]
      · have hq : ¬ (letterErrL (refWordsM t) = 0 ∧ mkS (textM s.width (refWordsM t)) = t) := fun hq => by
          have hw := (lettErr_ok hq.1).2
          have hf : fieldsM t = refWordsM t := by
            have := fields_text s.width (refWordsM t) hw
            rw [hq.2] at this
            exact this
          exact hp ⟨by rw [hf]; exact hq.1, (hmk _).2 (by rw [hf]; exact hq.2)⟩
        rw [if_pos]
        · by_cases h2 : letterErrL (fieldsM t) = 0
          · rw [if_neg (by simpa using h2), if_neg (fun h => hp ⟨h2, h⟩)]
          · rw [if_pos h2]
        · by_cases h2 : letterErrL (refWordsM t) = 0
          · exact .inr fun h => hq ⟨h2, h⟩
          · exact .inl h2
  · rw [if_pos h0, if_pos h0]
end Go.Proofs.YtcamegaimleomaaGreat

namespace Go.Proofs.YtcamegaimleomaaGreat
set_option linter.unusedSimpArgs false
set_option linter.unusedVariables false
open Go.RowKit
set_option linter.unusedVariables false

theorem splitB_len (c : UInt8) : ∀ (l cur : List UInt8), (splitB c l cur).length ≤ l.length + 1
  | [], cur => by simp [splitB]
  | x :: r, cur => by
    rw [splitB]
    split
    · have := splitB_len c r []
      simp; omega
    · have := splitB_len c r (cur ++ [x])
      simp; omega
theorem splitM_len (c : UInt8) (s : ByteArray) : (splitM c s).length ≤ s.size + 1 := by
  unfold splitM
  rw [List.length_map]
  exact splitB_len c _ _
theorem splitM_ne (c : UInt8) (s : ByteArray) : 0 < (splitM c s).length := by
  unfold splitM
  rw [List.length_map]
  exact List.length_pos_iff.2 (splitB_end.splitB_ne c _ _)
end Go.Proofs.YtcamegaimleomaaGreat

namespace Go.Proofs.YtcamegaimleomaaGreat
set_option linter.unusedSimpArgs false
set_option linter.unusedVariables false
open Go.RowKit
set_option linter.unusedVariables false

/-- a shelf in a box -/
theorem box_shelf {w : World} {fa : Option Addr} {fc : Nat} {s : Shelf} (hb : ShelfAt w (.agg #[.int .i64 s.width, .slice fa s.forms.length fc]) s) :
    ∃ W, W = w.alloc (.cells #[.int .i64 s.width, .slice fa s.forms.length fc] 24) ∧ ShelfAt W (.agg #[.int .i64 s.width, .slice fa s.forms.length fc]) s ∧ W.cell? ⟨w.heap.size, 0, none⟩ = some (.int .i64 s.width) ∧ W.cell? ⟨w.heap.size, 1, none⟩ = some (.slice fa s.forms.length fc) ∧ Ext w W :=
  ⟨_, rfl, hb.ext (ext_alloc _ _), by simp [go_sem], by simp [go_sem], ext_alloc _ _⟩
end Go.Proofs.YtcamegaimleomaaGreat

namespace Go.Proofs.YtcamegaimleomaaGreat
set_option linter.unusedSimpArgs false
set_option linter.unusedVariables false
open Go.RowKit
set_option linter.unusedVariables false

theorem neT {x : Int} (h : x ≠ 0) : (x != 0) = true := by simpa using h
/-- the first that needs the fewest -/
theorem pick_first (fs : List Form) (l : List ByteArray) : ∀ n, 0 < n → (pickC (needsTo fs l n)).1 < n ∧ (pickC (needsTo fs l n)).2 = costOf fs l (pickC (needsTo fs l n)).1 ∧ (∀ i < n, (pickC (needsTo fs l n)).2 ≤ costOf fs l i) ∧ (∀ i < (pickC (needsTo fs l n)).1, (pickC (needsTo fs l n)).2 < costOf fs l i)
  | 0, h => absurd h (by omega)
  | n + 1, _ => by
    have hst : pickC (needsTo fs l (n + 1)) = if n = 0 ∨ fewCh (n, costOf fs l n) (pickC (needsTo fs l n)) = true then (n, costOf fs l n) else pickC (needsTo fs l n) := by
      rw [needsTo_step]
      unfold pickC
      rw [pickB_snoc, pickB_many, needsTo_len]
    by_cases h0 : n = 0
    · subst h0
      rw [if_pos (.inl rfl)] at hst
      rw [hst]
      refine ⟨by simp, rfl, fun i hi => ?_, fun i hi => absurd hi (by simp)⟩
      obtain rfl : i = 0 := by omega
      exact Nat.le_refl _
    · obtain ⟨g1, g2, g3, g4⟩ := pick_first fs l n (by omega)
      by_cases hf : fewCh (n, costOf fs l n) (pickC (needsTo fs l n)) = true
      · rw [if_pos (.inr hf)] at hst
        rw [hst]
        unfold fewCh at hf
        have hf' := of_decide_eq_true hf
        simp only at hf' ⊢
        refine ⟨by omega, trivial, fun i hi => ?_, fun i hi => ?_⟩
        · by_cases hin : i = n
          · subst hin; exact Nat.le_refl _
          · have := g3 i (by omega); omega
        · have := g3 i (by omega); omega
      · rw [if_neg (by simp [h0, hf])] at hst
        rw [hst]
        unfold fewCh at hf
        have hf' := of_decide_eq_false (Bool.eq_false_iff.2 hf)
        simp only at hf'
        refine ⟨by omega, g2, fun i hi => ?_, g4⟩
        by_cases hin : i = n
        · subst hin; omega
        · exact g3 i (by omega)
theorem ofTo_mem (fs : List Form) (l : List ByteArray) : ∀ (k i : Nat), ((i : Int) ∈ ofTo fs l k ↔ i < k ∧ 0 < (formWays (fs.getD i ⟨⟨#[]⟩, []⟩).parts l).length)
  | 0, i => by simp [ofTo]
  | k + 1, i => by
    rw [ofTo, List.mem_append, ofTo_mem fs l k i]
    by_cases h : 0 < (formWays (fs.getD k ⟨⟨#[]⟩, []⟩).parts l).length
    · rw [if_pos h]
      constructor
      · rintro (⟨h1, h2⟩ | h1)
        · exact ⟨by omega, h2⟩
        · have : (i : Int) = k := by simpa using h1
          obtain rfl : i = k := by omega
          exact ⟨by omega, h⟩
      · rintro ⟨h1, h2⟩
        by_cases hik : i = k
        · right; simp [hik]
        · left; exact ⟨by omega, h2⟩
    · rw [if_neg h]
      constructor
      · rintro (⟨h1, h2⟩ | h1)
        · exact ⟨by omega, h2⟩
        · simp at h1
      · rintro ⟨h1, h2⟩
        by_cases hik : i = k
        · subst hik; exact absurd h2 h
        · left; exact ⟨by omega, h2⟩
theorem rising_snoc (b x : Int) : ∀ (l : List Int) (a : Int), (∀ y ∈ l, y < x) → a < x → x < b → risingM b a l = true → risingM b a (l ++ [x]) = true
  | [], a, _, ha, hx, _ => by simp [risingM, ha, hx]
  | y :: l, a, hl, ha, hx, h => by
    rw [risingM, Bool.and_eq_true, Bool.and_eq_true] at h
    rw [List.cons_append, risingM, Bool.and_eq_true, Bool.and_eq_true]
    exact ⟨h.1, rising_snoc b x l y (fun z hz => hl z (List.mem_cons_of_mem _ hz)) (hl y List.mem_cons_self) hx h.2⟩
theorem ofTo_lt (fs : List Form) (l : List ByteArray) : ∀ (k : Nat), ∀ x ∈ ofTo fs l k, x < (k : Int)
  | 0, x, h => by simp [ofTo] at h
  | k + 1, x, h => by
    rw [ofTo, List.mem_append] at h
    rcases h with h | h
    · have := ofTo_lt fs l k x h; omega
    · split at h
      · have : x = k := by simpa using h
        omega
      · simp at h
theorem ofTo_rising (fs : List Form) (l : List ByteArray) (b : Nat) : ∀ k, k ≤ b → risingM b (-1) (ofTo fs l k) = true
  | 0, _ => rfl
  | k + 1, hk => by
    rw [ofTo]
    have ih := ofTo_rising fs l b k (by omega)
    split
    · exact rising_snoc _ _ _ _ (ofTo_lt fs l k) (by omega) (by omega) ih
    · rwa [List.append_nil]
theorem valid_partOk {p : Part} (h : ValidPart p) : PartOk p := by
  by_cases hw : p.words = []
  · exact .inl hw
  · exact .inr (h.z hw).2
/-- no corrections are needed just if the letter is of the form -/
theorem cost_of {s : Shelf} (hv : ValidShelf s) (l : List ByteArray) (i : Nat) (hi : i < s.forms.length) : decide ((i : Int) ∈ ofM s l) = ((costOf s.forms l i : Int) == 0) := by
  have h1 := ofTo_mem s.forms l s.forms.length i
  have h2 := cost_none (fun p hp => valid_partOk ((hv.forms _ (List.getElem_mem hi)).parts p hp)) l
  have e1 : s.forms.getD i ⟨⟨#[]⟩, []⟩ = s.forms[i] := by rw [List.getD_eq_getElem?_getD, List.getElem?_eq_getElem hi]; rfl
  rw [e1] at h1
  have e2 : costOf s.forms l i = (costM l (formSlotsM s.forms[i].parts)).2 := by simp [costOf, hi]
  rw [e2]
  unfold ofM
  by_cases h : (costM l (formSlotsM s.forms[i].parts)).2 = 0
  · rw [h]
    rw [decide_eq_true (h1.2 ⟨hi, Nat.pos_of_ne_zero (h2.1 h)⟩)]; rfl
  · rw [decide_eq_false (fun e => h (h2.2 (by have := (h1.1 e).2; omega)))]
    symm; simpa using h
theorem mend_cost {s : Shelf} {l : List ByteArray} (hv : errS s = 0) (hl : letterErrL l = 0) (i : Nat) (hi : i < s.forms.length) : openForErrM s i l = 0 ∧ mendM s i l = costOf s.forms l i := by
  have h1 : openErrM s i = 0 := by
    unfold openErrM
    rw [if_neg (by rw [hv]; simp), if_neg]
    unfold inM
    simp only [Bool.and_eq_false_iff, decide_eq_false_iff_not, not_or, Decidable.not_not]
    omega
  have h2 : openForErrM s i l = 0 := by unfold openForErrM; rw [if_neg (by rw [h1]; simp), hl]
  refine ⟨h2, ?_⟩
  unfold mendM
  rw [if_pos h2]
  simp [costOf, hi]
/-- Nearest, where it is right -/
structure NearOk (s : Shelf) (l : List ByteArray) : Prop where
  e : nearErrM s l = 0
  lt : (nearV s l).1 < s.forms.length
  is : costOf s.forms l (nearV s l).1 = (nearV s l).2
  le : ∀ i < s.forms.length, (nearV s l).2 ≤ costOf s.forms l i
  fst : ∀ i < (nearV s l).1, (nearV s l).2 < costOf s.forms l i
theorem near_ok {s : Shelf} {l : List ByteArray} (hv : errS s = 0) (h0 : s.forms.length ≠ 0) (hl : letterErrL l = 0) : NearOk s l := by
  have he : nearErrM s l = 0 := by
    unfold nearErrM
    have : shelfErrM s l = 0 := by unfold shelfErrM; rw [if_neg (by rw [hv]; simp), hl]
    rw [if_neg (by rw [this]; simp), if_neg h0]
  have hn : nearV s l = pickC (needsTo s.forms l s.forms.length) := by unfold nearV; rw [if_pos he]; rfl
  obtain ⟨g1, g2, g3, g4⟩ := pick_first s.forms l s.forms.length (by omega)
  rw [← hn] at g1 g2 g3 g4
  exact ⟨he, g1, g2.symm, g3, g4⟩
theorem near_bad {s : Shelf} {l : List ByteArray} (h : errS s ≠ 0 ∨ s.forms.length = 0 ∨ letterErrL l ≠ 0) : nearErrM s l ≠ 0 ∧ nearV s l = (0, 0) := by
  have he : nearErrM s l ≠ 0 := by
    unfold nearErrM
    by_cases h0 : shelfErrM s l = 0
    · rw [if_neg (by rw [h0]; simp), if_pos]
      · decide
      · unfold shelfErrM at h0
        by_cases h1 : errS s = 0
        · rw [if_neg (by rw [h1]; simp)] at h0
          rcases h with h | h | h
          · exact absurd h1 h
          · exact h
          · exact absurd h0 h
        · rw [if_pos h1] at h0; exact absurd h0 h1
    · rw [if_pos h0]; exact h0
  exact ⟨he, by unfold nearV; rw [if_neg he]⟩
end Go.Proofs.YtcamegaimleomaaGreat

namespace Go.Proofs.YtcamegaimleomaaGreat
set_option linter.unusedSimpArgs false
set_option linter.unusedVariables false
open Go.RowKit
set_option linter.unusedVariables false

def spanR (w : World) (b o : Nat) (p : Part) : Prop := w.cell? ⟨b, o, none⟩ = some (.int .i64 p.lo) ∧ w.cell? ⟨b, o + 1, none⟩ = some (.int .i64 p.hi) ∧ I64 p.lo ∧ I64 p.hi
theorem spanR.keeps : Keeps spanR := fun _ _ _ _ _ hx h => ⟨hx.cell h.1, hx.cell h.2.1, h.2.2⟩
/-- the rooms of these parts -/
abbrev SpansAt : World → Value → List Part → Prop := SliceAt 2 spanR
theorem SpansAt.ext {w w' : World} {v : Value} {l : List Part} (h : SpansAt w v l) (hx : Ext w w') : SpansAt w' v l := SliceAt.ext spanR.keeps h hx
def cellsU (l : List Part) : List Value := l.flatMap fun s => [.int .i64 s.lo, .int .i64 s.hi]
theorem cellsU_len (l : List Part) : (cellsU l).length = l.length * 2 := by
  induction l with
  | nil => rfl
  | cons x l ih => simp only [cellsU, List.flatMap_cons, List.length_append, List.length_cons, List.length_nil] at *; omega
theorem cellsU_get (l : List Part) (i : Nat) (h : i < l.length) : (cellsU l)[i * 2]? = some (.int .i64 l[i].lo) ∧ (cellsU l)[i * 2 + 1]? = some (.int .i64 l[i].hi) := by
  induction l generalizing i with
  | nil => simp at h
  | cons x l ih =>
    cases i with
    | zero => simp [cellsU]
    | succ i =>
      have := ih i (by simpa using h)
      have e : (i + 1) * 2 = i * 2 + 2 := by omega
      rw [e]
      simpa [cellsU] using this
theorem cellsU_app (l r : List Part) : cellsU (l ++ r) = cellsU l ++ cellsU r := by simp [cellsU]
def RowU (base : Nat) (l : List Part) (u : Value) (w : World) : Prop := w.ownsRow base 57 2 u l.length (cellsU l)
theorem RowU.ext {base : Nat} {l : List Part} {u : Value} {w w' : World} (h : RowU base l u w) (hx : Ext w w') : RowU base l u w' := Ext.owns h hx
theorem RowU.nil {base : Nat} {w : World} : RowU base [] (.slice none 0 0) w := World.ownsRow_nil _ _ _ _
theorem RowU.at_ {base : Nat} {l : List Part} {u : Value} {w : World} (h : RowU base l u w) (hI : ∀ s ∈ l, I64 s.lo ∧ I64 s.hi) : SpansAt w u l := by
  have hcells := fun g hg => h.cells (g := g) hg
  rcases h.2 with ⟨rfl, hn⟩ | ⟨g, cap, cur, rfl, hb, hg, hnc, hcm, hcs, htake⟩
  · have : l = [] := List.eq_nil_of_length_eq_zero hn
    subst this; exact SliceAt.nil
  · refine ⟨_, _, rfl, hnc, by simpa [maxLen] using hcm, fun i hi => ⟨g, 0, rfl, ?_⟩⟩
    obtain ⟨c0, c1⟩ := cellsU_get l i hi
    have r0 := hcells g rfl _ _ c0
    have r1 := hcells g rfl _ _ c1
    have ea : ∀ j, (⟨g, 0, none⟩ : Addr).add j = ⟨g, 0 + j, none⟩ := fun j => by unfold Addr.add; split <;> simp_all
    rw [ea] at r0 r1
    exact ⟨r0, r1, hI _ (List.getElem_mem hi)⟩
theorem infoSpan : (Tryz.prog.info? 57).map (fun i => (i.zero, i.size, i.bytes)) = some (some (.agg #[.int .i64 0, .int .i64 0]), 2, 16) := by kernel_rfl
theorem cell_two_span (w : World) (a b : Value) (t : TypeId) : ∀ j u, [a, b][j]? = some u → (w.alloc (.cells #[a, b] t)).cell? ((⟨w.heap.size, 0, none⟩ : Addr).add j) = some u := by
  intro j u hj
  match j, hj with
  | 0, hj => simp at hj; subst hj; simp [go_sem, Addr.add]
  | 1, hj => simp at hj; subst hj; simp [go_sem, Addr.add]
set_option maxRecDepth 100000 in
set_option maxHeartbeats 2000000 in
theorem refRooms_any (v : Value) (f : Form) (h5 : f.parts.length ≤ 5) (w : World) (hv : FormV w v f) :
    Calls Tryz.prog 86 #[v] w fun e w' => ∃ u, e = .returned u ∧ SpansAt w' u (roomsM f.parts) ∧ Ext w w' := by
  obtain ⟨pv, rfl, hns, hp⟩ := hv
  obtain ⟨pa, pc, rfl, hpc, hpm⟩ := hp.shape
  obtain ⟨i0, hi, hz0, hz1, hz2⟩ := info_parts infoSpan
  have q1 : (w.alloc (.cells #[.string f.name, .slice pa f.parts.length pc] 55)).cell? ⟨w.heap.size, 1, none⟩ = some (.slice pa f.parts.length pc) := by simp [go_sem]
  obtain ⟨W, hW⟩ : ∃ W, W = w.alloc (.cells #[.string f.name, .slice pa f.parts.length pc] 55) := ⟨_, rfl⟩
  have xW : Ext w W := by rw [hW]; exact ext_alloc _ _
  have zW : W.heap.size = w.heap.size + 1 := by rw [hW]; simp
  rw [← hW] at q1
  have HW := Lib.hid hW
  have hpW := hp.ext xW
  clear hW
  go_enter Tryz.func86, Tryz.ntmps86
  go_wp2_with fail
  rw [← HW.out]
  clear HW
  go_loopw [3, 4] (fun u i wr => ∃ k : Nat, k ≤ f.parts.length ∧ i = .int .i64 k ∧ Ext W wr ∧ RowU W.heap.size (roomsM (f.parts.take k)) u wr) (fun _ i _ => f.parts.length - (intOf i).toNat)
  case atStart => exact ⟨0, Nat.zero_le _, rfl, Ext.refl _, RowU.nil⟩
  case round =>
    obtain ⟨k, hk, rfl, hxr, hown⟩ := hrel
    have r1 := hxr.cell q1
    have zr := cell_lt r1
    have hszr := hxr.size
    by_cases hlt : k < f.parts.length
    · have k1 : (k : Int) < (f.parts.length : Int) := by omega
      obtain ⟨b, o, rfl, ⟨u, p0, hs⟩, p1, p2, i1, i2⟩ := (hpW.ext hxr).get hlt
      obtain ⟨ua, uc, rfl, -⟩ := hs.shape
      have hno := rooms_no f.parts k hlt
      have hyes := rooms_yes f.parts k hlt
      have hlen : (roomsM (f.parts.take k)).length ≤ 5 := by
        have h1 : (roomsM (f.parts.take k)).length ≤ (f.parts.take k).length := List.length_filter_le _ _
        rw [List.length_take] at h1
        omega
      generalize f.parts[k] = p at *
      generalize roomsM (f.parts.take k) = R at *
      cases hr : roomyM p
      · have e0 : ((p.words.length : Int) == 0) = false := by
          unfold roomyM at hr
          simp at hr ⊢
          exact hr
        have Hst := Lib.hid (hno hr)
        clear hno hyes hr
        go_wp2_with fail
        refine (refRoomy_any ua p.words.length uc p.lo p.hi _).mono ?_
        rintro e w2 ⟨rfl, hx2⟩
        rw [e0]
        have own2 := RowU.ext hown hx2
        have x2 := hxr.trans hx2
        clear hown e0
        go_wp2
        go_roundw
        case rel => exact ⟨k + 1, by omega, by go_num, x2, by rw [Hst.out]; exact own2⟩
        case measure => simp [intOf]; omega
      · have e0 : ((p.words.length : Int) == 0) = true := by
          unfold roomyM at hr
          simp at hr ⊢
          exact hr
        have Hst := Lib.hid (hyes hr)
        clear hno hyes hr
        go_wp2_with fail
        refine (refRoomy_any ua p.words.length uc p.lo p.hi _).mono ?_
        rintro e w2 ⟨rfl, hx2⟩
        rw [e0]
        have own2 := RowU.ext hown hx2
        have x2 := hxr.trans hx2
        have r2 := hx2.cell r1
        have z2 := cell_lt r2
        replace p1 := hx2.cell p1
        replace p2 := hx2.cell p2
        replace p0 := hx2.cell p0
        have hsz2 := hx2.size
        have own3 : (w2.alloc (.cells #[.int .i64 p.lo, .int .i64 p.hi] 57)).ownsRow W.heap.size 57 2 u3 R.length (cellsU R) := RowU.ext own2 (ext_alloc _ _)
        have hownlt := fun k hk => (World.ownsRow.lt own3 k hk).1
        clear hown e0 own2
        go_wp2_with ((at_builtin; go_loud (refine wpList_append_own _ rfl _ _ 153 rfl W.heap.size 57 i0 (.agg #[.int .i64 0, .int .i64 0]) 2 16 Tryz.underlying153 hi hz0 hz1 hz2 rfl (by decide) _ _ _ rfl own3 ⟨w2.heap.size, 0, none⟩ 1 1 [.int .i64 p.lo, .int .i64 p.hi] rfl rfl (cell_two_span _ _ _ _) (by simp [Value.oneCell']) (by unfold maxLen; omega) (by omega) (by simp; omega) ?_; intro v' w4 hown' hgrow _)))
        have hx4 : Ext W w4 := Ext.grown (x2.alloc _) hgrow hownlt
        go_roundw
        case rel => exact ⟨k + 1, by omega, by go_num, hx4, by rw [Hst.out]; unfold RowU; rw [cellsU_app, List.length_append]; exact hown'⟩
        case measure => simp [intOf]; omega
    · obtain rfl : k = f.parts.length := by omega
      rw [List.take_length] at hown
      have hat := RowU.at_ hown (fun p hp => by
        obtain ⟨i, hi', rfl⟩ := List.getElem_of_mem (List.mem_filter.1 hp).1
        obtain ⟨_, _, -, -, -, -, i1, i2⟩ := hpW.get hi'
        exact ⟨i1, i2⟩)
      obtain ⟨oa, oc, rfl, -⟩ := hat.shape
      clear hown
      go_wp2
      go_ret
      exact ⟨_, rfl, hat, xW.trans hxr⟩
/-- what is left of the fills behind the first k parts -/
theorem built_left (ps : List Part) (fs : List (List ByteArray)) : ∀ k, k ≤ ps.length → (builtTo ps fs k).2 = fs.drop (roomsM (ps.take k)).length
  | 0, _ => rfl
  | k + 1, hk => by
    have ih := built_left ps fs k (by omega)
    have hc := rooms_count ps k (by omega)
    have hg : ps.getD k ⟨[], 0, 0⟩ = ps[k] := by simp [show k < ps.length from by omega]
    rw [builtTo, stepB, hg, hc]
    cases roomyM ps[k]
    · simp [ih]
    · simp only [if_true]
      rw [ih, List.tail_drop]
set_option maxRecDepth 100000 in
set_option maxHeartbeats 2000000 in
theorem refBuilt_any (fv v : Value) (f : Form) (fs : List (List ByteArray)) (h5 : f.parts.length ≤ 5) (h3 : ∀ p ∈ f.parts, p.words.length ≤ 15) (hf3 : ∀ l ∈ fs, l.length ≤ 15) (hn : (roomsM f.parts).length = fs.length) (w : World) (hf : FormV w fv f) (hfs : FillsAt w v fs) :
    Calls Tryz.prog 143 #[fv, v] w fun e w' => ∃ u, e = .returned u ∧ StrsAt w' u (builtM f.parts fs) ∧ RowW w.heap.size (builtM f.parts fs) u w' ∧ Ext w w' := by
  obtain ⟨pv, rfl, hns, hp⟩ := hf
  obtain ⟨pa, pc, rfl, hpc, hpm⟩ := hp.shape
  obtain ⟨fa, fc, rfl, hfc, hfm⟩ := hfs.shape
  obtain ⟨i0, hi, hz0, hz1, hz2⟩ := info_parts infoString
  have q1 : (w.alloc (.cells #[.string f.name, .slice pa f.parts.length pc] 55)).cell? ⟨w.heap.size, 1, none⟩ = some (.slice pa f.parts.length pc) := by simp [go_sem]
  obtain ⟨W, hW⟩ : ∃ W, W = w.alloc (.cells #[.string f.name, .slice pa f.parts.length pc] 55) := ⟨_, rfl⟩
  have xW : Ext w W := by rw [hW]; exact ext_alloc _ _
  have zW : W.heap.size = w.heap.size + 1 := by rw [hW]; simp
  rw [← hW] at q1
  have HW := Lib.hid hW
  have hpW := hp.ext xW
  have hfW := hfs.ext xW
  clear hW
  have H3 := Lib.hid h3
  have Hf3 := Lib.hid hf3
  have Hn := Lib.hid hn
  clear h3 hf3 hn
  go_enter Tryz.func143, Tryz.ntmps143
  go_wp2_with fail
  rw [← HW.out]
  clear HW
  go_loopw [5, 6, 7] (fun u nv i wr => ∃ k : Nat, k ≤ f.parts.length ∧ i = .int .i64 k ∧ nv = .int .i64 (roomsM (f.parts.take k)).length ∧ Ext W wr ∧ RowW W.heap.size (builtTo f.parts fs k).1 u wr ∧ (builtTo f.parts fs k).1.length ≤ 15 * k ∧ ∀ s ∈ (builtTo f.parts fs k).1, s.size ≤ 9223372036854775807) (fun _ _ i _ => f.parts.length - (intOf i).toNat)
  case atStart => exact ⟨0, Nat.zero_le _, rfl, rfl, Ext.refl _, RowW.nil, by simp [builtTo], by simp [builtTo]⟩
  case round =>
    obtain ⟨k, hk, rfl, rfl, hxr, hown, hlen, hsz⟩ := hrel
    have r1 := hxr.cell q1
    have zr := cell_lt r1
    have hszr := hxr.size
    by_cases hlt : k < f.parts.length
    · have k1 : (k : Int) < (f.parts.length : Int) := by omega
      obtain ⟨b, o, rfl, ⟨u, p0, hs⟩, p1, p2, i1, i2⟩ := (hpW.ext hxr).get hlt
      obtain ⟨ua, uc, rfl, -⟩ := hs.shape
      have hst : builtTo f.parts fs (k + 1) = stepB f.parts k (builtTo f.parts fs k) := rfl
      have hgd : f.parts.getD k ⟨[], 0, 0⟩ = f.parts[k] := by simp [hlt]
      have hlf := built_left f.parts fs k hk
      have hrc := rooms_count f.parts k hlt
      have hle : (roomsM (f.parts.take (k + 1))).length ≤ fs.length := by
        rw [← Hn.out]
        unfold roomsM
        exact List.Sublist.length_le (List.Sublist.filter _ (List.take_sublist _ _))
      have h15 := H3.out f.parts[k] (List.getElem_mem hlt)
      unfold stepB at hst
      rw [hgd] at hst
      generalize f.parts[k] = p at *
      generalize builtTo f.parts fs k = bt at *
      obtain ⟨ws, rs⟩ := bt
      simp only at hown hlen hsz hst hlf
      generalize hnn : (roomsM (f.parts.take k)).length = n at *
      have Hst := Lib.hid hst
      have Hlf := Lib.hid hlf
      have Hrc := Lib.hid hrc
      have Hsz := Lib.hid hsz
      clear hst hlf hgd hsz
      cases hro : roomyM p
      · have e0 : ((p.words.length : Int) == 0) = false := by
          unfold roomyM at hro
          simp at hro ⊢
          exact hro
        have Hs2 : Hid (builtTo f.parts fs (k + 1) = (ws ++ p.words, rs)) := Lib.hid (by rw [Hst.out, hro]; rfl)
        have Hc2 : Hid ((roomsM (f.parts.take (k + 1))).length = n) := Lib.hid (by rw [Hrc.out, hro]; simp)
        have Hpz := Lib.hid hs.sizes
        clear hro hrc hnn hle Hst Hrc
        go_wp2_with fail
        refine (refRoomy_any ua p.words.length uc p.lo p.hi _).mono ?_
        rintro e w2 ⟨rfl, hx2⟩
        rw [e0]
        have own2 := RowW.ext hown hx2
        have x2 := hxr.trans hx2
        have r2 := hx2.cell r1
        have z2 := cell_lt r2
        replace p0 := hx2.cell p0
        have hs2 := hs.ext hx2
        have hsz2 := hx2.size
        have hownlt := fun k hk => (World.ownsRow.lt own2 k hk).1
        clear hown e0 hs
        go_wp2_with ((at_builtin; go_loud (refine wpList_append_strs rfl _ _ 25 rfl W.heap.size i0 Tryz.underlying25 hi hz0 hz1 hz2 u5 _ rfl own2 (.slice ua p.words.length uc) rfl p.words hs2 (by omega) (by omega) ?_; intro v' w4 hown' hgrow _)))
        have hx4 : Ext W w4 := Ext.grown x2 hgrow hownlt
        go_roundw
        case rel => exact ⟨k + 1, by omega, by go_num, by rw [Hc2.out], hx4, by rw [Hs2.out]; exact hown', by rw [Hs2.out]; simp only [List.length_append]; omega, by
          rw [Hs2.out]
          intro s hs
          rcases List.mem_append.1 hs with h | h
          · exact Hsz.out s h
          · exact Hpz.out s h⟩
        case measure => simp [intOf]; omega
      · have e0 : ((p.words.length : Int) == 0) = true := by
          unfold roomyM at hro
          simp at hro ⊢
          exact hro
        have hnl : n < fs.length := by rw [hrc, hro] at hle; simp at hle; omega
        have hhd : rs.headD [] = fs[n] := by rw [Hlf.out, List.drop_eq_getElem_cons hnl]; rfl
        have Hs2 : Hid (builtTo f.parts fs (k + 1) = (ws ++ fs[n], rs.tail)) := Lib.hid (by rw [Hst.out, hro, ← hhd]; rfl)
        have Hc2 : Hid ((roomsM (f.parts.take (k + 1))).length = n + 1) := Lib.hid (by rw [Hrc.out, hro]; simp)
        have k2 : (n : Int) < (fs.length : Int) := by omega
        obtain ⟨fb, fo, rfl, fu, g0, hfu⟩ := (hfW.ext hxr).get hnl
        have hf15 := Hf3.out fs[n] (List.getElem_mem hnl)
        generalize fs[n] = x at *
        obtain ⟨xa, xc, rfl, -⟩ := hfu.shape
        have Hxz := Lib.hid hfu.sizes
        simp only [Nat.mul_one] at g0
        clear hro hrc hnn hle Hst Hrc hhd
        go_wp2_with fail
        refine (refRoomy_any ua p.words.length uc p.lo p.hi _).mono ?_
        rintro e w2 ⟨rfl, hx2⟩
        rw [e0]
        have own2 := RowW.ext hown hx2
        have x2 := hxr.trans hx2
        have r2 := hx2.cell r1
        have z2 := cell_lt r2
        replace g0 := hx2.cell g0
        have hs2 := hfu.ext hx2
        have hsz2 := hx2.size
        have hownlt := fun k hk => (World.ownsRow.lt own2 k hk).1
        clear hown e0 hfu
        go_wp2_with ((at_builtin; go_loud (refine wpList_append_strs rfl _ _ 25 rfl W.heap.size i0 Tryz.underlying25 hi hz0 hz1 hz2 u5 _ rfl own2 (.slice xa x.length xc) rfl x hs2 (by omega) (by omega) ?_; intro v' w4 hown' hgrow _)))
        have hx4 : Ext W w4 := Ext.grown x2 hgrow hownlt
        go_roundw
        case rel => exact ⟨k + 1, by omega, by go_num, by rw [Hc2.out]; go_num, hx4, by rw [Hs2.out]; exact hown', by rw [Hs2.out]; simp only [List.length_append]; omega, by
          rw [Hs2.out]
          intro s hs
          rcases List.mem_append.1 hs with h | h
          · exact Hsz.out s h
          · exact Hxz.out s h⟩
        case measure => simp [intOf]; omega
    · obtain rfl : k = f.parts.length := by omega
      have hat := RowW.at_ hown hsz
      have hbm : (builtTo f.parts fs f.parts.length).1 = builtM f.parts fs := rfl
      rw [hbm] at hat hown
      have hown2 : RowW w.heap.size (builtM f.parts fs) u5 wr := ⟨hown.1, by
        rcases hown.2 with h | ⟨g, cap, cur, e, h1, h2⟩
        · exact .inl h
        · exact .inr ⟨g, cap, cur, e, by omega, h2⟩⟩
      clear hown hsz hlen
      obtain ⟨oa, oc, rfl, -⟩ := hat.shape
      go_wp2
      go_ret
      exact ⟨_, rfl, hat, hown2, xW.trans hxr⟩
end Go.Proofs.YtcamegaimleomaaGreat

namespace Go.Proofs.YtcamegaimleomaaGreat
set_option linter.unusedSimpArgs false
set_option linter.unusedVariables false
open Go.RowKit
set_option linter.unusedVariables false

/-- a slice of these values -/
def ValsAt (w : World) (u : Value) (vs : List Value) : Prop := ∃ a c, u = .slice a vs.length c ∧ vs.length ≤ c ∧ c ≤ 9223372036854775807 ∧ ∀ i (h : i < vs.length), ∃ b o, a = some ⟨b, o, none⟩ ∧ w.cell? ⟨b, o + i, none⟩ = some vs[i]
theorem ValsAt.ext {w w' : World} {u : Value} {vs : List Value} (h : ValsAt w u vs) (hx : Ext w w') : ValsAt w' u vs := by
  obtain ⟨a, c, e, h1, h2, h3⟩ := h
  exact ⟨a, c, e, h1, h2, fun i hi => by obtain ⟨b, o, e2, r⟩ := h3 i hi; exact ⟨b, o, e2, hx.cell r⟩⟩
theorem ValsAt.cells' {w w' : World} {pb po n c : Nat} {vs : List Value} (h : ValsAt w (.slice (some ⟨pb, po, none⟩) n c) vs) (hx : Ext w w') : ∀ j u, vs[j]? = some u → w'.cell? ((⟨pb, po, none⟩ : Addr).add j) = some u := by
  intro j u hj
  obtain ⟨a, c', e, h1, h2, h3⟩ := h
  have hjl : j < vs.length := by
    rcases Nat.lt_or_ge j vs.length with h | h
    · exact h
    · rw [List.getElem?_eq_none h] at hj; cases hj
  obtain ⟨b, o, e2, r⟩ := h3 j hjl
  rw [List.getElem?_eq_getElem hjl] at hj
  obtain rfl := Option.some.inj hj
  obtain ⟨rfl, -, -⟩ := Value.slice.inj e
  obtain ⟨rfl, rfl, -⟩ := Addr.mk.inj (Option.some.inj e2)
  rw [show (⟨pb, po, none⟩ : Addr).add j = ⟨pb, po + j, none⟩ by unfold Addr.add; split <;> simp_all]
  exact hx.cell r
theorem OwnR.vals {base : Nat} {vs : List Value} {u : Value} {w : World} (h : OwnR base 25 1 vs.length vs u w) : ValsAt w u vs := by
  have hcells := fun g hg => World.ownsRow.cells (g := g) h hg
  rcases h.2 with ⟨rfl, hn⟩ | ⟨g, cap, cur, rfl, hb, hg, hnc, hcm, hcs, htake⟩
  · exact ⟨none, 0, by rw [hn], by omega, by decide, fun i hi => by omega⟩
  · refine ⟨_, _, rfl, hnc, by simpa [maxLen] using hcm, fun i hi => ⟨g, 0, rfl, ?_⟩⟩
    have := hcells g rfl i vs[i] (List.getElem?_eq_getElem hi)
    rw [show (⟨g, 0, none⟩ : Addr).add i = ⟨g, 0 + i, none⟩ by unfold Addr.add; split <;> simp_all] at this
    exact this
theorem fills_vals {w : World} {u : Value} {fl : List (List ByteArray)} (h : FillsAt w u fl) : ∃ vs : List Value, ValsAt w u vs ∧ vs.length = fl.length ∧ (∀ v ∈ vs, v.oneCell' = true) ∧ ∀ i (h1 : i < vs.length) (h2 : i < fl.length), StrsAt w vs[i] fl[i] := by
  obtain ⟨a, c, rfl, h1, h2⟩ := h.shape
  have hex : ∀ i : Fin fl.length, ∃ v, (∃ b o, a = some ⟨b, o, none⟩ ∧ w.cell? ⟨b, o + i.1, none⟩ = some v) ∧ StrsAt w v fl[i.1] := fun i => by
    obtain ⟨b, o, e, v, r1, r2⟩ := SliceAt.get h i.2
    exact ⟨v, ⟨b, o, e, by simpa using r1⟩, r2⟩
  obtain ⟨f, hf⟩ := Classical.axiomOfChoice hex
  refine ⟨List.ofFn f, ⟨a, c, by rw [List.length_ofFn], by rw [List.length_ofFn]; exact h1, h2, fun i hi => ?_⟩, List.length_ofFn, fun v hv => ?_, fun i h1 h2 => ?_⟩
  · rw [List.length_ofFn] at hi
    obtain ⟨b, o, e, r⟩ := (hf ⟨i, hi⟩).1
    exact ⟨b, o, e, by rw [List.getElem_ofFn]; exact r⟩
  · obtain ⟨i, rfl⟩ := List.mem_ofFn.1 hv
    obtain ⟨a, c, e, -⟩ := (hf i).2.shape
    rw [e]; rfl
  · rw [List.getElem_ofFn]
    exact (hf ⟨i, h2⟩).2
theorem vals_fills {w : World} {u : Value} {vs : List Value} {fl : List (List ByteArray)} (h : ValsAt w u vs) (hn : vs.length = fl.length) (hs : ∀ i (h1 : i < vs.length) (h2 : i < fl.length), StrsAt w vs[i] fl[i]) : FillsAt w u fl := by
  obtain ⟨a, c, rfl, h1, h2, h3⟩ := h
  refine ⟨a, c, by rw [hn], by omega, h2, fun i hi => ?_⟩
  obtain ⟨b, o, e, r⟩ := h3 i (by omega)
  exact ⟨b, o, e, vs[i]'(by omega), by simpa using r, hs i (by omega) hi⟩
/-- fills that are right for these rooms -/
structure PutOk (rooms : List Part) (fs : List (List ByteArray)) : Prop where
  le : fs.length ≤ rooms.length
  at_ : ∀ i (h : i < fs.length) (h2 : i < rooms.length), rooms[i].lo ≤ fs[i].length ∧ (fs[i].length : Int) ≤ rooms[i].hi
  w : ∀ l ∈ fs, ∀ s ∈ l, wordM s = true
theorem PutOk.snoc {rooms : List Part} {fs : List (List ByteArray)} {l : List ByteArray} (h : PutOk rooms fs) (hl : fs.length < rooms.length) (h1 : rooms[fs.length].lo ≤ l.length ∧ (l.length : Int) ≤ rooms[fs.length].hi) (hw : ∀ s ∈ l, wordM s = true) : PutOk rooms (fs ++ [l]) := by
  refine ⟨by simp; omega, fun i hi h2 => ?_, fun x hx => ?_⟩
  · by_cases he : i < fs.length
    · rw [List.getElem_append_left he]
      exact h.at_ i he h2
    · have : i = fs.length := by simp at hi; omega
      subst this
      simpa using h1
  · rcases List.mem_append.1 hx with hx | hx
    · exact h.w x hx
    · rw [List.mem_singleton] at hx; subst hx; exact hw
set_option maxRecDepth 100000 in
set_option maxHeartbeats 8000000 in
theorem any_any (fv xv : Value) (f : Form) (x : List Int) (w : World) (hv : ValidForm f) (hf : FormV w fv f) (hx : BytesAt w xv x) :
    Calls Tryz.prog 35 #[fv, xv] w fun e w' => ∃ u fs, e = .returned u ∧ FillsAt w' u fs ∧ PutOk (roomsM f.parts) fs ∧ fs.length = (roomsM f.parts).length ∧ Ext w w' := by
  obtain ⟨pv, rfl, hns, hp⟩ := hf
  obtain ⟨pa, pc, rfl, -⟩ := hp.shape
  obtain ⟨xa, xc, rfl, hxc, hxm⟩ := hx.shape
  obtain ⟨i0, hi, hz0, hz1, hz2⟩ := info_parts infoString
  obtain ⟨j0, hj, hy0, hy1, hy2⟩ := info_parts infoStrs
  have h5 := hv.n
  have hrs : (roomsM f.parts).length ≤ 5 := Nat.le_trans (List.length_filter_le _ _) h5
  have hrv : ∀ p ∈ roomsM f.parts, 0 ≤ p.lo ∧ p.lo ≤ p.hi ∧ 1 ≤ p.hi ∧ p.hi ≤ 3 := fun p hp => by
    have hm := List.mem_filter.1 hp
    exact (hv.parts p hm.1).room hm.2
  have Hrv := Lib.hid hrv
  clear hrv hv
  go_enter Tryz.func35, Tryz.ntmps35
  go_wp2_with fail
  refine (refRooms_any _ f h5 _ ⟨_, rfl, hns, hp.ext (by first | (with_reducible exact Ext.refl _) | (with_reducible assumption) | (show Below _ _ _; go_grown; done))⟩).mono ?_
  rintro e w1 ⟨ru, rfl, hru, hx1⟩
  have x1 : Ext w w1 := Ext.trans (by first | (with_reducible exact Ext.refl _) | (with_reducible assumption) | (show Below _ _ _; go_grown; done)) hx1
  obtain ⟨ra, rc, rfl, hrc, hrm⟩ := hru.shape
  replace hx := hx.ext x1
  obtain ⟨rooms, hrooms⟩ : ∃ rooms, rooms = roomsM f.parts := ⟨_, rfl⟩
  rw [← hrooms] at hru hrc hrs Hrv ⊢
  have Hrooms := Lib.hid hrooms
  clear hrooms
  clear hx1 hp
  go_wp2_with fail
  go_loopw [6, 7, 8] (fun ov av iv wr => ∃ (at_ : Nat) (fl : List (List ByteArray)), fl.length ≤ rooms.length ∧ at_ ≤ 4 * fl.length ∧ iv = .int .i64 fl.length ∧ av = .int .i64 at_ ∧ Ext w1 wr ∧ FillsAt wr ov fl ∧ (fl.length = 0 → ov = .slice none 0 0) ∧ PutOk rooms fl) (fun _ _ i _ => rooms.length - (intOf i).toNat)
  case atStart => exact ⟨0, [], by simp, by simp, rfl, rfl, Ext.refl _, SliceAt.nil, fun _ => rfl, ⟨by simp, by simp, by simp⟩⟩
  case round =>
    obtain ⟨at_, fl, hk, hat, rfl, rfl, hxr, hfl, hf0, hok⟩ := hrel
    obtain ⟨k, hkl⟩ : ∃ k, k = fl.length := ⟨_, rfl⟩
    rw [← hkl] at hk hat ⊢
    have Hkl := Lib.hid hkl
    have Hok := Lib.hid hok
    have Hf0 := Lib.hid hf0
    have Hfl := Lib.hid hfl
    clear hkl hok hf0 hfl
    by_cases hlt : k < rooms.length
    · have k1 : (k : Int) < (rooms.length : Int) := by omega
      obtain ⟨rb, ro, rfl, c0, c1, -⟩ := (hru.ext hxr).get hlt
      obtain ⟨g1, g2, g3, g4⟩ := Hrv.out _ (List.getElem_mem hlt)
      obtain ⟨a, ha⟩ : ∃ a : Nat, rooms[k].lo = a := ⟨rooms[k].lo.toNat, by omega⟩
      obtain ⟨b, hb⟩ : ∃ b : Nat, rooms[k].hi = b := ⟨rooms[k].hi.toNat, by omega⟩
      have Ha := Lib.hid ha
      have Hb := Lib.hid hb
      rw [ha] at c0 g1 g2
      rw [hb] at c1 g2 g3 g4
      have hx2 := hx.ext hxr
      have t1 := turnM_in hx2 at_
      have ht1 := fun w (h : Ext wr w) => lawTurn_any _ x at_ w (by omega) (hx2.ext h)
      obtain ⟨n, hn⟩ : ∃ n : Nat, turnM x at_ = n := ⟨(turnM x at_).toNat, by omega⟩
      rw [hn] at ht1
      have hab : a ≤ b := by omega
      have hb3 : b ≤ 3 := by omega
      have mq := mod_nat n (b - a + 1)
      have q1 : n % (b - a + 1) < b - a + 1 := Nat.mod_lt _ (by omega)
      generalize n % (b - a + 1) = q at *
      have ed : ((b - a + 1 : Nat) : Int) = (b : Int) - a + 1 := by omega
      rw [ed] at mq
      have w1' : IntKind.i64.wrap ((b : Int) - a) = (b : Int) - a := IntWalk.i64_in _ (by omega)
      have w2' : IntKind.i64.wrap ((b : Int) - a + 1) = (b : Int) - a + 1 := IntWalk.i64_in _ (by omega)
      have w3' : (((b : Int) - a + 1) == 0) = false := by simp; omega
      have w3'' : ¬ ((b : Int) - a + 1 = 0) := by omega
      have wq : IntKind.i64.wrap (q : Int) = q := IntWalk.i64_in _ (by omega)
      have wm : IntKind.i64.wrap ((a : Int) + q) = (a : Int) + q := IntWalk.i64_in _ (by omega)
      have wa : IntKind.i64.wrap ((at_ : Int) + 1) = (at_ : Int) + 1 := IntWalk.i64_in _ (by omega)
      clear t1 hn ha hb ed g1 g2 g3 g4
      go_wp2_with fail
      apply Facts.wp_region [.val _, .val _, .val _, .val _, .val _, .val _, .val _, .val (.int .i64 n), .val _, .val _, .val _, .val _, .val _, .val _, .val _, .val _, .val _, .val _, .val _, .val _, .val _, .val _, .val _] (by kernel_rfl) (by kernel_rfl) trivial ?main
      case main =>
        iterate 7 (refine ⟨fun w1 hx hh => ?_, ?_⟩; focus (clear hh; have e0 := hx.cell c0; have e1 := hx.cell c1; go_simp; first | exact ⟨Ext.refl _, rfl⟩ | exact Ext.refl _))
        refine ⟨fun w1 hx hh => ?_, ?_⟩
        · clear hh
          go_simp
          refine (ht1 _ hx).mono ?_
          rintro e w' ⟨rfl, rfl⟩
          exact ⟨_, rfl, Ext.refl _, rfl⟩
        iterate 15 (refine ⟨fun w1 hx hh => ?_, ?_⟩; focus (clear hh; have e0 := hx.cell c0; have e1 := hx.cell c1; go_simp; first | exact ⟨Ext.refl _, rfl⟩ | exact Ext.refl _))
        intro w2 hx hh
        clear hh
        go_simp
        have Hx := Lib.hid hx
        have hxR : Ext w1 w2 := hxr.trans hx
        have hx3 := hx2.ext hx
        clear hx ht1 c0 c1 hx2 mq w1' w2' w3' w3'' wq
        obtain ⟨mn, hmn⟩ : ∃ mn, mn = a + q := ⟨_, rfl⟩
        have hm1 : (a : Int) + q = (mn : Int) := by omega
        rw [hm1]
        have hmb : mn ≤ b := by omega
        have hma : a ≤ mn := by omega
        clear hm1 hmn wm q1
        go_wp2_with fail
        go_loopw [7, 10, 11] (fun av lv jv wi => ∃ (j : Nat) (ws : List ByteArray), j ≤ mn ∧ ws.length = j ∧ av = .int .i64 ((at_ + 1 + j : Nat) : Int) ∧ jv = .int .i64 j ∧ Ext w2 wi ∧ RowW w2.heap.size ws lv wi ∧ ∀ s ∈ ws, wordM s = true) (fun _ _ j _ => mn - (intOf j).toNat)
        case atStart => exact ⟨0, [], Nat.zero_le _, rfl, by go_num, rfl, Ext.refl _, RowW.nil, by simp⟩
        case round =>
          obtain ⟨j, ws, hj1, hj2, rfl, rfl, hxi, hown, hws⟩ := hrel
          by_cases hjl : j < mn
          · have l1 : (j : Int) < (mn : Int) := by omega
            obtain ⟨la', lc', rfl⟩ := hown.shape
            rw [hj2]
            have hx4 := hx3.ext hxi
            obtain ⟨A, hA⟩ : ∃ A, A = at_ + 1 + j := ⟨_, rfl⟩
            rw [← hA]
            have t1 := turnM_in hx4 A
            have ht2 := fun w (h : Ext wr w) => lawTurn_any _ x A w (by omega) (hx4.ext h)
            obtain ⟨m, hm⟩ : ∃ n : Nat, turnM x A = n := ⟨(turnM x A).toNat, by omega⟩
            rw [hm] at ht2
            have m8 := mod_nat m 8
            have n8 : m % 8 < 8 := Nat.mod_lt _ (by omega)
            generalize m % 8 = sd at *
            have ws' : IntKind.i64.wrap (sd : Int) = sd := IntWalk.i64_in _ (by omega)
            have s8 : (sd : Int) < 8 := by omega
            simp only [Int.cast_ofNat_Int] at m8
            have wA : IntKind.i64.wrap ((A : Int) + 1) = (A : Int) + 1 := IntWalk.i64_in _ (by omega)
            have HA := Lib.hid hA
            clear t1 hm hA
            go_wp2_with fail
            refine (said_any _).mono ?_
            rintro e w4 ⟨⟨B, rfl, hS1⟩, x4⟩
            go_wp2_with fail
            refine (ht2 _ x4).mono ?_
            rintro e w' ⟨rfl, rfl⟩
            go_wp2_with fail
            refine (said_any _).mono ?_
            rintro e w5 ⟨⟨B2, rfl, -⟩, x5⟩
            obtain ⟨b', o', e', s0, -⟩ := (hS1.ext x5).get (said_at sd n8)
            obtain ⟨rfl, rfl⟩ : B = b' ∧ 0 = o' := by simpa using e'
            have hwd := said_words saidL[sd] (List.getElem_mem (said_at sd n8))
            generalize saidL[sd] = wd at *
            have x5' : Ext wr w5 := x4.trans x5
            have hown5 := RowW.ext hown x5'
            have xw5 := hxi.trans x5'
            simp only [Nat.mul_one, Nat.zero_add] at s0
            have zB := cell_lt s0
            have hs5 := xw5.size
            have hownlt := fun k hk => World.ownsRow.lt hown5 k hk
            have wd8 := word_size hwd
            have hone : StrsAt (w5.alloc (.cells #[.string wd] 9)) (.slice (some ⟨w5.heap.size, 0, none⟩) 1 1) [wd] := StrsAt.oneAt (s := wd) (t := 9) rfl (by omega)
            have own1 := RowW.ext hown5 (ext_alloc w5 (.cells #[.string wd] 9))
            clear ht2 hown hS1 x4 x5 e' hown5 hx4
            go_wp2_with (at_builtin; go_loud (refine wpList_append_strs rfl _ _ 25 rfl w2.heap.size i0 Tryz.underlying25 hi hz0 hz1 hz2 (.slice la' ws.length lc') _ (by rw [hj2]; rfl) own1 (.slice (some ⟨w5.heap.size, 0, none⟩) 1 1) rfl [wd] hone (by simp only [List.length_cons, List.length_nil]; omega) (by simp; omega) ?_; intro v' w6 hown' hgrow _))
            go_roundw
            case rel => exact ⟨j + 1, ws ++ [wd], by omega, by simp [hj2], by rw [HA.out]; go_num, by go_num, Ext.grown (xw5.trans (ext_alloc _ _)) hgrow (fun k hk => (hownlt k hk).1), hown', fun s hs => by
              rcases List.mem_append.1 hs with h | h
              · exact hws s h
              · rw [List.mem_singleton] at h; subst h; exact hwd⟩
            case measure => simp [intOf]; omega
          · have l1 : ¬ (j : Int) < (mn : Int) := by omega
            obtain rfl : j = mn := by omega
            have hl := hown.at_ (fun s hs => by have := word_size (hws s hs); omega)
            obtain ⟨la', lc', rfl, -⟩ := hl.shape
            have xwr := (Hx.out.trans hxi)
            obtain ⟨vs, hvs, hvn, hv1, hve⟩ := fills_vals (FillsAt.ext Hfl.out xwr)
            have hfin : ∀ (u : Value) (wc : World), OwnR wr.heap.size 25 1 (vs ++ [Value.slice la' ws.length lc']).length (vs ++ [Value.slice la' ws.length lc']) u wc → Ext wr wc → FillsAt wc u (fl ++ [ws]) ∧ ((fl ++ [ws]).length = 0 → u = .slice none 0 0) ∧ PutOk rooms (fl ++ [ws]) := fun u wc ho hxc => by
              refine ⟨vals_fills ho.vals (by simp [hvn]) (fun i h1 h2 => ?_), fun h => by simp at h, Hok.out.snoc (by have := Hkl.out; omega) ?_ hws⟩
              · by_cases hi : i < vs.length
                · rw [List.getElem_append_left hi, List.getElem_append_left (by omega)]
                  exact (hve i hi (by omega)).ext hxc
                · have e1 : i = vs.length := by simp at h1; omega
                  subst e1
                  simp only [List.getElem_append_right (Nat.le_refl _), Nat.sub_self, List.getElem_cons_zero]
                  have : (fl ++ [ws])[vs.length]'h2 = ws := by simp [hvn]
                  rw [this]
                  exact hl.ext hxc
              · have := Hkl.out
                subst this
                rw [Ha.out, Hb.out]
                omega
            have Hfin := Lib.hid hfin
            have hsl : (Value.slice la' ws.length lc').oneCell' = true := rfl
            rw [hj2] at Hfin ⊢
            have row0 : (wr.alloc (.cells #[] 25)).ownsRow wr.heap.size 25 1 (.slice (some ⟨wr.heap.size, 0, none⟩) 0 0) 0 [] := World.ownsRow_made wr #[] 0 (Nat.le_refl _) (by unfold maxLen; omega) rfl
            have hlen1 := Hkl.out
            have Hlen := Lib.hid hlen1
            have tok1 : True := trivial
            have hfl8 : fl.length + 1 ≤ 5 := by omega
            have wk1 : IntKind.i64.wrap ((k : Int) + 1) = (k : Int) + 1 := IntWalk.i64_in _ (by omega)
            have kl : ((k : Int) + 1) = (((fl ++ [ws]).length : Nat) : Int) := by rw [List.length_append, ← hlen1]; simp
            have Kl := Lib.hid kl
            have hat4 : at_ + 1 + j ≤ 4 * (fl ++ [ws]).length := by rw [List.length_append, ← hlen1]; simp; omega
            have Hat4 := Lib.hid hat4
            have Hn := Lib.hid hvn
            have Hv1 := Lib.hid hv1
            clear kl hat4 hvn hv1 hve hfin hl hown hlen1
            by_cases h0 : k = 0
            · have hu : u6 = .slice none 0 0 := Hf0.out (by have := Hlen.out; omega)
              have hvs0 : vs = [] := List.eq_nil_of_length_eq_zero (by have := Hlen.out; have := Hn.out; omega)
              subst hvs0 hu
              have row1 : ((wr.alloc (.cells #[] 25)).alloc (.cells #[Value.slice la' j lc'] 25)).ownsRow wr.heap.size 25 1 (.slice (some ⟨wr.heap.size, 0, none⟩) 0 0) 0 [] := row0.alloc _
              clear h0
              go_wp2_with (at_builtin; first
                | (have _t := tok1; refine wpList_append_own_none rfl _ _ 31 rfl wr.heap.size 25 j0 1 Tryz.underlying31 hj (.slice (some ⟨wr.heap.size, 0, none⟩) 0 0) 0 [] rfl row0 rfl ?_; clear tok1)
                | (go_loud (refine wpList_append_own_at _ rfl _ _ 31 rfl wr.heap.size 25 j0 (.slice none 0 0) 1 24 Tryz.underlying31 hj hy0 hy1 hy2 rfl (by decide) (.slice (some ⟨wr.heap.size, 0, none⟩) 0 0) 0 [] rfl row1 ⟨wr.heap.size + 1, 0, none⟩ 1 1 [Value.slice la' j lc'] rfl rfl (cell_one_at (by simp [go_sem])) (by simp [Value.oneCell']) (by unfold maxLen; omega) (by omega) (by simp; omega) ?_; intro v' w6 hown' hgrow _ _)))
              have hxc : Ext wr w6 := Ext.grown (((Ext.refl wr).alloc _).alloc _) hgrow (fun k hk => by cases hk; exact Nat.le_refl _)
              obtain ⟨f1, f2, f3⟩ := Hfin.out v' w6 hown' hxc
              go_roundw
              case rel => exact ⟨at_ + 1 + j, fl ++ [ws], f3.le, Hat4.out, by rw [Kl.out], rfl, hxR.trans (hxi.trans hxc), f1, f2, f3⟩
              case measure => simp [intOf]; omega
            · have hfw := FillsAt.ext Hfl.out xwr
              obtain ⟨ua, uc, rfl, -⟩ := hfw.shape
              have hne : 0 < fl.length := by have := Hlen.out; omega
              obtain ⟨pb, po, rfl, -⟩ := SliceAt.get hfw hne
              have hcv := hvs.cells' (ext_alloc wr (.cells #[] 25))
              have hm5 : fl.length ≤ 5 := by omega
              have Hv2 : ∀ v ∈ vs, v.oneCell' = true := Hv1.out
              have hn2 := Hn.out
              clear h0 hfw hne
              go_wp2_with (at_builtin; first
                | (have _t := tok1; go_loud (refine wpList_append_own_at _ rfl _ _ 31 rfl wr.heap.size 25 j0 (.slice none 0 0) 1 24 Tryz.underlying31 hj hy0 hy1 hy2 rfl (by decide) (.slice (some ⟨wr.heap.size, 0, none⟩) 0 0) 0 [] rfl row0 ⟨pb, po, none⟩ fl.length uc vs rfl (by omega) hcv Hv2 (by unfold maxLen; omega) (by omega) (by simp) ?_; intro v1 w6 hown1 hgrow1 _ _); have row1 := World.ownsRow.alloc hown1 (.cells #[Value.slice la' j lc'] 25); clear tok1)
                | (go_loud (refine wpList_append_own_at _ rfl _ _ 31 rfl wr.heap.size 25 j0 (.slice none 0 0) 1 24 Tryz.underlying31 hj hy0 hy1 hy2 rfl (by decide) v1 (0 + fl.length) ([] ++ vs) rfl row1 ⟨w6.heap.size, 0, none⟩ 1 1 [Value.slice la' j lc'] rfl rfl (cell_one_at (by simp [go_sem])) (by simp [Value.oneCell']) (by unfold maxLen; omega) (by omega) (by have := hgrow1.size; simp at this ⊢; omega) ?_; intro v' w7 hown' hgrow2 _ _)))
              have hx6 : Ext wr w6 := Ext.grown ((Ext.refl wr).alloc _) hgrow1 (fun k hk => by cases hk; exact Nat.le_refl _)
              have hxc : Ext wr w7 := Ext.grown (hx6.alloc _) hgrow2 (fun k hk => (World.ownsRow.lt hown1 k hk).1)
              obtain ⟨f1, f2, f3⟩ := Hfin.out v' w7 (by rw [List.length_append, hn2]; rw [List.nil_append, Nat.zero_add] at hown'; exact hown') hxc
              go_roundw
              case rel => exact ⟨at_ + 1 + j, fl ++ [ws], f3.le, Hat4.out, by rw [Kl.out], rfl, hxR.trans (hxi.trans hxc), f1, f2, f3⟩
              case measure => simp [intOf]; omega
    · obtain rfl : k = rooms.length := by omega
      have hk0 := Hkl.out
      have hfl := Hfl.out
      obtain ⟨oa, oc, rfl, -⟩ := hfl.shape
      go_wp2
      go_ret
      exact ⟨_, fl, rfl, hfl, by rw [← Hrooms.out]; exact Hok.out, by rw [← Hrooms.out]; exact hk0.symm, x1.trans hxr⟩
end Go.Proofs.YtcamegaimleomaaGreat
