/-
  EarAlikes returns true for any book and any two whole numbers, and lets both be as they were. No condition.
-/
import Derived.Test.YtagpngddaenkkaaBunX
import Derived.Test.YtagpngddaenkkaaBunQ
import Derived.Test.YtagpngddaenkkaaBunO
namespace Go.Proofs.Ytagpngddaenkkaa
open Go.RowKit
set_option linter.unusedVariables false

theorem openM_err {b : Book} (he : errM b ≠ 0) (l : List Int) : openM b l = errM b := by
  unfold openM; rw [if_pos he]
theorem alikes_law (bv : Value) (b : Book) (i j : Int) (hi : I64 i) (hj : I64 j) (w : World) (hb : BookAt w bv b) :
    Calls Try.prog 5 #[bv, .agg #[.int .i64 i, .int .i64 j]] w fun e w' => e = .returned (.bool true) ∧ Ext w w' := by
  obtain ⟨ba, bc, bs, bd, rfl, -⟩ := hb.open
  by_cases he : errM b = 0
  · have hv := valid_of he
    have hn5 := hv.n
    have g1 := fun w hb => odd_ok (.agg #[.int .i64 b.sounds, .slice ba b.alphabets.length bc, .slice bs b.spellings.length bd]) b he w hb
    have g2 := fun w hb => refOdd_ok choices_any (.agg #[.int .i64 b.sounds, .slice ba b.alphabets.length bc, .slice bs b.spellings.length bd]) b he w hb
    by_cases ho : openM b [i, j] = 0
    · obtain ⟨-, hin⟩ := openM_zero ho
      have h1 := hin i (by simp)
      have h2 := hin j (by simp)
      obtain ⟨x, hx⟩ : ∃ x : Nat, i = x := ⟨i.toNat, by omega⟩
      obtain ⟨y, hy⟩ : ∃ y : Nat, j = y := ⟨j.toNat, by omega⟩
      have hxl : x < b.spellings.length := by omega
      have hyl : y < b.spellings.length := by omega
      clear hin h1 h2
      subst hx
      subst hy
      by_cases hxy : x = y
      · subst hxy
        exact alikes_walk ba bs bc bd b x x 0 2 0 _ (fun w hb => alike_same _ b he x hxl w hb) (fun w hb => refAlike_same _ b x hi ho w hb) g1 g2 w hb
      · refine alikes_walk ba bs bc bd b x y (settledM (bothOf b x y).length ((keysOf b x).length * (keysOf b y).length)) 0 0 _ (fun w hb => (alike_ok _ b he x y hxl hyl hxy w hb).mono ?_) (fun w hb => refAlike_ok _ b he x y hxl hyl hxy w hb) g1 g2 w hb
        rintro e w' ⟨k, f, hF, rfl, hx⟩
        rw [AlikeIs.uniq (alike_is hv hxl hyl hF) (settled_is hv hxl hyl)]
        exact ⟨rfl, hx⟩
    · exact alikes_walk ba bs bc bd b i j 0 (openM b [i, j]) 0 _ (fun w hb => alike_err _ b i j hi hj ho w hb) (fun w hb => refAlike_err _ b i j hi hj ho w hb) g1 g2 w hb
  · have ho : openM b [i, j] ≠ 0 := by rw [openM_err he]; exact he
    exact alikes_walk ba bs bc bd b i j 0 (openM b [i, j]) (errM b) [] (fun w hb => alike_err _ b i j hi hj ho w hb) (fun w hb => refAlike_err _ b i j hi hj ho w hb)
      (fun w hb => (odd_err _ b he w hb).mono fun e w' h => ⟨_, h.1, IntsAt.nothing _, h.2⟩) (fun w hb => (refOdd_err _ b he w hb).mono fun e w' h => ⟨_, h.1, IntsAt.nothing _, h.2⟩) w hb
end Go.Proofs.Ytagpngddaenkkaa

namespace Go.Proofs.Ytagpngddaenkkaa.earAlikes
open Go.ChangeShapes Go.WideShapes Go.ChangeAt Go.RowKit
set_option linter.unusedVariables false

theorem own : ownKnob Try.prog.godebug = none := by kernel_rfl
theorem laid : laidOutB Try.prog = true := by kernel_rfl
theorem read0 : Try.prog.readableRec 25 = true := by kernel_rfl
theorem row0 : 25 < Try.prog.types.size := of_decide_eq_true (by kernel_rfl)
theorem read1 : Try.prog.readableRec 41 = true := by kernel_rfl
theorem row1 : 41 < Try.prog.types.size := of_decide_eq_true (by kernel_rfl)

set_option maxRecDepth 100000 in
theorem lifted (os : Os) (started : os.Started) (H : Type) (enc : TypeId × Value → H) :
    ReturnsInHanded {} Try.checked os 5 .any (Rows.earAlikesSpec.pre6 enc Try.prog Try.f5 Rows.earAlikesRow.domain false) (Rows.earAlikesSpec.post enc Try.prog Try.f5 false true false false) := by
  refine returnsInHanded_of_change (C := Try.checked) own started (by kernel_rfl) Try.func5
    (ChangeSpec.witness6 (enc := enc) (C := Try.checked) false ⟨#[], #[.agg #[.int .i64 0, .slice none 0 0, .slice none 0 0], .agg #[.int .i64 0, .int .i64 0]], []⟩ 8 (by kernel_rfl) (by kernel_rfl) (by kernel_rfl) (by kernel_rfl)) ?_
  intro W base args ds gs before hval0 hW hcnd _
  have hval : ∀ (j : Nat) t v, Try.f5.params[j]? = some t → args[j]? = some v → Value.okWide Try.prog W .any base t v := hval0
  have hW' := hW
  obtain ⟨p, q, hA0, hV, rfl, hfz, hnd⟩ := hW
  have hA : DataW.TrodAll enc Try.prog W 0 (fun _ => true) true Try.f5.params.toList args.toList ds p := hA0
  rw [Try.params5] at hA hval
  obtain ⟨v0, vs0, d0, ds0, p0, q0, hargs0, rfl, rfl, h0, r0⟩ := trodAll_cons hA
  obtain ⟨v1, vs1, d1, ds1, p1, q1, hargs1, rfl, rfl, h1, r1⟩ := trodAll_cons r0
  obtain ⟨rfl, rfl, rfl⟩ := trodAll_nil r1
  subst hargs1
  obtain rfl : args = #[v0, v1] := by cases args; simp_all
  obtain ⟨rfl, rfl⟩ := trodVars_none hV
  obtain ⟨b, hb⟩ := book_of (hval 0 25 v0 rfl rfl) h0
  obtain ⟨x, y, rfl, hx, hy⟩ := ints2_of (hval 1 41 v1 rfl rfl) h1
  clear hA0 hval0
  simp only [List.append_nil] at hW'
  refine (alikes_law v0 b x y hx hy W hb).mono fun e W' ⟨he, hg⟩ => ?_
  subst he
  have hlt := hW'.lt
  exact ⟨_, rfl, post_ext (pa := p0 ++ p1) (pv := []) hW' (fun _ _ _ => (trodAll_cons_mk (shut_bool Try.underlying4 _) trodAll_mk0))
    (fun sp hsp => by
      have g0 := Go.WideElems.Trod_stays (sp' := sp) laid read0 row0 h0 (W' := W') (fun p hp => same_of_ext hg (hlt p (List.mem_append_left _ hp))) (fun p hp => hsp p (List.mem_append_left _ hp))
      have g1 := Go.WideElems.Trod_stays (sp' := sp) laid read1 row1 h1 (W' := W') (fun p hp => same_of_ext hg (hlt p (List.mem_append_right _ hp))) (fun p hp => hsp p (List.mem_append_right _ hp))
      have := trodAll_cons_mk g0 (trodAll_cons_mk g1 (trodAll_mk0 (enc := enc) (P := Try.prog) (w := W') (base := 0) (spare := sp) (held := true)))
      rw [List.append_nil] at this
      exact this) (fun _ _ => rfl) (by simp)
    hg (ok_one (by kernel_rfl) rfl (okWide_bool_mk Try.underlying4 _))⟩

theorem over : Rows.earAlikesRow.holds Try.pinned (OpenSpec.ofChange Rows.earAlikesSpec) :=
  OpenClaim.holds_of_wide 5 Try.f5 rfl rfl rfl rfl rfl rfl rfl ⟨rfl, rfl, rfl, rfl, rfl⟩ rfl rfl rfl rfl rfl (by kernel_rfl) Try.func5 (by kernel_rfl)
    (of_decide_eq_true (by kernel_rfl)) (by unfold Func.isWrapper; first | (rw [if_pos (by decide +kernel)]; kernel_rfl) | (rw [if_neg (by decide +kernel)]; exact ⟨rfl, rfl⟩))
    (fun os started H enc _ => lifted os started H enc)

/-- ████ THE STATEMENT ████ -/
theorem earAlikes_said : Rows.EarAlikesSaid :=
  over
end Go.Proofs.Ytagpngddaenkkaa.earAlikes
