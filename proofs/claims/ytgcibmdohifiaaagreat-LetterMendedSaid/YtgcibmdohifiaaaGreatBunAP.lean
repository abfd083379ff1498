/-
  WHAT LetterMended TAKES besides a shelf and a letter, opened.
-/
import Derived.Test.YtgcibmdohifiaaaGreatBunAM
import Derived.Lib.SmallJoins
namespace Go.Proofs.YtgcibmdohifiaaaGreat
set_option linter.unusedSimpArgs false
set_option linter.unusedVariables false
open Go.ChangeShapes Go.WideShapes Go.RowKit
set_option maxRecDepth 100000
section
variable {H : Type} {enc : TypeId × Value → H} {w : World} {base : Nat} {sp : Nat → Bool} {held : Bool}
theorem cellsMended : Tryz.prog.cellsOf 68 = 4 := by kernel_rfl
theorem cellsBytesL : Tryz.prog.cellsOf 56 = 1 := by kernel_rfl
theorem four_of {l : List Value} (h : l.length = 4) : ∃ a b c d, l = [a, b, c, d] := by
  match l, h with
  | [a, b, c, d], _ => exact ⟨a, b, c, d, rfl⟩
theorem mended_of {r : Reach} {b0 : Nat} {v : Value} {d : DataW H} {ps : List MemPlace} (hval : Value.okWide Tryz.prog w r b0 68 v) (hd : DataW.Trod enc Tryz.prog w base sp held 68 v d ps) : ∃ (xf xa : Nat) (xt : Bool) (xv : Value) (x : List Int), v = .agg #[.int .u8 xf, xv, .int .u8 xa, .bool xt] ∧ xf ≤ 255 ∧ xa ≤ 255 ∧ BytesAt w xv x := by
  simp only [Value.okWide, Tryz.underlying68] at hval
  obtain ⟨cs, rfl, -, -⟩ := hval
  obtain ⟨fuel, h⟩ := hd
  simp only [Value.cells] at h
  obtain ⟨y0, y1, y2, y3, m, -, hl, h0, h1, h2, h3⟩ := Joins.trod_struct4 Tryz.underlying68 h
  rw [cellsMended] at hl
  obtain ⟨cs⟩ := cs
  obtain ⟨c0, c1, c2, c3, rfl⟩ := four_of hl
  simp only [cellsU8, cellsBytesL, cellsBool, List.drop_zero, List.drop_succ_cons, List.take_succ_cons, List.take_zero] at h0 h1 h2 h3
  obtain ⟨a, ea, -, wa⟩ := DataW.trod_int Tryz.underlying5 h0
  obtain ⟨e, ee, -, we⟩ := DataW.trod_int Tryz.underlying5 h2
  obtain ⟨t, et, -⟩ := DataW.trod_bool Tryz.underlying4 h3
  have hb : ∃ l, BytesAt w c1 l := slice_of Tryz.underlying56 cellsU8 (by decide) (fun n cs y hy => by
    obtain ⟨x, rfl, -, wx⟩ := DataW.trod_int Tryz.underlying5 hy
    exact ⟨x, fun b o hc => ⟨hc 0 (by decide), wf_u8 wx⟩⟩) h1
  obtain ⟨x, hx⟩ := hb
  simp only [List.cons.injEq, and_true] at ea ee et
  subst ea ee et
  have ua := wf_u8 wa
  have ue := wf_u8 we
  unfold U8 at ua ue
  exact ⟨a.toNat, e.toNat, t, c1, x, by rw [show ((a.toNat : Nat) : Int) = a from by omega, show ((e.toNat : Nat) : Int) = e from by omega], by omega, by omega, hx⟩
end
end Go.Proofs.YtgcibmdohifiaaaGreat
