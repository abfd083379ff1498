/-
  ARRAYS OF NUMBERS THAT ARE HANDED IN, opened; and lists of numbers.
-/
import Derived.Test.YtoifmphpeflliaaBunO
import Derived.Test.YtoifmphpeflliaaBunT
namespace Go.Proofs.Ytoifmphpeflliaa
open Go.ChangeShapes Go.WideShapes Go.RowKit
set_option maxRecDepth 100000
section
variable {H : Type} {enc : TypeId × Value → H} {w : World} {base : Nat} {sp : Nat → Bool} {held : Bool}
theorem array_of {t e : TypeId} {k : IntKind} {n : Nat} (ht : Try.prog.underlying t = some (.array n e)) (he : Try.prog.underlying e = some (.int k)) (hce : Try.prog.cellsOf e = 1) (hct : Try.prog.cellsOf t = n)
    {r : Reach} {b0 : Nat} {v : Value} {d : DataW H} {ps : List MemPlace} (hval : Value.okWide Try.prog w r b0 t v) (hd : DataW.Trod enc Try.prog w base sp held t v d ps) :
    ∃ l : List Int, v = .agg (l.map (Value.int k)).toArray ∧ l.length = n ∧ ∀ x ∈ l, (Lit.int k x).wf = true := by
  simp only [Value.okWide, ht] at hval
  obtain ⟨cs, rfl, -, -⟩ := hval
  obtain ⟨fuel, h⟩ := hd
  simp only [Value.cells] at h
  obtain ⟨xs, m, -, -, hl, hxl, hel⟩ := DataW.trod_array ht h
  rw [hct] at hl
  rw [hce] at hel
  have hone : ∀ i (hi : i < n), ∃ a : Int, cs.toList[i]'(by omega) = .int k a ∧ (Lit.int k a).wf = true := by
    intro i hi
    have h1 := hel i hi
    rw [Nat.mul_one, List.getElem?_eq_getElem (by omega)] at h1
    have e1 : (cs.toList.drop i).take 1 = [cs.toList[i]'(by omega)] := by
      rw [List.drop_eq_getElem_cons (by omega)]; rfl
    rw [e1] at h1
    obtain ⟨a, ea, -, wa⟩ := DataW.trod_int he h1
    simp only [List.cons.injEq, and_true] at ea
    exact ⟨a, ea, wa⟩
  have key : ∀ l : List Value, (∀ i (hi : i < l.length), ∃ a : Int, l[i] = .int k a ∧ (Lit.int k a).wf = true) → ∃ q : List Int, l = q.map (Value.int k) ∧ ∀ x ∈ q, (Lit.int k x).wf = true := by
    intro l
    induction l with
    | nil => exact fun _ => ⟨[], rfl, by simp⟩
    | cons c l ih =>
      intro hc
      obtain ⟨a, ea, wa⟩ := hc 0 (by simp)
      obtain ⟨q, eq, wq⟩ := ih fun i hi => by
        have := hc (i + 1) (by simpa using hi)
        simpa using this
      refine ⟨a :: q, ?_, ?_⟩
      · simp only [List.getElem_cons_zero] at ea
        rw [ea, eq]; rfl
      · intro x hx
        rcases List.mem_cons.1 hx with rfl | hx
        · exact wa
        · exact wq x hx
  obtain ⟨q, eq, wq⟩ := key cs.toList fun i hi => hone i (by omega)
  refine ⟨q, ?_, by rw [← hl, eq]; simp, wq⟩
  congr 1
  rw [← eq]
/-- an array of three bytes -/
theorem bytes3_of {r : Reach} {b0 : Nat} {v : Value} {d : DataW H} {ps : List MemPlace} (hval : Value.okWide Try.prog w r b0 47 v) (hd : DataW.Trod enc Try.prog w base sp held 47 v d ps) :
    ∃ x y z : Nat, v = .agg #[.int .u8 x, .int .u8 y, .int .u8 z] ∧ x ≤ 255 ∧ y ≤ 255 ∧ z ≤ 255 := by
  obtain ⟨l, rfl, hl, hw⟩ := array_of Try.underlying47 Try.underlying5 cellsU8 (by kernel_rfl) hval hd
  match l, hl with
  | [a, b, c], _ =>
    have ha := wf_u8 (hw a (by simp))
    have hb := wf_u8 (hw b (by simp))
    have hc := wf_u8 (hw c (by simp))
    unfold U8 at ha hb hc
    refine ⟨a.toNat, b.toNat, c.toNat, ?_, by omega, by omega, by omega⟩
    rw [show ((a.toNat : Nat) : Int) = a from by omega, show ((b.toNat : Nat) : Int) = b from by omega, show ((c.toNat : Nat) : Int) = c from by omega]
    rfl
/-- an array of two bytes -/
theorem bytes2_of {r : Reach} {b0 : Nat} {v : Value} {d : DataW H} {ps : List MemPlace} (hval : Value.okWide Try.prog w r b0 48 v) (hd : DataW.Trod enc Try.prog w base sp held 48 v d ps) :
    ∃ x y : Nat, v = .agg #[.int .u8 x, .int .u8 y] ∧ x ≤ 255 ∧ y ≤ 255 := by
  obtain ⟨l, rfl, hl, hw⟩ := array_of Try.underlying48 Try.underlying5 cellsU8 (by kernel_rfl) hval hd
  match l, hl with
  | [a, b], _ =>
    have ha := wf_u8 (hw a (by simp))
    have hb := wf_u8 (hw b (by simp))
    unfold U8 at ha hb
    refine ⟨a.toNat, b.toNat, ?_, by omega, by omega⟩
    rw [show ((a.toNat : Nat) : Int) = a from by omega, show ((b.toNat : Nat) : Int) = b from by omega]
    rfl
/-- an array of two numbers -/
theorem ints2_of {r : Reach} {b0 : Nat} {v : Value} {d : DataW H} {ps : List MemPlace} (hval : Value.okWide Try.prog w r b0 56 v) (hd : DataW.Trod enc Try.prog w base sp held 56 v d ps) :
    ∃ x y : Int, v = .agg #[.int .i64 x, .int .i64 y] ∧ I64 x ∧ I64 y := by
  obtain ⟨l, rfl, hl, hw⟩ := array_of Try.underlying56 Try.underlying3 cellsInt (by kernel_rfl) hval hd
  match l, hl with
  | [a, b], _ => exact ⟨a, b, rfl, wf_i64 (hw a (by simp)), wf_i64 (hw b (by simp))⟩
/-- one byte -/
theorem byte_of {r : Reach} {b0 : Nat} {v : Value} {d : DataW H} {ps : List MemPlace} (hval : Value.okWide Try.prog w r b0 5 v) (hd : DataW.Trod enc Try.prog w base sp held 5 v d ps) : ∃ x : Nat, v = .int .u8 x ∧ x ≤ 255 := by
  obtain ⟨a, rfl, -, -, wa⟩ := Go.ChangeShapes.open_int Try.underlying5 hval hd
  have ha := wf_u8 wa
  unfold U8 at ha
  exact ⟨a.toNat, by rw [show ((a.toNat : Nat) : Int) = a from by omega], by omega⟩
/-- one number -/
theorem int_of {r : Reach} {b0 : Nat} {v : Value} {d : DataW H} {ps : List MemPlace} (hval : Value.okWide Try.prog w r b0 3 v) (hd : DataW.Trod enc Try.prog w base sp held 3 v d ps) : ∃ x : Int, v = .int .i64 x ∧ I64 x := by
  obtain ⟨a, rfl, -, -, wa⟩ := Go.ChangeShapes.open_int Try.underlying3 hval hd
  exact ⟨a, rfl, wf_i64 wa⟩
theorem cellsInts : Try.prog.cellsOf 26 = 1 := by kernel_rfl
theorem cellsBytes : Try.prog.cellsOf 32 = 1 := by kernel_rfl
/-- a list of numbers -/
theorem intsArg_of {r : Reach} {b0 : Nat} {v : Value} {d : DataW H} {ps : List MemPlace} (hval : Value.okWide Try.prog w r b0 26 v) (hd : DataW.Trod enc Try.prog w base sp held 26 v d ps) : ∃ l, IntsAt w v l := by
  obtain ⟨a0, len, cap, rfl⟩ := okWide_slice Try.underlying26 hval
  obtain ⟨fuel, h⟩ := hd
  exact slice_of Try.underlying26 cellsInt (by decide) (fun n cs y hy => by
    obtain ⟨x, rfl, -, wx⟩ := DataW.trod_int Try.underlying3 hy
    exact ⟨x, fun b o hc => ⟨by simpa using hc 0 (by decide), wf_i64 wx⟩⟩) h
/-- a list of bytes -/
theorem bytesArg_of {r : Reach} {b0 : Nat} {v : Value} {d : DataW H} {ps : List MemPlace} (hval : Value.okWide Try.prog w r b0 32 v) (hd : DataW.Trod enc Try.prog w base sp held 32 v d ps) : ∃ l, BytesAt w v l := by
  obtain ⟨a0, len, cap, rfl⟩ := okWide_slice Try.underlying32 hval
  obtain ⟨fuel, h⟩ := hd
  exact slice_of Try.underlying32 cellsU8 (by decide) (fun n cs y hy => by
    obtain ⟨x, rfl, -, wx⟩ := DataW.trod_int Try.underlying5 hy
    exact ⟨x, fun b o hc => ⟨by simpa using hc 0 (by decide), wf_u8 wx⟩⟩) h
end
end Go.Proofs.Ytoifmphpeflliaa
