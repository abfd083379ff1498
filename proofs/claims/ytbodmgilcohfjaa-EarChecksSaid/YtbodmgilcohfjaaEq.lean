/-
  HOW TWO ARRAYS OF FIVE NUMBERS, AND TWO SOUND STRINGS, ARE COMPARED.
-/
import Derived.Test.YtbodmgilcohfjaaSound2
namespace Go.Proofs.Ytbodmgilcohfjaa
open Go.RowKit

set_option maxHeartbeats 1000000 in
theorem eq_array (a b c d e a' b' c' d' e' : Int) (k : Nat) (w : World) :
    (Op.equalIn (k + 2) 98 (.agg #[.int .i64 a, .int .i64 b, .int .i64 c, .int .i64 d, .int .i64 e]) (.agg #[.int .i64 a', .int .i64 b', .int .i64 c', .int .i64 d', .int .i64 e'])).run Try.prog w =
      .ok (a == a' && (b == b' && (c == c' && (d == d' && e == e')))) w := by
  have ha : ∀ w, (isAgg 3).run Try.prog w = .ok false w := fun _ => by kernel_rfl
  rw [Op.equalIn]
  simp only [go_sem]
  simp [List.range', go_sem]
  by_cases h1 : a = a' <;> by_cases h2 : b = b' <;> by_cases h3 : c = c' <;> by_cases h4 : d = d' <;> by_cases h5 : e = e' <;> simp [h1, h2, h3, h4, h5]
theorem neq_array (a b c d e a' b' c' d' e' : Int) (w : World) :
    (binOp .neq 98 (.agg #[.int .i64 a, .int .i64 b, .int .i64 c, .int .i64 d, .int .i64 e]) (.agg #[.int .i64 a', .int .i64 b', .int .i64 c', .int .i64 d', .int .i64 e'])).run Try.prog w =
      .ok (.bool (!(a == a' && (b == b' && (c == c' && (d == d' && e == e')))))) w := by
  rw [run_neq_struct, eq_array]
  rfl
theorem eq_sound (n a b c d e n' a' b' c' d' e' : Int) (k : Nat) (w : World) :
    (Op.equalIn (k + 3) 100 (ssRaw n a b c d e) (ssRaw n' a' b' c' d' e')).run Try.prog w =
      .ok (n == n' && (a == a' && (b == b' && (c == c' && (d == d' && e == e'))))) w := by
  have ha : ∀ w, (isAgg 3).run Try.prog w = .ok false w := fun _ => by kernel_rfl
  have hb : ∀ w, (isAgg 98).run Try.prog w = .ok true w := fun _ => by kernel_rfl
  have hs : ∀ w, (sizeOf 98).run Try.prog w = .ok 5 w := fun _ => by kernel_rfl
  unfold ssRaw
  rw [run_equalIn_struct _ _ _ _ _ (by kernel_rfl) (by kernel_rfl)]
  have hf : ((Try.prog.fieldsOf 100).toList.map fun f => (f.name, f.type, f.offset)) = [("long", 3, 0), ("sounds", 98, 1)] := by kernel_rfl
  generalize (Try.prog.fieldsOf 100).toList = fs at *
  obtain ⟨f, g, rfl⟩ : ∃ f g, fs = [f, g] := by
    rcases fs with _ | ⟨f, _ | ⟨g, _ | ⟨h, r⟩⟩⟩
    · simp at hf
    · simp at hf
    · exact ⟨f, g, rfl⟩
    · simp at hf
  simp only [List.map_cons, List.map_nil, List.cons.injEq, Prod.mk.injEq, and_true] at hf
  obtain ⟨⟨h1, h2, h3⟩, h4, h5, h6⟩ := hf
  have e1 := eq_array a b c d e a' b' c' d' e' k
  simp [Op.eqFields, h1, h2, h3, h4, h5, h6, part, ha, hb, hs, go_sem, e1]
  by_cases hn : n = n' <;> by_cases g1 : a = a' <;> by_cases g2 : b = b' <;> by_cases g3 : c = c' <;> by_cases g4 : d = d' <;> by_cases g5 : e = e' <;> simp [hn, g1, g2, g3, g4, g5]
end Go.Proofs.Ytbodmgilcohfjaa
