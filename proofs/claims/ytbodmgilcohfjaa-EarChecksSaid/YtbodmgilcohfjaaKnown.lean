/-
  THE BOOK OF THE EXAMPLES: what is so of it, by computation.
-/
import Derived.Test.YtbodmgilcohfjaaEar5
import Derived.Test.YtbodmgilcohfjaaRef11
namespace Go.Proofs.Ytbodmgilcohfjaa
set_option maxRecDepth 100000

/-- the one string that comes first, and that there is one -/
def onlyB (M : Tally) (n : Nat) (k0 : List Int) : Bool :=
  sharedB M n && M.all fun p => !(p.2 &&& n == n) || (M.any fun q => (q.2 &&& n == n) && decide (cmpSS q.1 p.1 < 0)) || decide (p.1 = k0)
theorem FirstIs.only {M : Tally} {n : Nat} {k k0 : List Int} {f : Bool} (h : FirstIs M (fun _ => True) n k f) (ho : onlyB M n k0 = true) : f = true ∧ k = k0 := by
  simp only [onlyB, Bool.and_eq_true] at ho
  have hf := h.shared
  rw [ho.1] at hf
  refine ⟨hf, ?_⟩
  obtain ⟨⟨i, hi, hk, hb⟩, hmin⟩ := h.yes hf
  have h2 := List.all_eq_true.1 ho.2 M[i] (List.getElem_mem hi)
  simp only [Bool.or_eq_true, Bool.not_eq_true', beq_eq_false_iff_ne, ne_eq, decide_eq_true_eq] at h2
  rcases h2 with (h2 | h2) | h2
  · exact absurd hb h2
  · exfalso
    rw [List.any_eq_true] at h2
    obtain ⟨q, hq, hq2⟩ := h2
    obtain ⟨j, hj, rfl⟩ := List.getElem_of_mem hq
    simp only [Bool.and_eq_true, beq_iff_eq, decide_eq_true_eq] at hq2
    rw [hk] at hq2
    exact hmin j hj trivial hq2.1 hq2.2
  · rw [← hk]; exact h2
theorem FirstIs.none {M : Tally} {n : Nat} {k : List Int} {f : Bool} (h : FirstIs M (fun _ => True) n k f) (ho : sharedB M n = false) : f = false ∧ k = [] := by
  have hf := h.shared
  rw [ho] at hf
  exact ⟨hf, (h.no hf).1⟩
theorem b_err : errM bookB = 0 := by decide +kernel
theorem b_count0 : (canM bookB [0]).length = 2 := by decide +kernel
theorem b_first1 : onlyB (canM bookB [1]) (bitsM [1]) [2] = true := by decide +kernel
theorem b_heard1 : heardErrM bookB.sounds [2, 1] = 0 := by decide +kernel
theorem b_heard2 : heardErrM bookB.sounds [2, 0] = 0 := by decide +kernel
theorem b_reads1 : (getT [2, 1] (canM bookB [1])).isSome = true := by decide +kernel
theorem b_reads2 : (getT [2, 0] (canM bookB [1])).isSome = false := by decide +kernel
theorem b_must : alikeV (canM bookB [2, 3]) (sharedB (canM bookB [2, 3]) (bitsM [2, 3])) = 1 := by decide +kernel
theorem b_may : alikeV (canM bookB [0, 1]) (sharedB (canM bookB [0, 1]) (bitsM [0, 1])) = 0 := by decide +kernel
theorem b_never : alikeV (canM bookB [1, 2]) (sharedB (canM bookB [1, 2]) (bitsM [1, 2])) = 2 := by decide +kernel
theorem b_common : onlyB (canM bookB [0, 2, 3]) (bitsM [0, 2, 3]) [2, 0] = true := by decide +kernel
theorem b_down : sharedB (canM bookB [1, 2]) (bitsM [1, 2]) = false := by decide +kernel
theorem b_odd : ints (oddF (canM bookB (membersM (allOf bookB))) (allOf bookB) (membersM (allOf bookB)) (allOf bookB)) = [1] := by decide +kernel
theorem b_spell1 : spellM bookB 0 [2, 1] = ({ data := #[107, 101] }, 0) := by kernel_rfl
theorem b_spell2 : spellM bookB 1 [0, 0] = ({ data := #[110, 110] }, 0) := by kernel_rfl
theorem b_name1 : nameM { data := #[97, 46, 57] } = true := by kernel_rfl
theorem b_name2 : nameM { data := #[46, 97] } = false := by kernel_rfl
theorem b_len : bookB.spellings.length = 4 := rfl
end Go.Proofs.Ytbodmgilcohfjaa
