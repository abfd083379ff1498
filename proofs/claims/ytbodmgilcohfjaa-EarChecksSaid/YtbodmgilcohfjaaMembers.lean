/-
  WHAT bits AND members RETURN: the bits of some indices below 5, the indices of bits below 32.
-/
import Derived.Test.YtbodmgilcohfjaaBits
namespace Go.Proofs.Ytbodmgilcohfjaa
open Go.RowKit

def bitsM (l : List Nat) : Nat := l.foldl (fun s i => s ||| 2 ^ i) 0
def ints (l : List Nat) : List Int := l.map (fun n : Nat => (n : Int))
theorem bitsM_snoc (l : List Nat) (x : Nat) : bitsM (l ++ [x]) = bitsM l ||| 2 ^ x := by simp [bitsM]
theorem foldl_lt : ∀ (l : List Nat) (s : Nat), s < 32 → (∀ x ∈ l, x < 5) → l.foldl (fun s i => s ||| 2 ^ i) s < 32
  | [], _, hs, _ => hs
  | x :: l, s, hs, h => foldl_lt l _ (Nat.or_lt_two_pow (n := 5) hs (Nat.pow_lt_pow_right (m := x) (n := 5) (by decide) (h x (by simp)))) fun y hy => h y (by simp [hy])
theorem bitsM_lt (l : List Nat) (h : ∀ x ∈ l, x < 5) : bitsM l < 32 := foldl_lt l 0 (by decide) h
theorem or_small : ∀ (s : Fin 32) (x : Fin 5), bits BinOp.or IntKind.i64 ((s.1 : Nat) : Int) ((2 ^ x.1 : Nat) : Int) = ((s.1 ||| 2 ^ x.1 : Nat) : Int) := by decide +kernel

theorem bits_any (v : Value) (l : List Nat) (h5 : ∀ x ∈ l, x < 5) (w : World) (hl : IntsAt w v (ints l)) :
    Calls Try.prog 68 #[v] w fun e w' => e = .returned (.int .i64 (bitsM l)) ∧ w = w' := by
  obtain ⟨a, cap, rfl, hlc, hcm, hc⟩ := hl
  have hlen : (ints l).length = l.length := by simp [ints]
  have hc' : ∀ i, i < l.length → ∃ b off, a = some ⟨b, off, none⟩ ∧ w.cell? ⟨b, off + i, none⟩ = some (.int .i64 ((l.getD i 0 : Nat) : Int)) := fun i hi => by
    obtain ⟨b, off, e, r, -⟩ := hc i (by omega)
    refine ⟨b, off, e, ?_⟩
    rw [Nat.mul_one] at r
    rw [r, List.getD_eq_getElem?_getD, List.getElem?_eq_getElem hi]
    simp [ints]
  rw [hlen] at hlc ⊢
  clear hc hlen
  have H5 := Lib.hid h5
  clear h5
  go_enter Try.func68, Try.ntmps68
  go_wp2
  go_loop [3, 8] (fun s i => ∃ k : Nat, k ≤ l.length ∧ i = .int .i64 k ∧ s = .int .i64 (bitsM (l.take k))) (fun _ i => l.length - (intOf i).toNat)
  case atStart => exact ⟨0, Nat.zero_le _, rfl, rfl⟩
  case round =>
    obtain ⟨k, hk, rfl, rfl⟩ := hrel
    by_cases hlt : k < l.length
    · obtain ⟨b, off, rfl, hck⟩ := hc' k hlt
      clear hc'
      have hx5 : l[k] < 5 := H5.out _ (List.getElem_mem hlt)
      have hb := bitsM_lt (l.take k) fun x hx => H5.out x (List.mem_of_mem_take hx)
      have hst : bitsM (l.take (k + 1)) = bitsM (l.take k) ||| 2 ^ l[k] := by rw [List.take_succ_eq_append_getElem hlt, bitsM_snoc]
      rw [List.getD_eq_getElem?_getD, List.getElem?_eq_getElem hlt, Option.getD_some] at hck
      generalize hs : bitsM (l.take k) = s at *
      generalize hx : l[k] = x at *
      have Hst := Lib.hid hst
      clear hst hs hx
      have hx6 : x = 0 ∨ x = 1 ∨ x = 2 ∨ x = 3 ∨ x = 4 := by omega
      rcases hx6 with rfl | rfl | rfl | rfl | rfl
      · have hor : bits BinOp.or IntKind.i64 (s : Int) 1 = ((s ||| 2 ^ 0 : Nat) : Int) := or_small ⟨s, hb⟩ ⟨0, hx5⟩
        go_wp2
        go_round
        case rel => exact ⟨k + 1, by omega, by go_num, by rw [Hst.out]⟩
        case measure => simp [intOf]; omega
      · have hor : bits BinOp.or IntKind.i64 (s : Int) 2 = ((s ||| 2 ^ 1 : Nat) : Int) := or_small ⟨s, hb⟩ ⟨1, hx5⟩
        go_wp2
        go_round
        case rel => exact ⟨k + 1, by omega, by go_num, by rw [Hst.out]⟩
        case measure => simp [intOf]; omega
      · have hor : bits BinOp.or IntKind.i64 (s : Int) 4 = ((s ||| 2 ^ 2 : Nat) : Int) := or_small ⟨s, hb⟩ ⟨2, hx5⟩
        go_wp2
        go_round
        case rel => exact ⟨k + 1, by omega, by go_num, by rw [Hst.out]⟩
        case measure => simp [intOf]; omega
      · have hor : bits BinOp.or IntKind.i64 (s : Int) 8 = ((s ||| 2 ^ 3 : Nat) : Int) := or_small ⟨s, hb⟩ ⟨3, hx5⟩
        go_wp2
        go_round
        case rel => exact ⟨k + 1, by omega, by go_num, by rw [Hst.out]⟩
        case measure => simp [intOf]; omega
      · have hor : bits BinOp.or IntKind.i64 (s : Int) 16 = ((s ||| 2 ^ 4 : Nat) : Int) := or_small ⟨s, hb⟩ ⟨4, hx5⟩
        go_wp2
        go_round
        case rel => exact ⟨k + 1, by omega, by go_num, by rw [Hst.out]⟩
        case measure => simp [intOf]; omega
    · go_wp2
      go_ret
      exact ⟨ret_int (by rw [List.take_of_length_le (by omega)]), rfl⟩
end Go.Proofs.Ytbodmgilcohfjaa
