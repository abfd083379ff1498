/-
  WHAT bits AND members RETURN: the bits of some indices below 5, the indices of bits below 32.
  WHAT members RETURNS: the indices of bits below 32, ascending.
  WHAT THE FUNCTIONS ON A SOUND STRING RETURN: with one more sound; whether a letter gives a sound.
  WHAT slices.Compare, compare, heardAs AND list RETURN: how sound strings are compared, made and handed out.
  HOW TWO ARRAYS OF FIVE NUMBERS, AND TWO SOUND STRINGS, ARE COMPARED.
  WHAT compare RETURNS: shorter sound strings first, then sound by sound.
  WHAT compare, heardAs AND list RETURN, said of lists.
  WHAT list RETURNS: the sounds of a sound string, in new memory.
  WHAT letters RETURNS: the letters of a spelling, one behind the other. In a book without an error.
  THE ROOMS OF A FORM: rooms of the program.
-/
import Derived.Test.YtnfbhicoknpojaaGreatBunAB
import Derived.Maps.AppendAt
import Derived.Laws.OwnMore
namespace Go.Proofs.YtnfbhicoknpojaaGreat
set_option linter.unusedSimpArgs false
set_option linter.unusedVariables false
open Go.RowKit

def bitsM (l : List Nat) : Nat := l.foldl (fun s i => s ||| 2 ^ i) 0
def ints (l : List Nat) : List Int := l.map (fun n : Nat => (n : Int))
theorem bitsM_snoc (l : List Nat) (x : Nat) : bitsM (l ++ [x]) = bitsM l ||| 2 ^ x := by simp [bitsM]
theorem foldl_lt : ∀ (l : List Nat) (s : Nat), s < 32 → (∀ x ∈ l, x < 5) → l.foldl (fun s i => s ||| 2 ^ i) s < 32
  | [], _, hs, _ => hs
  | x :: l, s, hs, h => foldl_lt l _ (Nat.or_lt_two_pow (n := 5) hs (Nat.pow_lt_pow_right (m := x) (n := 5) (by decide) (h x (by simp)))) fun y hy => h y (by simp [hy])
theorem bitsM_lt (l : List Nat) (h : ∀ x ∈ l, x < 5) : bitsM l < 32 := foldl_lt l 0 (by decide) h
theorem or_small : ∀ (s : Fin 32) (x : Fin 5), bits BinOp.or IntKind.i64 ((s.1 : Nat) : Int) ((2 ^ x.1 : Nat) : Int) = ((s.1 ||| 2 ^ x.1 : Nat) : Int) := by decide +kernel

theorem bits_any (v : Value) (l : List Nat) (h5 : ∀ x ∈ l, x < 5) (w : World) (hl : IntsAt w v (ints l)) :
    Calls Tryz.prog 70 #[v] w fun e w' => e = .returned (.int .i64 (bitsM l)) ∧ w = w' := by
  obtain ⟨a, cap, rfl, hlc, hcm, hc⟩ := hl
  have hlen : (ints l).length = l.length := by simp [ints]
  have hc' : ∀ i, i < l.length → ∃ b off, a = some ⟨b, off, none⟩ ∧ w.cell? ⟨b, off + i, none⟩ = some (.int .i64 ((l.getD i 0 : Nat) : Int)) := fun i hi => by
    obtain ⟨b, off, e, r, -⟩ := hc i (by omega)
    refine ⟨b, off, e, ?_⟩
    rw [Nat.mul_one] at r
    rw [r, List.getD_eq_getElem?_getD, List.getElem?_eq_getElem hi]
    simp [ints]
  rw [hlen] at hlc ⊢
  clear hc hlen
  have H5 := Lib.hid h5
  clear h5
  go_enter Tryz.func70, Tryz.ntmps70
  go_wp2
  go_loop [3, 8] (fun s i => ∃ k : Nat, k ≤ l.length ∧ i = .int .i64 k ∧ s = .int .i64 (bitsM (l.take k))) (fun _ i => l.length - (intOf i).toNat)
  case atStart => exact ⟨0, Nat.zero_le _, rfl, rfl⟩
  case round =>
    obtain ⟨k, hk, rfl, rfl⟩ := hrel
    by_cases hlt : k < l.length
    · obtain ⟨b, off, rfl, hck⟩ := hc' k hlt
      clear hc'
      have hx5 : l[k] < 5 := H5.out _ (List.getElem_mem hlt)
      have hb := bitsM_lt (l.take k) fun x hx => H5.out x (List.mem_of_mem_take hx)
      have hst : bitsM (l.take (k + 1)) = bitsM (l.take k) ||| 2 ^ l[k] := by rw [List.take_succ_eq_append_getElem hlt, bitsM_snoc]
      rw [List.getD_eq_getElem?_getD, List.getElem?_eq_getElem hlt, Option.getD_some] at hck
      generalize hs : bitsM (l.take k) = s at *
      generalize hx : l[k] = x at *
      have Hst := Lib.hid hst
      clear hst hs hx
      have hx6 : x = 0 ∨ x = 1 ∨ x = 2 ∨ x = 3 ∨ x = 4 := by omega
      rcases hx6 with rfl | rfl | rfl | rfl | rfl
      · have hor : bits BinOp.or IntKind.i64 (s : Int) 1 = ((s ||| 2 ^ 0 : Nat) : Int) := or_small ⟨s, hb⟩ ⟨0, hx5⟩
        go_wp2
        go_round
        case rel => exact ⟨k + 1, by omega, by go_num, by rw [Hst.out]⟩
        case measure => simp [intOf]; omega
      · have hor : bits BinOp.or IntKind.i64 (s : Int) 2 = ((s ||| 2 ^ 1 : Nat) : Int) := or_small ⟨s, hb⟩ ⟨1, hx5⟩
        go_wp2
        go_round
        case rel => exact ⟨k + 1, by omega, by go_num, by rw [Hst.out]⟩
        case measure => simp [intOf]; omega
      · have hor : bits BinOp.or IntKind.i64 (s : Int) 4 = ((s ||| 2 ^ 2 : Nat) : Int) := or_small ⟨s, hb⟩ ⟨2, hx5⟩
        go_wp2
        go_round
        case rel => exact ⟨k + 1, by omega, by go_num, by rw [Hst.out]⟩
        case measure => simp [intOf]; omega
      · have hor : bits BinOp.or IntKind.i64 (s : Int) 8 = ((s ||| 2 ^ 3 : Nat) : Int) := or_small ⟨s, hb⟩ ⟨3, hx5⟩
        go_wp2
        go_round
        case rel => exact ⟨k + 1, by omega, by go_num, by rw [Hst.out]⟩
        case measure => simp [intOf]; omega
      · have hor : bits BinOp.or IntKind.i64 (s : Int) 16 = ((s ||| 2 ^ 4 : Nat) : Int) := or_small ⟨s, hb⟩ ⟨4, hx5⟩
        go_wp2
        go_round
        case rel => exact ⟨k + 1, by omega, by go_num, by rw [Hst.out]⟩
        case measure => simp [intOf]; omega
    · go_wp2
      go_ret
      exact ⟨ret_int (by rw [List.take_of_length_le (by omega)]), rfl⟩
end Go.Proofs.YtnfbhicoknpojaaGreat

namespace Go.Proofs.YtnfbhicoknpojaaGreat
set_option linter.unusedSimpArgs false
set_option linter.unusedVariables false
open Go.RowKit

/-- an owned row of numbers is a list in memory -/
theorem IntsAt.of_own {w : World} {B : Nat} {e : TypeId} {v : Value} {l : List Int} (h : w.ownsRow B e 1 v l.length (l.map (Value.int .i64))) (hI : ∀ x ∈ l, I64 x) : IntsAt w v l := by
  rcases h.2 with ⟨rfl, hn⟩ | ⟨g, cap, cur, rfl, hb, hg, hnc, hcm, hcs, htake⟩
  · have : l = [] := List.eq_nil_of_length_eq_zero hn
    subst this; exact SliceAt.nil
  · refine ⟨_, _, rfl, hnc, by simpa [maxLen] using hcm, fun i hi => ⟨g, 0, rfl, ?_, hI _ (List.getElem_mem hi)⟩⟩
    have := h.cells (g := g) rfl i (.int .i64 l[i]) (by simp [hi])
    have e : (⟨g, 0, none⟩ : Addr).add i = ⟨g, 0 + i * 1, none⟩ := by unfold Addr.add; split <;> simp_all
    rw [e] at this; exact this
theorem Ext.grown {a w w' : World} {row : Option Nat} (h : Ext a w) (hg : w.grownBy w' row) (hr : ∀ k, row = some k → a.heap.size ≤ k) : Ext a w' := Below.grown h hg h.size hr

def membersTo (n k : Nat) : List Nat := (List.range k).filter fun i => n.testBit i
def membersM (n : Nat) : List Nat := membersTo n 5
theorem membersTo_succ (n k : Nat) : membersTo n (k + 1) = membersTo n k ++ (if n.testBit k then [k] else []) := by
  unfold membersTo
  rw [List.range_succ, List.filter_append]
  cases h : n.testBit k <;> simp [h]
theorem membersTo_len (n k : Nat) : (membersTo n k).length ≤ k := by
  have := List.length_filter_le (fun i => n.testBit i) (List.range k)
  simpa [membersTo] using this
theorem members_end : ∀ (n : Fin 32) (k : Fin 6), n.1 < 2 ^ k.1 → membersTo n.1 k.1 = membersM n.1 := by decide +kernel
theorem and_yes : ∀ (n : Fin 32) (k : Fin 5), n.1.testBit k.1 = true → bits BinOp.and IntKind.i64 ((n.1 : Nat) : Int) ((2 ^ k.1 : Nat) : Int) = ((2 ^ k.1 : Nat) : Int) := by decide +kernel
theorem and_no : ∀ (n : Fin 32) (k : Fin 5), n.1.testBit k.1 = false → bits BinOp.and IntKind.i64 ((n.1 : Nat) : Int) ((2 ^ k.1 : Nat) : Int) = 0 := by decide +kernel

theorem infoInt : (Tryz.prog.info? 3).map (fun i => (i.zero, i.size, i.bytes)) = some (some (.int .i64 0), 1, 8) := by kernel_rfl

theorem members_I64 (n : Nat) : ∀ x ∈ ints (membersM n), I64 x := by
  intro x hx
  simp only [ints, membersM, membersTo, List.mem_map, List.mem_filter, List.mem_range] at hx
  obtain ⟨y, ⟨hy, -⟩, rfl⟩ := hx
  unfold I64; omega
theorem own_snoc {w : World} {B : Nat} {e : TypeId} {v : Value} {n k : Nat} {m : Nat} (hm : m = (ints (membersTo n k)).length + 1) (hb : membersTo n (k + 1) = membersTo n k ++ [k])
    (h : w.ownsRow B e 1 v m ((ints (membersTo n k)).map (Value.int .i64) ++ [.int .i64 (k : Int)])) : w.ownsRow B e 1 v (ints (membersTo n (k + 1))).length ((ints (membersTo n (k + 1))).map (Value.int .i64)) := by
  subst hm
  rw [hb]
  simpa [ints] using h
set_option maxRecDepth 100000 in
set_option maxHeartbeats 1000000 in
theorem members_any (n : Nat) (hn : n < 32) (w : World) :
    Calls Tryz.prog 107 #[.int .i64 n] w fun e w' => ∃ v, e = .returned v ∧ IntsAt w' v (ints (membersM n)) ∧ Ext w w' := by
  obtain ⟨i0, hi, hz0, hz1, hz2⟩ := info_parts infoInt
  go_enter Tryz.func107, Tryz.ntmps107
  go_wp2
  go_loopw [3, 4] (fun v i wr => ∃ k : Nat, k ≤ 5 ∧ i = .int .i64 k ∧ Ext w wr ∧ wr.ownsRow w.heap.size 3 1 v (ints (membersTo n k)).length ((ints (membersTo n k)).map (Value.int .i64))) (fun _ i _ => 5 - (intOf i).toNat)
  case atStart => exact ⟨0, by omega, rfl, Ext.refl _, World.ownsRow_nil _ _ _ _⟩
  case round =>
    obtain ⟨k, hk, rfl, hx, hown⟩ := hrel
    have hsz := hx.size
    have hst := membersTo_succ n k
    have hk6 : k = 0 ∨ k = 1 ∨ k = 2 ∨ k = 3 ∨ k = 4 ∨ k = 5 := by omega
    rcases hk6 with rfl | rfl | rfl | rfl | rfl | rfl
    · by_cases hle : (1 : Int) ≤ n
      · cases hb : n.testBit 0
        · have hand : bits BinOp.and IntKind.i64 (n : Int) 1 = 0 := and_no ⟨n, hn⟩ ⟨0, by omega⟩ hb
          rw [hb] at hst
          have Hst := Lib.hid hst
          clear hb hst
          go_wp2
          go_roundw
          case rel => exact ⟨1, by omega, rfl, hx, by have := Hst.out; simp only [Bool.false_eq_true, if_false, List.append_nil] at this; rw [this]; exact hown⟩
          case measure => simp [intOf]
        · have hand : bits BinOp.and IntKind.i64 (n : Int) 1 = 1 := and_yes ⟨n, hn⟩ ⟨0, by omega⟩ hb
          rw [hb] at hst
          have Hst := Lib.hid hst
          have hml : (ints (membersTo n 0)).length ≤ 5 := by have := membersTo_len n 0; simp only [ints, List.length_map]; omega
          clear hb hst
          go_wp2_with ((at_builtin; refine wpList_append_own _ rfl _ _ 45 rfl w.heap.size 3 i0 (.int .i64 0) 1 8 Tryz.underlying45 hi hz0 hz1 hz2 rfl (by decide) _ _ _ rfl (hown.alloc _) ⟨wr.heap.size, 0, none⟩ 1 1 [.int .i64 0] rfl rfl (cell_one_new _ _ _) (by simp [Value.oneCell']) (by unfold maxLen; omega) (by omega) (by simp; omega) ?_; intro v' w1 hown' hgrow _))
          have hx1 : Ext w w1 := Ext.grown (hx.alloc _) hgrow fun k hk => (hown.lt k hk).1
          go_roundw
          case rel => exact ⟨1, by omega, rfl, hx1, own_snoc rfl (by simpa using Hst.out) hown'⟩
          case measure => simp [intOf]
      · have hfin := members_end ⟨n, hn⟩ ⟨0, by omega⟩ (by simp only; omega)
        simp only at hfin
        rw [hfin] at hown
        clear hst hfin
        go_wp2
        go_ret
        exact ⟨_, rfl, IntsAt.of_own hown (members_I64 n), hx⟩
    · by_cases hle : (2 : Int) ≤ n
      · cases hb : n.testBit 1
        · have hand : bits BinOp.and IntKind.i64 (n : Int) 2 = 0 := and_no ⟨n, hn⟩ ⟨1, by omega⟩ hb
          rw [hb] at hst
          have Hst := Lib.hid hst
          clear hb hst
          go_wp2
          go_roundw
          case rel => exact ⟨2, by omega, rfl, hx, by have := Hst.out; simp only [Bool.false_eq_true, if_false, List.append_nil] at this; rw [this]; exact hown⟩
          case measure => simp [intOf]
        · have hand : bits BinOp.and IntKind.i64 (n : Int) 2 = 2 := and_yes ⟨n, hn⟩ ⟨1, by omega⟩ hb
          rw [hb] at hst
          have Hst := Lib.hid hst
          have hml : (ints (membersTo n 1)).length ≤ 5 := by have := membersTo_len n 1; simp only [ints, List.length_map]; omega
          clear hb hst
          go_wp2_with ((at_builtin; refine wpList_append_own _ rfl _ _ 45 rfl w.heap.size 3 i0 (.int .i64 0) 1 8 Tryz.underlying45 hi hz0 hz1 hz2 rfl (by decide) _ _ _ rfl (hown.alloc _) ⟨wr.heap.size, 0, none⟩ 1 1 [.int .i64 1] rfl rfl (cell_one_new _ _ _) (by simp [Value.oneCell']) (by unfold maxLen; omega) (by omega) (by simp; omega) ?_; intro v' w1 hown' hgrow _))
          have hx1 : Ext w w1 := Ext.grown (hx.alloc _) hgrow fun k hk => (hown.lt k hk).1
          go_roundw
          case rel => exact ⟨2, by omega, rfl, hx1, own_snoc rfl (by simpa using Hst.out) hown'⟩
          case measure => simp [intOf]
      · have hfin := members_end ⟨n, hn⟩ ⟨1, by omega⟩ (by simp only; omega)
        simp only at hfin
        rw [hfin] at hown
        clear hst hfin
        go_wp2
        go_ret
        exact ⟨_, rfl, IntsAt.of_own hown (members_I64 n), hx⟩
    · by_cases hle : (4 : Int) ≤ n
      · cases hb : n.testBit 2
        · have hand : bits BinOp.and IntKind.i64 (n : Int) 4 = 0 := and_no ⟨n, hn⟩ ⟨2, by omega⟩ hb
          rw [hb] at hst
          have Hst := Lib.hid hst
          clear hb hst
          go_wp2
          go_roundw
          case rel => exact ⟨3, by omega, rfl, hx, by have := Hst.out; simp only [Bool.false_eq_true, if_false, List.append_nil] at this; rw [this]; exact hown⟩
          case measure => simp [intOf]
        · have hand : bits BinOp.and IntKind.i64 (n : Int) 4 = 4 := and_yes ⟨n, hn⟩ ⟨2, by omega⟩ hb
          rw [hb] at hst
          have Hst := Lib.hid hst
          have hml : (ints (membersTo n 2)).length ≤ 5 := by have := membersTo_len n 2; simp only [ints, List.length_map]; omega
          clear hb hst
          go_wp2_with ((at_builtin; refine wpList_append_own _ rfl _ _ 45 rfl w.heap.size 3 i0 (.int .i64 0) 1 8 Tryz.underlying45 hi hz0 hz1 hz2 rfl (by decide) _ _ _ rfl (hown.alloc _) ⟨wr.heap.size, 0, none⟩ 1 1 [.int .i64 2] rfl rfl (cell_one_new _ _ _) (by simp [Value.oneCell']) (by unfold maxLen; omega) (by omega) (by simp; omega) ?_; intro v' w1 hown' hgrow _))
          have hx1 : Ext w w1 := Ext.grown (hx.alloc _) hgrow fun k hk => (hown.lt k hk).1
          go_roundw
          case rel => exact ⟨3, by omega, rfl, hx1, own_snoc rfl (by simpa using Hst.out) hown'⟩
          case measure => simp [intOf]
      · have hfin := members_end ⟨n, hn⟩ ⟨2, by omega⟩ (by simp only; omega)
        simp only at hfin
        rw [hfin] at hown
        clear hst hfin
        go_wp2
        go_ret
        exact ⟨_, rfl, IntsAt.of_own hown (members_I64 n), hx⟩
    · by_cases hle : (8 : Int) ≤ n
      · cases hb : n.testBit 3
        · have hand : bits BinOp.and IntKind.i64 (n : Int) 8 = 0 := and_no ⟨n, hn⟩ ⟨3, by omega⟩ hb
          rw [hb] at hst
          have Hst := Lib.hid hst
          clear hb hst
          go_wp2
          go_roundw
          case rel => exact ⟨4, by omega, rfl, hx, by have := Hst.out; simp only [Bool.false_eq_true, if_false, List.append_nil] at this; rw [this]; exact hown⟩
          case measure => simp [intOf]
        · have hand : bits BinOp.and IntKind.i64 (n : Int) 8 = 8 := and_yes ⟨n, hn⟩ ⟨3, by omega⟩ hb
          rw [hb] at hst
          have Hst := Lib.hid hst
          have hml : (ints (membersTo n 3)).length ≤ 5 := by have := membersTo_len n 3; simp only [ints, List.length_map]; omega
          clear hb hst
          go_wp2_with ((at_builtin; refine wpList_append_own _ rfl _ _ 45 rfl w.heap.size 3 i0 (.int .i64 0) 1 8 Tryz.underlying45 hi hz0 hz1 hz2 rfl (by decide) _ _ _ rfl (hown.alloc _) ⟨wr.heap.size, 0, none⟩ 1 1 [.int .i64 3] rfl rfl (cell_one_new _ _ _) (by simp [Value.oneCell']) (by unfold maxLen; omega) (by omega) (by simp; omega) ?_; intro v' w1 hown' hgrow _))
          have hx1 : Ext w w1 := Ext.grown (hx.alloc _) hgrow fun k hk => (hown.lt k hk).1
          go_roundw
          case rel => exact ⟨4, by omega, rfl, hx1, own_snoc rfl (by simpa using Hst.out) hown'⟩
          case measure => simp [intOf]
      · have hfin := members_end ⟨n, hn⟩ ⟨3, by omega⟩ (by simp only; omega)
        simp only at hfin
        rw [hfin] at hown
        clear hst hfin
        go_wp2
        go_ret
        exact ⟨_, rfl, IntsAt.of_own hown (members_I64 n), hx⟩
    · by_cases hle : (16 : Int) ≤ n
      · cases hb : n.testBit 4
        · have hand : bits BinOp.and IntKind.i64 (n : Int) 16 = 0 := and_no ⟨n, hn⟩ ⟨4, by omega⟩ hb
          rw [hb] at hst
          have Hst := Lib.hid hst
          clear hb hst
          go_wp2
          go_roundw
          case rel => exact ⟨5, by omega, rfl, hx, by have := Hst.out; simp only [Bool.false_eq_true, if_false, List.append_nil] at this; rw [this]; exact hown⟩
          case measure => simp [intOf]
        · have hand : bits BinOp.and IntKind.i64 (n : Int) 16 = 16 := and_yes ⟨n, hn⟩ ⟨4, by omega⟩ hb
          rw [hb] at hst
          have Hst := Lib.hid hst
          have hml : (ints (membersTo n 4)).length ≤ 5 := by have := membersTo_len n 4; simp only [ints, List.length_map]; omega
          clear hb hst
          go_wp2_with ((at_builtin; refine wpList_append_own _ rfl _ _ 45 rfl w.heap.size 3 i0 (.int .i64 0) 1 8 Tryz.underlying45 hi hz0 hz1 hz2 rfl (by decide) _ _ _ rfl (hown.alloc _) ⟨wr.heap.size, 0, none⟩ 1 1 [.int .i64 4] rfl rfl (cell_one_new _ _ _) (by simp [Value.oneCell']) (by unfold maxLen; omega) (by omega) (by simp; omega) ?_; intro v' w1 hown' hgrow _))
          have hx1 : Ext w w1 := Ext.grown (hx.alloc _) hgrow fun k hk => (hown.lt k hk).1
          go_roundw
          case rel => exact ⟨5, by omega, rfl, hx1, own_snoc rfl (by simpa using Hst.out) hown'⟩
          case measure => simp [intOf]
      · have hfin := members_end ⟨n, hn⟩ ⟨4, by omega⟩ (by simp only; omega)
        simp only at hfin
        rw [hfin] at hown
        clear hst hfin
        go_wp2
        go_ret
        exact ⟨_, rfl, IntsAt.of_own hown (members_I64 n), hx⟩
    · have hle : ¬ (32 : Int) ≤ n := by omega
      clear hst
      go_wp2
      go_ret
      exact ⟨_, rfl, IntsAt.of_own hown (members_I64 n), hx⟩
end Go.Proofs.YtnfbhicoknpojaaGreat

namespace Go.Proofs.YtnfbhicoknpojaaGreat
set_option linter.unusedSimpArgs false
set_option linter.unusedVariables false
open Go.RowKit

def ssRaw (n a b c d e : Int) : Value := .agg #[.int .i64 n, .int .i64 a, .int .i64 b, .int .i64 c, .int .i64 d, .int .i64 e]
def ssV (l : List Int) : Value := ssRaw l.length (l.getD 0 0) (l.getD 1 0) (l.getD 2 0) (l.getD 3 0) (l.getD 4 0)

theorem with_silent (n a b c d e : Int) (w : World) :
    Calls Tryz.prog 132 #[ssRaw n a b c d e, .int .i64 (-1)] w fun r w' => r = .returned (ssRaw n a b c d e) ∧ Ext w w' := by
  unfold ssRaw
  go_enter Tryz.func132, Tryz.ntmps132
  go_wp2
  refine bodyPost_ret (v := .agg #[.int .i64 n, .int .i64 a, .int .i64 b, .int .i64 c, .int .i64 d, .int .i64 e]) (by simp [results, Tryz.results132, go_sem]) rfl ⟨rfl, ?_⟩
  exact (by first | (with_reducible exact Ext.refl _) | (with_reducible assumption) | (show Below _ _ _; go_grown; done))
set_option maxHeartbeats 1000000 in
theorem with_raw (n : Nat) (s a b c d e : Int) (hs : s ≠ -1) (hn : n < 5) (w : World) :
    Calls Tryz.prog 132 #[ssRaw n a b c d e, .int .i64 s] w
      fun r w' => r = .returned (ssRaw (n + 1) (if n = 0 then s else a) (if n = 1 then s else b) (if n = 2 then s else c) (if n = 3 then s else d) (if n = 4 then s else e)) ∧ Ext w w' := by
  unfold ssRaw
  have hs' : (s != -1) = true := by simpa using hs
  have hn5 : n = 0 ∨ n = 1 ∨ n = 2 ∨ n = 3 ∨ n = 4 := by omega
  rcases hn5 with rfl | rfl | rfl | rfl | rfl
  · go_enter Tryz.func132, Tryz.ntmps132
    go_wp2
    refine bodyPost_ret (v := .agg #[.int .i64 1, .int .i64 s, .int .i64 b, .int .i64 c, .int .i64 d, .int .i64 e]) (by simp [results, Tryz.results132, go_sem]) rfl ⟨rfl, ?_⟩
    exact (by first | (with_reducible exact Ext.refl _) | (with_reducible assumption) | (show Below _ _ _; go_grown; done))
  · go_enter Tryz.func132, Tryz.ntmps132
    go_wp2
    refine bodyPost_ret (v := .agg #[.int .i64 2, .int .i64 a, .int .i64 s, .int .i64 c, .int .i64 d, .int .i64 e]) (by simp [results, Tryz.results132, go_sem]) rfl ⟨rfl, ?_⟩
    exact (by first | (with_reducible exact Ext.refl _) | (with_reducible assumption) | (show Below _ _ _; go_grown; done))
  · go_enter Tryz.func132, Tryz.ntmps132
    go_wp2
    refine bodyPost_ret (v := .agg #[.int .i64 3, .int .i64 a, .int .i64 b, .int .i64 s, .int .i64 d, .int .i64 e]) (by simp [results, Tryz.results132, go_sem]) rfl ⟨rfl, ?_⟩
    exact (by first | (with_reducible exact Ext.refl _) | (with_reducible assumption) | (show Below _ _ _; go_grown; done))
  · go_enter Tryz.func132, Tryz.ntmps132
    go_wp2
    refine bodyPost_ret (v := .agg #[.int .i64 4, .int .i64 a, .int .i64 b, .int .i64 c, .int .i64 s, .int .i64 e]) (by simp [results, Tryz.results132, go_sem]) rfl ⟨rfl, ?_⟩
    exact (by first | (with_reducible exact Ext.refl _) | (with_reducible assumption) | (show Below _ _ _; go_grown; done))
  · go_enter Tryz.func132, Tryz.ntmps132
    go_wp2
    refine bodyPost_ret (v := .agg #[.int .i64 5, .int .i64 a, .int .i64 b, .int .i64 c, .int .i64 d, .int .i64 s]) (by simp [results, Tryz.results132, go_sem]) rfl ⟨rfl, ?_⟩
    exact (by first | (with_reducible exact Ext.refl _) | (with_reducible assumption) | (show Below _ _ _; go_grown; done))
theorem with_any (l : List Int) (s : Int) (hl : l.length < 5) (hs : s ≠ -1) (w : World) :
    Calls Tryz.prog 132 #[ssV l, .int .i64 s] w fun r w' => r = .returned (ssV (l ++ [s])) ∧ Ext w w' := by
  refine (with_raw l.length s _ _ _ _ _ hs hl w).mono ?_
  rintro r w' ⟨rfl, hx⟩
  refine ⟨?_, hx⟩
  match l, hl with
  | [], _ => rfl
  | [a], _ => rfl
  | [a, b], _ => rfl
  | [a, b, c], _ => rfl
  | [a, b, c, d], _ => rfl
theorem with_none (l : List Int) (w : World) :
    Calls Tryz.prog 132 #[ssV l, .int .i64 (-1)] w fun r w' => r = .returned (ssV l) ∧ Ext w w' := with_silent _ _ _ _ _ _ w

def givesM (x : Letter) (s : Int) : Bool := if s = -1 then x.silent else x.sounds.toNat.testBit s.toNat
theorem and_bit : ∀ (n : Fin 16) (k : Fin 4), (bits BinOp.and IntKind.i64 ((n.1 : Nat) : Int) ((2 ^ k.1 : Nat) : Int) != 0) = n.1.testBit k.1 := by decide +kernel
def FineL (x : Letter) : Prop := 0 ≤ x.sounds ∧ x.sounds ≤ 15

set_option maxRecDepth 100000 in
theorem gives_any (u : Value) (x : Letter) (s : Int) (hu : LetterV u x) (hf : FineL x) (hs : -1 ≤ s ∧ s ≤ 3) (w : World) :
    Calls Tryz.prog 67 #[u, .int .i64 s] w fun r w' => r = .returned (.bool (givesM x s)) ∧ Ext w w' := by
  obtain ⟨rfl, -, -⟩ := hu
  obtain ⟨n, hn, hn15⟩ : ∃ n : Nat, x.sounds = n ∧ n < 16 := ⟨x.sounds.toNat, by have := hf.1; have := hf.2; omega, by have := hf.1; have := hf.2; omega⟩
  have hb := fun k => and_bit ⟨n, hn15⟩ k
  have hgt : x.sounds.toNat = n := by omega
  have Hgt := Lib.hid hgt
  clear hgt hf
  rw [hn]
  clear hn
  have hs5 : s = -1 ∨ s = 0 ∨ s = 1 ∨ s = 2 ∨ s = 3 := by omega
  rcases hs5 with rfl | rfl | rfl | rfl | rfl
  · clear hb
    go_enter Tryz.func67, Tryz.ntmps67
    go_wp2
    go_ret
    exact ⟨rfl, (by first | (with_reducible exact Ext.refl _) | (with_reducible assumption) | (show Below _ _ _; go_grown; done))⟩
  · have hk : (bits BinOp.and IntKind.i64 (n : Int) 1 != 0) = n.testBit 0 := hb ⟨0, by omega⟩
    clear hb
    have c1 : (w.alloc (.cells #[.int .u8 x.c, .int .i64 (n : Int), .bool x.silent] 137)).cell? ⟨w.heap.size, 1, none⟩ = some (.int .i64 (n : Int)) := by simp [go_sem]
    go_enter Tryz.func67, Tryz.ntmps67
    go_wp2_with fail
    apply Facts.wp_region [.val _, .val _, .val _, .val _, .val _, .val _, .val _, .val _] (by kernel_rfl) (by kernel_rfl) trivial ?main
    case main =>
      iterate 8 (refine ⟨fun w1 hx hh => ?_, ?_⟩; focus (clear hh; have e1 := hx.cell c1; go_simp; exact ⟨Ext.refl _, rfl⟩))
      intro w1 hx1 hh
      clear hh c1
      go_simp
      go_wp2
      go_ret
      exact ⟨ret_bool (by rw [givesM, if_neg (by decide), Hgt.out]; exact hk), hx1.of_alloc⟩
  · have hk : (bits BinOp.and IntKind.i64 (n : Int) 2 != 0) = n.testBit 1 := hb ⟨1, by omega⟩
    clear hb
    have c1 : (w.alloc (.cells #[.int .u8 x.c, .int .i64 (n : Int), .bool x.silent] 137)).cell? ⟨w.heap.size, 1, none⟩ = some (.int .i64 (n : Int)) := by simp [go_sem]
    go_enter Tryz.func67, Tryz.ntmps67
    go_wp2_with fail
    apply Facts.wp_region [.val _, .val _, .val _, .val _, .val _, .val _, .val _, .val _] (by kernel_rfl) (by kernel_rfl) trivial ?main
    case main =>
      iterate 8 (refine ⟨fun w1 hx hh => ?_, ?_⟩; focus (clear hh; have e1 := hx.cell c1; go_simp; exact ⟨Ext.refl _, rfl⟩))
      intro w1 hx1 hh
      clear hh c1
      go_simp
      go_wp2
      go_ret
      exact ⟨ret_bool (by rw [givesM, if_neg (by decide), Hgt.out]; exact hk), hx1.of_alloc⟩
  · have hk : (bits BinOp.and IntKind.i64 (n : Int) 4 != 0) = n.testBit 2 := hb ⟨2, by omega⟩
    clear hb
    have c1 : (w.alloc (.cells #[.int .u8 x.c, .int .i64 (n : Int), .bool x.silent] 137)).cell? ⟨w.heap.size, 1, none⟩ = some (.int .i64 (n : Int)) := by simp [go_sem]
    go_enter Tryz.func67, Tryz.ntmps67
    go_wp2_with fail
    apply Facts.wp_region [.val _, .val _, .val _, .val _, .val _, .val _, .val _, .val _] (by kernel_rfl) (by kernel_rfl) trivial ?main
    case main =>
      iterate 8 (refine ⟨fun w1 hx hh => ?_, ?_⟩; focus (clear hh; have e1 := hx.cell c1; go_simp; exact ⟨Ext.refl _, rfl⟩))
      intro w1 hx1 hh
      clear hh c1
      go_simp
      go_wp2
      go_ret
      exact ⟨ret_bool (by rw [givesM, if_neg (by decide), Hgt.out]; exact hk), hx1.of_alloc⟩
  · have hk : (bits BinOp.and IntKind.i64 (n : Int) 8 != 0) = n.testBit 3 := hb ⟨3, by omega⟩
    clear hb
    have c1 : (w.alloc (.cells #[.int .u8 x.c, .int .i64 (n : Int), .bool x.silent] 137)).cell? ⟨w.heap.size, 1, none⟩ = some (.int .i64 (n : Int)) := by simp [go_sem]
    go_enter Tryz.func67, Tryz.ntmps67
    go_wp2_with fail
    apply Facts.wp_region [.val _, .val _, .val _, .val _, .val _, .val _, .val _, .val _] (by kernel_rfl) (by kernel_rfl) trivial ?main
    case main =>
      iterate 8 (refine ⟨fun w1 hx hh => ?_, ?_⟩; focus (clear hh; have e1 := hx.cell c1; go_simp; exact ⟨Ext.refl _, rfl⟩))
      intro w1 hx1 hh
      clear hh c1
      go_simp
      go_wp2
      go_ret
      exact ⟨ret_bool (by rw [givesM, if_neg (by decide), Hgt.out]; exact hk), hx1.of_alloc⟩
end Go.Proofs.YtnfbhicoknpojaaGreat

namespace Go.Proofs.YtnfbhicoknpojaaGreat
set_option linter.unusedSimpArgs false
set_option linter.unusedVariables false
open Go.RowKit

/-- the comparison of two lists, number by number -/
def cmpL : List Int → List Int → Int
  | [], [] => 0
  | [], _ :: _ => -1
  | _ :: _, [] => 1
  | x :: a, y :: b => if cmpM x y = 0 then cmpL a b else cmpM x y
theorem cmpL_step (l m : List Int) (k : Nat) (h1 : k < l.length) (h2 : k < m.length) : cmpL (l.drop k) (m.drop k) = if cmpM l[k] m[k] = 0 then cmpL (l.drop (k + 1)) (m.drop (k + 1)) else cmpM l[k] m[k] := by
  rw [List.drop_eq_getElem_cons h1, List.drop_eq_getElem_cons h2, cmpL]

set_option maxHeartbeats 1000000 in
theorem compareL_any (v u : Value) (l m : List Int) (w : World) (hl : IntsAt w v l) (hm : IntsAt w u m) :
    Calls Tryz.prog 139 #[v, u] w fun r w' => r = .returned (.int .i64 (cmpL l m)) ∧ w = w' := by
  obtain ⟨a, cap, rfl, hlc, hcm, hc⟩ := hl
  obtain ⟨a', cap', rfl, hlc', hcm', hc'⟩ := hm
  go_enter Tryz.func139, Tryz.ntmps139
  go_wp2
  go_loop [11] (fun i => ∃ k : Nat, k ≤ l.length ∧ k ≤ m.length ∧ i = .int .i64 k ∧ cmpL (l.drop k) (m.drop k) = cmpL l m) (fun i => l.length - (intOf i).toNat)
  case atStart => exact ⟨0, Nat.zero_le _, Nat.zero_le _, rfl, rfl⟩
  case round =>
    obtain ⟨k, hk, hk', rfl, hd⟩ := hrel
    have Hd := Lib.hid hd; clear hd
    by_cases h1 : k < l.length
    · obtain ⟨b, off, rfl, c1, -⟩ := hc k h1
      clear hc
      by_cases h2 : k < m.length
      · obtain ⟨b', off', rfl, c2, -⟩ := hc' k h2
        clear hc'
        have hst := cmpL_step l m k h1 h2
        generalize hx : l[k] = x at *
        generalize hy : m[k] = y at *
        have Hst := Lib.hid hst
        clear hx hy hst
        simp only [Nat.mul_one] at c1 c2
        by_cases h0 : cmpM x y = 0
        · have H0 := Lib.hid h0
          go_wp2_with (go_at_call 140; refine (cmp_any _ _ _).mono ?_; rintro e w' ⟨rfl, rfl⟩)
          clear h0
          go_round
          case rel => exact ⟨k + 1, by omega, by omega, by go_num, by rw [← Hd.out, Hst.out, if_pos H0.out]⟩
          case measure => simp [intOf]; omega
        · have h0' : (cmpM x y != 0) = true := by simpa using h0
          have H0 := Lib.hid h0
          clear h0
          go_wp2_with (go_at_call 140; refine (cmp_any _ _ _).mono ?_; rintro e w' ⟨rfl, rfl⟩)
          go_ret
          exact ⟨ret_int (by rw [← Hd.out, Hst.out, if_neg H0.out]), rfl⟩
      · clear hc'
        simp only [Nat.mul_one] at c1
        go_wp2
        go_ret
        exact ⟨ret_int (by rw [← Hd.out, List.drop_eq_getElem_cons h1, List.drop_eq_nil_of_le (show m.length ≤ k by omega)]; rfl), rfl⟩
    · clear hc hc'
      by_cases h2 : k < m.length
      · go_wp2
        go_ret
        exact ⟨ret_int (by rw [← Hd.out, List.drop_eq_nil_of_le (show l.length ≤ k by omega), List.drop_eq_getElem_cons h2]; rfl), rfl⟩
      · go_wp2
        go_ret
        exact ⟨ret_int (by rw [← Hd.out, List.drop_eq_nil_of_le (show l.length ≤ k by omega), List.drop_eq_nil_of_le (show m.length ≤ k by omega)]; rfl), rfl⟩
end Go.Proofs.YtnfbhicoknpojaaGreat

namespace Go.Proofs.YtnfbhicoknpojaaGreat
set_option linter.unusedSimpArgs false
set_option linter.unusedVariables false
open Go.RowKit

set_option maxHeartbeats 1000000 in
theorem eq_array (a b c d e a' b' c' d' e' : Int) (k : Nat) (w : World) :
    (Op.equalIn (k + 2) 127 (.agg #[.int .i64 a, .int .i64 b, .int .i64 c, .int .i64 d, .int .i64 e]) (.agg #[.int .i64 a', .int .i64 b', .int .i64 c', .int .i64 d', .int .i64 e'])).run Tryz.prog w =
      .ok (a == a' && (b == b' && (c == c' && (d == d' && e == e')))) w := by
  have ha : ∀ w, (isAgg 3).run Tryz.prog w = .ok false w := fun _ => by kernel_rfl
  rw [Op.equalIn]
  simp only [go_sem]
  simp [List.range', go_sem]
  by_cases h1 : a = a' <;> by_cases h2 : b = b' <;> by_cases h3 : c = c' <;> by_cases h4 : d = d' <;> by_cases h5 : e = e' <;> simp [h1, h2, h3, h4, h5]
theorem neq_array (a b c d e a' b' c' d' e' : Int) (w : World) :
    (binOp .neq 127 (.agg #[.int .i64 a, .int .i64 b, .int .i64 c, .int .i64 d, .int .i64 e]) (.agg #[.int .i64 a', .int .i64 b', .int .i64 c', .int .i64 d', .int .i64 e'])).run Tryz.prog w =
      .ok (.bool (!(a == a' && (b == b' && (c == c' && (d == d' && e == e')))))) w := by
  rw [run_neq_struct, eq_array]
  rfl
theorem eq_sound (n a b c d e n' a' b' c' d' e' : Int) (k : Nat) (w : World) :
    (Op.equalIn (k + 3) 129 (ssRaw n a b c d e) (ssRaw n' a' b' c' d' e')).run Tryz.prog w =
      .ok (n == n' && (a == a' && (b == b' && (c == c' && (d == d' && e == e'))))) w := by
  have ha : ∀ w, (isAgg 3).run Tryz.prog w = .ok false w := fun _ => by kernel_rfl
  have hb : ∀ w, (isAgg 127).run Tryz.prog w = .ok true w := fun _ => by kernel_rfl
  have hs : ∀ w, (sizeOf 127).run Tryz.prog w = .ok 5 w := fun _ => by kernel_rfl
  unfold ssRaw
  rw [run_equalIn_struct _ _ _ _ _ (by kernel_rfl) (by kernel_rfl)]
  have hf : ((Tryz.prog.fieldsOf 129).toList.map fun f => (f.name, f.type, f.offset)) = [("long", 3, 0), ("sounds", 127, 1)] := by kernel_rfl
  generalize (Tryz.prog.fieldsOf 129).toList = fs at *
  obtain ⟨f, g, rfl⟩ : ∃ f g, fs = [f, g] := by
    rcases fs with _ | ⟨f, _ | ⟨g, _ | ⟨h, r⟩⟩⟩
    · simp at hf
    · simp at hf
    · exact ⟨f, g, rfl⟩
    · simp at hf
  simp only [List.map_cons, List.map_nil, List.cons.injEq, Prod.mk.injEq, and_true] at hf
  obtain ⟨⟨h1, h2, h3⟩, h4, h5, h6⟩ := hf
  have e1 := eq_array a b c d e a' b' c' d' e' k
  simp [Op.eqFields, h1, h2, h3, h4, h5, h6, part, ha, hb, hs, go_sem, e1]
  by_cases hn : n = n' <;> by_cases g1 : a = a' <;> by_cases g2 : b = b' <;> by_cases g3 : c = c' <;> by_cases g4 : d = d' <;> by_cases g5 : e = e' <;> simp [hn, g1, g2, g3, g4, g5]
end Go.Proofs.YtnfbhicoknpojaaGreat

namespace Go.Proofs.YtnfbhicoknpojaaGreat
set_option linter.unusedSimpArgs false
set_option linter.unusedVariables false
open Go.RowKit

theorem IntsAt.five {w : World} {B o : Nat} {a b c d e : Int} (h0 : w.cell? ⟨B, o, none⟩ = some (.int .i64 a)) (h1 : w.cell? ⟨B, o + 1, none⟩ = some (.int .i64 b)) (h2 : w.cell? ⟨B, o + 2, none⟩ = some (.int .i64 c))
    (h3 : w.cell? ⟨B, o + 3, none⟩ = some (.int .i64 d)) (h4 : w.cell? ⟨B, o + 4, none⟩ = some (.int .i64 e)) (hi : I64 a ∧ I64 b ∧ I64 c ∧ I64 d ∧ I64 e) : IntsAt w (.slice (some ⟨B, o, none⟩) 5 5) [a, b, c, d, e] := by
  refine ⟨_, _, rfl, Nat.le_refl _, by omega, fun i hi5 => ⟨B, o, rfl, ?_⟩⟩
  obtain ⟨i0, i1, i2, i3, i4⟩ := hi
  have h5 : i = 0 ∨ i = 1 ∨ i = 2 ∨ i = 3 ∨ i = 4 := by simp at hi5; omega
  rcases h5 with rfl | rfl | rfl | rfl | rfl
  · exact ⟨h0, i0⟩
  · exact ⟨h1, i1⟩
  · exact ⟨h2, i2⟩
  · exact ⟨h3, i3⟩
  · exact ⟨h4, i4⟩

set_option maxRecDepth 100000 in
set_option maxHeartbeats 1000000 in
theorem compare_raw (n a b c d e n' a' b' c' d' e' : Int) (w : World) (hi : I64 a ∧ I64 b ∧ I64 c ∧ I64 d ∧ I64 e) (hi' : I64 a' ∧ I64 b' ∧ I64 c' ∧ I64 d' ∧ I64 e') :
    Calls Tryz.prog 106 #[ssRaw n a b c d e, ssRaw n' a' b' c' d' e'] w
      fun r w' => r = .returned (.int .i64 (if (n == n' && !(a == a' && (b == b' && (c == c' && (d == d' && e == e'))))) = true then cmpL [a, b, c, d, e] [a', b', c', d', e'] else cmpM n n')) ∧ Ext w w' := by
  unfold ssRaw
  cases hn : (n == n')
  · go_enter Tryz.func106, Tryz.ntmps106
    go_wp2_with fail
    refine (cmp_any _ _ _).mono ?_
    rintro r w' ⟨rfl, rfl⟩
    go_wp2
    go_ret
    exact ⟨rfl, (by first | (with_reducible exact Ext.refl _) | (with_reducible assumption) | (show Below _ _ _; go_grown; done))⟩
  · have hne := neq_array a b c d e a' b' c' d' e'
    cases hq : (a == a' && (b == b' && (c == c' && (d == d' && e == e'))))
    · rw [hq] at hne
      have Hq := Lib.hid hq
      clear hq
      obtain ⟨W, hW⟩ : ∃ W, W = (w.alloc (.cells #[.int .i64 n, .int .i64 a, .int .i64 b, .int .i64 c, .int .i64 d, .int .i64 e] 129)).alloc (.cells #[.int .i64 n', .int .i64 a', .int .i64 b', .int .i64 c', .int .i64 d', .int .i64 e'] 129) := ⟨_, rfl⟩
      have l1 : IntsAt W (.slice (some ⟨w.heap.size, 1, none⟩) 5 5) [a, b, c, d, e] := by
        subst hW
        exact IntsAt.five (by simp [go_sem]) (by simp [go_sem]) (by simp [go_sem]) (by simp [go_sem]) (by simp [go_sem]) hi
      have l2 : IntsAt W (.slice (some ⟨w.heap.size + 1, 1, none⟩) 5 5) [a', b', c', d', e'] := by
        subst hW
        exact IntsAt.five (by simp [go_sem]) (by simp [go_sem]) (by simp [go_sem]) (by simp [go_sem]) (by simp [go_sem]) hi'
      have HW := Lib.hid hW
      clear hW
      go_enter Tryz.func106, Tryz.ntmps106
      go_wp2_with fail
      rw [← HW.out]
      apply Facts.wp_region [.val _, .val _, .val _, .val _, .val _, .val _] (by kernel_rfl) (by kernel_rfl) trivial ?main
      case main =>
        iterate 4 (refine ⟨fun w1 hx hh => ?_, ?_⟩; focus (clear hh; skip; go_simp; exact ⟨Ext.refl _, rfl⟩))
        refine ⟨fun w1 hx hh => ?_, ?_⟩
        · clear hh
          go_simp
          refine (compareL_any _ _ [a, b, c, d, e] [a', b', c', d', e'] w1 (l1.ext hx) (l2.ext hx)).mono ?_
          rintro e w' ⟨rfl, rfl⟩
          exact ⟨_, rfl, Ext.refl _, rfl⟩
        iterate 1 (refine ⟨fun w1 hx hh => ?_, ?_⟩; focus (clear hh; skip; go_simp; exact ⟨Ext.refl _, rfl⟩))
        intro w1 hx1 hh
        have hx3 : Ext w W := by rw [HW.out]; exact (ext_alloc _ _).alloc _
        clear hh l1 l2
        go_simp
        go_wp2
        go_ret
        exact ⟨rfl, hx3.trans hx1⟩
    · rw [hq] at hne
      have Hq := Lib.hid hq
      clear hq
      go_enter Tryz.func106, Tryz.ntmps106
      go_wp2_with fail
      refine (cmp_any _ _ _).mono ?_
      rintro r w' ⟨rfl, rfl⟩
      go_wp2
      go_ret
      exact ⟨rfl, (by first | (with_reducible exact Ext.refl _) | (with_reducible assumption) | (show Below _ _ _; go_grown; done))⟩
end Go.Proofs.YtnfbhicoknpojaaGreat

namespace Go.Proofs.YtnfbhicoknpojaaGreat
set_option linter.unusedSimpArgs false
set_option linter.unusedVariables false
open Go.RowKit
set_option linter.unusedSimpArgs false

def pad (l : List Int) : List Int := [l.getD 0 0, l.getD 1 0, l.getD 2 0, l.getD 3 0, l.getD 4 0]
def cmpSS (l m : List Int) : Int := if l.length = m.length then cmpL l m else cmpM l.length m.length
theorem cmpM_self (x : Int) : cmpM x x = 0 := by rw [cmpM, if_neg (by omega), if_neg (by omega)]
theorem cmpL_self : ∀ l : List Int, cmpL l l = 0
  | [] => rfl
  | x :: l => by rw [cmpL, if_pos (cmpM_self x), cmpL_self l]
theorem cmp_pad (l m : List Int) (h : l.length = m.length) (h5 : l.length ≤ 5) : cmpL (pad l) (pad m) = cmpL l m := by
  have z : cmpM 0 0 = 0 := rfl
  match l, m, h, h5 with
  | [], [], _, _ => rfl
  | [a], [a'], _, _ => simp [pad, cmpL, z]
  | [a, b], [a', b'], _, _ => simp [pad, cmpL, z]
  | [a, b, c], [a', b', c'], _, _ => simp [pad, cmpL, z]
  | [a, b, c, d], [a', b', c', d'], _, _ => simp [pad, cmpL, z]
  | [a, b, c, d, e], [a', b', c', d', e'], _, _ => rfl
theorem getD_I64 (l : List Int) (h : ∀ x ∈ l, I64 x) (i : Nat) : I64 (l.getD i 0) := by
  rw [List.getD_eq_getElem?_getD]
  cases hi : l[i]? with
  | none => simp [I64]
  | some x => exact h x (List.mem_of_getElem? hi)
theorem compare_any (l m : List Int) (h : l.length ≤ 5) (hl : ∀ x ∈ l, I64 x) (hm : ∀ x ∈ m, I64 x) (w : World) :
    Calls Tryz.prog 106 #[ssV l, ssV m] w fun r w' => r = .returned (.int .i64 (cmpSS l m)) ∧ Ext w w' := by
  refine (compare_raw l.length _ _ _ _ _ m.length _ _ _ _ _ w ⟨getD_I64 l hl 0, getD_I64 l hl 1, getD_I64 l hl 2, getD_I64 l hl 3, getD_I64 l hl 4⟩ ⟨getD_I64 m hm 0, getD_I64 m hm 1, getD_I64 m hm 2, getD_I64 m hm 3, getD_I64 m hm 4⟩).mono ?_
  rintro r w' ⟨rfl, hx⟩
  refine ⟨ret_int ?_, hx⟩
  unfold cmpSS
  by_cases hn : l.length = m.length
  · rw [if_pos hn]
    have hn' : ((l.length : Int) == (m.length : Int)) = true := by rw [beq_iff_eq]; omega
    rw [hn', Bool.true_and, ← cmp_pad l m hn h]
    split
    · rfl
    · rename_i hq
      simp only [Bool.not_eq_true', Bool.not_eq_false, Bool.and_eq_true, beq_iff_eq] at hq
      obtain ⟨q0, q1, q2, q3, q4⟩ := hq
      have : pad l = pad m := by unfold pad; rw [q0, q1, q2, q3, q4]
      rw [this, cmpL_self, hn, cmpM_self]
  · rw [if_neg hn, if_neg]
    simp only [Bool.and_eq_true, beq_iff_eq]
    intro hh
    exact hn (by omega)

set_option maxRecDepth 100000 in
theorem heardAs_0 (v : Value) (w : World) (hl : IntsAt w v []) :
    Calls Tryz.prog 61 #[v] w fun r w' => r = .returned (ssV []) ∧ Ext w w' := by
  obtain ⟨p, cap, rfl, hlc, hcm, hc⟩ := hl
  have hcopy : (Builtin.copy_ #[45, 45] 3 #[.slice (some ⟨w.heap.size + 1, 1, none⟩) 5 5, .slice p 0 cap]).run Tryz.prog ((w.alloc (.cells #[.int .i64 0, .int .i64 0, .int .i64 0, .int .i64 0, .int .i64 0, .int .i64 0] 129)).alloc (.cells #[.int .i64 0, .int .i64 0, .int .i64 0, .int .i64 0, .int .i64 0, .int .i64 0] 129)) = .ok (goInt 0) ((w.alloc (.cells #[.int .i64 0, .int .i64 0, .int .i64 0, .int .i64 0, .int .i64 0, .int .i64 0] 129)).alloc (.cells #[.int .i64 0, .int .i64 0, .int .i64 0, .int .i64 0, .int .i64 0, .int .i64 0] 129)) :=
    run_copy_none _ _ _ _ 3 _ _ _ _ _ _ Tryz.underlying45 (by kernel_rfl) rfl
  go_enter Tryz.func61, Tryz.ntmps61
  go_wp2
  refine bodyPost_ret (v := .agg #[.int .i64 0, .int .i64 0, .int .i64 0, .int .i64 0, .int .i64 0, .int .i64 0]) (by simp [results, Tryz.results61, go_sem]) rfl ⟨rfl, ?_⟩
  exact (by first | (with_reducible exact Ext.refl _) | (with_reducible assumption) | (show Below _ _ _; go_grown; done))
set_option maxRecDepth 100000 in
theorem heardAs_1 (a : Int) (v : Value) (w : World) (hl : IntsAt w v [a]) :
    Calls Tryz.prog 61 #[v] w fun r w' => r = .returned (ssV [a]) ∧ Ext w w' := by
  obtain ⟨p, cap, rfl, hlc, hcm, hc⟩ := hl
  obtain ⟨_, _, rfl, h0, -⟩ := hc 0 (by simp)
  clear hc
  simp only [Nat.zero_mul, Nat.one_mul, Nat.reduceMul, Nat.add_zero, List.length_cons, List.length_nil, List.getElem_cons_zero, List.getElem_cons_succ] at h0 hlc ⊢
  rename_i bb off
  have hcopy : (Builtin.copy_ #[45, 45] 3 #[.slice (some ⟨w.heap.size + 1, 1, none⟩) 5 5, .slice (some ⟨bb, off, none⟩) 1 cap]).run Tryz.prog ((w.alloc (.cells #[.int .i64 0, .int .i64 0, .int .i64 0, .int .i64 0, .int .i64 0, .int .i64 0] 129)).alloc (.cells #[.int .i64 1, .int .i64 0, .int .i64 0, .int .i64 0, .int .i64 0, .int .i64 0] 129)) = .ok (goInt 1) ((w.alloc (.cells #[.int .i64 0, .int .i64 0, .int .i64 0, .int .i64 0, .int .i64 0, .int .i64 0] 129)).alloc (.cells #[.int .i64 1, .int .i64 a, .int .i64 0, .int .i64 0, .int .i64 0, .int .i64 0] 129)) := by
    have hlt := cell_lt h0
    rw [run_copy_cells (P := Tryz.prog) ((w.alloc (.cells #[.int .i64 0, .int .i64 0, .int .i64 0, .int .i64 0, .int .i64 0, .int .i64 0] 129)).alloc (.cells #[.int .i64 1, .int .i64 0, .int .i64 0, .int .i64 0, .int .i64 0, .int .i64 0] 129)) 45 45 3 3 (w.heap.size + 1) 1 5 5 ⟨bb, off, none⟩ 1 cap [.int .i64 a] Tryz.underlying45 (by kernel_rfl) rfl ?_ ?_ ?_ (by simp [Value.oneCell'])]
    · simp [World.setCells, go_sem]
    · intro j u hj
      have hx := (ext_alloc w (.cells #[.int .i64 0, .int .i64 0, .int .i64 0, .int .i64 0, .int .i64 0, .int .i64 0] 129)).alloc (.cells #[.int .i64 1, .int .i64 0, .int .i64 0, .int .i64 0, .int .i64 0, .int .i64 0] 129)
      match j, hj with
      | 0, hj => simp at hj; subst hj; exact hx.cell h0
    · intro j hj
      have hj : j = 0 := by simp at hj; omega
      rcases hj with rfl <;> simp [go_sem]
    · intro j hj
      have hj : j = 0 := by simp at hj; omega
      rcases hj with rfl <;> simp [go_sem]
  go_enter Tryz.func61, Tryz.ntmps61
  go_wp2
  refine bodyPost_ret (v := .agg #[.int .i64 1, .int .i64 a, .int .i64 0, .int .i64 0, .int .i64 0, .int .i64 0]) (by simp [results, Tryz.results61, go_sem]) rfl ⟨rfl, ?_⟩
  exact (by first | (with_reducible exact Ext.refl _) | (with_reducible assumption) | (show Below _ _ _; go_grown; done))
set_option maxRecDepth 100000 in
theorem heardAs_2 (a b : Int) (v : Value) (w : World) (hl : IntsAt w v [a, b]) :
    Calls Tryz.prog 61 #[v] w fun r w' => r = .returned (ssV [a, b]) ∧ Ext w w' := by
  obtain ⟨p, cap, rfl, hlc, hcm, hc⟩ := hl
  obtain ⟨_, _, rfl, h0, -⟩ := hc 0 (by simp)
  obtain ⟨_, _, e1, h1, -⟩ := hc 1 (by simp)
  cases e1
  clear hc
  simp only [Nat.zero_mul, Nat.one_mul, Nat.reduceMul, Nat.add_zero, List.length_cons, List.length_nil, List.getElem_cons_zero, List.getElem_cons_succ] at h0 h1 hlc ⊢
  rename_i bb off
  have hcopy : (Builtin.copy_ #[45, 45] 3 #[.slice (some ⟨w.heap.size + 1, 1, none⟩) 5 5, .slice (some ⟨bb, off, none⟩) 2 cap]).run Tryz.prog ((w.alloc (.cells #[.int .i64 0, .int .i64 0, .int .i64 0, .int .i64 0, .int .i64 0, .int .i64 0] 129)).alloc (.cells #[.int .i64 2, .int .i64 0, .int .i64 0, .int .i64 0, .int .i64 0, .int .i64 0] 129)) = .ok (goInt 2) ((w.alloc (.cells #[.int .i64 0, .int .i64 0, .int .i64 0, .int .i64 0, .int .i64 0, .int .i64 0] 129)).alloc (.cells #[.int .i64 2, .int .i64 a, .int .i64 b, .int .i64 0, .int .i64 0, .int .i64 0] 129)) := by
    have hlt := cell_lt h0
    rw [run_copy_cells (P := Tryz.prog) ((w.alloc (.cells #[.int .i64 0, .int .i64 0, .int .i64 0, .int .i64 0, .int .i64 0, .int .i64 0] 129)).alloc (.cells #[.int .i64 2, .int .i64 0, .int .i64 0, .int .i64 0, .int .i64 0, .int .i64 0] 129)) 45 45 3 3 (w.heap.size + 1) 1 5 5 ⟨bb, off, none⟩ 2 cap [.int .i64 a, .int .i64 b] Tryz.underlying45 (by kernel_rfl) rfl ?_ ?_ ?_ (by simp [Value.oneCell'])]
    · simp [World.setCells, go_sem]
    · intro j u hj
      have hx := (ext_alloc w (.cells #[.int .i64 0, .int .i64 0, .int .i64 0, .int .i64 0, .int .i64 0, .int .i64 0] 129)).alloc (.cells #[.int .i64 2, .int .i64 0, .int .i64 0, .int .i64 0, .int .i64 0, .int .i64 0] 129)
      match j, hj with
      | 0, hj => simp at hj; subst hj; exact hx.cell h0
      | 1, hj => simp at hj; subst hj; exact hx.cell h1
    · intro j hj
      have hj : j = 0 ∨ j = 1 := by simp at hj; omega
      rcases hj with rfl | rfl <;> simp [go_sem]
    · intro j hj
      have hj : j = 0 ∨ j = 1 := by simp at hj; omega
      rcases hj with rfl | rfl <;> simp [go_sem]
  go_enter Tryz.func61, Tryz.ntmps61
  go_wp2
  refine bodyPost_ret (v := .agg #[.int .i64 2, .int .i64 a, .int .i64 b, .int .i64 0, .int .i64 0, .int .i64 0]) (by simp [results, Tryz.results61, go_sem]) rfl ⟨rfl, ?_⟩
  exact (by first | (with_reducible exact Ext.refl _) | (with_reducible assumption) | (show Below _ _ _; go_grown; done))
set_option maxRecDepth 100000 in
theorem heardAs_3 (a b c : Int) (v : Value) (w : World) (hl : IntsAt w v [a, b, c]) :
    Calls Tryz.prog 61 #[v] w fun r w' => r = .returned (ssV [a, b, c]) ∧ Ext w w' := by
  obtain ⟨p, cap, rfl, hlc, hcm, hc⟩ := hl
  obtain ⟨_, _, rfl, h0, -⟩ := hc 0 (by simp)
  obtain ⟨_, _, e1, h1, -⟩ := hc 1 (by simp)
  cases e1
  obtain ⟨_, _, e2, h2, -⟩ := hc 2 (by simp)
  cases e2
  clear hc
  simp only [Nat.zero_mul, Nat.one_mul, Nat.reduceMul, Nat.add_zero, List.length_cons, List.length_nil, List.getElem_cons_zero, List.getElem_cons_succ] at h0 h1 h2 hlc ⊢
  rename_i bb off
  have hcopy : (Builtin.copy_ #[45, 45] 3 #[.slice (some ⟨w.heap.size + 1, 1, none⟩) 5 5, .slice (some ⟨bb, off, none⟩) 3 cap]).run Tryz.prog ((w.alloc (.cells #[.int .i64 0, .int .i64 0, .int .i64 0, .int .i64 0, .int .i64 0, .int .i64 0] 129)).alloc (.cells #[.int .i64 3, .int .i64 0, .int .i64 0, .int .i64 0, .int .i64 0, .int .i64 0] 129)) = .ok (goInt 3) ((w.alloc (.cells #[.int .i64 0, .int .i64 0, .int .i64 0, .int .i64 0, .int .i64 0, .int .i64 0] 129)).alloc (.cells #[.int .i64 3, .int .i64 a, .int .i64 b, .int .i64 c, .int .i64 0, .int .i64 0] 129)) := by
    have hlt := cell_lt h0
    rw [run_copy_cells (P := Tryz.prog) ((w.alloc (.cells #[.int .i64 0, .int .i64 0, .int .i64 0, .int .i64 0, .int .i64 0, .int .i64 0] 129)).alloc (.cells #[.int .i64 3, .int .i64 0, .int .i64 0, .int .i64 0, .int .i64 0, .int .i64 0] 129)) 45 45 3 3 (w.heap.size + 1) 1 5 5 ⟨bb, off, none⟩ 3 cap [.int .i64 a, .int .i64 b, .int .i64 c] Tryz.underlying45 (by kernel_rfl) rfl ?_ ?_ ?_ (by simp [Value.oneCell'])]
    · simp [World.setCells, go_sem]
    · intro j u hj
      have hx := (ext_alloc w (.cells #[.int .i64 0, .int .i64 0, .int .i64 0, .int .i64 0, .int .i64 0, .int .i64 0] 129)).alloc (.cells #[.int .i64 3, .int .i64 0, .int .i64 0, .int .i64 0, .int .i64 0, .int .i64 0] 129)
      match j, hj with
      | 0, hj => simp at hj; subst hj; exact hx.cell h0
      | 1, hj => simp at hj; subst hj; exact hx.cell h1
      | 2, hj => simp at hj; subst hj; exact hx.cell h2
    · intro j hj
      have hj : j = 0 ∨ j = 1 ∨ j = 2 := by simp at hj; omega
      rcases hj with rfl | rfl | rfl <;> simp [go_sem]
    · intro j hj
      have hj : j = 0 ∨ j = 1 ∨ j = 2 := by simp at hj; omega
      rcases hj with rfl | rfl | rfl <;> simp [go_sem]
  go_enter Tryz.func61, Tryz.ntmps61
  go_wp2
  refine bodyPost_ret (v := .agg #[.int .i64 3, .int .i64 a, .int .i64 b, .int .i64 c, .int .i64 0, .int .i64 0]) (by simp [results, Tryz.results61, go_sem]) rfl ⟨rfl, ?_⟩
  exact (by first | (with_reducible exact Ext.refl _) | (with_reducible assumption) | (show Below _ _ _; go_grown; done))
set_option maxRecDepth 100000 in
theorem heardAs_4 (a b c d : Int) (v : Value) (w : World) (hl : IntsAt w v [a, b, c, d]) :
    Calls Tryz.prog 61 #[v] w fun r w' => r = .returned (ssV [a, b, c, d]) ∧ Ext w w' := by
  obtain ⟨p, cap, rfl, hlc, hcm, hc⟩ := hl
  obtain ⟨_, _, rfl, h0, -⟩ := hc 0 (by simp)
  obtain ⟨_, _, e1, h1, -⟩ := hc 1 (by simp)
  cases e1
  obtain ⟨_, _, e2, h2, -⟩ := hc 2 (by simp)
  cases e2
  obtain ⟨_, _, e3, h3, -⟩ := hc 3 (by simp)
  cases e3
  clear hc
  simp only [Nat.zero_mul, Nat.one_mul, Nat.reduceMul, Nat.add_zero, List.length_cons, List.length_nil, List.getElem_cons_zero, List.getElem_cons_succ] at h0 h1 h2 h3 hlc ⊢
  rename_i bb off
  have hcopy : (Builtin.copy_ #[45, 45] 3 #[.slice (some ⟨w.heap.size + 1, 1, none⟩) 5 5, .slice (some ⟨bb, off, none⟩) 4 cap]).run Tryz.prog ((w.alloc (.cells #[.int .i64 0, .int .i64 0, .int .i64 0, .int .i64 0, .int .i64 0, .int .i64 0] 129)).alloc (.cells #[.int .i64 4, .int .i64 0, .int .i64 0, .int .i64 0, .int .i64 0, .int .i64 0] 129)) = .ok (goInt 4) ((w.alloc (.cells #[.int .i64 0, .int .i64 0, .int .i64 0, .int .i64 0, .int .i64 0, .int .i64 0] 129)).alloc (.cells #[.int .i64 4, .int .i64 a, .int .i64 b, .int .i64 c, .int .i64 d, .int .i64 0] 129)) := by
    have hlt := cell_lt h0
    rw [run_copy_cells (P := Tryz.prog) ((w.alloc (.cells #[.int .i64 0, .int .i64 0, .int .i64 0, .int .i64 0, .int .i64 0, .int .i64 0] 129)).alloc (.cells #[.int .i64 4, .int .i64 0, .int .i64 0, .int .i64 0, .int .i64 0, .int .i64 0] 129)) 45 45 3 3 (w.heap.size + 1) 1 5 5 ⟨bb, off, none⟩ 4 cap [.int .i64 a, .int .i64 b, .int .i64 c, .int .i64 d] Tryz.underlying45 (by kernel_rfl) rfl ?_ ?_ ?_ (by simp [Value.oneCell'])]
    · simp [World.setCells, go_sem]
    · intro j u hj
      have hx := (ext_alloc w (.cells #[.int .i64 0, .int .i64 0, .int .i64 0, .int .i64 0, .int .i64 0, .int .i64 0] 129)).alloc (.cells #[.int .i64 4, .int .i64 0, .int .i64 0, .int .i64 0, .int .i64 0, .int .i64 0] 129)
      match j, hj with
      | 0, hj => simp at hj; subst hj; exact hx.cell h0
      | 1, hj => simp at hj; subst hj; exact hx.cell h1
      | 2, hj => simp at hj; subst hj; exact hx.cell h2
      | 3, hj => simp at hj; subst hj; exact hx.cell h3
    · intro j hj
      have hj : j = 0 ∨ j = 1 ∨ j = 2 ∨ j = 3 := by simp at hj; omega
      rcases hj with rfl | rfl | rfl | rfl <;> simp [go_sem]
    · intro j hj
      have hj : j = 0 ∨ j = 1 ∨ j = 2 ∨ j = 3 := by simp at hj; omega
      rcases hj with rfl | rfl | rfl | rfl <;> simp [go_sem]
  go_enter Tryz.func61, Tryz.ntmps61
  go_wp2
  refine bodyPost_ret (v := .agg #[.int .i64 4, .int .i64 a, .int .i64 b, .int .i64 c, .int .i64 d, .int .i64 0]) (by simp [results, Tryz.results61, go_sem]) rfl ⟨rfl, ?_⟩
  exact (by first | (with_reducible exact Ext.refl _) | (with_reducible assumption) | (show Below _ _ _; go_grown; done))
set_option maxRecDepth 100000 in
theorem heardAs_5 (a b c d e : Int) (v : Value) (w : World) (hl : IntsAt w v [a, b, c, d, e]) :
    Calls Tryz.prog 61 #[v] w fun r w' => r = .returned (ssV [a, b, c, d, e]) ∧ Ext w w' := by
  obtain ⟨p, cap, rfl, hlc, hcm, hc⟩ := hl
  obtain ⟨_, _, rfl, h0, -⟩ := hc 0 (by simp)
  obtain ⟨_, _, e1, h1, -⟩ := hc 1 (by simp)
  cases e1
  obtain ⟨_, _, e2, h2, -⟩ := hc 2 (by simp)
  cases e2
  obtain ⟨_, _, e3, h3, -⟩ := hc 3 (by simp)
  cases e3
  obtain ⟨_, _, e4, h4, -⟩ := hc 4 (by simp)
  cases e4
  clear hc
  simp only [Nat.zero_mul, Nat.one_mul, Nat.reduceMul, Nat.add_zero, List.length_cons, List.length_nil, List.getElem_cons_zero, List.getElem_cons_succ] at h0 h1 h2 h3 h4 hlc ⊢
  rename_i bb off
  have hcopy : (Builtin.copy_ #[45, 45] 3 #[.slice (some ⟨w.heap.size + 1, 1, none⟩) 5 5, .slice (some ⟨bb, off, none⟩) 5 cap]).run Tryz.prog ((w.alloc (.cells #[.int .i64 0, .int .i64 0, .int .i64 0, .int .i64 0, .int .i64 0, .int .i64 0] 129)).alloc (.cells #[.int .i64 5, .int .i64 0, .int .i64 0, .int .i64 0, .int .i64 0, .int .i64 0] 129)) = .ok (goInt 5) ((w.alloc (.cells #[.int .i64 0, .int .i64 0, .int .i64 0, .int .i64 0, .int .i64 0, .int .i64 0] 129)).alloc (.cells #[.int .i64 5, .int .i64 a, .int .i64 b, .int .i64 c, .int .i64 d, .int .i64 e] 129)) := by
    have hlt := cell_lt h0
    rw [run_copy_cells (P := Tryz.prog) ((w.alloc (.cells #[.int .i64 0, .int .i64 0, .int .i64 0, .int .i64 0, .int .i64 0, .int .i64 0] 129)).alloc (.cells #[.int .i64 5, .int .i64 0, .int .i64 0, .int .i64 0, .int .i64 0, .int .i64 0] 129)) 45 45 3 3 (w.heap.size + 1) 1 5 5 ⟨bb, off, none⟩ 5 cap [.int .i64 a, .int .i64 b, .int .i64 c, .int .i64 d, .int .i64 e] Tryz.underlying45 (by kernel_rfl) rfl ?_ ?_ ?_ (by simp [Value.oneCell'])]
    · simp [World.setCells, go_sem]
    · intro j u hj
      have hx := (ext_alloc w (.cells #[.int .i64 0, .int .i64 0, .int .i64 0, .int .i64 0, .int .i64 0, .int .i64 0] 129)).alloc (.cells #[.int .i64 5, .int .i64 0, .int .i64 0, .int .i64 0, .int .i64 0, .int .i64 0] 129)
      match j, hj with
      | 0, hj => simp at hj; subst hj; exact hx.cell h0
      | 1, hj => simp at hj; subst hj; exact hx.cell h1
      | 2, hj => simp at hj; subst hj; exact hx.cell h2
      | 3, hj => simp at hj; subst hj; exact hx.cell h3
      | 4, hj => simp at hj; subst hj; exact hx.cell h4
    · intro j hj
      have hj : j = 0 ∨ j = 1 ∨ j = 2 ∨ j = 3 ∨ j = 4 := by simp at hj; omega
      rcases hj with rfl | rfl | rfl | rfl | rfl <;> simp [go_sem]
    · intro j hj
      have hj : j = 0 ∨ j = 1 ∨ j = 2 ∨ j = 3 ∨ j = 4 := by simp at hj; omega
      rcases hj with rfl | rfl | rfl | rfl | rfl <;> simp [go_sem]
  go_enter Tryz.func61, Tryz.ntmps61
  go_wp2
  refine bodyPost_ret (v := .agg #[.int .i64 5, .int .i64 a, .int .i64 b, .int .i64 c, .int .i64 d, .int .i64 e]) (by simp [results, Tryz.results61, go_sem]) rfl ⟨rfl, ?_⟩
  exact (by first | (with_reducible exact Ext.refl _) | (with_reducible assumption) | (show Below _ _ _; go_grown; done))
theorem heardAs_any (l : List Int) (h5 : l.length ≤ 5) (v : Value) (w : World) (hl : IntsAt w v l) :
    Calls Tryz.prog 61 #[v] w fun r w' => r = .returned (ssV l) ∧ Ext w w' := by
  match l, h5, hl with
  | [], _, hl => exact heardAs_0 v w hl
  | [a], _, hl => exact heardAs_1 a v w hl
  | [a, b], _, hl => exact heardAs_2 a b v w hl
  | [a, b, c], _, hl => exact heardAs_3 a b c v w hl
  | [a, b, c, d], _, hl => exact heardAs_4 a b c d v w hl
  | [a, b, c, d, e], _, hl => exact heardAs_5 a b c d e v w hl
end Go.Proofs.YtnfbhicoknpojaaGreat

namespace Go.Proofs.YtnfbhicoknpojaaGreat
set_option linter.unusedSimpArgs false
set_option linter.unusedVariables false
set_option linter.unusedVariables false
open Go.RowKit
set_option linter.unusedSimpArgs false

set_option maxRecDepth 100000 in
theorem list_0 (hi : ∀ x ∈ ([] : List Int), I64 x) (w : World) :
    Calls Tryz.prog 72 #[ssV []] w fun r w' => ∃ v, r = .returned v ∧ IntsAt w' v [] ∧ Ext w w' := by
  have hmk : ∀ w, (Instr.makeSlice 45 (.int .i64 0) (.int .i64 0)).run Tryz.prog w = .ok (.slice (some ⟨w.heap.size, 0, none⟩) 0 0) (w.alloc (.cells #[] 3)) := fun _ => by kernel_rfl
  have hcopy : (Builtin.copy_ #[45, 45] 3 #[.slice (some ⟨w.heap.size + 1, 0, none⟩) 0 0, .slice (some ⟨w.heap.size, 1, none⟩) 5 5]).run Tryz.prog ((w.alloc (.cells #[.int .i64 0, .int .i64 0, .int .i64 0, .int .i64 0, .int .i64 0, .int .i64 0] 129)).alloc (.cells #[] 3)) = .ok (goInt 0) ((w.alloc (.cells #[.int .i64 0, .int .i64 0, .int .i64 0, .int .i64 0, .int .i64 0, .int .i64 0] 129)).alloc (.cells #[] 3)) :=
    run_copy_none _ _ _ _ 3 _ _ _ _ _ _ Tryz.underlying45 (by kernel_rfl) rfl
  go_enter Tryz.func72, Tryz.ntmps72
  unfold ssV ssRaw
  go_wp2
  go_ret
  refine ⟨_, rfl, ⟨_, _, rfl, Nat.le_refl _, by decide, fun i h => ?_⟩, (by first | (with_reducible exact Ext.refl _) | (with_reducible assumption) | (show Below _ _ _; go_grown; done))⟩
  simp at h
set_option maxRecDepth 100000 in
theorem list_1 (a : Int) (hi : ∀ x ∈ ([a] : List Int), I64 x) (w : World) :
    Calls Tryz.prog 72 #[ssV [a]] w fun r w' => ∃ v, r = .returned v ∧ IntsAt w' v [a] ∧ Ext w w' := by
  have hmk : ∀ w, (Instr.makeSlice 45 (.int .i64 1) (.int .i64 1)).run Tryz.prog w = .ok (.slice (some ⟨w.heap.size, 0, none⟩) 1 1) (w.alloc (.cells #[.int .i64 0] 3)) := fun _ => by kernel_rfl
  have hcopy : (Builtin.copy_ #[45, 45] 3 #[.slice (some ⟨w.heap.size + 1, 0, none⟩) 1 1, .slice (some ⟨w.heap.size, 1, none⟩) 5 5]).run Tryz.prog ((w.alloc (.cells #[.int .i64 1, .int .i64 a, .int .i64 0, .int .i64 0, .int .i64 0, .int .i64 0] 129)).alloc (.cells #[.int .i64 0] 3)) = .ok (goInt 1) ((w.alloc (.cells #[.int .i64 1, .int .i64 a, .int .i64 0, .int .i64 0, .int .i64 0, .int .i64 0] 129)).alloc (.cells #[.int .i64 a] 3)) := by
    rw [run_copy_cells (P := Tryz.prog) ((w.alloc (.cells #[.int .i64 1, .int .i64 a, .int .i64 0, .int .i64 0, .int .i64 0, .int .i64 0] 129)).alloc (.cells #[.int .i64 0] 3)) 45 45 3 3 (w.heap.size + 1) 0 1 1 ⟨w.heap.size, 1, none⟩ 5 5 [.int .i64 a] Tryz.underlying45 (by kernel_rfl) rfl ?_ ?_ ?_ (by simp [Value.oneCell'])]
    · simp [World.setCells, go_sem]
    · intro j u hj
      match j, hj with
      | 0, hj => simp at hj; subst hj; simp [go_sem, Addr.add]
    · intro j hj
      have hj : j = 0 := by simp at hj; omega
      rcases hj with rfl <;> simp [go_sem]
    · intro j hj
      have hj : j = 0 := by simp at hj; omega
      rcases hj with rfl <;> simp [go_sem]
  go_enter Tryz.func72, Tryz.ntmps72
  unfold ssV ssRaw
  go_wp2
  go_ret
  refine ⟨_, rfl, ⟨_, _, rfl, Nat.le_refl _, by decide, fun i h => ?_⟩, (by first | (with_reducible exact Ext.refl _) | (with_reducible assumption) | (show Below _ _ _; go_grown; done))⟩
  have hj : i = 0 := by simp at h; omega
  rcases hj with rfl
  · exact ⟨_, _, rfl, by simp [go_sem], hi _ (by simp)⟩
set_option maxRecDepth 100000 in
theorem list_2 (a b : Int) (hi : ∀ x ∈ ([a, b] : List Int), I64 x) (w : World) :
    Calls Tryz.prog 72 #[ssV [a, b]] w fun r w' => ∃ v, r = .returned v ∧ IntsAt w' v [a, b] ∧ Ext w w' := by
  have hmk : ∀ w, (Instr.makeSlice 45 (.int .i64 2) (.int .i64 2)).run Tryz.prog w = .ok (.slice (some ⟨w.heap.size, 0, none⟩) 2 2) (w.alloc (.cells #[.int .i64 0, .int .i64 0] 3)) := fun _ => by kernel_rfl
  have hcopy : (Builtin.copy_ #[45, 45] 3 #[.slice (some ⟨w.heap.size + 1, 0, none⟩) 2 2, .slice (some ⟨w.heap.size, 1, none⟩) 5 5]).run Tryz.prog ((w.alloc (.cells #[.int .i64 2, .int .i64 a, .int .i64 b, .int .i64 0, .int .i64 0, .int .i64 0] 129)).alloc (.cells #[.int .i64 0, .int .i64 0] 3)) = .ok (goInt 2) ((w.alloc (.cells #[.int .i64 2, .int .i64 a, .int .i64 b, .int .i64 0, .int .i64 0, .int .i64 0] 129)).alloc (.cells #[.int .i64 a, .int .i64 b] 3)) := by
    rw [run_copy_cells (P := Tryz.prog) ((w.alloc (.cells #[.int .i64 2, .int .i64 a, .int .i64 b, .int .i64 0, .int .i64 0, .int .i64 0] 129)).alloc (.cells #[.int .i64 0, .int .i64 0] 3)) 45 45 3 3 (w.heap.size + 1) 0 2 2 ⟨w.heap.size, 1, none⟩ 5 5 [.int .i64 a, .int .i64 b] Tryz.underlying45 (by kernel_rfl) rfl ?_ ?_ ?_ (by simp [Value.oneCell'])]
    · simp [World.setCells, go_sem]
    · intro j u hj
      match j, hj with
      | 0, hj => simp at hj; subst hj; simp [go_sem, Addr.add]
      | 1, hj => simp at hj; subst hj; simp [go_sem, Addr.add]
    · intro j hj
      have hj : j = 0 ∨ j = 1 := by simp at hj; omega
      rcases hj with rfl | rfl <;> simp [go_sem]
    · intro j hj
      have hj : j = 0 ∨ j = 1 := by simp at hj; omega
      rcases hj with rfl | rfl <;> simp [go_sem]
  go_enter Tryz.func72, Tryz.ntmps72
  unfold ssV ssRaw
  go_wp2
  go_ret
  refine ⟨_, rfl, ⟨_, _, rfl, Nat.le_refl _, by decide, fun i h => ?_⟩, (by first | (with_reducible exact Ext.refl _) | (with_reducible assumption) | (show Below _ _ _; go_grown; done))⟩
  have hj : i = 0 ∨ i = 1 := by simp at h; omega
  rcases hj with rfl | rfl
  · exact ⟨_, _, rfl, by simp [go_sem], hi _ (by simp)⟩
  · exact ⟨_, _, rfl, by simp [go_sem], hi _ (by simp)⟩
set_option maxRecDepth 100000 in
theorem list_3 (a b c : Int) (hi : ∀ x ∈ ([a, b, c] : List Int), I64 x) (w : World) :
    Calls Tryz.prog 72 #[ssV [a, b, c]] w fun r w' => ∃ v, r = .returned v ∧ IntsAt w' v [a, b, c] ∧ Ext w w' := by
  have hmk : ∀ w, (Instr.makeSlice 45 (.int .i64 3) (.int .i64 3)).run Tryz.prog w = .ok (.slice (some ⟨w.heap.size, 0, none⟩) 3 3) (w.alloc (.cells #[.int .i64 0, .int .i64 0, .int .i64 0] 3)) := fun _ => by kernel_rfl
  have hcopy : (Builtin.copy_ #[45, 45] 3 #[.slice (some ⟨w.heap.size + 1, 0, none⟩) 3 3, .slice (some ⟨w.heap.size, 1, none⟩) 5 5]).run Tryz.prog ((w.alloc (.cells #[.int .i64 3, .int .i64 a, .int .i64 b, .int .i64 c, .int .i64 0, .int .i64 0] 129)).alloc (.cells #[.int .i64 0, .int .i64 0, .int .i64 0] 3)) = .ok (goInt 3) ((w.alloc (.cells #[.int .i64 3, .int .i64 a, .int .i64 b, .int .i64 c, .int .i64 0, .int .i64 0] 129)).alloc (.cells #[.int .i64 a, .int .i64 b, .int .i64 c] 3)) := by
    rw [run_copy_cells (P := Tryz.prog) ((w.alloc (.cells #[.int .i64 3, .int .i64 a, .int .i64 b, .int .i64 c, .int .i64 0, .int .i64 0] 129)).alloc (.cells #[.int .i64 0, .int .i64 0, .int .i64 0] 3)) 45 45 3 3 (w.heap.size + 1) 0 3 3 ⟨w.heap.size, 1, none⟩ 5 5 [.int .i64 a, .int .i64 b, .int .i64 c] Tryz.underlying45 (by kernel_rfl) rfl ?_ ?_ ?_ (by simp [Value.oneCell'])]
    · simp [World.setCells, go_sem]
    · intro j u hj
      match j, hj with
      | 0, hj => simp at hj; subst hj; simp [go_sem, Addr.add]
      | 1, hj => simp at hj; subst hj; simp [go_sem, Addr.add]
      | 2, hj => simp at hj; subst hj; simp [go_sem, Addr.add]
    · intro j hj
      have hj : j = 0 ∨ j = 1 ∨ j = 2 := by simp at hj; omega
      rcases hj with rfl | rfl | rfl <;> simp [go_sem]
    · intro j hj
      have hj : j = 0 ∨ j = 1 ∨ j = 2 := by simp at hj; omega
      rcases hj with rfl | rfl | rfl <;> simp [go_sem]
  go_enter Tryz.func72, Tryz.ntmps72
  unfold ssV ssRaw
  go_wp2
  go_ret
  refine ⟨_, rfl, ⟨_, _, rfl, Nat.le_refl _, by decide, fun i h => ?_⟩, (by first | (with_reducible exact Ext.refl _) | (with_reducible assumption) | (show Below _ _ _; go_grown; done))⟩
  have hj : i = 0 ∨ i = 1 ∨ i = 2 := by simp at h; omega
  rcases hj with rfl | rfl | rfl
  · exact ⟨_, _, rfl, by simp [go_sem], hi _ (by simp)⟩
  · exact ⟨_, _, rfl, by simp [go_sem], hi _ (by simp)⟩
  · exact ⟨_, _, rfl, by simp [go_sem], hi _ (by simp)⟩
set_option maxRecDepth 100000 in
theorem list_4 (a b c d : Int) (hi : ∀ x ∈ ([a, b, c, d] : List Int), I64 x) (w : World) :
    Calls Tryz.prog 72 #[ssV [a, b, c, d]] w fun r w' => ∃ v, r = .returned v ∧ IntsAt w' v [a, b, c, d] ∧ Ext w w' := by
  have hmk : ∀ w, (Instr.makeSlice 45 (.int .i64 4) (.int .i64 4)).run Tryz.prog w = .ok (.slice (some ⟨w.heap.size, 0, none⟩) 4 4) (w.alloc (.cells #[.int .i64 0, .int .i64 0, .int .i64 0, .int .i64 0] 3)) := fun _ => by kernel_rfl
  have hcopy : (Builtin.copy_ #[45, 45] 3 #[.slice (some ⟨w.heap.size + 1, 0, none⟩) 4 4, .slice (some ⟨w.heap.size, 1, none⟩) 5 5]).run Tryz.prog ((w.alloc (.cells #[.int .i64 4, .int .i64 a, .int .i64 b, .int .i64 c, .int .i64 d, .int .i64 0] 129)).alloc (.cells #[.int .i64 0, .int .i64 0, .int .i64 0, .int .i64 0] 3)) = .ok (goInt 4) ((w.alloc (.cells #[.int .i64 4, .int .i64 a, .int .i64 b, .int .i64 c, .int .i64 d, .int .i64 0] 129)).alloc (.cells #[.int .i64 a, .int .i64 b, .int .i64 c, .int .i64 d] 3)) := by
    rw [run_copy_cells (P := Tryz.prog) ((w.alloc (.cells #[.int .i64 4, .int .i64 a, .int .i64 b, .int .i64 c, .int .i64 d, .int .i64 0] 129)).alloc (.cells #[.int .i64 0, .int .i64 0, .int .i64 0, .int .i64 0] 3)) 45 45 3 3 (w.heap.size + 1) 0 4 4 ⟨w.heap.size, 1, none⟩ 5 5 [.int .i64 a, .int .i64 b, .int .i64 c, .int .i64 d] Tryz.underlying45 (by kernel_rfl) rfl ?_ ?_ ?_ (by simp [Value.oneCell'])]
    · simp [World.setCells, go_sem]
    · intro j u hj
      match j, hj with
      | 0, hj => simp at hj; subst hj; simp [go_sem, Addr.add]
      | 1, hj => simp at hj; subst hj; simp [go_sem, Addr.add]
      | 2, hj => simp at hj; subst hj; simp [go_sem, Addr.add]
      | 3, hj => simp at hj; subst hj; simp [go_sem, Addr.add]
    · intro j hj
      have hj : j = 0 ∨ j = 1 ∨ j = 2 ∨ j = 3 := by simp at hj; omega
      rcases hj with rfl | rfl | rfl | rfl <;> simp [go_sem]
    · intro j hj
      have hj : j = 0 ∨ j = 1 ∨ j = 2 ∨ j = 3 := by simp at hj; omega
      rcases hj with rfl | rfl | rfl | rfl <;> simp [go_sem]
  go_enter Tryz.func72, Tryz.ntmps72
  unfold ssV ssRaw
  go_wp2
  go_ret
  refine ⟨_, rfl, ⟨_, _, rfl, Nat.le_refl _, by decide, fun i h => ?_⟩, (by first | (with_reducible exact Ext.refl _) | (with_reducible assumption) | (show Below _ _ _; go_grown; done))⟩
  have hj : i = 0 ∨ i = 1 ∨ i = 2 ∨ i = 3 := by simp at h; omega
  rcases hj with rfl | rfl | rfl | rfl
  · exact ⟨_, _, rfl, by simp [go_sem], hi _ (by simp)⟩
  · exact ⟨_, _, rfl, by simp [go_sem], hi _ (by simp)⟩
  · exact ⟨_, _, rfl, by simp [go_sem], hi _ (by simp)⟩
  · exact ⟨_, _, rfl, by simp [go_sem], hi _ (by simp)⟩
set_option maxRecDepth 100000 in
theorem list_5 (a b c d e : Int) (hi : ∀ x ∈ ([a, b, c, d, e] : List Int), I64 x) (w : World) :
    Calls Tryz.prog 72 #[ssV [a, b, c, d, e]] w fun r w' => ∃ v, r = .returned v ∧ IntsAt w' v [a, b, c, d, e] ∧ Ext w w' := by
  have hmk : ∀ w, (Instr.makeSlice 45 (.int .i64 5) (.int .i64 5)).run Tryz.prog w = .ok (.slice (some ⟨w.heap.size, 0, none⟩) 5 5) (w.alloc (.cells #[.int .i64 0, .int .i64 0, .int .i64 0, .int .i64 0, .int .i64 0] 3)) := fun _ => by kernel_rfl
  have hcopy : (Builtin.copy_ #[45, 45] 3 #[.slice (some ⟨w.heap.size + 1, 0, none⟩) 5 5, .slice (some ⟨w.heap.size, 1, none⟩) 5 5]).run Tryz.prog ((w.alloc (.cells #[.int .i64 5, .int .i64 a, .int .i64 b, .int .i64 c, .int .i64 d, .int .i64 e] 129)).alloc (.cells #[.int .i64 0, .int .i64 0, .int .i64 0, .int .i64 0, .int .i64 0] 3)) = .ok (goInt 5) ((w.alloc (.cells #[.int .i64 5, .int .i64 a, .int .i64 b, .int .i64 c, .int .i64 d, .int .i64 e] 129)).alloc (.cells #[.int .i64 a, .int .i64 b, .int .i64 c, .int .i64 d, .int .i64 e] 3)) := by
    rw [run_copy_cells (P := Tryz.prog) ((w.alloc (.cells #[.int .i64 5, .int .i64 a, .int .i64 b, .int .i64 c, .int .i64 d, .int .i64 e] 129)).alloc (.cells #[.int .i64 0, .int .i64 0, .int .i64 0, .int .i64 0, .int .i64 0] 3)) 45 45 3 3 (w.heap.size + 1) 0 5 5 ⟨w.heap.size, 1, none⟩ 5 5 [.int .i64 a, .int .i64 b, .int .i64 c, .int .i64 d, .int .i64 e] Tryz.underlying45 (by kernel_rfl) rfl ?_ ?_ ?_ (by simp [Value.oneCell'])]
    · simp [World.setCells, go_sem]
    · intro j u hj
      match j, hj with
      | 0, hj => simp at hj; subst hj; simp [go_sem, Addr.add]
      | 1, hj => simp at hj; subst hj; simp [go_sem, Addr.add]
      | 2, hj => simp at hj; subst hj; simp [go_sem, Addr.add]
      | 3, hj => simp at hj; subst hj; simp [go_sem, Addr.add]
      | 4, hj => simp at hj; subst hj; simp [go_sem, Addr.add]
    · intro j hj
      have hj : j = 0 ∨ j = 1 ∨ j = 2 ∨ j = 3 ∨ j = 4 := by simp at hj; omega
      rcases hj with rfl | rfl | rfl | rfl | rfl <;> simp [go_sem]
    · intro j hj
      have hj : j = 0 ∨ j = 1 ∨ j = 2 ∨ j = 3 ∨ j = 4 := by simp at hj; omega
      rcases hj with rfl | rfl | rfl | rfl | rfl <;> simp [go_sem]
  go_enter Tryz.func72, Tryz.ntmps72
  unfold ssV ssRaw
  go_wp2
  go_ret
  refine ⟨_, rfl, ⟨_, _, rfl, Nat.le_refl _, by decide, fun i h => ?_⟩, (by first | (with_reducible exact Ext.refl _) | (with_reducible assumption) | (show Below _ _ _; go_grown; done))⟩
  have hj : i = 0 ∨ i = 1 ∨ i = 2 ∨ i = 3 ∨ i = 4 := by simp at h; omega
  rcases hj with rfl | rfl | rfl | rfl | rfl
  · exact ⟨_, _, rfl, by simp [go_sem], hi _ (by simp)⟩
  · exact ⟨_, _, rfl, by simp [go_sem], hi _ (by simp)⟩
  · exact ⟨_, _, rfl, by simp [go_sem], hi _ (by simp)⟩
  · exact ⟨_, _, rfl, by simp [go_sem], hi _ (by simp)⟩
  · exact ⟨_, _, rfl, by simp [go_sem], hi _ (by simp)⟩
theorem list_any (l : List Int) (h5 : l.length ≤ 5) (hi : ∀ x ∈ l, I64 x) (w : World) :
    Calls Tryz.prog 72 #[ssV l] w fun r w' => ∃ v, r = .returned v ∧ IntsAt w' v l ∧ Ext w w' := by
  match l, h5, hi with
  | [], _, hi => exact list_0 hi w
  | [a], _, hi => exact list_1 a hi w
  | [a, b], _, hi => exact list_2 a b hi w
  | [a, b, c], _, hi => exact list_3 a b c hi w
  | [a, b, c, d], _, hi => exact list_4 a b c d hi w
  | [a, b, c, d, e], _, hi => exact list_5 a b c d e hi w
end Go.Proofs.YtnfbhicoknpojaaGreat

namespace Go.Proofs.YtnfbhicoknpojaaGreat
set_option linter.unusedSimpArgs false
set_option linter.unusedVariables false
open Go.RowKit
set_option linter.unusedSimpArgs false

def letterOf (ls : List Letter) (s : ByteArray) (k : Nat) : Letter := (ls.find? fun y => y.c == byteAt s k).getD ⟨0, 0, true⟩
def lettersTo (ls : List Letter) (s : ByteArray) (k : Nat) : List Letter := (List.range k).map fun j => letterOf ls s j
def lettersM (ls : List Letter) (s : ByteArray) : List Letter := lettersTo ls s s.size
theorem lettersTo_succ (ls : List Letter) (s : ByteArray) (k : Nat) : lettersTo ls s (k + 1) = lettersTo ls s k ++ [letterOf ls s k] := by
  simp [lettersTo, List.range_succ]
theorem lettersTo_len (ls : List Letter) (s : ByteArray) (k : Nat) : (lettersTo ls s k).length = k := by simp [lettersTo]
/-- the place of a letter that is known -/
theorem idxM_known (ls : List Letter) (s : ByteArray) (k : Nat) (h : knownB ls s k = true) :
    ∃ p : Nat, ∃ hp : p < ls.length, idxM (fun y => y.c == byteAt s k) ls = p ∧ ls[p] = letterOf ls s k := by
  unfold knownB at h
  cases hf : ls.findIdx? (fun y => y.c == byteAt s k) with
  | none =>
    rw [List.findIdx?_eq_none_iff] at hf
    rw [List.any_eq_true] at h
    obtain ⟨x, hx, hc⟩ := h
    rw [hf x hx] at hc; cases hc
  | some p =>
    have hf' := hf
    rw [List.findIdx?_eq_some_iff_getElem] at hf'
    obtain ⟨hp, h1, h2⟩ := hf'
    refine ⟨p, hp, by simp [idxM, hf], ?_⟩
    have : ls.find? (fun y => y.c == byteAt s k) = some ls[p] := by
      rw [List.find?_eq_some_iff_getElem]
      exact ⟨h1, p, hp, rfl, fun j hj => by simpa using h2 j hj⟩
    rw [letterOf, this]; rfl
def cellsL (l : List Letter) : List Value := l.flatMap fun x => [.int .u8 x.c, .int .i64 x.sounds, .bool x.silent]
theorem cellsL_len (l : List Letter) : (cellsL l).length = l.length * 3 := by
  induction l with
  | nil => rfl
  | cons x l ih => simp only [cellsL, List.flatMap_cons, List.length_append, List.length_cons, List.length_nil] at *; omega
theorem cellsL_snoc (l : List Letter) (x : Letter) : cellsL (l ++ [x]) = cellsL l ++ [.int .u8 x.c, .int .i64 x.sounds, .bool x.silent] := by simp [cellsL]
theorem cellsL_get (l : List Letter) (i : Nat) (h : i < l.length) : (cellsL l)[i * 3]? = some (.int .u8 l[i].c) ∧ (cellsL l)[i * 3 + 1]? = some (.int .i64 l[i].sounds) ∧ (cellsL l)[i * 3 + 2]? = some (.bool l[i].silent) := by
  induction l generalizing i with
  | nil => simp at h
  | cons x l ih =>
    cases i with
    | zero => simp [cellsL]
    | succ i =>
      have := ih i (by simpa using h)
      have e : (i + 1) * 3 = i * 3 + 3 := by omega
      rw [e]
      simpa [cellsL] using this
theorem LettersAt.of_own {w : World} {B : Nat} {e : TypeId} {v : Value} {l : List Letter} (h : w.ownsRow B e 3 v l.length (cellsL l)) (hI : ∀ x ∈ l, U8 x.c ∧ I64 x.sounds) : LettersAt w v l := by
  rcases h.2 with ⟨rfl, hn⟩ | ⟨g, cap, cur, rfl, hb, hg, hnc, hcm, hcs, htake⟩
  · have : l = [] := List.eq_nil_of_length_eq_zero hn
    subst this; exact SliceAt.nil
  · refine ⟨_, _, rfl, hnc, by simpa [maxLen] using hcm, fun i hi => ⟨g, 0, rfl, ?_⟩⟩
    obtain ⟨c0, c1, c2⟩ := cellsL_get l i hi
    have hh := fun j u hu => h.cells (g := g) rfl j u hu
    have e : ∀ j, (⟨g, 0, none⟩ : Addr).add j = ⟨g, 0 + j, none⟩ := fun j => by unfold Addr.add; split <;> simp_all
    have r0 := hh _ _ c0
    have r1 := hh _ _ c1
    have r2 := hh _ _ c2
    rw [e] at r0 r1 r2
    exact ⟨r0, r1, r2, hI _ (List.getElem_mem hi)⟩

theorem LettersAt.fine {w : World} {v : Value} {ls : List Letter} (h : LettersAt w v ls) : ∀ x ∈ ls, U8 x.c ∧ I64 x.sounds := by
  intro x hx
  obtain ⟨i, hi, rfl⟩ := List.getElem_of_mem hx
  obtain ⟨_, _, -, -, -, hh⟩ := h
  obtain ⟨_, _, -, -, -, -, hu⟩ := hh i hi
  exact hu
theorem lettersTo_all (P : Letter → Prop) (ls : List Letter) (s : ByteArray) (k : Nat) (h : ∀ x ∈ ls, P x) (h0 : P ⟨0, 0, true⟩) : ∀ x ∈ lettersTo ls s k, P x := by
  intro x hx
  simp only [lettersTo, List.mem_map, letterOf] at hx
  obtain ⟨j, -, rfl⟩ := hx
  cases hf : ls.find? fun y => y.c == byteAt s j with
  | none => exact h0
  | some y => exact h y (List.mem_of_find?_eq_some hf)
theorem Ext.grownBy {w w' : World} (h : Ext w w') : w.grownBy w' none := ⟨Below.os h, Below.tape h, Below.output h, Below.size h, fun k hk _ => Below.block h k hk⟩
theorem Ext.owns {w w' : World} {B : Nat} {e : TypeId} {size : Nat} {v : Value} {n : Nat} {xs : List Value} (h : w.ownsRow B e size v n xs) (hx : Ext w w') : w'.ownsRow B e size v n xs :=
  h.kept hx.grownBy (by cases v.ownBlock <;> simp)
theorem cell_three_new (w : World) (a b c : Value) (t : TypeId) : ∀ j u, [a, b, c][j]? = some u → (w.alloc (.cells #[a, b, c] t)).cell? ((⟨w.heap.size, 0, none⟩ : Addr).add j) = some u := by
  intro j u hj
  match j, hj with
  | 0, hj => simp at hj; subst hj; simp [go_sem, Addr.add]
  | 1, hj => simp at hj; subst hj; simp [go_sem, Addr.add]
  | 2, hj => simp at hj; subst hj; simp [go_sem, Addr.add]
theorem snoc_letters {w : World} {B : Nat} {e : TypeId} {v : Value} {l l' : List Letter} {x : Letter} (hb : l' = l ++ [x]) (h : w.ownsRow B e 3 v (l.length + 1) (cellsL l ++ [.int .u8 x.c, .int .i64 x.sounds, .bool x.silent])) :
    w.ownsRow B e 3 v l'.length (cellsL l') := by
  subst hb
  rw [cellsL_snoc, List.length_append]
  exact h
theorem infoLetter : (Tryz.prog.info? 137).map (fun i => (i.zero, i.size, i.bytes)) = some (some (.agg #[.int .u8 0, .int .i64 0, .bool false]), 3, 24) := by kernel_rfl

set_option maxRecDepth 100000 in
set_option maxHeartbeats 1000000 in
theorem letters_any (bv : Value) (b : Book) (n : Nat) (hn : n < b.spellings.length) (hal : 0 ≤ (b.spellings[n]).alphabet ∧ (b.spellings[n]).alphabet < b.alphabets.length)
    (hsz : (b.spellings[n]).text.size ≤ 5) (hok : ∀ k, k < (b.spellings[n]).text.size → knownB (lettersOf b.alphabets (b.spellings[n]).alphabet) (b.spellings[n]).text k = true) (w : World) (hb : BookAt w bv b) :
    Calls Tryz.prog 129 #[bv, .int .i64 n] w
      fun e w' => ∃ v, e = .returned v ∧ LettersAt w' v (lettersM (lettersOf b.alphabets (b.spellings[n]).alphabet) (b.spellings[n]).text) ∧ Ext w w' := by
  obtain ⟨ba, bc, bs, bd, rfl, -, hbl, hbc, hsl, hsc, -, hA, hP⟩ := hb.open
  obtain ⟨_, _, he, -, -, hh⟩ := hP
  obtain ⟨sb, so, rfl, s0, s1, hai, hts⟩ := hh n hn
  cases he
  clear hh
  generalize b.spellings[n] = x at *
  have hlt : x.alphabet.toNat < b.alphabets.length := by omega
  obtain ⟨_, _, he, -, -, hh⟩ := hA
  obtain ⟨ab, ao, rfl, -, -, lv, a1, hlv⟩ := hh x.alphabet.toNat hlt
  cases he
  clear hh
  have hls : lettersOf b.alphabets x.alphabet = (b.alphabets[x.alphabet.toNat]).letters := by rw [lettersOf, List.getElem?_eq_getElem hlt]
  rw [← hls] at hlv
  generalize lettersOf b.alphabets x.alphabet = ls at *
  clear hls
  have Hok := Lib.hid hok
  clear hok
  obtain ⟨la, lc, rfl, hllc, hlcm⟩ := hlv.shape
  have z1 := cell_lt s0
  have z2 := cell_lt a1
  have Hfine := Lib.hid (lettersTo_all (fun x => U8 x.c ∧ I64 x.sounds) ls x.text x.text.size hlv.fine (by simp [U8, I64]))
  obtain ⟨i0, hi, hz0, hz1, hz2⟩ := info_parts infoLetter
  go_enter Tryz.func129, Tryz.ntmps129
  go_wp2
  go_loopw [7, 26] (fun v i wr => ∃ k : Nat, k ≤ x.text.size ∧ i = .int .i64 k ∧ Ext w wr ∧ wr.cell? ⟨w.heap.size + 1, 1, none⟩ = some (.string x.text) ∧
    wr.ownsRow (w.heap.size + 2) 137 3 v (lettersTo ls x.text k).length (cellsL (lettersTo ls x.text k))) (fun _ i _ => x.text.size - (intOf i).toNat)
  case atStart => exact ⟨0, Nat.zero_le _, rfl, (by first | (with_reducible exact Ext.refl _) | (with_reducible assumption) | (show Below _ _ _; go_grown; done)), by simp [go_sem], World.ownsRow_nil _ _ _ _⟩
  case round =>
    obtain ⟨k, hk, rfl, hx, ht, hown⟩ := hrel
    by_cases hkt : k < x.text.size
    · have hbe := byteAt_eq x.text k hkt
      obtain ⟨p, hp, hidx, hpl⟩ := idxM_known ls x.text k (Hok.out k hkt)
      rw [hbe] at hidx
      obtain ⟨_, _, he, -, -, hh⟩ := hlv.ext hx
      obtain ⟨lb, lo, rfl, c0, c1, c2, hu, hI⟩ := hh p hp
      cases he
      rw [hpl] at c0 c1 c2 hu hI
      have hst := lettersTo_succ ls x.text k
      have hlen := lettersTo_len ls x.text k
      generalize letterOf ls x.text k = y at *
      have Hst := Lib.hid hst
      have Hidx := Lib.hid hidx
      have Hlen := Lib.hid hlen
      clear hst hidx hlen hbe hh hpl
      go_wp2_with fail
      refine (letterAt_any ls _ _ _ (hlv.ext hx)).mono ?_
      rintro e w1 ⟨rfl, hx1⟩
      rw [Hidx.out]
      replace c0 := hx1.cell c0
      replace c1 := hx1.cell c1
      replace c2 := hx1.cell c2
      replace ht := hx1.cell ht
      have z3 := cell_lt c0
      have z4 := cell_lt ht
      have hx2 := hx.trans hx1
      have hpl : (p : Int) < ls.length := by omega
      have hown1 := Ext.owns hown hx1
      have hml : (lettersTo ls x.text k).length ≤ 5 := by rw [Hlen.out]; omega
      clear hown
      have hU := Lib.hid hu
      have hII := Lib.hid hI
      clear hu hI hlv
      go_wp2_with ((at_builtin; refine wpList_append_own _ rfl _ _ 220 rfl (w.heap.size + 2) 137 i0 (.agg #[.int .u8 0, .int .i64 0, .bool false]) 3 24 Tryz.underlying220 hi hz0 hz1 hz2 rfl (by decide) _ _ _ rfl (hown1.alloc _) ⟨w1.heap.size, 0, none⟩ 1 1 [.int .u8 y.c, .int .i64 y.sounds, .bool y.silent] rfl rfl (cell_three_new _ _ _ _ _) (by simp [Value.oneCell']) (by unfold maxLen; omega) (by omega) (by simp; omega) ?_; intro v' w2 hown' hgrow _))
      have hx3 : Ext w w2 := Ext.grown (hx2.alloc _) hgrow fun k hk => Nat.le_trans (by omega) (hown1.lt k hk).1
      have ht2 : w2.cell? ⟨w.heap.size + 1, 1, none⟩ = some (.string x.text) := hgrow.cell (by simpa [go_sem, z4] using ht) (fun e => by
        have := (hown1.lt (w.heap.size + 1) e.symm).1
        omega)
      go_roundw
      case rel => exact ⟨k + 1, by omega, by go_num, hx3, ht2, snoc_letters Hst.out hown'⟩
      case measure => simp [intOf]; omega
    · have hke : k = x.text.size := by omega
      subst hke
      go_wp2
      go_ret
      exact ⟨_, rfl, LettersAt.of_own hown Hfine.out, hx⟩
end Go.Proofs.YtnfbhicoknpojaaGreat

namespace Go.Proofs.YtnfbhicoknpojaaGreat
set_option linter.unusedSimpArgs false
set_option linter.unusedVariables false
open Go.RowKit
set_option linter.unusedVariables false

abbrev EntP := Value × Int × Int
def cellsP (es : List EntP) : List Value := es.flatMap fun e => [e.1, .int .i64 e.2.1, .int .i64 e.2.2]
theorem cellsP_len (l : List EntP) : (cellsP l).length = l.length * 3 := by
  induction l with
  | nil => rfl
  | cons x l ih => simp only [cellsP, List.flatMap_cons, List.length_append, List.length_cons, List.length_nil] at *; omega
theorem cellsP_get (l : List EntP) (i : Nat) (h : i < l.length) : (cellsP l)[i * 3]? = some l[i].1 ∧ (cellsP l)[i * 3 + 1]? = some (.int .i64 l[i].2.1) ∧ (cellsP l)[i * 3 + 2]? = some (.int .i64 l[i].2.2) := by
  induction l generalizing i with
  | nil => simp at h
  | cons x l ih =>
    cases i with
    | zero => simp [cellsP]
    | succ i =>
      have := ih i (by simpa using h)
      have e : (i + 1) * 3 = i * 3 + 3 := by omega
      rw [e]
      simpa [cellsP] using this
theorem cellsP_snoc (l : List EntP) (u : Value) (a b : Int) : cellsP (l ++ [(u, a, b)]) = cellsP l ++ [u, .int .i64 a, .int .i64 b] := by simp [cellsP]
/-- what a row of parts holds -/
def EntsP (w : World) (es : List EntP) (l : List Part) : Prop := es.length = l.length ∧ ∀ i (h : i < l.length) (h' : i < es.length), StrsAt w es[i].1 l[i].words ∧ es[i].2 = (l[i].lo, l[i].hi) ∧ I64 l[i].lo ∧ I64 l[i].hi
theorem EntsP.nil {w : World} : EntsP w [] [] := ⟨rfl, fun i h => by simp at h⟩
theorem EntsP.ext {w w' : World} {es : List EntP} {l : List Part} (h : EntsP w es l) (hx : Ext w w') : EntsP w' es l := ⟨h.1, fun i h1 h2 => by obtain ⟨a, b⟩ := h.2 i h1 h2; exact ⟨a.ext hx, b⟩⟩
theorem EntsP.snoc {w : World} {es : List EntP} {l : List Part} (h : EntsP w es l) {x : Part} {u : Value} (hs : StrsAt w u x.words) (h1 : I64 x.lo) (h2 : I64 x.hi) : EntsP w (es ++ [(u, x.lo, x.hi)]) (l ++ [x]) := by
  refine ⟨by simp [h.1], fun i g1 g2 => ?_⟩
  have hle := h.1
  by_cases e : i < l.length
  · rw [List.getElem_append_left (by omega), List.getElem_append_left e]
    exact h.2 i e (by omega)
  · have ei : i = l.length := by simp at g1; omega
    subst ei
    have e1 : (es ++ [(u, x.lo, x.hi)])[l.length] = (u, x.lo, x.hi) := by rw [List.getElem_append_right (by omega)]; simp [hle]
    have e2 : (l ++ [x])[l.length] = x := by rw [List.getElem_append_right (by omega)]; simp
    simp only [e1, e2]
    exact ⟨hs, trivial, h1, h2⟩
theorem PartsAt.of_own {w W : World} {base : Nat} {e : TypeId} {v : Value} {es : List EntP} {l : List Part} (h : W.ownsRow base e 3 v l.length (cellsP es)) (hE : EntsP W es l) : PartsAt W v l := by
  have hcells := fun g hg => h.cells (g := g) hg
  rcases h.2 with ⟨rfl, hn⟩ | ⟨g, cap, cur, rfl, hb, hg, hnc, hcm, hcs, htake⟩
  · have : l = [] := List.eq_nil_of_length_eq_zero hn
    subst this; exact SliceAt.nil
  · refine ⟨_, _, rfl, hnc, by simpa [maxLen] using hcm, fun i hi => ⟨g, 0, rfl, ?_⟩⟩
    have hi2 : i < es.length := by rw [hE.1]; exact hi
    obtain ⟨hs, h2, h3, h4⟩ := hE.2 i hi hi2
    obtain ⟨c0, c1, c2⟩ := cellsP_get es i hi2
    have r0 := hcells g rfl _ _ c0
    have r1 := hcells g rfl _ _ c1
    have r2 := hcells g rfl _ _ c2
    have ea : ∀ j, (⟨g, 0, none⟩ : Addr).add j = ⟨g, 0 + j, none⟩ := fun j => by unfold Addr.add; split <;> simp_all
    rw [ea] at r0 r1 r2
    rw [h2] at r1 r2
    exact ⟨⟨_, r0, hs⟩, r1, r2, h3, h4⟩
theorem infoPart : (Tryz.prog.info? 172).map (fun i => (i.zero, i.size, i.bytes)) = some (some (.agg #[.slice none 0 0, .int .i64 0, .int .i64 0]), 3, 40) := by kernel_rfl
def roomsM (l : List Part) : List Part := l.filter roomyM
theorem rooms_yes (l : List Part) (k : Nat) (h : k < l.length) (hr : roomyM l[k] = true) : roomsM (l.take (k + 1)) = roomsM (l.take k) ++ [l[k]] := by
  unfold roomsM
  rw [List.take_succ_eq_append_getElem h, List.filter_append]
  simp [hr]
theorem rooms_no (l : List Part) (k : Nat) (h : k < l.length) (hr : roomyM l[k] = false) : roomsM (l.take (k + 1)) = roomsM (l.take k) := by
  unfold roomsM
  rw [List.take_succ_eq_append_getElem h, List.filter_append]
  simp [hr]

set_option maxRecDepth 100000 in
set_option maxHeartbeats 2000000 in
theorem rooms_any (fv : Value) (f : Form) (h5 : f.parts.length ≤ 5) (w : World) (hf : FormV w fv f) :
    Calls Tryz.prog 90 #[fv] w fun e w' => ∃ v, e = .returned v ∧ PartsAt w' v (roomsM f.parts) ∧ Ext w w' := by
  obtain ⟨pv, rfl, hns, hp⟩ := hf
  obtain ⟨a, cap, rfl, hlc, hcm⟩ := hp.shape
  obtain ⟨i0, hi, hz0, hz1, hz2⟩ := info_parts infoPart
  go_enter Tryz.func90, Tryz.ntmps90
  go_wp2_with fail
  go_loopw [3, 11] (fun v i wr => ∃ k : Nat, ∃ es : List EntP, k ≤ f.parts.length ∧ i = .int .i64 k ∧ Ext w wr ∧ wr.ownsRow w.heap.size 172 3 v es.length (cellsP es) ∧ EntsP w es (roomsM (f.parts.take k)) ∧ es.length ≤ k) (fun _ i _ => f.parts.length - (intOf i).toNat)
  case atStart => exact ⟨0, [], Nat.zero_le _, rfl, ext_alloc _ _, World.ownsRow_nil _ _ _ _, EntsP.nil, Nat.le_refl _⟩
  case round =>
    obtain ⟨k, es, hk, rfl, hxr, hown, hE, hel⟩ := hrel
    by_cases hlt : k < f.parts.length
    · have k1 : (k : Int) < (f.parts.length : Int) := by omega
      obtain ⟨b, o, rfl, ⟨u, h1, hs⟩, h2, h3, hlo, hhi⟩ := hp.get hlt
      replace h1 := hxr.cell h1
      replace h2 := hxr.cell h2
      replace h3 := hxr.cell h3
      have hyes := rooms_yes f.parts k hlt
      have hno := rooms_no f.parts k hlt
      generalize f.parts[k] = y at *
      obtain ⟨ua, uc, rfl, -⟩ := hs.shape
      have Hyes := Lib.hid hyes
      have Hno := Lib.hid hno
      have HE := Lib.hid hE
      have Hown := Lib.hid hown
      have Hs := Lib.hid hs
      have hszr := hxr.size
      clear hyes hno hE hown hs
      go_wp2_with fail
      refine (isRoom_any ua _ uc y.lo y.hi _).mono ?_
      rintro e w1 ⟨rfl, hx1⟩
      have hx2 : Ext w w1 := ((hxr.alloc _).alloc _).trans hx1
      have d0 : w1.cell? ⟨wr.heap.size + 1, 0, none⟩ = some (.slice ua y.words.length uc) := hx1.cell (by simp [go_sem])
      have d1 : w1.cell? ⟨wr.heap.size + 1, 1, none⟩ = some (.int .i64 y.lo) := hx1.cell (by simp [go_sem])
      have d2 : w1.cell? ⟨wr.heap.size + 1, 2, none⟩ = some (.int .i64 y.hi) := hx1.cell (by simp [go_sem])
      have own1 := Ext.owns (World.ownsRow.alloc (World.ownsRow.alloc Hown.out _) _) hx1
      have hz := hx2.size
      cases hr : roomyM y
      · have e0 : ((y.words.length : Int) == 0) = false := by
          unfold roomyM at hr
          simp at hr ⊢
          exact hr
        rw [e0]
        have Hn := Lib.hid (Hno.out hr)
        clear hr d0 d1 d2
        go_wp2
        go_roundw
        case rel => exact ⟨k + 1, es, by omega, by go_num, hx2, own1, by rw [Hn.out]; exact HE.out, by omega⟩
        case measure => simp [intOf]; omega
      · have e0 : ((y.words.length : Int) == 0) = true := by
          unfold roomyM at hr
          simp at hr ⊢
          exact hr
        rw [e0]
        have Hn := Lib.hid (Hyes.out hr)
        clear hr h1 h2 h3
        go_wp2_with (at_builtin; go_loud (refine wpList_append_own_at _ rfl _ _ 168 rfl w.heap.size 172 i0 (.agg #[.slice none 0 0, .int .i64 0, .int .i64 0]) 3 40 Tryz.underlying168 hi hz0 hz1 hz2 rfl (by decide) u3 es.length (cellsP es) rfl (World.ownsRow.alloc own1 _) ⟨w1.heap.size, 0, none⟩ 1 1 [.slice ua y.words.length uc, .int .i64 y.lo, .int .i64 y.hi] rfl rfl (cell_three_new _ _ _ _ _) (by simp [Value.oneCell']) (by unfold maxLen; omega) (by omega) (by simp; omega) ?_; intro v' w2 hown' hgrow _ _))
        have hx3 : Ext w w2 := Ext.grown (hx2.alloc _) hgrow fun k hk => (own1.lt k hk).1
        go_roundw
        case rel => exact ⟨k + 1, es ++ [(.slice ua y.words.length uc, y.lo, y.hi)], by omega, by go_num, hx3, by rw [List.length_append, cellsP_snoc]; exact hown', by rw [Hn.out]; exact HE.out.snoc Hs.out hlo hhi, by simp; omega⟩
        case measure => simp [intOf]; omega
    · have hke : k = f.parts.length := by omega
      subst hke
      rw [List.take_length] at hE
      have hl := hE.1
      go_wp2
      go_ret
      exact ⟨_, rfl, PartsAt.of_own (w := w) (by rw [← hl]; exact hown) (hE.ext hxr), hxr⟩
end Go.Proofs.YtnfbhicoknpojaaGreat
