/-
  WHAT members RETURNS: the indices of bits below 32, ascending.
-/
import Derived.Test.YtbodmgilcohfjaaMembers
import Derived.Maps.AppendAt
namespace Go.Proofs.Ytbodmgilcohfjaa
open Go.RowKit

/-- an owned row of numbers is a list in memory -/
theorem IntsAt.of_own {w : World} {B : Nat} {e : TypeId} {v : Value} {l : List Int} (h : w.ownsRow B e 1 v l.length (l.map (Value.int .i64))) (hI : ∀ x ∈ l, I64 x) : IntsAt w v l := by
  rcases h.2 with ⟨rfl, hn⟩ | ⟨g, cap, cur, rfl, hb, hg, hnc, hcm, hcs, htake⟩
  · have : l = [] := List.eq_nil_of_length_eq_zero hn
    subst this; exact SliceAt.nil
  · refine ⟨_, _, rfl, hnc, by simpa [maxLen] using hcm, fun i hi => ⟨g, 0, rfl, ?_, hI _ (List.getElem_mem hi)⟩⟩
    have := h.cells (g := g) rfl i (.int .i64 l[i]) (by simp [hi])
    have e : (⟨g, 0, none⟩ : Addr).add i = ⟨g, 0 + i * 1, none⟩ := by unfold Addr.add; split <;> simp_all
    rw [e] at this; exact this
theorem Ext.grown {a w w' : World} {row : Option Nat} (h : Ext a w) (hg : w.grownBy w' row) (hr : ∀ k, row = some k → a.heap.size ≤ k) : Ext a w' := Below.grown h hg h.size hr

def membersTo (n k : Nat) : List Nat := (List.range k).filter fun i => n.testBit i
def membersM (n : Nat) : List Nat := membersTo n 5
theorem membersTo_succ (n k : Nat) : membersTo n (k + 1) = membersTo n k ++ (if n.testBit k then [k] else []) := by
  unfold membersTo
  rw [List.range_succ, List.filter_append]
  cases h : n.testBit k <;> simp [h]
theorem membersTo_len (n k : Nat) : (membersTo n k).length ≤ k := by
  have := List.length_filter_le (fun i => n.testBit i) (List.range k)
  simpa [membersTo] using this
theorem members_end : ∀ (n : Fin 32) (k : Fin 6), n.1 < 2 ^ k.1 → membersTo n.1 k.1 = membersM n.1 := by decide +kernel
theorem and_yes : ∀ (n : Fin 32) (k : Fin 5), n.1.testBit k.1 = true → bits BinOp.and IntKind.i64 ((n.1 : Nat) : Int) ((2 ^ k.1 : Nat) : Int) = ((2 ^ k.1 : Nat) : Int) := by decide +kernel
theorem and_no : ∀ (n : Fin 32) (k : Fin 5), n.1.testBit k.1 = false → bits BinOp.and IntKind.i64 ((n.1 : Nat) : Int) ((2 ^ k.1 : Nat) : Int) = 0 := by decide +kernel

theorem infoInt : (Try.prog.info? 3).map (fun i => (i.zero, i.size, i.bytes)) = some (some (.int .i64 0), 1, 8) := by kernel_rfl

theorem members_I64 (n : Nat) : ∀ x ∈ ints (membersM n), I64 x := by
  intro x hx
  simp only [ints, membersM, membersTo, List.mem_map, List.mem_filter, List.mem_range] at hx
  obtain ⟨y, ⟨hy, -⟩, rfl⟩ := hx
  unfold I64; omega
theorem own_snoc {w : World} {B : Nat} {e : TypeId} {v : Value} {n k : Nat} {m : Nat} (hm : m = (ints (membersTo n k)).length + 1) (hb : membersTo n (k + 1) = membersTo n k ++ [k])
    (h : w.ownsRow B e 1 v m ((ints (membersTo n k)).map (Value.int .i64) ++ [.int .i64 (k : Int)])) : w.ownsRow B e 1 v (ints (membersTo n (k + 1))).length ((ints (membersTo n (k + 1))).map (Value.int .i64)) := by
  subst hm
  rw [hb]
  simpa [ints] using h
set_option maxRecDepth 100000 in
set_option maxHeartbeats 1000000 in
theorem members_any (n : Nat) (hn : n < 32) (w : World) :
    Calls Try.prog 91 #[.int .i64 n] w fun e w' => ∃ v, e = .returned v ∧ IntsAt w' v (ints (membersM n)) ∧ Ext w w' := by
  obtain ⟨i0, hi, hz0, hz1, hz2⟩ := info_parts infoInt
  go_enter Try.func91, Try.ntmps91
  go_wp2
  go_loopw [3, 4] (fun v i wr => ∃ k : Nat, k ≤ 5 ∧ i = .int .i64 k ∧ Ext w wr ∧ wr.ownsRow w.heap.size 3 1 v (ints (membersTo n k)).length ((ints (membersTo n k)).map (Value.int .i64))) (fun _ i _ => 5 - (intOf i).toNat)
  case atStart => exact ⟨0, by omega, rfl, Ext.refl _, World.ownsRow_nil _ _ _ _⟩
  case round =>
    obtain ⟨k, hk, rfl, hx, hown⟩ := hrel
    have hsz := hx.size
    have hst := membersTo_succ n k
    have hk6 : k = 0 ∨ k = 1 ∨ k = 2 ∨ k = 3 ∨ k = 4 ∨ k = 5 := by omega
    rcases hk6 with rfl | rfl | rfl | rfl | rfl | rfl
    · by_cases hle : (1 : Int) ≤ n
      · cases hb : n.testBit 0
        · have hand : bits BinOp.and IntKind.i64 (n : Int) 1 = 0 := and_no ⟨n, hn⟩ ⟨0, by omega⟩ hb
          rw [hb] at hst
          have Hst := Lib.hid hst
          clear hb hst
          go_wp2
          go_roundw
          case rel => exact ⟨1, by omega, rfl, hx, by have := Hst.out; simp only [Bool.false_eq_true, if_false, List.append_nil] at this; rw [this]; exact hown⟩
          case measure => simp [intOf]
        · have hand : bits BinOp.and IntKind.i64 (n : Int) 1 = 1 := and_yes ⟨n, hn⟩ ⟨0, by omega⟩ hb
          rw [hb] at hst
          have Hst := Lib.hid hst
          have hml : (ints (membersTo n 0)).length ≤ 5 := by have := membersTo_len n 0; simp only [ints, List.length_map]; omega
          clear hb hst
          go_wp2_with ((at_builtin; refine wpList_append_own _ rfl _ _ 32 rfl w.heap.size 3 i0 (.int .i64 0) 1 8 Try.underlying32 hi hz0 hz1 hz2 rfl (by decide) _ _ _ rfl (hown.alloc _) ⟨wr.heap.size, 0, none⟩ 1 1 [.int .i64 0] rfl rfl (cell_one_new _ _ _) (by simp [Value.oneCell']) (by unfold maxLen; omega) (by omega) (by simp; omega) ?_; intro v' w1 hown' hgrow _))
          have hx1 : Ext w w1 := Ext.grown (hx.alloc _) hgrow fun k hk => (hown.lt k hk).1
          go_roundw
          case rel => exact ⟨1, by omega, rfl, hx1, own_snoc rfl (by simpa using Hst.out) hown'⟩
          case measure => simp [intOf]
      · have hfin := members_end ⟨n, hn⟩ ⟨0, by omega⟩ (by simp only; omega)
        simp only at hfin
        rw [hfin] at hown
        clear hst hfin
        go_wp2
        go_ret
        exact ⟨_, rfl, IntsAt.of_own hown (members_I64 n), hx⟩
    · by_cases hle : (2 : Int) ≤ n
      · cases hb : n.testBit 1
        · have hand : bits BinOp.and IntKind.i64 (n : Int) 2 = 0 := and_no ⟨n, hn⟩ ⟨1, by omega⟩ hb
          rw [hb] at hst
          have Hst := Lib.hid hst
          clear hb hst
          go_wp2
          go_roundw
          case rel => exact ⟨2, by omega, rfl, hx, by have := Hst.out; simp only [Bool.false_eq_true, if_false, List.append_nil] at this; rw [this]; exact hown⟩
          case measure => simp [intOf]
        · have hand : bits BinOp.and IntKind.i64 (n : Int) 2 = 2 := and_yes ⟨n, hn⟩ ⟨1, by omega⟩ hb
          rw [hb] at hst
          have Hst := Lib.hid hst
          have hml : (ints (membersTo n 1)).length ≤ 5 := by have := membersTo_len n 1; simp only [ints, List.length_map]; omega
          clear hb hst
          go_wp2_with ((at_builtin; refine wpList_append_own _ rfl _ _ 32 rfl w.heap.size 3 i0 (.int .i64 0) 1 8 Try.underlying32 hi hz0 hz1 hz2 rfl (by decide) _ _ _ rfl (hown.alloc _) ⟨wr.heap.size, 0, none⟩ 1 1 [.int .i64 1] rfl rfl (cell_one_new _ _ _) (by simp [Value.oneCell']) (by unfold maxLen; omega) (by omega) (by simp; omega) ?_; intro v' w1 hown' hgrow _))
          have hx1 : Ext w w1 := Ext.grown (hx.alloc _) hgrow fun k hk => (hown.lt k hk).1
          go_roundw
          case rel => exact ⟨2, by omega, rfl, hx1, own_snoc rfl (by simpa using Hst.out) hown'⟩
          case measure => simp [intOf]
      · have hfin := members_end ⟨n, hn⟩ ⟨1, by omega⟩ (by simp only; omega)
        simp only at hfin
        rw [hfin] at hown
        clear hst hfin
        go_wp2
        go_ret
        exact ⟨_, rfl, IntsAt.of_own hown (members_I64 n), hx⟩
    · by_cases hle : (4 : Int) ≤ n
      · cases hb : n.testBit 2
        · have hand : bits BinOp.and IntKind.i64 (n : Int) 4 = 0 := and_no ⟨n, hn⟩ ⟨2, by omega⟩ hb
          rw [hb] at hst
          have Hst := Lib.hid hst
          clear hb hst
          go_wp2
          go_roundw
          case rel => exact ⟨3, by omega, rfl, hx, by have := Hst.out; simp only [Bool.false_eq_true, if_false, List.append_nil] at this; rw [this]; exact hown⟩
          case measure => simp [intOf]
        · have hand : bits BinOp.and IntKind.i64 (n : Int) 4 = 4 := and_yes ⟨n, hn⟩ ⟨2, by omega⟩ hb
          rw [hb] at hst
          have Hst := Lib.hid hst
          have hml : (ints (membersTo n 2)).length ≤ 5 := by have := membersTo_len n 2; simp only [ints, List.length_map]; omega
          clear hb hst
          go_wp2_with ((at_builtin; refine wpList_append_own _ rfl _ _ 32 rfl w.heap.size 3 i0 (.int .i64 0) 1 8 Try.underlying32 hi hz0 hz1 hz2 rfl (by decide) _ _ _ rfl (hown.alloc _) ⟨wr.heap.size, 0, none⟩ 1 1 [.int .i64 2] rfl rfl (cell_one_new _ _ _) (by simp [Value.oneCell']) (by unfold maxLen; omega) (by omega) (by simp; omega) ?_; intro v' w1 hown' hgrow _))
          have hx1 : Ext w w1 := Ext.grown (hx.alloc _) hgrow fun k hk => (hown.lt k hk).1
          go_roundw
          case rel => exact ⟨3, by omega, rfl, hx1, own_snoc rfl (by simpa using Hst.out) hown'⟩
          case measure => simp [intOf]
      · have hfin := members_end ⟨n, hn⟩ ⟨2, by omega⟩ (by simp only; omega)
        simp only at hfin
        rw [hfin] at hown
        clear hst hfin
        go_wp2
        go_ret
        exact ⟨_, rfl, IntsAt.of_own hown (members_I64 n), hx⟩
    · by_cases hle : (8 : Int) ≤ n
      · cases hb : n.testBit 3
        · have hand : bits BinOp.and IntKind.i64 (n : Int) 8 = 0 := and_no ⟨n, hn⟩ ⟨3, by omega⟩ hb
          rw [hb] at hst
          have Hst := Lib.hid hst
          clear hb hst
          go_wp2
          go_roundw
          case rel => exact ⟨4, by omega, rfl, hx, by have := Hst.out; simp only [Bool.false_eq_true, if_false, List.append_nil] at this; rw [this]; exact hown⟩
          case measure => simp [intOf]
        · have hand : bits BinOp.and IntKind.i64 (n : Int) 8 = 8 := and_yes ⟨n, hn⟩ ⟨3, by omega⟩ hb
          rw [hb] at hst
          have Hst := Lib.hid hst
          have hml : (ints (membersTo n 3)).length ≤ 5 := by have := membersTo_len n 3; simp only [ints, List.length_map]; omega
          clear hb hst
          go_wp2_with ((at_builtin; refine wpList_append_own _ rfl _ _ 32 rfl w.heap.size 3 i0 (.int .i64 0) 1 8 Try.underlying32 hi hz0 hz1 hz2 rfl (by decide) _ _ _ rfl (hown.alloc _) ⟨wr.heap.size, 0, none⟩ 1 1 [.int .i64 3] rfl rfl (cell_one_new _ _ _) (by simp [Value.oneCell']) (by unfold maxLen; omega) (by omega) (by simp; omega) ?_; intro v' w1 hown' hgrow _))
          have hx1 : Ext w w1 := Ext.grown (hx.alloc _) hgrow fun k hk => (hown.lt k hk).1
          go_roundw
          case rel => exact ⟨4, by omega, rfl, hx1, own_snoc rfl (by simpa using Hst.out) hown'⟩
          case measure => simp [intOf]
      · have hfin := members_end ⟨n, hn⟩ ⟨3, by omega⟩ (by simp only; omega)
        simp only at hfin
        rw [hfin] at hown
        clear hst hfin
        go_wp2
        go_ret
        exact ⟨_, rfl, IntsAt.of_own hown (members_I64 n), hx⟩
    · by_cases hle : (16 : Int) ≤ n
      · cases hb : n.testBit 4
        · have hand : bits BinOp.and IntKind.i64 (n : Int) 16 = 0 := and_no ⟨n, hn⟩ ⟨4, by omega⟩ hb
          rw [hb] at hst
          have Hst := Lib.hid hst
          clear hb hst
          go_wp2
          go_roundw
          case rel => exact ⟨5, by omega, rfl, hx, by have := Hst.out; simp only [Bool.false_eq_true, if_false, List.append_nil] at this; rw [this]; exact hown⟩
          case measure => simp [intOf]
        · have hand : bits BinOp.and IntKind.i64 (n : Int) 16 = 16 := and_yes ⟨n, hn⟩ ⟨4, by omega⟩ hb
          rw [hb] at hst
          have Hst := Lib.hid hst
          have hml : (ints (membersTo n 4)).length ≤ 5 := by have := membersTo_len n 4; simp only [ints, List.length_map]; omega
          clear hb hst
          go_wp2_with ((at_builtin; refine wpList_append_own _ rfl _ _ 32 rfl w.heap.size 3 i0 (.int .i64 0) 1 8 Try.underlying32 hi hz0 hz1 hz2 rfl (by decide) _ _ _ rfl (hown.alloc _) ⟨wr.heap.size, 0, none⟩ 1 1 [.int .i64 4] rfl rfl (cell_one_new _ _ _) (by simp [Value.oneCell']) (by unfold maxLen; omega) (by omega) (by simp; omega) ?_; intro v' w1 hown' hgrow _))
          have hx1 : Ext w w1 := Ext.grown (hx.alloc _) hgrow fun k hk => (hown.lt k hk).1
          go_roundw
          case rel => exact ⟨5, by omega, rfl, hx1, own_snoc rfl (by simpa using Hst.out) hown'⟩
          case measure => simp [intOf]
      · have hfin := members_end ⟨n, hn⟩ ⟨4, by omega⟩ (by simp only; omega)
        simp only at hfin
        rw [hfin] at hown
        clear hst hfin
        go_wp2
        go_ret
        exact ⟨_, rfl, IntsAt.of_own hown (members_I64 n), hx⟩
    · have hle : ¬ (32 : Int) ≤ n := by omega
      clear hst
      go_wp2
      go_ret
      exact ⟨_, rfl, IntsAt.of_own hown (members_I64 n), hx⟩
end Go.Proofs.Ytbodmgilcohfjaa
