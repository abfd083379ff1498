/-
  WHAT THE FUNCTIONS ON A SOUND STRING RETURN: with one more sound; whether a letter gives a sound.
-/
import Derived.Test.YtbodmgilcohfjaaMembers2
namespace Go.Proofs.Ytbodmgilcohfjaa
open Go.RowKit

def ssRaw (n a b c d e : Int) : Value := .agg #[.int .i64 n, .int .i64 a, .int .i64 b, .int .i64 c, .int .i64 d, .int .i64 e]
def ssV (l : List Int) : Value := ssRaw l.length (l.getD 0 0) (l.getD 1 0) (l.getD 2 0) (l.getD 3 0) (l.getD 4 0)

theorem with_silent (n a b c d e : Int) (w : World) :
    Calls Try.prog 104 #[ssRaw n a b c d e, .int .i64 (-1)] w fun r w' => r = .returned (ssRaw n a b c d e) ∧ Ext w w' := by
  unfold ssRaw
  go_enter Try.func104, Try.ntmps104
  go_wp2
  refine bodyPost_ret (v := .agg #[.int .i64 n, .int .i64 a, .int .i64 b, .int .i64 c, .int .i64 d, .int .i64 e]) (by simp [results, Try.results104, go_sem]) rfl ⟨rfl, ?_⟩
  exact (by first | (with_reducible exact Ext.refl _) | (with_reducible assumption) | (show Below _ _ _; go_grown; done))
set_option maxHeartbeats 1000000 in
theorem with_raw (n : Nat) (s a b c d e : Int) (hs : s ≠ -1) (hn : n < 5) (w : World) :
    Calls Try.prog 104 #[ssRaw n a b c d e, .int .i64 s] w
      fun r w' => r = .returned (ssRaw (n + 1) (if n = 0 then s else a) (if n = 1 then s else b) (if n = 2 then s else c) (if n = 3 then s else d) (if n = 4 then s else e)) ∧ Ext w w' := by
  unfold ssRaw
  have hs' : (s != -1) = true := by simpa using hs
  have hn5 : n = 0 ∨ n = 1 ∨ n = 2 ∨ n = 3 ∨ n = 4 := by omega
  rcases hn5 with rfl | rfl | rfl | rfl | rfl
  · go_enter Try.func104, Try.ntmps104
    go_wp2
    refine bodyPost_ret (v := .agg #[.int .i64 1, .int .i64 s, .int .i64 b, .int .i64 c, .int .i64 d, .int .i64 e]) (by simp [results, Try.results104, go_sem]) rfl ⟨rfl, ?_⟩
    exact (by first | (with_reducible exact Ext.refl _) | (with_reducible assumption) | (show Below _ _ _; go_grown; done))
  · go_enter Try.func104, Try.ntmps104
    go_wp2
    refine bodyPost_ret (v := .agg #[.int .i64 2, .int .i64 a, .int .i64 s, .int .i64 c, .int .i64 d, .int .i64 e]) (by simp [results, Try.results104, go_sem]) rfl ⟨rfl, ?_⟩
    exact (by first | (with_reducible exact Ext.refl _) | (with_reducible assumption) | (show Below _ _ _; go_grown; done))
  · go_enter Try.func104, Try.ntmps104
    go_wp2
    refine bodyPost_ret (v := .agg #[.int .i64 3, .int .i64 a, .int .i64 b, .int .i64 s, .int .i64 d, .int .i64 e]) (by simp [results, Try.results104, go_sem]) rfl ⟨rfl, ?_⟩
    exact (by first | (with_reducible exact Ext.refl _) | (with_reducible assumption) | (show Below _ _ _; go_grown; done))
  · go_enter Try.func104, Try.ntmps104
    go_wp2
    refine bodyPost_ret (v := .agg #[.int .i64 4, .int .i64 a, .int .i64 b, .int .i64 c, .int .i64 s, .int .i64 e]) (by simp [results, Try.results104, go_sem]) rfl ⟨rfl, ?_⟩
    exact (by first | (with_reducible exact Ext.refl _) | (with_reducible assumption) | (show Below _ _ _; go_grown; done))
  · go_enter Try.func104, Try.ntmps104
    go_wp2
    refine bodyPost_ret (v := .agg #[.int .i64 5, .int .i64 a, .int .i64 b, .int .i64 c, .int .i64 d, .int .i64 s]) (by simp [results, Try.results104, go_sem]) rfl ⟨rfl, ?_⟩
    exact (by first | (with_reducible exact Ext.refl _) | (with_reducible assumption) | (show Below _ _ _; go_grown; done))
theorem with_any (l : List Int) (s : Int) (hl : l.length < 5) (hs : s ≠ -1) (w : World) :
    Calls Try.prog 104 #[ssV l, .int .i64 s] w fun r w' => r = .returned (ssV (l ++ [s])) ∧ Ext w w' := by
  refine (with_raw l.length s _ _ _ _ _ hs hl w).mono ?_
  rintro r w' ⟨rfl, hx⟩
  refine ⟨?_, hx⟩
  match l, hl with
  | [], _ => rfl
  | [a], _ => rfl
  | [a, b], _ => rfl
  | [a, b, c], _ => rfl
  | [a, b, c, d], _ => rfl
theorem with_none (l : List Int) (w : World) :
    Calls Try.prog 104 #[ssV l, .int .i64 (-1)] w fun r w' => r = .returned (ssV l) ∧ Ext w w' := with_silent _ _ _ _ _ _ w

def givesM (x : Letter) (s : Int) : Bool := if s = -1 then x.silent else x.sounds.toNat.testBit s.toNat
theorem and_bit : ∀ (n : Fin 16) (k : Fin 4), (bits BinOp.and IntKind.i64 ((n.1 : Nat) : Int) ((2 ^ k.1 : Nat) : Int) != 0) = n.1.testBit k.1 := by decide +kernel
def FineL (x : Letter) : Prop := 0 ≤ x.sounds ∧ x.sounds ≤ 15

set_option maxRecDepth 100000 in
theorem gives_any (u : Value) (x : Letter) (s : Int) (hu : LetterV u x) (hf : FineL x) (hs : -1 ≤ s ∧ s ≤ 3) (w : World) :
    Calls Try.prog 93 #[u, .int .i64 s] w fun r w' => r = .returned (.bool (givesM x s)) ∧ Ext w w' := by
  obtain ⟨rfl, -, -⟩ := hu
  obtain ⟨n, hn, hn15⟩ : ∃ n : Nat, x.sounds = n ∧ n < 16 := ⟨x.sounds.toNat, by have := hf.1; have := hf.2; omega, by have := hf.1; have := hf.2; omega⟩
  have hb := fun k => and_bit ⟨n, hn15⟩ k
  have hgt : x.sounds.toNat = n := by omega
  have Hgt := Lib.hid hgt
  clear hgt hf
  rw [hn]
  clear hn
  have hs5 : s = -1 ∨ s = 0 ∨ s = 1 ∨ s = 2 ∨ s = 3 := by omega
  rcases hs5 with rfl | rfl | rfl | rfl | rfl
  · clear hb
    go_enter Try.func93, Try.ntmps93
    go_wp2
    go_ret
    exact ⟨rfl, (by first | (with_reducible exact Ext.refl _) | (with_reducible assumption) | (show Below _ _ _; go_grown; done))⟩
  · have hk : (bits BinOp.and IntKind.i64 (n : Int) 1 != 0) = n.testBit 0 := hb ⟨0, by omega⟩
    clear hb
    have c1 : (w.alloc (.cells #[.int .u8 x.c, .int .i64 (n : Int), .bool x.silent] 135)).cell? ⟨w.heap.size, 1, none⟩ = some (.int .i64 (n : Int)) := by simp [go_sem]
    go_enter Try.func93, Try.ntmps93
    go_wp2_with fail
    apply Facts.wp_region [.val _, .val _, .val _, .val _, .val _, .val _, .val _, .val _] (by kernel_rfl) (by kernel_rfl) trivial ?main
    case main =>
      iterate 8 (refine ⟨fun w1 hx hh => ?_, ?_⟩; focus (clear hh; have e1 := hx.cell c1; go_simp; exact ⟨Ext.refl _, rfl⟩))
      intro w1 hx1 hh
      clear hh c1
      go_simp
      go_wp2
      go_ret
      exact ⟨ret_bool (by rw [givesM, if_neg (by decide), Hgt.out]; exact hk), hx1.of_alloc⟩
  · have hk : (bits BinOp.and IntKind.i64 (n : Int) 2 != 0) = n.testBit 1 := hb ⟨1, by omega⟩
    clear hb
    have c1 : (w.alloc (.cells #[.int .u8 x.c, .int .i64 (n : Int), .bool x.silent] 135)).cell? ⟨w.heap.size, 1, none⟩ = some (.int .i64 (n : Int)) := by simp [go_sem]
    go_enter Try.func93, Try.ntmps93
    go_wp2_with fail
    apply Facts.wp_region [.val _, .val _, .val _, .val _, .val _, .val _, .val _, .val _] (by kernel_rfl) (by kernel_rfl) trivial ?main
    case main =>
      iterate 8 (refine ⟨fun w1 hx hh => ?_, ?_⟩; focus (clear hh; have e1 := hx.cell c1; go_simp; exact ⟨Ext.refl _, rfl⟩))
      intro w1 hx1 hh
      clear hh c1
      go_simp
      go_wp2
      go_ret
      exact ⟨ret_bool (by rw [givesM, if_neg (by decide), Hgt.out]; exact hk), hx1.of_alloc⟩
  · have hk : (bits BinOp.and IntKind.i64 (n : Int) 4 != 0) = n.testBit 2 := hb ⟨2, by omega⟩
    clear hb
    have c1 : (w.alloc (.cells #[.int .u8 x.c, .int .i64 (n : Int), .bool x.silent] 135)).cell? ⟨w.heap.size, 1, none⟩ = some (.int .i64 (n : Int)) := by simp [go_sem]
    go_enter Try.func93, Try.ntmps93
    go_wp2_with fail
    apply Facts.wp_region [.val _, .val _, .val _, .val _, .val _, .val _, .val _, .val _] (by kernel_rfl) (by kernel_rfl) trivial ?main
    case main =>
      iterate 8 (refine ⟨fun w1 hx hh => ?_, ?_⟩; focus (clear hh; have e1 := hx.cell c1; go_simp; exact ⟨Ext.refl _, rfl⟩))
      intro w1 hx1 hh
      clear hh c1
      go_simp
      go_wp2
      go_ret
      exact ⟨ret_bool (by rw [givesM, if_neg (by decide), Hgt.out]; exact hk), hx1.of_alloc⟩
  · have hk : (bits BinOp.and IntKind.i64 (n : Int) 8 != 0) = n.testBit 3 := hb ⟨3, by omega⟩
    clear hb
    have c1 : (w.alloc (.cells #[.int .u8 x.c, .int .i64 (n : Int), .bool x.silent] 135)).cell? ⟨w.heap.size, 1, none⟩ = some (.int .i64 (n : Int)) := by simp [go_sem]
    go_enter Try.func93, Try.ntmps93
    go_wp2_with fail
    apply Facts.wp_region [.val _, .val _, .val _, .val _, .val _, .val _, .val _, .val _] (by kernel_rfl) (by kernel_rfl) trivial ?main
    case main =>
      iterate 8 (refine ⟨fun w1 hx hh => ?_, ?_⟩; focus (clear hh; have e1 := hx.cell c1; go_simp; exact ⟨Ext.refl _, rfl⟩))
      intro w1 hx1 hh
      clear hh c1
      go_simp
      go_wp2
      go_ret
      exact ⟨ret_bool (by rw [givesM, if_neg (by decide), Hgt.out]; exact hk), hx1.of_alloc⟩
end Go.Proofs.Ytbodmgilcohfjaa
