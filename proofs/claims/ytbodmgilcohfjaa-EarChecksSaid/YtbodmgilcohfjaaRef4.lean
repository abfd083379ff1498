/-
  WHAT THE SMALL FUNCTIONS OF THE REFERENCE RETURN: a bit of some bits; the first index of a string; whether a string is a name; whether a name is fresh.
-/
import Derived.Test.YtbodmgilcohfjaaRef3
namespace Go.Proofs.Ytbodmgilcohfjaa
open Go.RowKit

def bitM : Nat → Int → Bool
  | 0, c => c.tmod 2 == 1
  | n + 1, c => bitM n (c.tdiv 2)
theorem tdiv2_in (c : Int) (h : I64 c) : I64 (c.tdiv 2) := by
  unfold I64 at *
  rcases Int.le_total 0 c with h0 | h0
  · rw [Int.tdiv_eq_ediv_of_nonneg h0]; omega
  · have e : c.tdiv 2 = -((-c) / 2) := by
      rw [← Int.tdiv_eq_ediv_of_nonneg (by omega), Int.neg_tdiv, Int.neg_neg]
    rw [e]; omega
set_option maxRecDepth 100000 in
theorem bit_any (c : Int) (n : Nat) (hc : I64 c) (hn : n ≤ 9223372036854775807) (w : World) : Calls Try.prog 41 #[.int .i64 c, .int .i64 n] w fun r w' => r = .returned (.bool (bitM n c)) ∧ w = w' := by
  go_enter Try.func41, Try.ntmps41
  go_wp2
  go_loop [0, 5] (fun m i => ∃ k : Nat, ∃ d : Int, k ≤ n ∧ m = .int .i64 d ∧ i = .int .i64 k ∧ I64 d ∧ bitM (n - k) d = bitM n c) (fun _ i => n - (intOf i).toNat)
  case atStart => exact ⟨0, c, Nat.zero_le _, rfl, rfl, hc, rfl⟩
  case round =>
    obtain ⟨k, d, hk, rfl, rfl, hi, hd⟩ := hrel
    have Hd := Lib.hid hd; clear hd
    have Hi := Lib.hid hi; clear hi
    by_cases h1 : k < n
    · have k1 : (k : Int) < (n : Int) := by omega
      have wd : IntKind.i64.wrap (d.tdiv 2) = d.tdiv 2 := IntWalk.i64_in _ (tdiv2_in d Hi.out)
      go_wp2
      go_round
      case rel => exact ⟨k + 1, d.tdiv 2, by omega, by go_num, by go_num, tdiv2_in d Hi.out, by rw [← Hd.out, show n - k = (n - (k + 1)) + 1 from by omega]; rfl⟩
      case measure => simp [intOf]; omega
    · obtain rfl : k = n := by omega
      go_wp2
      go_ret
      have := Hd.out
      rw [Nat.sub_self] at this
      exact ⟨ret_bool this, rfl⟩

def strR (w : World) (b o : Nat) (x : ByteArray) : Prop := w.cell? ⟨b, o, none⟩ = some (.string x) ∧ x.size ≤ 9223372036854775807
theorem strR.keeps : Keeps strR := fun _ _ _ _ _ hx h => ⟨hx.cell h.1, h.2⟩
abbrev StrsAt : World → Value → List ByteArray → Prop := SliceAt 1 strR
theorem StrsAt.ext {w w' : World} {v : Value} {l : List ByteArray} (h : StrsAt w v l) (hx : Ext w w') : StrsAt w' v l := SliceAt.ext strR.keeps h hx

def whereM (s : ByteArray) : List ByteArray → Nat → Int
  | [], _ => -1
  | x :: l, k => if (x.toList == s.toList) = true then k else whereM s l (k + 1)
theorem whereM_step (s : ByteArray) (l : List ByteArray) (k : Nat) (h : k < l.length) (x : ByteArray) (hx : l[k] = x) : whereM s (l.drop k) k = if (x.toList == s.toList) = true then (k : Int) else whereM s (l.drop (k + 1)) (k + 1) := by
  rw [List.drop_eq_getElem_cons h, hx, whereM]
theorem whereM_ge (s : ByteArray) (l : List ByteArray) : ∀ k : Nat, decide (0 ≤ whereM s l k) = l.any fun y => y.toList == s.toList := by
  induction l with
  | nil => intro k; simp [whereM]
  | cons x l ih =>
    intro k
    rw [whereM, List.any_cons]
    cases h : x.toList == s.toList
    · simp only [Bool.false_eq_true, if_false, Bool.false_or]; exact ih _
    · simp only [if_true, Bool.true_or, decide_eq_true_eq]; exact Int.natCast_nonneg k
set_option maxHeartbeats 1000000 in
set_option maxRecDepth 100000 in
theorem where_any (v : Value) (s : ByteArray) (l : List ByteArray) (w : World) (hl : StrsAt w v l) :
    Calls Try.prog 86 #[v, .string s] w fun r w' => r = .returned (.int .i64 (whereM s l 0)) ∧ w = w' := by
  obtain ⟨a, cap, rfl, hlc, hcm, hc⟩ := hl
  go_enter Try.func86, Try.ntmps86
  go_wp2
  go_loop [5] (fun i => ∃ k : Nat, k ≤ l.length ∧ i = .int .i64 k ∧ whereM s (l.drop k) k = whereM s l 0) (fun i => l.length - (intOf i).toNat)
  case atStart => exact ⟨0, Nat.zero_le _, rfl, rfl⟩
  case round =>
    obtain ⟨k, hk, rfl, hd⟩ := hrel
    have Hd := Lib.hid hd; clear hd
    by_cases h1 : k < l.length
    · have k1 : (k : Int) < (l.length : Int) := by omega
      have n1 : ((k : Int) == (l.length : Int)) = false := by simp; omega
      obtain ⟨b, off, rfl, c0, -⟩ := hc k h1
      clear hc
      have hst := fun x hx => whereM_step s l k h1 x hx
      generalize hx : l[k] = x at *
      have Hst := Lib.hid (hst x rfl)
      clear hx hst
      simp only [Nat.mul_one] at c0
      cases h2 : x.toList == s.toList
      all_goals
        have H2 := Lib.hid h2
        go_wp2
        first
          | (go_ret
             exact ⟨ret_int (by rw [← Hd.out, Hst.out, if_pos H2.out]), rfl⟩)
          | (go_round
             case rel => exact ⟨k + 1, by omega, by go_num, by rw [← Hd.out, Hst.out, if_neg (by rw [H2.out]; decide)]⟩
             case measure => simp [intOf]; omega)
    · obtain rfl : k = l.length := by omega
      go_wp2
      go_ret
      have := Hd.out
      rw [List.drop_eq_nil_of_le (Nat.le_refl _)] at this
      exact ⟨ret_int this, rfl⟩
end Go.Proofs.Ytbodmgilcohfjaa
