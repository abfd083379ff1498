/-
  THE SHELF OF THE EXAMPLES: what is so of it, by computation.
  WHAT A BYTE PARTS: Split of the reference.
  THE WORDS, PARTS, SHELF AND MARKS of the examples, as the statements make them.
  WHETHER LETTERS, LISTS OF LETTERS AND MARKS ARE THE SAME, and how many of some marks are corrections: Same, Sames, Equal and Corrections of the reference.
  WHETHER TWO LISTS OF MARKS ARE THE SAME: Equal of the reference.
  WHAT THE SMALL FUNCTIONS OF THE REFERENCE RETURN: whether a list comes before another one, whether two lists are the same, what is settled.
  WHAT THE SMALL FUNCTIONS OF THE REFERENCE RETURN: whether two lists are the same, whether one has fewer, whether a list has a number, ascending numbers, bits.
  WHAT Awake RETURNS: true.
  WHAT THE SMALL FUNCTIONS OF THE REFERENCE RETURN: whether a list has a number, ascending numbers, the bits of so many sounds.
  WHAT THE SMALL FUNCTIONS OF THE REFERENCE RETURN: a bit of some bits; the first index of a string; whether a string is a name; whether a name is fresh.
-/
import Derived.Test.YtgcibmdohifiaaaGreatBunAJ
import Derived.Test.YtgcibmdohifiaaaGreatBunAD
import Derived.Test.YtgcibmdohifiaaaGreatBunAA
import Derived.Test.YtgcibmdohifiaaaGreatBunAI
namespace Go.Proofs.YtgcibmdohifiaaaGreat
set_option linter.unusedSimpArgs false
set_option linter.unusedVariables false
set_option linter.unusedVariables false
set_option maxRecDepth 100000

def wTo : ByteArray := ⟨#[116, 111]⟩
def wThe : ByteArray := ⟨#[116, 104, 101]⟩
def wI : ByteArray := ⟨#[105]⟩
def wAsk : ByteArray := ⟨#[97, 115, 107]⟩
def wJudge : ByteArray := ⟨#[106, 117, 100, 103, 101]⟩
def wMercy : ByteArray := ⟨#[109, 101, 114, 99, 121]⟩
def wFor : ByteArray := ⟨#[102, 111, 114]⟩
def wA : ByteArray := ⟨#[97]⟩
def wB : ByteArray := ⟨#[98]⟩
def wC : ByteArray := ⟨#[99]⟩
def roomP (lo hi : Int) : Part := ⟨[], lo, hi⟩
def givenP (l : List ByteArray) : Part := ⟨l, 0, 0⟩
def shelfE : Shelf := ⟨12, [⟨⟨#[112, 108, 101, 97]⟩, [givenP [wTo, wThe], roomP 1 2, givenP [wI, wAsk], roomP 1 3]⟩, ⟨⟨#[110, 111, 116, 101]⟩, [roomP 1 2, givenP [wI, wAsk], roomP 0 2]⟩, ⟨⟨#[108, 105, 115, 116]⟩, [roomP 1 2, roomP 1 2]⟩]⟩
def letA : List ByteArray := [wTo, wThe, wJudge, wI, wAsk, wMercy]
def letB : List ByteArray := [wTo, wJudge, wI, wAsk, wFor, wMercy]
def letC : List ByteArray := [wA, wB, wC]
def letN : List ByteArray := [wTo, wThe, wI, wAsk, wI, wAsk]
def noW : ByteArray := ⟨#[]⟩
def marksE : List Mark := [⟨0, noW⟩, ⟨2, noW⟩, ⟨0, noW⟩, ⟨0, noW⟩, ⟨0, noW⟩, ⟨3, wFor⟩, ⟨0, noW⟩]
def textA : ByteArray := ⟨#[116, 111, 32, 116, 104, 101, 32, 106, 117, 100, 103, 101, 10, 105, 32, 97, 115, 107, 32, 109, 101, 114, 99, 121, 10]⟩
def textB : ByteArray := ⟨#[116, 111, 32, 116, 104, 101, 10]⟩
def textW : ByteArray := ⟨#[116, 111, 32, 116, 104, 101, 32, 106, 117, 100, 103, 101, 32, 105, 10, 97, 115, 107, 32, 109, 101, 114, 99, 121, 10]⟩

theorem e_make : makeErrM shelfE 0 [[wJudge], [wMercy]] = 0 := by kernel_rfl
theorem e_built : builtM (formOf shelfE 0).parts [[wJudge], [wMercy]] = letA := by kernel_rfl
theorem e_ofC : ofM shelfE letC = [2] := by kernel_rfl
theorem e_errC : shelfErrM shelfE letC = 0 := by kernel_rfl
theorem e_fillC : fillRes shelfE 2 letC = ⟨[[wA], [wB, wC]], 2, 0⟩ := by kernel_rfl
theorem e_errA : shelfErrM shelfE letA = 0 := by kernel_rfl
theorem e_textA : writeM shelfE letA = textA := by kernel_rfl
theorem e_readA : readM shelfE textA = (letA, 0) := by kernel_rfl
theorem e_fewE : fewErrM letA letB = 0 := by kernel_rfl
theorem e_fewM : fewMarksM letA letB = marksE := by kernel_rfl
theorem e_fewN : fewManyM letA letB = 2 := by kernel_rfl
theorem e_apply : applyM marksE letA = ⟨letB, 0⟩ := by kernel_rfl
theorem e_mend2 : mendM shelfE 2 letA = 2 := by kernel_rfl
theorem e_mendE2 : openForErrM shelfE 2 letA = 0 := by kernel_rfl
theorem e_near : nearV shelfE letA = (0, 0) := by kernel_rfl
theorem e_nearE : nearErrM shelfE letA = 0 := by kernel_rfl
theorem e_readB : (readM shelfE textB).2 = 0 := by kernel_rfl
theorem e_readW : (readM shelfE textW).2 = 6 := by kernel_rfl
theorem e_mendE3 : openForErrM shelfE 3 letA = 4 := by kernel_rfl
theorem e_ofA : ofM shelfE letA = [0] := by kernel_rfl
theorem e_ofN : ofM shelfE letN = [1] := by kernel_rfl
theorem e_errN : shelfErrM shelfE letN = 0 := by kernel_rfl
theorem e_fillA : fillRes shelfE 0 letA = ⟨[[wJudge], [wMercy]], 1, 0⟩ := by kernel_rfl
theorem e_mend0 : mendM shelfE 0 letA = 0 := by kernel_rfl
theorem e_mend1 : mendM shelfE 1 letA = 1 := by kernel_rfl
theorem e_mendE0 : openForErrM shelfE 0 letA = 0 := by kernel_rfl
theorem e_mendE1 : openForErrM shelfE 1 letA = 0 := by kernel_rfl

/-! ### what a byte parts -/
theorem e_splitA : splitM 32 ⟨#[116, 111, 32, 116, 104, 101, 32, 106, 117, 100, 103, 101, 32, 105, 32, 97, 115, 107, 32, 109, 101, 114, 99, 121]⟩ = letA := by kernel_rfl
theorem e_splitB : splitM 32 ⟨#[116, 111, 32, 106, 117, 100, 103, 101, 32, 105, 32, 97, 115, 107, 32, 102, 111, 114, 32, 109, 101, 114, 99, 121]⟩ = letB := by kernel_rfl
theorem e_splitC : splitM 32 ⟨#[97, 32, 98, 32, 99]⟩ = letC := by kernel_rfl
end Go.Proofs.YtgcibmdohifiaaaGreat

namespace Go.Proofs.YtgcibmdohifiaaaGreat
set_option linter.unusedSimpArgs false
set_option linter.unusedVariables false
open Go.RowKit
set_option linter.unusedVariables false

theorem split_hit {c : UInt8} {l : List UInt8} {L : List (List UInt8)} {b k : Nat} (hk : k < l.length) (hc : l[k] = c) (h : splitB c l [] = L ++ splitB c (l.drop k) ((l.drop b).take (k - b))) :
    splitB c l [] = (L ++ [(l.drop b).take (k - b)]) ++ splitB c (l.drop (k + 1)) ((l.drop (k + 1)).take (k + 1 - (k + 1))) := by
  rw [h, List.drop_eq_getElem_cons hk, splitB, if_pos hc, Nat.sub_self, List.take_zero, List.append_assoc]
  rfl
theorem split_miss {c : UInt8} {l : List UInt8} {L : List (List UInt8)} {b k : Nat} (hk : k < l.length) (hb : b ≤ k) (hc : l[k] ≠ c) (h : splitB c l [] = L ++ splitB c (l.drop k) ((l.drop b).take (k - b))) :
    splitB c l [] = L ++ splitB c (l.drop (k + 1)) ((l.drop b).take (k + 1 - b)) := by
  rw [h, List.drop_eq_getElem_cons hk, splitB, if_neg hc]
  congr 2
  rw [show k + 1 - b = (k - b) + 1 from by omega, List.take_succ_eq_append_getElem (by rw [List.length_drop]; omega), List.getElem_drop]
  congr 3
  omega
theorem extract_part (s : ByteArray) (b k : Nat) : s.extract b k = ⟨((s.data.toList.drop b).take (k - b)).toArray⟩ := by
  apply ByteArray.ext
  rw [ByteArray.data_extract]
  apply Array.toList_inj.1
  rw [Array.toList_extract, List.extract_eq_take_drop]
theorem StrsAt.oneAt {w : World} {s : ByteArray} {t : TypeId} {B : Nat} (hB : w.heap.size = B) (h : s.size ≤ 9223372036854775807) : StrsAt (w.alloc (.cells #[.string s] t)) (.slice (some ⟨B, 0, none⟩) 1 1) [s] := by
  subst hB
  refine ⟨_, _, rfl, Nat.le_refl _, by omega, fun i hi => ?_⟩
  obtain rfl : i = 0 := by simpa using hi
  exact ⟨_, _, rfl, by simp [go_sem], h⟩
set_option maxHeartbeats 1000000 in
set_option maxRecDepth 100000 in
theorem split_any (c : UInt8) (s : ByteArray) (hs : s.size ≤ 1000000) (w : World) :
    Calls Tryz.prog 45 #[.string s, .int .u8 (c.toNat : Nat)] w fun e w' => ∃ u, e = .returned u ∧ RowW w.heap.size (splitM c s) u w' ∧ Ext w w' := by
  obtain ⟨i0, hi, hz0, hz1, hz2⟩ := info_parts infoString
  go_enter Tryz.func45, Tryz.ntmps45
  go_wp2_with fail
  go_loopw [5, 6, 7] (fun u b i wr => ∃ (k n : Nat) (L : List (List UInt8)), k ≤ s.size ∧ n ≤ k ∧ L.length ≤ k ∧ b = .int .i64 n ∧ i = .int .i64 k ∧ Ext w wr ∧ RowW w.heap.size (L.map fun l => ⟨l.toArray⟩) u wr ∧ splitB c s.data.toList [] = L ++ splitB c (s.data.toList.drop k) ((s.data.toList.drop n).take (k - n))) (fun _ _ i _ => s.size - (intOf i).toNat)
  case atStart => exact ⟨0, 0, [], Nat.zero_le _, Nat.zero_le _, Nat.zero_le _, rfl, rfl, Ext.refl _, RowW.nil, by simp⟩
  case round =>
    obtain ⟨k, n, L, hk, hn, hL, rfl, rfl, hxr, hown, hsp⟩ := hrel
    have hsz : s.data.toList.length = s.size := rfl
    by_cases hlt : k < s.size
    · have k1 : (k : Int) < (s.size : Int) := by omega
      have hit := split_hit (c := c) (L := L) (b := n) (k := k) (show k < s.data.toList.length from hlt)
      have miss := split_miss (c := c) (L := L) (b := n) (k := k) (show k < s.data.toList.length from hlt) hn
      have hge : s.data.toList[k]'hlt = s[k]'hlt := rfl
      rw [hge] at hit miss
      have Hit := Lib.hid hit
      have Miss := Lib.hid miss
      have Hsp := Lib.hid hsp
      clear hit miss hsp hge
      by_cases h0 : s[k]'hlt = c
      · have h1 : (((s[k]'hlt).toNat : Int) == (c.toNat : Int)) = true := by rw [h0]; simp
        have H0 := Lib.hid h0
        have hone := fun (x : ByteArray) (hx : x.size ≤ 9223372036854775807) => StrsAt.oneAt (w := wr) (s := x) (t := 9) rfl hx
        have hmap : (L.map fun l => (⟨l.toArray⟩ : ByteArray)).length = L.length := List.length_map ..
        have hxe : (s.extract n k).size ≤ 9223372036854775807 := by rw [ByteArray.size_extract]; omega
        have hw1 := hone _ hxe
        have own1 := RowW.ext hown (ext_alloc wr (.cells #[.string (s.extract n k)] 9))
        have hzr := hxr.size
        clear h0 hone hmap hown
        go_wp2_with ((at_builtin; go_loud (refine wpList_append_strs rfl _ _ 29 rfl w.heap.size i0 Tryz.underlying29 hi hz0 hz1 hz2 u5 _ rfl own1 (.slice (some ⟨wr.heap.size, 0, none⟩) 1 1) rfl [s.extract n k] hw1 (by simp only [List.length_map, List.length_cons, List.length_nil]; omega) (by simp; omega) ?_; intro v' w2 hown' hgrow _)))
        have hx3 : Ext w w2 := Ext.grown (hxr.alloc _) hgrow fun k hk => (World.ownsRow.lt own1 k hk).1
        go_roundw
        case rel => exact ⟨k + 1, k + 1, L ++ [(s.data.toList.drop n).take (k - n)], by omega, Nat.le_refl _, by simp; omega, by go_num, by go_num, hx3, by rw [List.map_append, List.map_singleton, ← extract_part]; exact hown', Hit.out H0.out Hsp.out⟩
        case measure => simp [intOf]; omega
      · have h1 : (((s[k]'hlt).toNat : Int) == (c.toNat : Int)) = false := by
          rw [beq_eq_false_iff_ne]
          intro e
          exact h0 (UInt8.toNat_inj.1 (by omega))
        have H0 := Lib.hid h0
        clear h0
        go_wp2
        go_roundw
        case rel => exact ⟨k + 1, n, L, by omega, by omega, by omega, rfl, by go_num, hxr, hown, Miss.out H0.out Hsp.out⟩
        case measure => simp [intOf]; omega
    · obtain rfl : k = s.size := by omega
      have k1 : ¬ (s.size : Int) < (s.size : Int) := by omega
      have hall : splitM c s = (L.map fun l => (⟨l.toArray⟩ : ByteArray)) ++ [s.extract n s.size] := by
        unfold splitM
        rw [hsp, List.drop_of_length_le (by omega), splitB, List.map_append, List.map_singleton, extract_part]
      have Hall := Lib.hid hall
      clear hall hsp
      have hxe : (s.extract n s.size).size ≤ 9223372036854775807 := by rw [ByteArray.size_extract]; omega
      have hw1 := StrsAt.oneAt (w := wr) (s := s.extract n s.size) (t := 9) rfl hxe
      have own1 := RowW.ext hown (ext_alloc wr (.cells #[.string (s.extract n s.size)] 9))
      have hzr := hxr.size
      clear hown
      go_wp2_with ((at_builtin; go_loud (refine wpList_append_strs rfl _ _ 29 rfl w.heap.size i0 Tryz.underlying29 hi hz0 hz1 hz2 u5 _ rfl own1 (.slice (some ⟨wr.heap.size, 0, none⟩) 1 1) rfl [s.extract n s.size] hw1 (by simp only [List.length_map, List.length_cons, List.length_nil]; omega) (by simp; omega) ?_; intro v' w2 hown' hgrow _)))
      have hx3 : Ext w w2 := Ext.grown (hxr.alloc _) hgrow fun k hk => (World.ownsRow.lt own1 k hk).1
      go_ret
      exact ⟨_, rfl, by rw [Hall.out]; exact hown', hx3⟩
end Go.Proofs.YtgcibmdohifiaaaGreat

namespace Go.Proofs.YtgcibmdohifiaaaGreat
set_option linter.unusedSimpArgs false
set_option linter.unusedVariables false
open Go.RowKit
set_option linter.unusedVariables false
set_option linter.unusedSimpArgs false

theorem splitB_size (c : UInt8) : ∀ (l cur : List UInt8), ∀ x ∈ splitB c l cur, x.length ≤ cur.length + l.length
  | [], cur => by simp [splitB]
  | y :: r, cur => by
    intro x hx
    rw [splitB] at hx
    split at hx
    · rcases List.mem_cons.1 hx with rfl | hx
      · simp
      · have := splitB_size c r [] x hx
        simp at this ⊢; omega
    · have := splitB_size c r _ x hx
      simp at this ⊢; omega
theorem splitM_size (c : UInt8) (s : ByteArray) : ∀ x ∈ splitM c s, x.size ≤ s.size := by
  intro x hx
  unfold splitM at hx
  obtain ⟨l, hl, rfl⟩ := List.mem_map.1 hx
  have h := splitB_size c _ _ l hl
  have : s.data.toList.length = s.size := rfl
  show l.toArray.size ≤ _
  simp at h ⊢; omega
theorem RowW.new {base : Nat} {l : List ByteArray} {u : Value} {w : World} (h : RowW base l u w) : ∀ a n c, u = .slice a n c → ∀ ad, a = some ad → base ≤ ad.block := by
  intro a n c hu ad ha
  rcases h.2 with ⟨rfl, hn⟩ | ⟨g, cap, cur, rfl, hb, -⟩
  · cases hu; cases ha
  · cases hu; cases ha; exact hb
theorem StrsAt.set {w : World} {a : Option Addr} {n c : Nat} {l : List ByteArray} {p : Addr} (h : StrsAt w (.slice a n c) l) (hne : ∀ ad, a = some ad → ad.block ≠ p.block) (v : Value) : StrsAt (w.setCell p v) (.slice a n c) l := by
  obtain ⟨a', c', e, h2, h3, h4⟩ := h
  obtain ⟨rfl, rfl, rfl⟩ := Value.slice.inj e
  refine ⟨_, _, rfl, h2, h3, fun i hi => ?_⟩
  obtain ⟨b, o, rfl, r1, r2⟩ := h4 i hi
  exact ⟨b, o, rfl, set_other r1 (.inl (hne _ rfl).symm) v, r2⟩
theorem words_any (s : ByteArray) (l : List ByteArray) (hl : splitM 32 s = l) (hs : s.size ≤ 1000000) (w : World) :
    Calls Tryz.prog 69 #[.string s] w fun e w' => (∃ a c, e = .returned (.slice a l.length c) ∧ StrsAt w' (.slice a l.length c) l ∧ ∀ ad, a = some ad → w.heap.size ≤ ad.block) ∧ Ext w w' := by
  have hsp := split_any 32 s hs
  rw [show ((32 : UInt8).toNat : Int) = 32 from rfl] at hsp
  have hsz := splitM_size 32 s
  rw [hl] at hsp hsz
  go_enter Tryz.func69, Tryz.ntmps69
  go_wp2_with fail
  refine (hsp _).mono ?_
  rintro e w1 ⟨u, rfl, hrow, hx⟩
  have hat := hrow.at_ fun x hx => Nat.le_trans (hsz x hx) (by omega)
  have hnew := hrow.new
  obtain ⟨a, c, rfl, -⟩ := hat.shape
  go_wp2
  go_ret
  exact ⟨⟨_, _, rfl, hat, hnew a _ _ rfl⟩, hx⟩
theorem span_any (lo hi : Int) (w : World) : Calls Tryz.prog 50 #[.int .i64 lo, .int .i64 hi] w fun e w' => e = .returned (.agg #[.int .i64 lo, .int .i64 hi]) ∧ Ext w w' := by
  go_enter Tryz.func50, Tryz.ntmps50
  go_wp2
  refine bodyPost_ret (v := .agg #[.int .i64 lo, .int .i64 hi]) (by simp [results, Tryz.results50, go_sem]) rfl ⟨rfl, ?_⟩
  exact ext_alloc _ _
theorem room_any (lo hi : Int) (w : World) : Calls Tryz.prog 112 #[.int .i64 lo, .int .i64 hi] w fun e w' => e = .returned (.agg #[.slice none 0 0, .int .i64 lo, .int .i64 hi]) ∧ Ext w w' := by
  go_enter Tryz.func112, Tryz.ntmps112
  go_wp2_with fail
  refine (span_any _ _ _).mono ?_
  rintro e w1 ⟨rfl, hx⟩
  have q0 : w1.cell? ⟨w.heap.size, 0, none⟩ = some (.slice none 0 0) := hx.cell (by simp [go_sem])
  have q1 : w1.cell? ⟨w.heap.size, 1, none⟩ = some (.int .i64 0) := hx.cell (by simp [go_sem])
  have q2 : w1.cell? ⟨w.heap.size, 2, none⟩ = some (.int .i64 0) := hx.cell (by simp [go_sem])
  have z1 := cell_lt q0
  have fz : ∀ o, w1.frozen? ⟨w.heap.size, o, none⟩ = false := fun o => by rw [hx.frozen (by simp)]; simp [go_sem]
  have x1 : Ext w w1 := hx.of_alloc
  clear hx
  go_wp2
  have r := three_cells q0 q1 q2 (.slice none 0 0) (.int .i64 lo) (.int .i64 hi)
  refine bodyPost_ret (v := .agg #[.slice none 0 0, .int .i64 lo, .int .i64 hi]) (by simp [results, Tryz.results112, go_sem, r.1, r.2.1, r.2.2]) rfl ⟨rfl, ?_⟩
  exact ((x1.setCell (Nat.le_refl _) _).setCell (Nat.le_refl _) _).setCell (Nat.le_refl _) _
theorem lawGiven_any (s : ByteArray) (l : List ByteArray) (hl : splitM 32 s = l) (hs : s.size ≤ 1000000) (w : World) :
    Calls Tryz.prog 111 #[.string s] w fun e w' => (∃ a c, e = .returned (.agg #[.slice a l.length c, .int .i64 0, .int .i64 0]) ∧ StrsAt w' (.slice a l.length c) l ∧ ∀ ad, a = some ad → w.heap.size < ad.block) ∧ Ext w w' := by
  go_enter Tryz.func111, Tryz.ntmps111
  go_wp2_with fail
  refine (words_any s l hl hs _).mono ?_
  rintro e w1 ⟨⟨a, c, rfl, hat, hnew⟩, hx⟩
  have q0 : w1.cell? ⟨w.heap.size, 0, none⟩ = some (.slice none 0 0) := hx.cell (by simp [go_sem])
  have q1 : w1.cell? ⟨w.heap.size, 1, none⟩ = some (.int .i64 0) := hx.cell (by simp [go_sem])
  have q2 : w1.cell? ⟨w.heap.size, 2, none⟩ = some (.int .i64 0) := hx.cell (by simp [go_sem])
  have z1 := cell_lt q0
  have fz : ∀ o, w1.frozen? ⟨w.heap.size, o, none⟩ = false := fun o => by rw [hx.frozen (by simp)]; simp [go_sem]
  have x1 : Ext w w1 := hx.of_alloc
  clear hx
  go_wp2
  have r := three_cells q0 q1 q2 (.slice a l.length c) (.int .i64 0) (.int .i64 0)
  refine bodyPost_ret (v := .agg #[.slice a l.length c, .int .i64 0, .int .i64 0]) (by simp [results, Tryz.results111, go_sem, r.1, r.2.1, r.2.2]) rfl ⟨⟨_, _, rfl, ?_, fun ad e => by have := hnew ad e; simp at this; omega⟩, ?_⟩
  · have hne : ∀ ad, a = some ad → ad.block ≠ w.heap.size := fun ad e h => by
      have := hnew ad e
      simp at this
      omega
    exact ((hat.set hne _).set hne _).set hne _
  · exact ((x1.setCell (Nat.le_refl _) _).setCell (Nat.le_refl _) _).setCell (Nat.le_refl _) _
/-- parts that lie behind a block -/
def partN (B : Nat) (w : World) (b o : Nat) (p : Part) : Prop := B < b ∧ (∃ a n c, w.cell? ⟨b, o, none⟩ = some (.slice a n c) ∧ StrsAt w (.slice a n c) p.words ∧ ∀ ad, a = some ad → B < ad.block) ∧ w.cell? ⟨b, o + 1, none⟩ = some (.int .i64 p.lo) ∧ w.cell? ⟨b, o + 2, none⟩ = some (.int .i64 p.hi) ∧ I64 p.lo ∧ I64 p.hi
theorem partN.keeps (B : Nat) : Keeps (partN B) := fun _ _ _ _ _ hx h => by
  obtain ⟨h0, ⟨a, n, c, h1, h2, h3⟩, h4, h5, h6⟩ := h
  exact ⟨h0, ⟨a, n, c, hx.cell h1, h2.ext hx, h3⟩, hx.cell h4, hx.cell h5, h6⟩
abbrev PartsN (B : Nat) : World → Value → List Part → Prop := SliceAt 3 (partN B)
theorem PartsN.ext {B : Nat} {w w' : World} {v : Value} {l : List Part} (h : PartsN B w v l) (hx : Ext w w') : PartsN B w' v l := SliceAt.ext (partN.keeps B) h hx
theorem PartsN.at_ {B : Nat} {w : World} {v : Value} {l : List Part} (h : PartsN B w v l) : PartsAt w v l := by
  obtain ⟨a, c, e, h2, h3, h4⟩ := h
  refine ⟨a, c, e, h2, h3, fun i hi => ?_⟩
  obtain ⟨b, o, e, h0, ⟨a, n, c, r1, r2, -⟩, r⟩ := h4 i hi
  exact ⟨b, o, e, ⟨_, r1, r2⟩, r⟩
theorem PartsN.set {B o : Nat} {w : World} {v : Value} {l : List Part} (h : PartsN B w v l) (x : Value) : PartsN B (w.setCell ⟨B, o, none⟩ x) v l := by
  obtain ⟨a, c, e, h2, h3, h4⟩ := h
  refine ⟨a, c, e, h2, h3, fun i hi => ?_⟩
  obtain ⟨b, o, e, h0, ⟨a, n, c, r1, r2, r3⟩, r4, r5, r6⟩ := h4 i hi
  have hb : B ≠ b := by omega
  refine ⟨b, o, e, h0, ⟨a, n, c, set_other r1 (.inl hb) _, r2.set (fun ad e => ?_) _, r3⟩, set_other r4 (.inl hb) _, set_other r5 (.inl hb) _, r6⟩
  have := r3 ad e
  show ad.block ≠ B
  omega
def parts1 : List Part := [givenP [wTo, wThe], roomP 1 2, givenP [wI, wAsk], roomP 1 3]
def parts2 : List Part := [roomP 1 2, givenP [wI, wAsk], roomP 0 2]
def parts3 : List Part := [roomP 1 2, roomP 1 2]
set_option maxRecDepth 100000 in
set_option maxHeartbeats 2000000 in
theorem Shelf_any (w : World) : Calls Tryz.prog 54 #[] w fun e w' => ∃ v, e = .returned v ∧ ShelfAt w' v shelfE ∧ Ext w w' := by
  go_enter Tryz.func54, Tryz.ntmps54
  go_wp2_with fail
  refine (lawGiven_any _ [wTo, wThe] (by kernel_rfl) (by decide) _).mono ?_
  rintro e w1 ⟨⟨a1, c1, rfl, h1, n1⟩, x1⟩
  go_wp2_with fail
  refine (room_any _ _ _).mono ?_
  rintro e w2 ⟨rfl, x2⟩
  go_wp2_with fail
  refine (lawGiven_any _ [wI, wAsk] (by kernel_rfl) (by decide) _).mono ?_
  rintro e w3 ⟨⟨a3, c3, rfl, h3, n3⟩, x3⟩
  go_wp2_with fail
  refine (room_any _ _ _).mono ?_
  rintro e w4 ⟨rfl, x4⟩
  have hr : ∀ lo hi : Int, 0 ≤ lo ∧ lo ≤ 3 ∧ 0 ≤ hi ∧ hi ≤ 3 → I64 lo ∧ I64 hi := fun lo hi h => ⟨⟨by omega, by omega⟩, by constructor <;> omega⟩
  have b1 := x1.size
  have b2 := x2.size
  have b3 := x3.size
  have b4 := x4.size
  simp only [World.size_alloc] at b1 n1
  have p1 : PartsN w.heap.size (w4.alloc (.cells #[.slice a1 2 c1, .int .i64 0, .int .i64 0, .slice none 0 0, .int .i64 1, .int .i64 2, .slice a3 2 c3, .int .i64 0, .int .i64 0, .slice none 0 0, .int .i64 1, .int .i64 3] 77)) (.slice (some ⟨w4.heap.size, 0, none⟩) 4 4) parts1 := ⟨_, _, rfl, by decide, by decide, fun i hi => by
    have : i = 0 ∨ i = 1 ∨ i = 2 ∨ i = 3 := by simp [parts1] at hi; omega
    refine ⟨_, _, rfl, ?_⟩
    rcases this with rfl | rfl | rfl | rfl
    · exact ⟨by omega, ⟨a1, 2, c1, by simp [go_sem], (h1.ext (x2.trans (x3.trans x4))).ext (ext_alloc _ _), fun ad e => by have := n1 ad e; omega⟩, by simp [go_sem, parts1, givenP], by simp [go_sem, parts1, givenP], hr _ _ (by simp [parts1, parts2, parts3, roomP, givenP])⟩
    · exact ⟨by omega, ⟨none, 0, 0, by simp [go_sem], SliceAt.nil, fun ad e => (by cases e)⟩, by simp [go_sem, parts1, roomP], by simp [go_sem, parts1, roomP], hr _ _ (by simp [parts1, parts2, parts3, roomP, givenP])⟩
    · exact ⟨by omega, ⟨a3, 2, c3, by simp [go_sem], (h3.ext x4).ext (ext_alloc _ _), fun ad e => by have := n3 ad e; omega⟩, by simp [go_sem, parts1, givenP], by simp [go_sem, parts1, givenP], hr _ _ (by simp [parts1, parts2, parts3, roomP, givenP])⟩
    · exact ⟨by omega, ⟨none, 0, 0, by simp [go_sem], SliceAt.nil, fun ad e => (by cases e)⟩, by simp [go_sem, parts1, roomP], by simp [go_sem, parts1, roomP], hr _ _ (by simp [parts1, parts2, parts3, roomP, givenP])⟩⟩
  have q0 : w4.cell? ⟨w.heap.size, 0, none⟩ = some (.int .i64 0) := (x2.trans (x3.trans x4)).cell (x1.cell (by simp [go_sem]))
  have q1 : w4.cell? ⟨w.heap.size, 1, none⟩ = some (.slice none 0 0) := (x2.trans (x3.trans x4)).cell (x1.cell (by simp [go_sem]))
  have z4 := cell_lt q0
  have fz4 : ∀ o, w4.frozen? ⟨w.heap.size, o, none⟩ = false := fun o => by rw [((x1.trans x2).trans (x3.trans x4)).frozen (by simp)]; simp [go_sem]
  have y4 : Ext w w4 := ((x1.trans x2).trans (x3.trans x4)).of_alloc
  clear h1 h3 x1 x2 x3 x4
  go_wp2_with fail
  refine (room_any _ _ _).mono ?_
  rintro e w5 ⟨rfl, x5⟩
  go_wp2_with fail
  refine (lawGiven_any _ [wI, wAsk] (by kernel_rfl) (by decide) _).mono ?_
  rintro e w6 ⟨⟨a6, c6, rfl, h6, n6⟩, x6⟩
  go_wp2_with fail
  refine (room_any _ _ _).mono ?_
  rintro e w7 ⟨rfl, x7⟩
  replace p1 := p1.ext (x5.trans (x6.trans x7))
  have b5 := x5.size
  have b6 := x6.size
  have b7 := x7.size
  simp only [World.size_alloc] at b5
  have p2 : PartsN w.heap.size (w7.alloc (.cells #[.slice none 0 0, .int .i64 1, .int .i64 2, .slice a6 2 c6, .int .i64 0, .int .i64 0, .slice none 0 0, .int .i64 0, .int .i64 2] 77)) (.slice (some ⟨w7.heap.size, 0, none⟩) 3 3) parts2 := ⟨_, _, rfl, by decide, by decide, fun i hi => by
    have : i = 0 ∨ i = 1 ∨ i = 2 := by simp [parts2] at hi; omega
    refine ⟨_, _, rfl, ?_⟩
    rcases this with rfl | rfl | rfl
    · exact ⟨by omega, ⟨none, 0, 0, by simp [go_sem], SliceAt.nil, fun ad e => (by cases e)⟩, by simp [go_sem, parts2, roomP], by simp [go_sem, parts2, roomP], hr _ _ (by simp [parts1, parts2, parts3, roomP, givenP])⟩
    · exact ⟨by omega, ⟨a6, 2, c6, by simp [go_sem], (h6.ext x7).ext (ext_alloc _ _), fun ad e => by have := n6 ad e; omega⟩, by simp [go_sem, parts2, givenP], by simp [go_sem, parts2, givenP], hr _ _ (by simp [parts1, parts2, parts3, roomP, givenP])⟩
    · exact ⟨by omega, ⟨none, 0, 0, by simp [go_sem], SliceAt.nil, fun ad e => (by cases e)⟩, by simp [go_sem, parts2, roomP], by simp [go_sem, parts2, roomP], hr _ _ (by simp [parts1, parts2, parts3, roomP, givenP])⟩⟩
  have y7 := (x5.trans (x6.trans x7)).of_alloc
  have s4 := z4
  replace q0 := y7.cell q0
  replace q1 := y7.cell q1
  replace z4 := cell_lt q0
  have fz7 : ∀ o, w7.frozen? ⟨w.heap.size, o, none⟩ = false := fun o => by rw [y7.frozen (p := ⟨w.heap.size, o, none⟩) s4]; exact fz4 o
  clear h6 x5 x6 x7 fz4 s4
  go_wp2_with fail
  refine (room_any _ _ _).mono ?_
  rintro e w8 ⟨rfl, x8⟩
  go_wp2_with fail
  refine (room_any _ _ _).mono ?_
  rintro e w9 ⟨rfl, x9⟩
  replace p1 := (p1.ext (ext_alloc _ _)).ext (x8.trans x9)
  replace p2 := p2.ext (x8.trans x9)
  have b8 := x8.size
  have b9 := x9.size
  simp only [World.size_alloc] at b8
  have y9 := (x8.trans x9).of_alloc
  have s7 := z4
  replace q0 := y9.cell q0
  replace q1 := y9.cell q1
  replace z4 := cell_lt q0
  have fz9 : ∀ o, w9.frozen? ⟨w.heap.size, o, none⟩ = false := fun o => by rw [y9.frozen (p := ⟨w.heap.size, o, none⟩) s7]; exact fz7 o
  have y := (y4.trans y7).trans y9
  clear y4 y7 y9 x8 x9 fz7 s7
  replace p1 := (p1.set (o := 0) (.int .i64 12)).set (o := 1) (.slice (some ⟨w9.heap.size + 1, 0, none⟩) 3 3)
  replace p2 := (p2.set (o := 0) (.int .i64 12)).set (o := 1) (.slice (some ⟨w9.heap.size + 1, 0, none⟩) 3 3)
  have c0 : ((w9.setCell ⟨w.heap.size, 0, none⟩ (.int .i64 12)).setCell ⟨w.heap.size, 1, none⟩ (.slice (some ⟨w9.heap.size + 1, 0, none⟩) 3 3)).cell? ⟨w.heap.size, 0, none⟩ = some (.int .i64 12) := set_other (set_cell q0 _) (.inr (by simp)) _
  have c1 : ((w9.setCell ⟨w.heap.size, 0, none⟩ (.int .i64 12)).setCell ⟨w.heap.size, 1, none⟩ (.slice (some ⟨w9.heap.size + 1, 0, none⟩) 3 3)).cell? ⟨w.heap.size, 1, none⟩ = some (.slice (some ⟨w9.heap.size + 1, 0, none⟩) 3 3) := set_cell (set_other q1 (.inr (by simp)) _) _
  have y2 : Ext w ((w9.setCell ⟨w.heap.size, 0, none⟩ (.int .i64 12)).setCell ⟨w.heap.size, 1, none⟩ (.slice (some ⟨w9.heap.size + 1, 0, none⟩) 3 3)) := (y.setCell (Nat.le_refl _) _).setCell (Nat.le_refl _) _
  have hsz : ((w9.setCell ⟨w.heap.size, 0, none⟩ (.int .i64 12)).setCell ⟨w.heap.size, 1, none⟩ (.slice (some ⟨w9.heap.size + 1, 0, none⟩) 3 3)).heap.size = w9.heap.size := by simp
  go_wp2
  generalize (w9.setCell ⟨w.heap.size, 0, none⟩ (.int .i64 12)).setCell ⟨w.heap.size, 1, none⟩ (.slice (some ⟨w9.heap.size + 1, 0, none⟩) 3 3) = W at *
  have c0' := ((ext_alloc W (.cells #[.slice none 0 0, .int .i64 1, .int .i64 2, .slice none 0 0, .int .i64 1, .int .i64 2] 77)).trans (ext_alloc _ (.cells #[.string ⟨#[112, 108, 101, 97]⟩, .slice (some ⟨w4.heap.size, 0, none⟩) 4 4, .string ⟨#[110, 111, 116, 101]⟩, .slice (some ⟨w7.heap.size, 0, none⟩) 3 3, .string ⟨#[108, 105, 115, 116]⟩, .slice (some ⟨w9.heap.size, 0, none⟩) 2 2] 62))).cell c0
  have c1' := ((ext_alloc W (.cells #[.slice none 0 0, .int .i64 1, .int .i64 2, .slice none 0 0, .int .i64 1, .int .i64 2] 77)).trans (ext_alloc _ (.cells #[.string ⟨#[112, 108, 101, 97]⟩, .slice (some ⟨w4.heap.size, 0, none⟩) 4 4, .string ⟨#[110, 111, 116, 101]⟩, .slice (some ⟨w7.heap.size, 0, none⟩) 3 3, .string ⟨#[108, 105, 115, 116]⟩, .slice (some ⟨w9.heap.size, 0, none⟩) 2 2] 62))).cell c1
  refine bodyPost_ret (v := .agg #[.int .i64 12, .slice (some ⟨w9.heap.size + 1, 0, none⟩) 3 3]) (by simp [results, Tryz.results54, go_sem, c0', c1']) rfl ⟨_, rfl, ⟨_, rfl, by constructor <;> decide, ?_⟩, (y2.alloc _).alloc _⟩
  have p3 : PartsAt (W.alloc (.cells #[.slice none 0 0, .int .i64 1, .int .i64 2, .slice none 0 0, .int .i64 1, .int .i64 2] 77)) (.slice (some ⟨w9.heap.size, 0, none⟩) 2 2) parts3 := ⟨_, _, rfl, by decide, by decide, fun i hi => by
    have : i = 0 ∨ i = 1 := by simp [parts3] at hi; omega
    refine ⟨_, _, rfl, ?_⟩
    rcases this with rfl | rfl
    · exact ⟨⟨.slice none 0 0, by simp [go_sem, hsz], SliceAt.nil⟩, by simp [go_sem, hsz, parts3, roomP], by simp [go_sem, hsz, parts3, roomP], hr _ _ (by simp [parts3, roomP])⟩
    · exact ⟨⟨.slice none 0 0, by simp [go_sem, hsz], SliceAt.nil⟩, by simp [go_sem, hsz, parts3, roomP], by simp [go_sem, hsz, parts3, roomP], hr _ _ (by simp [parts3, roomP])⟩⟩
  refine ⟨_, _, rfl, by decide, by decide, fun i hi => ?_⟩
  have hi3 : i = 0 ∨ i = 1 ∨ i = 2 := by simp [shelfE] at hi; omega
  refine ⟨_, _, rfl, ?_⟩
  rcases hi3 with rfl | rfl | rfl
  · exact ⟨by simp [go_sem, hsz, shelfE], by simp [shelfE]; decide, _, by simp [go_sem, hsz], (p1.at_.ext (ext_alloc _ _)).ext (ext_alloc _ _)⟩
  · exact ⟨by simp [go_sem, hsz, shelfE], by simp [shelfE]; decide, _, by simp [go_sem, hsz], (p2.at_.ext (ext_alloc _ _)).ext (ext_alloc _ _)⟩
  · exact ⟨by simp [go_sem, hsz, shelfE], by simp [shelfE]; decide, _, by simp [go_sem, hsz], p3.ext (ext_alloc _ _)⟩
end Go.Proofs.YtgcibmdohifiaaaGreat

namespace Go.Proofs.YtgcibmdohifiaaaGreat
set_option linter.unusedSimpArgs false
set_option linter.unusedVariables false
open Go.RowKit
set_option linter.unusedVariables false

theorem same_step {α : Type} {l m : List α} {k : Nat} (h1 : k < l.length) (h2 : k < m.length) : (l.take (k + 1) = m.take (k + 1)) ↔ (l.take k = m.take k ∧ l[k] = m[k]) := by
  rw [List.take_succ_eq_append_getElem h1, List.take_succ_eq_append_getElem h2]
  constructor
  · intro h
    have := List.append_inj h (by simp; omega)
    exact ⟨this.1, by simpa using this.2⟩
  · rintro ⟨h, e⟩; rw [h, e]
theorem not_same {α : Type} {l m : List α} {k : Nat} (h1 : k < l.length) (h2 : k < m.length) (h : l[k] ≠ m[k]) : l ≠ m := fun e => by subst e; exact h rfl
theorem all_same {α : Type} {l m : List α} (hn : l.length = m.length) {k : Nat} (hk : l.length ≤ k) (h : l.take k = m.take k) : l = m := by
  rwa [List.take_of_length_le hk, List.take_of_length_le (by omega)] at h

set_option maxHeartbeats 1000000 in
set_option maxRecDepth 100000 in
theorem same_any (v u : Value) (l m : List ByteArray) (w : World) (hl : StrsAt w v l) (hm : StrsAt w u m) :
    Calls Tryz.prog 18 #[v, u] w fun r w' => r = .returned (.bool (decide (l = m))) ∧ Ext w w' := by
  obtain ⟨a, cap, rfl, hlc, hcm⟩ := hl.shape
  obtain ⟨a', cap', rfl, hlc', hcm'⟩ := hm.shape
  by_cases hn : l.length = m.length
  · have hn' : ((l.length : Int) != (m.length : Int)) = false := by simp; omega
    have Hn := Lib.hid hn
    clear hn
    go_enter Tryz.func18, Tryz.ntmps18
    go_wp2
    go_loopw [5] (fun i wr => ∃ k : Nat, k ≤ l.length ∧ i = .int .i64 k ∧ Ext w wr ∧ l.take k = m.take k) (fun i _ => l.length - (intOf i).toNat)
    case atStart => exact ⟨0, Nat.zero_le _, rfl, Ext.refl _, rfl⟩
    case round =>
      obtain ⟨k, hk, rfl, hx, hd⟩ := hrel
      have Hd := Lib.hid hd; clear hd
      by_cases h1 : k < l.length
      · have k1 : (k : Int) < (l.length : Int) := by omega
        have h2 : k < m.length := by have := Hn.out; omega
        have k2 : (k : Int) < (m.length : Int) := by omega
        obtain ⟨b, off, rfl, c0, -⟩ := (hl.ext hx).get h1
        obtain ⟨b', off', rfl, c1, -⟩ := (hm.ext hx).get h2
        have hst := same_step h1 h2
        have hno := not_same h1 h2
        generalize hx' : l[k] = x at *
        generalize hy : m[k] = y at *
        have Hst := Lib.hid hst
        have Hno := Lib.hid hno
        clear hx' hy hst hno
        simp only [Nat.mul_one] at c0 c1
        cases h0 : x.toList == y.toList
        · have H0 := Lib.hid h0
          have h0' : (x.toList != y.toList) = true := by simp [bne, h0]
          go_wp2_with fail
          apply Facts.wp_region [.val _, .val _, .val _, .val _, .val _, .val _, .val _, .val _, .val _] (by kernel_rfl) (by kernel_rfl) trivial ?main
          case main =>
            iterate 9 (refine ⟨fun w1 hx hh => ?_, ?_⟩; focus (clear hh; have e0 := hx.cell c0; have e1 := hx.cell c1; go_simp; first | exact ⟨Ext.refl _, rfl⟩ | exact Ext.refl _))
            intro w1 hx1 hh
            have hx3 := hx.trans hx1
            clear hh c0 c1
            go_simp
            go_wp2
            go_ret
            exact ⟨ret_bool (by rw [decide_eq_false (Hno.out (by have := H0.out; rw [beq_str] at this; simpa using this))]), hx3⟩
        · have H0 := Lib.hid h0
          have h0' : (x.toList != y.toList) = false := by simp [bne, h0]
          go_wp2_with fail
          apply Facts.wp_region [.val _, .val _, .val _, .val _, .val _, .val _, .val _, .val _, .val _] (by kernel_rfl) (by kernel_rfl) trivial ?main
          case main =>
            iterate 9 (refine ⟨fun w1 hx hh => ?_, ?_⟩; focus (clear hh; have e0 := hx.cell c0; have e1 := hx.cell c1; go_simp; first | exact ⟨Ext.refl _, rfl⟩ | exact Ext.refl _))
            intro w1 hx1 hh
            have hx3 := hx.trans hx1
            clear hh c0 c1
            go_simp
            go_wp2
            go_roundw
            case rel => exact ⟨k + 1, by omega, by go_num, hx3, Hst.out.2 ⟨Hd.out, by have := H0.out; rw [beq_str] at this; simpa using this⟩⟩
            case measure => simp [intOf]; omega
      · go_wp2
        go_ret
        exact ⟨ret_bool (by rw [decide_eq_true (all_same Hn.out (by omega) Hd.out)]), hx⟩
  · have hn' : ((l.length : Int) != (m.length : Int)) = true := by simp; omega
    have Hne : Hid (decide (l = m) = false) := Lib.hid (decide_eq_false fun e => hn (by rw [e]))
    clear hn
    go_enter Tryz.func18, Tryz.ntmps18
    go_wp2
    go_ret
    exact ⟨ret_bool Hne.out.symm, Ext.refl _⟩

set_option maxHeartbeats 1000000 in
set_option maxRecDepth 100000 in
theorem sames_any (v u : Value) (l m : List (List ByteArray)) (w : World) (hl : FillsAt w v l) (hm : FillsAt w u m) :
    Calls Tryz.prog 25 #[v, u] w fun r w' => r = .returned (.bool (decide (l = m))) ∧ Ext w w' := by
  obtain ⟨a, cap, rfl, hlc, hcm⟩ := hl.shape
  obtain ⟨a', cap', rfl, hlc', hcm'⟩ := hm.shape
  by_cases hn : l.length = m.length
  · have hn' : ((l.length : Int) != (m.length : Int)) = false := by simp; omega
    have Hn := Lib.hid hn
    clear hn
    go_enter Tryz.func25, Tryz.ntmps25
    go_wp2
    go_loopw [5] (fun i wr => ∃ k : Nat, k ≤ l.length ∧ i = .int .i64 k ∧ Ext w wr ∧ l.take k = m.take k) (fun i _ => l.length - (intOf i).toNat)
    case atStart => exact ⟨0, Nat.zero_le _, rfl, Ext.refl _, rfl⟩
    case round =>
      obtain ⟨k, hk, rfl, hx, hd⟩ := hrel
      have Hd := Lib.hid hd; clear hd
      by_cases h1 : k < l.length
      · have k1 : (k : Int) < (l.length : Int) := by omega
        have h2 : k < m.length := by have := Hn.out; omega
        have k2 : (k : Int) < (m.length : Int) := by omega
        obtain ⟨b, off, rfl, x, c0, hxs⟩ := (hl.ext hx).get h1
        obtain ⟨b', off', rfl, y, c1, hys⟩ := (hm.ext hx).get h2
        have hst := same_step h1 h2
        have hno := not_same h1 h2
        generalize hx' : l[k] = xl at *
        generalize hy : m[k] = yl at *
        have Hst := Lib.hid hst
        have Hno := Lib.hid hno
        have Hxs := Lib.hid hxs
        have Hys := Lib.hid hys
        clear hx' hy hst hno hxs hys
        simp only [Nat.mul_one] at c0 c1
        go_wp2_with fail
        apply Facts.wp_region [.val _, .val _, .val _, .val x, .val _, .val _, .val _, .val y, .val (.bool (decide (xl = yl))), .val _] (by kernel_rfl) (by kernel_rfl) trivial ?main
        case main =>
          iterate 8 (refine ⟨fun w1 hx hh => ?_, ?_⟩; focus (clear hh; have e0 := hx.cell c0; have e1 := hx.cell c1; go_simp; first | exact ⟨Ext.refl _, rfl⟩ | exact Ext.refl _))
          refine ⟨fun w1 hx hh => ?_, ?_⟩
          · clear hh
            go_simp
            refine (same_any x y xl yl w1 (Hxs.out.ext hx) (Hys.out.ext hx)).mono ?_
            rintro e w' ⟨rfl, hx2⟩
            exact ⟨_, rfl, hx2, rfl⟩
          iterate 1 (refine ⟨fun w1 hx hh => ?_, ?_⟩; focus (clear hh; skip; go_simp; first | exact ⟨Ext.refl _, rfl⟩ | exact Ext.refl _))
          intro w1 hx1 hh
          have hx3 := hx.trans hx1
          clear hh c0 c1
          by_cases h0 : xl = yl
          · have H0 := Lib.hid h0
            have h0' : decide (xl = yl) = true := decide_eq_true h0
            rw [h0']
            clear h0 h0'
            go_simp
            go_wp2
            go_roundw
            case rel => exact ⟨k + 1, by omega, by go_num, hx3, Hst.out.2 ⟨Hd.out, H0.out⟩⟩
            case measure => simp [intOf]; omega
          · have H0 := Lib.hid h0
            have h0' : decide (xl = yl) = false := decide_eq_false h0
            rw [h0']
            clear h0 h0'
            go_simp
            go_wp2
            go_ret
            exact ⟨ret_bool (by rw [decide_eq_false (Hno.out H0.out)]), hx3⟩
      · go_wp2
        go_ret
        exact ⟨ret_bool (by rw [decide_eq_true (all_same Hn.out (by omega) Hd.out)]), hx⟩
  · have hn' : ((l.length : Int) != (m.length : Int)) = true := by simp; omega
    have Hne : Hid (decide (l = m) = false) := Lib.hid (decide_eq_false fun e => hn (by rw [e]))
    clear hn
    go_enter Tryz.func25, Tryz.ntmps25
    go_wp2
    go_ret
    exact ⟨ret_bool Hne.out.symm, Ext.refl _⟩

def corrN (ms : List Mark) : Nat := (ms.filter fun m => m.kind != 0).length
theorem corrN_step (ms : List Mark) (k : Nat) (h : k < ms.length) : corrN (ms.take (k + 1)) = corrN (ms.take k) + if (ms[k].kind != 0) = true then 1 else 0 := by
  unfold corrN
  rw [List.take_succ_eq_append_getElem h, List.filter_append, List.length_append]
  cases h0 : ms[k].kind != 0 <;> simp [h0]
theorem corrN_le (ms : List Mark) (k : Nat) : corrN (ms.take k) ≤ k := by
  unfold corrN
  have h := List.length_filter_le (fun m : Mark => m.kind != 0) (ms.take k)
  rw [List.length_take] at h
  omega
set_option maxHeartbeats 1000000 in
set_option maxRecDepth 100000 in
theorem corrections_any (v : Value) (l : List Mark) (w : World) (hl : MarksAt w v l) :
    Calls Tryz.prog 87 #[v] w fun r w' => r = .returned (.int .i64 (corrN l)) ∧ Ext w w' := by
  obtain ⟨a, cap, rfl, hlc, hcm⟩ := hl.shape
  go_enter Tryz.func87, Tryz.ntmps87
  go_wp2
  go_loopw [3, 4] (fun n i wr => ∃ k : Nat, k ≤ l.length ∧ i = .int .i64 k ∧ Ext w wr ∧ n = .int .i64 (corrN (l.take k))) (fun _ i _ => l.length - (intOf i).toNat)
  case atStart => exact ⟨0, Nat.zero_le _, rfl, Ext.refl _, rfl⟩
  case round =>
    obtain ⟨k, hk, rfl, hx, rfl⟩ := hrel
    by_cases h1 : k < l.length
    · have k1 : (k : Int) < (l.length : Int) := by omega
      obtain ⟨b, off, rfl, c0, -⟩ := (hl.ext hx).get h1
      have hst := corrN_step l k h1
      have hle := corrN_le l k
      generalize l[k] = x at *
      generalize corrN (l.take k) = c at *
      cases h0 : x.kind != 0
      · have Hst : Hid (corrN (l.take (k + 1)) = c) := Lib.hid (by rw [hst, h0]; rfl)
        clear hst
        go_wp2
        go_roundw
        case rel => exact ⟨k + 1, by omega, by go_num, hx, by rw [Hst.out]⟩
        case measure => simp [intOf]; omega
      · have Hst : Hid (corrN (l.take (k + 1)) = c + 1) := Lib.hid (by rw [hst, h0]; rfl)
        clear hst
        go_wp2
        go_roundw
        case rel => exact ⟨k + 1, by omega, by go_num, hx, by rw [Hst.out]; go_num⟩
        case measure => simp [intOf]; omega
    · have Hn : Hid (corrN (l.take k) = corrN l) := Lib.hid (by rw [List.take_of_length_le (by omega)])
      go_wp2
      go_ret
      exact ⟨ret_int (by rw [Hn.out]), hx⟩
end Go.Proofs.YtgcibmdohifiaaaGreat

namespace Go.Proofs.YtgcibmdohifiaaaGreat
set_option linter.unusedSimpArgs false
set_option linter.unusedVariables false
open Go.RowKit
set_option linter.unusedVariables false

instance : DecidableEq Mark := fun a b => decidable_of_iff (a.kind = b.kind ∧ a.word = b.word) ⟨fun h => by cases a; cases b; simp_all, fun h => by subst h; exact ⟨rfl, rfl⟩⟩
theorem mark_fields : ∃ f g, (Tryz.prog.fieldsOf 140).toList = [f, g] ∧ f.type = 3 ∧ f.offset = 0 ∧ g.type = 9 ∧ g.offset = 1 ∧ f.name = "Kind" ∧ g.name = "Word" := by
  have hf : ((Tryz.prog.fieldsOf 140).toList.map fun f => (f.name, f.type, f.offset)) = [("Kind", 3, 0), ("Word", 9, 1)] := by kernel_rfl
  generalize (Tryz.prog.fieldsOf 140).toList = fs at *
  obtain ⟨f, g, rfl⟩ : ∃ f g, fs = [f, g] := by
    rcases fs with _ | ⟨f, _ | ⟨g, _ | ⟨h, r⟩⟩⟩
    · simp at hf
    · simp at hf
    · exact ⟨f, g, rfl⟩
    · simp at hf
  simp only [List.map_cons, List.map_nil, List.cons.injEq, Prod.mk.injEq, and_true] at hf
  obtain ⟨⟨h1, h2, h3⟩, h4, h5, h6⟩ := hf
  exact ⟨f, g, rfl, h2, h3, h5, h6, h1, h4⟩
theorem equal_mark (k m : Mark) (w : World) : (Op.equal 140 (.agg #[.int .i64 k.kind, .string k.word]) (.agg #[.int .i64 m.kind, .string m.word])).run Tryz.prog w = .ok (decide (k = m)) w := by
  have hop : ∀ x y : Value, Op.equal 140 x y = Op.equalIn Op.maxDepth 140 x y := fun _ _ => rfl
  obtain ⟨m0, hd⟩ : ∃ m0, Op.maxDepth = m0 + 2 := ⟨9998, by decide⟩
  have ha : ∀ w, (isAgg 3).run Tryz.prog w = .ok false w := fun _ => by kernel_rfl
  have hb : ∀ w, (isAgg 9).run Tryz.prog w = .ok false w := fun _ => by kernel_rfl
  rw [hop, hd]
  rw [run_equalIn_struct _ _ _ _ _ (by kernel_rfl) (by kernel_rfl)]
  obtain ⟨f, g, hfs, h2, h3, h5, h6, n1, n2⟩ := mark_fields
  rw [hfs]
  obtain ⟨a, b⟩ := k
  obtain ⟨c, d⟩ := m
  simp [Op.eqFields, h2, h3, h5, h6, n1, n2, part, ha, hb, go_sem]
  have hbq : (b.toList = d.toList) ↔ b = d := ⟨str_inj, fun e => by rw [e]⟩
  by_cases e1 : a = c <;> by_cases e2 : b = d <;> simp [e1, e2, hbq]
theorem neq_mark (k m : Mark) (w : World) : (binOp .neq 140 (.agg #[.int .i64 k.kind, .string k.word]) (.agg #[.int .i64 m.kind, .string m.word])).run Tryz.prog w = .ok (.bool (!decide (k = m))) w := by
  have h := equal_mark k m w
  have hop : Op.equal 140 (.agg #[.int .i64 k.kind, .string k.word]) (.agg #[.int .i64 m.kind, .string m.word]) = Op.equalIn 10000 140 (.agg #[.int .i64 k.kind, .string k.word]) (.agg #[.int .i64 m.kind, .string m.word]) := rfl
  rw [hop] at h
  rw [run_neq_struct, h]
  rfl
set_option maxHeartbeats 1000000 in
set_option maxRecDepth 100000 in
theorem equal_any (v u : Value) (l m : List Mark) (w : World) (hl : MarksAt w v l) (hm : MarksAt w u m) :
    Calls Tryz.prog 32 #[v, u] w fun r w' => r = .returned (.bool (decide (l = m))) ∧ Ext w w' := by
  obtain ⟨a, cap, rfl, hlc, hcm⟩ := hl.shape
  obtain ⟨a', cap', rfl, hlc', hcm'⟩ := hm.shape
  by_cases hn : l.length = m.length
  · have hn' : ((l.length : Int) != (m.length : Int)) = false := by simp; omega
    have Hn := Lib.hid hn
    clear hn
    go_enter Tryz.func32, Tryz.ntmps32
    go_wp2
    go_loopw [5] (fun i wr => ∃ k : Nat, k ≤ l.length ∧ i = .int .i64 k ∧ Ext w wr ∧ l.take k = m.take k) (fun i _ => l.length - (intOf i).toNat)
    case atStart => exact ⟨0, Nat.zero_le _, rfl, Ext.refl _, rfl⟩
    case round =>
      obtain ⟨k, hk, rfl, hx, hd⟩ := hrel
      have Hd := Lib.hid hd; clear hd
      by_cases h1 : k < l.length
      · have k1 : (k : Int) < (l.length : Int) := by omega
        have h2 : k < m.length := by have := Hn.out; omega
        have k2 : (k : Int) < (m.length : Int) := by omega
        obtain ⟨b, off, rfl, c0, d0, -⟩ := (hl.ext hx).get h1
        obtain ⟨b', off', rfl, c1, d1, -⟩ := (hm.ext hx).get h2
        have hst := same_step h1 h2
        have hno := not_same h1 h2
        generalize hx' : l[k] = x at *
        generalize hy : m[k] = y at *
        have Hst := Lib.hid hst
        have Hno := Lib.hid hno
        clear hx' hy hst hno
        have hnq := fun w => neq_mark x y w
        by_cases h0 : x = y
        · have H0 := Lib.hid h0
          rw [decide_eq_true h0] at hnq
          clear h0
          go_wp2_with fail
          apply Facts.wp_region [.val _, .val _, .val _, .val (.agg #[.int .i64 x.kind, .string x.word]), .val _, .val _, .val _, .val (.agg #[.int .i64 y.kind, .string y.word]), .val (.bool false)] (by kernel_rfl) (by kernel_rfl) trivial ?main
          case main =>
            iterate 8 (refine ⟨fun w1 hx hh => ?_, ?_⟩; focus (clear hh; have e0 := hx.cell c0; have e1 := hx.cell c1; have e2 := hx.cell d0; have e3 := hx.cell d1; go_simp; first | exact ⟨Ext.refl _, rfl⟩ | exact Ext.refl _))
            refine ⟨fun w1 hx hh => ?_, ?_⟩
            · clear hh
              go_simp
              first | exact Ext.refl _ | (rw [hnq]; exact ⟨Ext.refl _, rfl⟩)
            intro w1 hx1 hh
            have hx3 := hx.trans hx1
            clear hh c0 c1
            go_simp
            go_wp2
            go_roundw
            case rel => exact ⟨k + 1, by omega, by go_num, hx3, Hst.out.2 ⟨Hd.out, H0.out⟩⟩
            case measure => simp [intOf]; omega
        · have H0 := Lib.hid h0
          rw [decide_eq_false h0] at hnq
          clear h0
          go_wp2_with fail
          apply Facts.wp_region [.val _, .val _, .val _, .val (.agg #[.int .i64 x.kind, .string x.word]), .val _, .val _, .val _, .val (.agg #[.int .i64 y.kind, .string y.word]), .val (.bool true)] (by kernel_rfl) (by kernel_rfl) trivial ?main
          case main =>
            iterate 8 (refine ⟨fun w1 hx hh => ?_, ?_⟩; focus (clear hh; have e0 := hx.cell c0; have e1 := hx.cell c1; have e2 := hx.cell d0; have e3 := hx.cell d1; go_simp; first | exact ⟨Ext.refl _, rfl⟩ | exact Ext.refl _))
            refine ⟨fun w1 hx hh => ?_, ?_⟩
            · clear hh
              go_simp
              first | exact Ext.refl _ | (rw [hnq]; exact ⟨Ext.refl _, rfl⟩)
            intro w1 hx1 hh
            have hx3 := hx.trans hx1
            clear hh c0 c1
            go_simp
            go_wp2
            go_ret
            exact ⟨ret_bool (by rw [decide_eq_false (Hno.out H0.out)]), hx3⟩
      · go_wp2
        go_ret
        exact ⟨ret_bool (by rw [decide_eq_true (all_same Hn.out (by omega) Hd.out)]), hx⟩
  · have hn' : ((l.length : Int) != (m.length : Int)) = true := by simp; omega
    have Hne : Hid (decide (l = m) = false) := Lib.hid (decide_eq_false fun e => hn (by rw [e]))
    clear hn
    go_enter Tryz.func32, Tryz.ntmps32
    go_wp2
    go_ret
    exact ⟨ret_bool Hne.out.symm, Ext.refl _⟩
end Go.Proofs.YtgcibmdohifiaaaGreat

namespace Go.Proofs.YtgcibmdohifiaaaGreat
set_option linter.unusedSimpArgs false
set_option linter.unusedVariables false
open Go.RowKit

def settledM (some all : Int) : Int := if some = all then 1 else if some = 0 then 2 else 0
def lessM : List Int → List Int → Bool
  | _, [] => false
  | [], _ :: _ => true
  | x :: l, y :: m => if x = y then lessM l m else decide (x < y)
theorem lessM_step (l m : List Int) (k : Nat) (h1 : k < l.length) (h2 : k < m.length) : lessM (l.drop k) (m.drop k) = if l[k] = m[k] then lessM (l.drop (k + 1)) (m.drop (k + 1)) else decide (l[k] < m[k]) := by
  rw [List.drop_eq_getElem_cons h1, List.drop_eq_getElem_cons h2, lessM]

set_option maxHeartbeats 1000000 in
set_option maxRecDepth 100000 in
theorem less_any (v u : Value) (l m : List Int) (w : World) (hl : IntsAt w v l) (hm : IntsAt w u m) :
    Calls Tryz.prog 43 #[v, u] w fun r w' => r = .returned (.bool (lessM l m)) ∧ Ext w w' := by
  obtain ⟨a, cap, rfl, hlc, hcm⟩ := hl.shape
  obtain ⟨a', cap', rfl, hlc', hcm'⟩ := hm.shape
  go_enter Tryz.func43, Tryz.ntmps43
  go_wp2
  go_loopw [5] (fun i wr => ∃ k : Nat, k ≤ l.length ∧ k ≤ m.length ∧ i = .int .i64 k ∧ Ext w wr ∧ lessM (l.drop k) (m.drop k) = lessM l m) (fun i _ => l.length - (intOf i).toNat)
  case atStart => exact ⟨0, Nat.zero_le _, Nat.zero_le _, rfl, Ext.refl _, rfl⟩
  case round =>
    obtain ⟨k, hk, hk', rfl, hx, hd⟩ := hrel
    have Hd := Lib.hid hd; clear hd
    by_cases h1 : k < l.length
    · have k1 : (k : Int) < (l.length : Int) := by omega
      by_cases h2 : k < m.length
      · have k2 : (k : Int) < (m.length : Int) := by omega
        have n1 : ((k : Int) == (l.length : Int)) = false := by simp; omega
        have n2 : ((k : Int) == (m.length : Int)) = false := by simp; omega
        obtain ⟨_, _, he, -, -, hh⟩ := hl.ext hx
        obtain ⟨b, off, rfl, c0, -⟩ := hh k h1
        cases he
        clear hh
        obtain ⟨_, _, he, -, -, hh⟩ := hm.ext hx
        obtain ⟨b', off', rfl, c1, -⟩ := hh k h2
        cases he
        clear hh
        have hst := lessM_step l m k h1 h2
        generalize hx' : l[k] = x at *
        generalize hy : m[k] = y at *
        have Hst := Lib.hid hst
        clear hx' hy hst
        simp only [Nat.mul_one] at c0 c1
        by_cases h0 : x = y
        · subst h0
          have h0' : (x == x) = true := by simp
          go_wp2_with fail
          apply Facts.wp_region [.val _, .val _, .val _, .val _, .val _, .val _, .val _, .val _, .val _, .val _, .val _, .val _, .val _, .val _, .val _, .val _, .val _, .val _, .val _, .val _, .val _] (by kernel_rfl) (by kernel_rfl) trivial ?main
          case main =>
            iterate 21 (refine ⟨fun w1 hx hh => ?_, ?_⟩; focus (clear hh; have e0 := hx.cell c0; have e1 := hx.cell c1; go_simp; exact ⟨Ext.refl _, rfl⟩))
            intro w1 hx1 hh
            have hx3 := hx.trans hx1
            clear hh c0 c1
            go_simp
            go_wp2
            go_roundw
            case rel => exact ⟨k + 1, by omega, by omega, by go_num, hx3, by rw [← Hd.out, Hst.out]; simp⟩
            case measure => simp [intOf]; omega
        · have h0' : (x == y) = false := by simpa using h0
          have H0 := Lib.hid h0
          clear h0
          go_wp2_with fail
          apply Facts.wp_region [.val _, .val _, .val _, .val _, .val _, .val _, .val _, .val _, .val _, .val _, .val _, .val _, .val _, .val _, .val _, .val _, .val _, .val _, .val _, .val _, .val _] (by kernel_rfl) (by kernel_rfl) trivial ?main
          case main =>
            iterate 21 (refine ⟨fun w1 hx hh => ?_, ?_⟩; focus (clear hh; have e0 := hx.cell c0; have e1 := hx.cell c1; go_simp; exact ⟨Ext.refl _, rfl⟩))
            intro w1 hx1 hh
            have hx3 := hx.trans hx1
            have c2 := hx1.cell c0
            have c3 := hx1.cell c1
            clear hh c0 c1
            go_simp
            go_wp2_with fail
            apply Facts.wp_region [.val _, .val _, .val _, .val _, .val _, .val _, .val _, .val _, .val _, .val _, .val _, .val _, .val _, .val _, .val _, .val _] (by kernel_rfl) (by kernel_rfl) trivial ?main
            case main =>
              iterate 16 (refine ⟨fun w1 hx hh => ?_, ?_⟩; focus (clear hh; have e0 := hx.cell c2; have e1 := hx.cell c3; go_simp; exact ⟨Ext.refl _, rfl⟩))
              intro w2 hx2 hh
              have hx4 := hx3.trans hx2
              clear hh c2 c3
              go_simp
              go_wp2
              go_ret
              exact ⟨ret_bool (by rw [← Hd.out, Hst.out, if_neg H0.out]), hx4⟩
      · obtain rfl : k = m.length := by omega
        have k2 : ¬ (m.length : Int) < (m.length : Int) := by omega
        go_wp2_with fail
        apply Facts.wp_region [.val _, .val _, .val _, .val _, .val _, .val _, .val _, .val _, .val _, .val _, .val _, .val _, .val _, .val _, .val _, .val _, .val _, .val _, .val _, .val _, .val _] (by kernel_rfl) (by kernel_rfl) trivial ?main
        case main =>
          iterate 21 (refine ⟨fun w1 hx hh => ?_, ?_⟩; focus (clear hh; skip; go_simp; exact ⟨Ext.refl _, rfl⟩))
          intro w1 hx1 hh
          have hx3 := hx.trans hx1
          clear hh
          go_simp
          go_wp2
          go_ret
          exact ⟨ret_bool (by rw [← Hd.out, List.drop_eq_getElem_cons h1, List.drop_eq_nil_of_le (Nat.le_refl _)]; rfl), hx3⟩
    · obtain rfl : k = l.length := by omega
      have k1 : ¬ (l.length : Int) < (l.length : Int) := by omega
      by_cases h2 : ((l.length : Int) == (m.length : Int)) = true
      · go_wp2_with fail
        apply Facts.wp_region [.val _, .val _, .val _, .val _, .val _, .val _, .val _, .val _, .val _, .val _, .val _, .val _, .val _, .val _, .val _, .val _, .val _, .val _, .val _, .val _, .val _] (by kernel_rfl) (by kernel_rfl) trivial ?main
        case main =>
          iterate 21 (refine ⟨fun w1 hx hh => ?_, ?_⟩; focus (clear hh; skip; go_simp; exact ⟨Ext.refl _, rfl⟩))
          intro w1 hx1 hh
          have hx3 := hx.trans hx1
          clear hh
          go_simp
          go_wp2
          go_ret
          exact ⟨ret_bool (by rw [← Hd.out, List.drop_eq_nil_of_le (Nat.le_refl _), List.drop_eq_nil_of_le (by simp at h2; omega)]; rfl), hx3⟩
      · have h2' : ((l.length : Int) == (m.length : Int)) = false := by simpa using h2
        have h3 : l.length < m.length := by simp at h2; omega
        clear h2
        go_wp2_with fail
        apply Facts.wp_region [.val _, .val _, .val _, .val _, .val _, .val _, .val _, .val _, .val _, .val _, .val _, .val _, .val _, .val _, .val _, .val _, .val _, .val _, .val _, .val _, .val _] (by kernel_rfl) (by kernel_rfl) trivial ?main
        case main =>
          iterate 21 (refine ⟨fun w1 hx hh => ?_, ?_⟩; focus (clear hh; skip; go_simp; exact ⟨Ext.refl _, rfl⟩))
          intro w1 hx1 hh
          have hx3 := hx.trans hx1
          clear hh
          go_simp
          go_wp2_with fail
          apply Facts.wp_region [.val _, .val _, .val _, .val _, .val _, .val _, .val _, .val _, .val _, .val _, .val _, .val _, .val _, .val _, .val _, .val _] (by kernel_rfl) (by kernel_rfl) trivial ?main
          case main =>
            iterate 16 (refine ⟨fun w1 hx hh => ?_, ?_⟩; focus (clear hh; skip; go_simp; exact ⟨Ext.refl _, rfl⟩))
            intro w2 hx2 hh
            have hx4 := hx3.trans hx2
            clear hh
            go_simp
            go_wp2
            go_ret
            exact ⟨ret_bool (by rw [← Hd.out, List.drop_eq_nil_of_le (Nat.le_refl _), List.drop_eq_getElem_cons h3]; rfl), hx4⟩
end Go.Proofs.YtgcibmdohifiaaaGreat

namespace Go.Proofs.YtgcibmdohifiaaaGreat
set_option linter.unusedSimpArgs false
set_option linter.unusedVariables false
open Go.RowKit

theorem lessM_self (l : List Int) : lessM l l = false := by
  induction l with
  | nil => rfl
  | cons x l ih => simp [lessM, ih]
theorem lessM_total : ∀ l m : List Int, lessM l m = false → lessM m l = false → l = m
  | [], [] => fun _ _ => rfl
  | [], _ :: _ => fun h _ => by simp [lessM] at h
  | _ :: _, [] => fun _ h => by simp [lessM] at h
  | x :: l, y :: m => fun h h' => by
    by_cases e : x = y
    · subst e
      simp only [lessM, if_true] at h h'
      rw [lessM_total l m h h']
    · simp only [lessM, e, Ne.symm e, if_false, decide_eq_false_iff_not] at h h'
      omega
set_option maxHeartbeats 1000000 in
set_option maxRecDepth 100000 in
theorem ints_any (v u : Value) (l m : List Int) (w : World) (hl : IntsAt w v l) (hm : IntsAt w u m) :
    Calls Tryz.prog 22 #[v, u] w fun r w' => r = .returned (.bool (decide (l = m))) ∧ Ext w w' := by
  have hsl := hl.shape
  have hsm := hm.shape
  obtain ⟨a, cap, rfl, hlc, hcm⟩ := hsl
  obtain ⟨a', cap', rfl, hlc', hcm'⟩ := hsm
  by_cases h : ((l.length : Int) == (m.length : Int)) = true
  · go_enter Tryz.func22, Tryz.ntmps22
    go_wp2_with fail
    refine (less_any _ _ l m w hl hm).mono ?_
    rintro e w1 ⟨rfl, hx1⟩
    cases h1 : lessM l m
    · have H1 := Lib.hid h1; clear h1
      go_wp2_with fail
      refine (less_any _ _ m l w1 (hm.ext hx1) (hl.ext hx1)).mono ?_
      rintro e w2 ⟨rfl, hx2⟩
      have hx3 := hx1.trans hx2
      cases h2 : lessM m l
      all_goals
        have H2 := Lib.hid h2; clear h2
        go_wp2
        go_ret
        first
          | exact ⟨ret_bool (by rw [decide_eq_true (lessM_total l m H1.out H2.out)]), hx3⟩
          | exact ⟨ret_bool (by rw [eq_comm, decide_eq_false_iff_not]; intro e; subst e; have := H2.out; rw [lessM_self] at this; cases this), hx3⟩
    · have H1 := Lib.hid h1; clear h1
      go_wp2
      go_ret
      exact ⟨ret_bool (by rw [eq_comm, decide_eq_false_iff_not]; intro e; subst e; have := H1.out; rw [lessM_self] at this; cases this), hx1⟩
  · have h' : ((l.length : Int) == (m.length : Int)) = false := by simpa using h
    have hn : ¬ l = m := fun e => by subst e; simp at h'
    have Hn := Lib.hid hn
    clear h hn
    go_enter Tryz.func22, Tryz.ntmps22
    go_wp2
    go_ret
    exact ⟨ret_bool (by rw [decide_eq_false Hn.out]), Ext.refl _⟩

def fewerM (l m : List Int) : Bool := if l.length = m.length then lessM l m else decide (l.length < m.length)
end Go.Proofs.YtgcibmdohifiaaaGreat

namespace Go.Proofs.YtgcibmdohifiaaaGreat
set_option linter.unusedSimpArgs false
set_option linter.unusedVariables false
open Go.RowKit
set_option linter.unusedVariables false

theorem lawMarks_any (w : World) : Calls Tryz.prog 70 #[] w fun e w' => (∃ a c, e = .returned (.slice a marksE.length c) ∧ MarksAt w' (.slice a marksE.length c) marksE) ∧ Ext w w' := by
  go_enter Tryz.func70, Tryz.ntmps70
  go_wp2
  go_ret
  refine ⟨⟨_, _, rfl, _, _, rfl, Nat.le_refl _, by decide, fun i hi => ⟨_, _, rfl, ?_⟩⟩, ext_alloc _ _⟩
  have : i = 0 ∨ i = 1 ∨ i = 2 ∨ i = 3 ∨ i = 4 ∨ i = 5 ∨ i = 6 := by simp [marksE] at hi; omega
  have hk : ∀ k : Int, 0 ≤ k ∧ k ≤ 4 → I64 k := fun k h => ⟨by omega, by omega⟩
  rcases this with rfl | rfl | rfl | rfl | rfl | rfl | rfl
  all_goals exact ⟨by simp [go_sem, marksE], by simp [go_sem, marksE, noW, wFor]; first | done | rfl, hk _ (by simp [marksE]), by simp [marksE]; decide⟩
def slA : Value → Option Addr
  | .slice a _ _ => a
  | _ => none
def slC : Value → Nat
  | .slice _ _ c => c
  | _ => 0
theorem SliceAt.form {α : Type} {sz : Nat} {R : World → Nat → Nat → α → Prop} {w : World} {v : Value} {l : List α} (h : SliceAt sz R w v l) : v = .slice (slA v) l.length (slC v) := by
  obtain ⟨a, c, rfl, -⟩ := h.shape
  rfl
theorem FillsAt.twoAt {w : World} {u v : Value} {l m : List ByteArray} {t : TypeId} {B : Nat} (hB : w.heap.size = B) (h : StrsAt w u l) (h' : StrsAt w v m) : FillsAt (w.alloc (.cells #[u, v] t)) (.slice (some ⟨B, 0, none⟩) 2 2) [l, m] := by
  subst hB
  refine ⟨_, _, rfl, Nat.le_refl _, by omega, fun i hi => ?_⟩
  have : i = 0 ∨ i = 1 := by simp at hi; omega
  rcases this with rfl | rfl
  · exact ⟨_, _, rfl, _, by simp [go_sem], h.ext (ext_alloc _ _)⟩
  · exact ⟨_, _, rfl, _, by simp [go_sem], h'.ext (ext_alloc _ _)⟩
def fstV : Value → Value
  | .tuple a => a.getD 0 undef
  | _ => undef
/-- a letter and no error -/
def TupL (l : List ByteArray) (u : Value) (w : World) : Prop := u = .tuple #[fstV u, .int .i64 0] ∧ StrsAt w (fstV u) l
theorem TupL.ext {l : List ByteArray} {u : Value} {w w' : World} (h : TupL l u w) (hx : Ext w w') : TupL l u w' := ⟨h.1, h.2.ext hx⟩
def TupI (l : List Int) (u : Value) (w : World) : Prop := u = .tuple #[fstV u, .int .i64 0] ∧ IntsAt w (fstV u) l
theorem TupI.ext {l : List Int} {u : Value} {w w' : World} (h : TupI l u w) (hx : Ext w w') : TupI l u w' := ⟨h.1, h.2.ext hx⟩
def TupF (l : List (List ByteArray)) (n : Nat) (u : Value) (w : World) : Prop := u = .tuple #[fstV u, .int .i64 n, .int .i64 0] ∧ FillsAt w (fstV u) l
theorem TupF.ext {l : List (List ByteArray)} {n : Nat} {u : Value} {w w' : World} (h : TupF l n u w) (hx : Ext w w') : TupF l n u w' := ⟨h.1, h.2.ext hx⟩

set_option maxRecDepth 100000 in
set_option maxHeartbeats 20000000 in
theorem awakeL_any (w : World) : Calls Tryz.prog 19 #[] w fun e w' => e = .returned (.bool true) ∧ Ext w w' := by
  have hshelf := fun w => Shelf_any w
  have hS : shelfE.forms.length = 3 := rfl
  obtain ⟨S, hSS⟩ : ∃ S, S = shelfE := ⟨_, rfl⟩
  have HMK := Lib.hid e_make
  have HBU := Lib.hid e_built
  have HOC := Lib.hid e_ofC
  have HEC := Lib.hid e_errC
  have HFC := Lib.hid e_fillC
  have HEA := Lib.hid e_errA
  have HTA := Lib.hid e_textA
  have HRA := Lib.hid e_readA
  have HM2 := Lib.hid e_mend2
  have HME2 := Lib.hid e_mendE2
  have HN := Lib.hid e_near
  have HNE := Lib.hid e_nearE
  have HRB := Lib.hid e_readB
  have HRW := Lib.hid e_readW
  have HME3 := Lib.hid e_mendE3
  rw [← hSS] at hS HMK HBU HOC HEC HFC HEA HTA HRA HM2 HME2 HN HNE HRB HRW HME3
  simp only [← hSS] at hshelf
  clear hSS
  have HS := Lib.hid hS
  clear hS
  go_enter Tryz.func19, Tryz.ntmps19
  go_wp2_with fail
  refine (hshelf _).mono ?_
  rintro e w1 ⟨v, rfl, hb, x1⟩
  clear hshelf
  obtain ⟨fa, fc, rfl, -⟩ := hb.open
  rw [HS.out] at hb ⊢
  obtain ⟨q0, q1⟩ : (w1.alloc (.cells #[.int .i64 S.width, .slice fa 3 fc] 24)).cell? ⟨w1.heap.size, 0, none⟩ = some (.int .i64 S.width) ∧ (w1.alloc (.cells #[.int .i64 S.width, .slice fa 3 fc] 24)).cell? ⟨w1.heap.size, 1, none⟩ = some (.slice fa 3 fc) := ⟨by simp [go_sem], by simp [go_sem]⟩
  go_wp2_with fail
  obtain ⟨W, hW⟩ : ∃ W, W = w1.alloc (.cells #[.int .i64 S.width, .slice fa 3 fc] 24) := ⟨_, rfl⟩
  replace hb := hb.ext (ext_alloc w1 (.cells #[.int .i64 S.width, .slice fa 3 fc] 24))
  replace x1 : Ext w W := by rw [hW]; exact x1.alloc _
  rw [← hW] at hb q0 q1 ⊢
  clear hW
  refine (words_any _ letA (by kernel_rfl) (by decide) _).mono ?_
  rintro e w2 ⟨⟨Aa, Ac, rfl, hA, -⟩, hx⟩
  replace hb := hb.ext hx
  replace q0 := hx.cell q0
  replace q1 := hx.cell q1
  replace x1 := x1.trans hx
  clear hx
  go_wp2_with fail
  refine (words_any _ letB (by kernel_rfl) (by decide) _).mono ?_
  rintro e w3 ⟨⟨Ba, Bc, rfl, hB, -⟩, hx⟩
  replace hA := hA.ext hx
  replace hb := hb.ext hx
  replace q0 := hx.cell q0
  replace q1 := hx.cell q1
  replace x1 := x1.trans hx
  clear hx
  -- Make
  go_wp2_with fail
  apply Facts.wp_region [.val (.agg #[.int .i64 S.width, .slice fa 3 fc]), .fact (fun u w => StrsAt w u [wJudge]), .fact (fun u w => StrsAt w u [wMercy]), .fact (fun u w => FillsAt w u [[wJudge], [wMercy]]), .fact (TupL letA), .fact (TupL letA), .fact (fun u w => StrsAt w u letA), .val (.int .i64 0), .fact (fun u w => StrsAt w u letA), .val (.int .i64 0)] (by kernel_rfl) (by kernel_rfl) ⟨fun u a c hx h => StrsAt.ext h hx, fun u a c hx h => StrsAt.ext h hx, fun u a c hx h => FillsAt.ext h hx, fun u a c hx h => TupL.ext h hx, fun u a c hx h => TupL.ext h hx, fun u a c hx h => StrsAt.ext h hx, fun u a c hx h => StrsAt.ext h hx, trivial⟩ ?main
  case main =>
    iterate 1 (refine ⟨fun w1 hx hh => ?_, ?_⟩; focus (clear hh; have f0 := hx.cell q0; have f1 := hx.cell q1; go_simp; first | exact ⟨Ext.refl _, rfl⟩ | exact Ext.refl _))
    refine ⟨fun w1 hx hh => ?_, ?_⟩
    · clear hh
      go_simp
      refine (words_any _ [wJudge] (by kernel_rfl) (by decide) _).mono ?_
      rintro e w' ⟨⟨a, c, rfl, h, -⟩, hx⟩
      exact ⟨_, rfl, hx, h⟩
    intro u1
    refine ⟨fun w1 hx hh => ?_, ?_⟩
    · clear hh
      go_simp
      refine (words_any _ [wMercy] (by kernel_rfl) (by decide) _).mono ?_
      rintro e w' ⟨⟨a, c, rfl, h, -⟩, hx⟩
      exact ⟨_, rfl, hx, h⟩
    intro u2
    refine ⟨fun w1 hx hh => ?_, ?_⟩
    · have h1 : StrsAt w1 u1 [wJudge] := hh 1 _ (List.mem_cons_of_mem _ List.mem_cons_self) (by kernel_rfl)
      have h2 : StrsAt w1 u2 [wMercy] := hh 2 _ List.mem_cons_self (by kernel_rfl)
      clear hh
      have hF := FillsAt.twoAt (t := 29) rfl h1 h2
      have e1 := h1.form
      have e2 := h2.form
      rw [e1, e2] at hF ⊢
      clear e1 e2 h1 h2
      generalize slA u1 = a1 at *
      generalize slC u1 = c1 at *
      generalize slA u2 = a2 at *
      generalize slC u2 = c2 at *
      have HF := Lib.hid hF
      clear hF
      go_simp
      exact ⟨ext_alloc _ _, HF.out⟩
    intro u3
    refine ⟨fun w1 hx hh => ?_, ?_⟩
    · have h1 : FillsAt w1 u3 [[wJudge], [wMercy]] := hh 3 _ List.mem_cons_self (by kernel_rfl)
      have hx2 := hx
      clear hh
      go_simp
      refine (make_any _ _ S 0 (by constructor <;> decide) _ _ (hb.ext hx2) h1).mono ?_
      rw [HMK.out, HBU.out]
      rintro e w' ⟨u, rfl, ⟨v, rfl, hv, -⟩, hx⟩
      exact ⟨_, rfl, hx, ⟨rfl, hv rfl⟩⟩
    intro u4
    (refine ⟨fun w1 hx hh => ?_, ?_⟩; focus (have h4 : TupL letA u4 w1 := hh 4 _ List.mem_cons_self (by kernel_rfl); clear hh; go_simp; first | exact ⟨Ext.refl _, h4⟩ | exact Ext.refl _))
    intro u5
    (refine ⟨fun w1 hx hh => ?_, ?_⟩; focus (have h5 : TupL letA u5 w1 := hh 5 _ List.mem_cons_self (by kernel_rfl); have e := h5.1; have hs := h5.2; clear hh h5; generalize fstV u5 = f5 at *; subst e; go_simp; first | exact ⟨Ext.refl _, hs⟩ | exact ⟨Ext.refl _, rfl⟩ | exact Ext.refl _))
    intro u6
    (refine ⟨fun w1 hx hh => ?_, ?_⟩; focus (have h5 : TupL letA u5 w1 := hh 5 _ (List.mem_cons_of_mem _ List.mem_cons_self) (by kernel_rfl); have e := h5.1; have hs := h5.2; clear hh h5; generalize fstV u5 = f5 at *; subst e; go_simp; first | exact ⟨Ext.refl _, hs⟩ | exact ⟨Ext.refl _, rfl⟩ | exact Ext.refl _))
    (refine ⟨fun w1 hx hh => ?_, ?_⟩; focus (have h6 : (fun w => StrsAt w u6 letA) w1 := hh 6 _ List.mem_cons_self (by kernel_rfl); clear hh; go_simp; first | exact ⟨Ext.refl _, h6⟩ | exact Ext.refl _))
    intro u8
    iterate 1 (refine ⟨fun w1 hx hh => ?_, ?_⟩; focus (clear hh; skip; go_simp; first | exact ⟨Ext.refl _, rfl⟩ | exact Ext.refl _))
    intro w4 hx hh
    have hMade : StrsAt w4 u8 letA := hh 8 _ List.mem_cons_self
    clear hh
    replace hA := hA.ext hx
    replace hB := hB.ext hx
    replace hb := hb.ext hx
    replace q0 := hx.cell q0
    replace q1 := hx.cell q1
    replace x1 := x1.trans hx
    clear hx
    have eM := hMade.form
    generalize slA u8 = ma at *
    generalize slC u8 = mc at *
    subst eM
    go_simp
    go_wp2_with fail
    -- Of
    apply Facts.wp_region [.val (.agg #[.int .i64 S.width, .slice fa 3 fc]), .fact (fun u w => StrsAt w u letC), .fact (TupI [2]), .fact (TupI [2]), .fact (fun u w => IntsAt w u [2]), .val (.int .i64 0), .fact (fun u w => IntsAt w u [2]), .val (.int .i64 0)] (by kernel_rfl) (by kernel_rfl) ⟨fun u a c hx h => StrsAt.ext h hx, fun u a c hx h => TupI.ext h hx, fun u a c hx h => TupI.ext h hx, fun u a c hx h => IntsAt.ext h hx, fun u a c hx h => IntsAt.ext h hx, trivial⟩ ?main
    case main =>
    iterate 1 (refine ⟨fun w1 hx hh => ?_, ?_⟩; focus (clear hh; have f0 := hx.cell q0; have f1 := hx.cell q1; go_simp; first | exact ⟨Ext.refl _, rfl⟩ | exact Ext.refl _))
    refine ⟨fun w1 hx hh => ?_, ?_⟩
    · clear hh
      go_simp
      refine (words_any _ letC (by kernel_rfl) (by decide) _).mono ?_
      rintro e w' ⟨⟨a, c, rfl, h, -⟩, hx⟩
      exact ⟨_, rfl, hx, h⟩
    intro uc1
    refine ⟨fun w1 hx hh => ?_, ?_⟩
    · have h1 : StrsAt w1 uc1 letC := hh 1 _ List.mem_cons_self (by kernel_rfl)
      have hx2 := hx
      clear hh
      go_simp
      refine (of_any _ _ S letC _ (hb.ext hx2) h1).mono ?_
      rw [HOC.out, HEC.out]
      rintro e w' ⟨u, rfl, ⟨v, rfl, hv, -⟩, hx⟩
      exact ⟨_, rfl, hx, ⟨rfl, hv rfl⟩⟩
    intro uc2
    (refine ⟨fun w1 hx hh => ?_, ?_⟩; focus (have h4 : TupI [2] uc2 w1 := hh 2 _ List.mem_cons_self (by kernel_rfl); clear hh; go_simp; first | exact ⟨Ext.refl _, h4⟩ | exact Ext.refl _))
    intro uc3
    (refine ⟨fun w1 hx hh => ?_, ?_⟩; focus (have h5 : TupI [2] uc3 w1 := hh 3 _ List.mem_cons_self (by kernel_rfl); have e := h5.1; have hs := h5.2; clear hh h5; generalize fstV uc3 = f5 at *; subst e; go_simp; first | exact ⟨Ext.refl _, hs⟩ | exact ⟨Ext.refl _, rfl⟩ | exact Ext.refl _))
    intro uc4
    (refine ⟨fun w1 hx hh => ?_, ?_⟩; focus (have h5 : TupI [2] uc3 w1 := hh 3 _ (List.mem_cons_of_mem _ List.mem_cons_self) (by kernel_rfl); have e := h5.1; have hs := h5.2; clear hh h5; generalize fstV uc3 = f5 at *; subst e; go_simp; first | exact ⟨Ext.refl _, hs⟩ | exact ⟨Ext.refl _, rfl⟩ | exact Ext.refl _))
    (refine ⟨fun w1 hx hh => ?_, ?_⟩; focus (have h6 : (fun w => IntsAt w uc4 [2]) w1 := hh 4 _ List.mem_cons_self (by kernel_rfl); clear hh; go_simp; first | exact ⟨Ext.refl _, h6⟩ | exact Ext.refl _))
    intro uc6
    iterate 1 (refine ⟨fun w1 hx hh => ?_, ?_⟩; focus (clear hh; skip; go_simp; first | exact ⟨Ext.refl _, rfl⟩ | exact Ext.refl _))
    intro w5 hx hh
    have hOf : IntsAt w5 uc6 [2] := hh 6 _ List.mem_cons_self
    clear hh
    replace hMade := hMade.ext hx
    replace hA := hA.ext hx
    replace hB := hB.ext hx
    replace hb := hb.ext hx
    replace q0 := hx.cell q0
    replace q1 := hx.cell q1
    replace x1 := x1.trans hx
    clear hx
    have eM := hOf.form
    generalize slA uc6 = oa at *
    generalize slC uc6 = oc at *
    subst eM
    go_simp
    go_wp2_with fail
    -- Fills
    apply Facts.wp_region [.val (.agg #[.int .i64 S.width, .slice fa 3 fc]), .fact (fun u w => StrsAt w u letC), .fact (TupF [[wA], [wB, wC]] 2), .fact (TupF [[wA], [wB, wC]] 2), .fact (fun u w => FillsAt w u [[wA], [wB, wC]]), .val (.int .i64 2), .val (.int .i64 0), .fact (fun u w => FillsAt w u [[wA], [wB, wC]]), .val (.int .i64 2), .val (.int .i64 0)] (by kernel_rfl) (by kernel_rfl) ⟨fun u a c hx h => StrsAt.ext h hx, fun u a c hx h => TupF.ext h hx, fun u a c hx h => TupF.ext h hx, fun u a c hx h => FillsAt.ext h hx, fun u a c hx h => FillsAt.ext h hx, trivial⟩ ?main
    case main =>
    iterate 1 (refine ⟨fun w1 hx hh => ?_, ?_⟩; focus (clear hh; have f0 := hx.cell q0; have f1 := hx.cell q1; go_simp; first | exact ⟨Ext.refl _, rfl⟩ | exact Ext.refl _))
    refine ⟨fun w1 hx hh => ?_, ?_⟩
    · clear hh
      go_simp
      refine (words_any _ letC (by kernel_rfl) (by decide) _).mono ?_
      rintro e w' ⟨⟨a, c, rfl, h, -⟩, hx⟩
      exact ⟨_, rfl, hx, h⟩
    intro ud1
    refine ⟨fun w1 hx hh => ?_, ?_⟩
    · have h1 : StrsAt w1 ud1 letC := hh 1 _ List.mem_cons_self (by kernel_rfl)
      have hx2 := hx
      clear hh
      go_simp
      refine (Fills_any _ _ S 2 (by constructor <;> decide) letC _ (hb.ext hx2) h1).mono ?_
      rw [HFC.out]
      rintro e w' ⟨u, rfl, hv, hx⟩
      exact ⟨_, rfl, hx, ⟨rfl, hv⟩⟩
    intro ud2
    (refine ⟨fun w1 hx hh => ?_, ?_⟩; focus (have h4 : TupF [[wA], [wB, wC]] 2 ud2 w1 := hh 2 _ List.mem_cons_self (by kernel_rfl); clear hh; go_simp; first | exact ⟨Ext.refl _, h4⟩ | exact Ext.refl _))
    intro ud3
    (refine ⟨fun w1 hx hh => ?_, ?_⟩; focus (have h5 : TupF [[wA], [wB, wC]] 2 ud3 w1 := hh 3 _ List.mem_cons_self (by kernel_rfl); have e := h5.1; have hs := h5.2; clear hh h5; generalize fstV ud3 = f5 at *; subst e; go_simp; first | exact ⟨Ext.refl _, hs⟩ | exact ⟨Ext.refl _, rfl⟩ | exact Ext.refl _))
    intro ud4
    (refine ⟨fun w1 hx hh => ?_, ?_⟩; focus (have h5 : TupF [[wA], [wB, wC]] 2 ud3 w1 := hh 3 _ (List.mem_cons_of_mem _ List.mem_cons_self) (by kernel_rfl); have e := h5.1; have hs := h5.2; clear hh h5; generalize fstV ud3 = f5 at *; subst e; go_simp; first | exact ⟨Ext.refl _, hs⟩ | exact ⟨Ext.refl _, rfl⟩ | exact Ext.refl _))
    (refine ⟨fun w1 hx hh => ?_, ?_⟩; focus (have h5 : TupF [[wA], [wB, wC]] 2 ud3 w1 := hh 3 _ (List.mem_cons_of_mem _ List.mem_cons_self) (by kernel_rfl); have e := h5.1; have hs := h5.2; clear hh h5; generalize fstV ud3 = f5 at *; subst e; go_simp; first | exact ⟨Ext.refl _, hs⟩ | exact ⟨Ext.refl _, rfl⟩ | exact Ext.refl _))
    (refine ⟨fun w1 hx hh => ?_, ?_⟩; focus (have h6 : (fun w => FillsAt w ud4 [[wA], [wB, wC]]) w1 := hh 4 _ List.mem_cons_self (by kernel_rfl); clear hh; go_simp; first | exact ⟨Ext.refl _, h6⟩ | exact Ext.refl _))
    intro ud7
    iterate 2 (refine ⟨fun w1 hx hh => ?_, ?_⟩; focus (clear hh; skip; go_simp; first | exact ⟨Ext.refl _, rfl⟩ | exact Ext.refl _))
    intro w6 hx hh
    have hFi : FillsAt w6 ud7 [[wA], [wB, wC]] := hh 7 _ List.mem_cons_self
    clear hh
    replace hMade := hMade.ext hx
    replace hOf := hOf.ext hx
    replace hA := hA.ext hx
    replace hB := hB.ext hx
    replace hb := hb.ext hx
    replace q0 := hx.cell q0
    replace q1 := hx.cell q1
    replace x1 := x1.trans hx
    clear hx
    have eM := hFi.form
    generalize slA ud7 = ia at *
    generalize slC ud7 = ic at *
    subst eM
    go_simp
    go_wp2_with fail
    -- Write
    refine (write_any _ _ S letA _ hb hA).mono ?_
    rw [HTA.out, HEA.out]
    unfold textA
    rintro e w7 ⟨rfl, hx⟩
    replace hA := hA.ext hx
    replace hB := hB.ext hx
    replace hb := hb.ext hx
    replace q0 := hx.cell q0
    replace q1 := hx.cell q1
    replace x1 := x1.trans hx
    replace hMade := hMade.ext hx
    replace hOf := hOf.ext hx
    replace hFi := hFi.ext hx
    clear hx
    go_wp2_with fail
    -- Read
    refine (read_any _ S textA (by decide) _ hb).mono ?_
    rw [HRA.out]
    rintro e w8 ⟨u, rfl, ⟨v, rfl, hRead, -⟩, hx⟩
    replace hA := hA.ext hx
    replace hB := hB.ext hx
    replace hb := hb.ext hx
    replace q0 := hx.cell q0
    replace q1 := hx.cell q1
    replace x1 := x1.trans hx
    replace hMade := hMade.ext hx
    replace hOf := hOf.ext hx
    replace hFi := hFi.ext hx
    clear hx
    obtain ⟨ra, rc, rfl, -⟩ := hRead.shape
    simp only at hRead
    go_wp2_with fail
    -- Fewest
    refine (Fewest_any _ _ letA letB _ hA hB).mono ?_
    rw [e_fewE, e_fewM, e_fewN]
    rintro e w9 ⟨v, rfl, hFew, hx⟩
    replace hA := hA.ext hx
    replace hB := hB.ext hx
    replace hb := hb.ext hx
    replace q0 := hx.cell q0
    replace q1 := hx.cell q1
    replace x1 := x1.trans hx
    replace hMade := hMade.ext hx
    replace hOf := hOf.ext hx
    replace hFi := hFi.ext hx
    replace hRead := hRead.ext hx
    clear hx
    obtain ⟨ka, kc, rfl, -⟩ := hFew.shape
    go_wp2_with fail
    -- marks, Apply
    refine (lawMarks_any _).mono ?_
    rintro e w10 ⟨⟨na, nc, rfl, hMk⟩, hx⟩
    replace hA := hA.ext hx
    replace hB := hB.ext hx
    replace hb := hb.ext hx
    replace q0 := hx.cell q0
    replace q1 := hx.cell q1
    replace x1 := x1.trans hx
    replace hMade := hMade.ext hx
    replace hOf := hOf.ext hx
    replace hFi := hFi.ext hx
    replace hRead := hRead.ext hx
    replace hFew := hFew.ext hx
    clear hx
    go_wp2_with fail
    refine (Apply_any _ _ letA marksE _ hA hMk).mono ?_
    rw [e_apply]
    rintro e w11 ⟨v, rfl, hNow', hx⟩
    have hNow : StrsAt w11 v letB := hNow'.at_ (by decide +kernel)
    replace hA := hA.ext hx
    replace hB := hB.ext hx
    replace hb := hb.ext hx
    replace q0 := hx.cell q0
    replace q1 := hx.cell q1
    replace x1 := x1.trans hx
    replace hMade := hMade.ext hx
    replace hOf := hOf.ext hx
    replace hFi := hFi.ext hx
    replace hRead := hRead.ext hx
    replace hFew := hFew.ext hx
    clear hx hNow' hMk
    obtain ⟨pa, pc, rfl, -⟩ := hNow.shape
    go_wp2_with fail
    -- Mend
    refine (Mend_any _ _ S 2 (by constructor <;> decide) letA _ hb hA).mono ?_
    rw [HM2.out, HME2.out]
    rintro e w12 ⟨rfl, hx⟩
    replace hA := hA.ext hx
    replace hB := hB.ext hx
    replace hb := hb.ext hx
    replace q0 := hx.cell q0
    replace q1 := hx.cell q1
    replace x1 := x1.trans hx
    replace hMade := hMade.ext hx
    replace hOf := hOf.ext hx
    replace hFi := hFi.ext hx
    replace hRead := hRead.ext hx
    replace hFew := hFew.ext hx
    replace hNow := hNow.ext hx
    clear hx
    go_wp2_with fail
    -- Nearest
    refine (Nearest_any _ _ S letA _ hb hA).mono ?_
    rw [HN.out, HNE.out]
    rintro e w13 ⟨rfl, hx⟩
    replace hA := hA.ext hx
    replace hB := hB.ext hx
    replace hb := hb.ext hx
    replace q0 := hx.cell q0
    replace q1 := hx.cell q1
    replace x1 := x1.trans hx
    replace hMade := hMade.ext hx
    replace hOf := hOf.ext hx
    replace hFi := hFi.ext hx
    replace hRead := hRead.ext hx
    replace hFew := hFew.ext hx
    replace hNow := hNow.ext hx
    clear hx
    go_wp2_with fail
    -- Read
    refine (read_any _ S textB (by decide) _ hb).mono ?_
    rintro e w14 ⟨u, rfl, ⟨v, rfl, -, -⟩, hx⟩
    rw [HRB.out]
    replace hA := hA.ext hx
    replace hB := hB.ext hx
    replace hb := hb.ext hx
    replace q0 := hx.cell q0
    replace q1 := hx.cell q1
    replace x1 := x1.trans hx
    replace hMade := hMade.ext hx
    replace hOf := hOf.ext hx
    replace hFi := hFi.ext hx
    replace hRead := hRead.ext hx
    replace hFew := hFew.ext hx
    replace hNow := hNow.ext hx
    clear hx
    go_wp2_with fail
    refine (read_any _ S textW (by decide) _ hb).mono ?_
    rintro e w15 ⟨u2, rfl, ⟨v2, rfl, -, -⟩, hx⟩
    rw [HRW.out]
    replace hA := hA.ext hx
    replace hB := hB.ext hx
    replace hb := hb.ext hx
    replace q0 := hx.cell q0
    replace q1 := hx.cell q1
    replace x1 := x1.trans hx
    replace hMade := hMade.ext hx
    replace hOf := hOf.ext hx
    replace hFi := hFi.ext hx
    replace hRead := hRead.ext hx
    replace hFew := hFew.ext hx
    replace hNow := hNow.ext hx
    clear hx
    go_wp2_with fail
    refine (Mend_any _ _ S 3 (by constructor <;> decide) letA _ hb hA).mono ?_
    rw [HME3.out]
    rintro e w16 ⟨rfl, hx⟩
    replace hA := hA.ext hx
    replace hB := hB.ext hx
    replace hb := hb.ext hx
    replace q0 := hx.cell q0
    replace q1 := hx.cell q1
    replace x1 := x1.trans hx
    replace hMade := hMade.ext hx
    replace hOf := hOf.ext hx
    replace hFi := hFi.ext hx
    replace hRead := hRead.ext hx
    replace hFew := hFew.ext hx
    replace hNow := hNow.ext hx
    clear hx hb q0 q1
    generalize mendM S 3 letA = many3
    go_wp2_with fail
    refine (same_any _ _ letA letA _ hMade hA).mono ?_
    rw [decide_eq_true rfl]
    rintro e w17 ⟨rfl, hx⟩
    replace hA := hA.ext hx
    replace hB := hB.ext hx
    replace hOf := hOf.ext hx
    replace hFi := hFi.ext hx
    replace hRead := hRead.ext hx
    replace hFew := hFew.ext hx
    replace hNow := hNow.ext hx
    replace x1 := x1.trans hx
    clear hx hMade
    go_wp2_with fail
    refine (ints_any _ _ [2] [2] _ (hOf.ext (ext_alloc _ _)) (IntsAt.oneAt (n := 2) (by simp) (by decide))).mono ?_
    rw [show decide (([2] : List Int) = [2]) = true from rfl]
    rintro e w18 ⟨rfl, hx'⟩
    have hx := hx'.of_alloc
    replace hA := hA.ext hx
    replace hB := hB.ext hx
    replace hFi := hFi.ext hx
    replace hRead := hRead.ext hx
    replace hFew := hFew.ext hx
    replace hNow := hNow.ext hx
    replace x1 := x1.trans hx
    clear hx hx' hOf
    go_wp2_with fail
    refine (words_any _ [wA] (by kernel_rfl) (by decide) _).mono ?_
    rintro e w19 ⟨⟨ta, tc, rfl, h1, -⟩, hx⟩
    replace hA := hA.ext hx
    replace hB := hB.ext hx
    replace hFi := hFi.ext hx
    replace hRead := hRead.ext hx
    replace hFew := hFew.ext hx
    replace hNow := hNow.ext hx
    replace x1 := x1.trans hx
    clear hx
    go_wp2_with fail
    refine (words_any _ [wB, wC] (by kernel_rfl) (by decide) _).mono ?_
    rintro e w20 ⟨⟨sa, sc, rfl, h2, -⟩, hx⟩
    replace hA := hA.ext hx
    replace hB := hB.ext hx
    replace hFi := hFi.ext hx
    replace hRead := hRead.ext hx
    replace hFew := hFew.ext hx
    replace hNow := hNow.ext hx
    replace x1 := x1.trans hx
    replace h1 := h1.ext hx
    clear hx
    go_wp2_with fail
    refine (sames_any _ _ [[wA], [wB, wC]] [[wA], [wB, wC]] _ (hFi.ext (ext_alloc _ _)) (FillsAt.twoAt rfl h1 h2)).mono ?_
    rw [decide_eq_true rfl]
    rintro e w21 ⟨rfl, hx'⟩
    have hx := hx'.of_alloc
    clear hx' hFi h1 h2
    replace hA := hA.ext hx
    replace hB := hB.ext hx
    replace hRead := hRead.ext hx
    replace hFew := hFew.ext hx
    replace hNow := hNow.ext hx
    replace x1 := x1.trans hx
    clear hx
    go_wp2_with fail
    refine (same_any _ _ letA letA _ hRead hA).mono ?_
    rw [decide_eq_true rfl]
    rintro e w22 ⟨rfl, hx⟩
    replace hA := hA.ext hx
    replace hB := hB.ext hx
    replace hRead := hRead.ext hx
    replace hFew := hFew.ext hx
    replace hNow := hNow.ext hx
    replace x1 := x1.trans hx
    clear hx
    clear hRead hA
    go_wp2_with fail
    refine (lawMarks_any _).mono ?_
    rintro e w23 ⟨⟨na, nc, rfl, hMk⟩, hx⟩
    replace hB := hB.ext hx
    replace hFew := hFew.ext hx
    replace hNow := hNow.ext hx
    replace x1 := x1.trans hx
    clear hx
    go_wp2_with fail
    refine (equal_any _ _ marksE marksE _ hFew hMk).mono ?_
    rw [decide_eq_true rfl]
    rintro e w24 ⟨rfl, hx⟩
    replace hB := hB.ext hx
    replace hNow := hNow.ext hx
    replace x1 := x1.trans hx
    clear hx hFew hMk
    go_wp2_with fail
    refine (same_any _ _ letB letB _ hNow hB).mono ?_
    rw [decide_eq_true rfl]
    rintro e w25 ⟨rfl, hx⟩
    replace x1 := x1.trans hx
    clear hx hNow hB
    go_wp2
    go_ret
    exact ⟨rfl, x1⟩
end Go.Proofs.YtgcibmdohifiaaaGreat

namespace Go.Proofs.YtgcibmdohifiaaaGreat
set_option linter.unusedSimpArgs false
set_option linter.unusedVariables false
open Go.RowKit

theorem mem_take_step (l : List Int) (k : Nat) (n x : Int) (h : k < l.length) (hx : l[k] = x) : decide (n ∈ l.take (k + 1)) = (decide (n ∈ l.take k) || (x == n)) := by
  rw [List.take_succ_eq_append_getElem h, hx]
  by_cases h1 : n ∈ l.take k <;> by_cases h2 : x = n
  · simp [h1, h2]
  · simp [h1]
  · simp [h1, h2]
  · simp [h1, h2, Ne.symm h2]
set_option maxHeartbeats 1000000 in
set_option maxRecDepth 100000 in
theorem has_any (v : Value) (n : Int) (l : List Int) (w : World) (hl : IntsAt w v l) :
    Calls Tryz.prog 42 #[v, .int .i64 n] w fun r w' => r = .returned (.bool (decide (n ∈ l))) ∧ Ext w w' := by
  obtain ⟨a, cap, rfl, hlc, hcm⟩ := hl.shape
  go_enter Tryz.func42, Tryz.ntmps42
  go_wp2
  go_loopw [5, 6] (fun m i wr => ∃ k : Nat, ∃ met : Bool, k ≤ l.length ∧ m = .bool met ∧ i = .int .i64 k ∧ Ext w wr ∧ decide (n ∈ l.take k) = met) (fun _ i _ => l.length - (intOf i).toNat)
  case atStart => exact ⟨0, false, Nat.zero_le _, rfl, rfl, Ext.refl _, by simp⟩
  case round =>
    obtain ⟨k, met, hk, rfl, rfl, hx, hd⟩ := hrel
    have Hd := Lib.hid hd; clear hd
    by_cases h1 : k < l.length
    · have k1 : (k : Int) < (l.length : Int) := by omega
      obtain ⟨_, _, he, -, -, hh⟩ := hl.ext hx
      obtain ⟨b, off, rfl, c0, -⟩ := hh k h1
      cases he
      clear hh
      generalize hx' : l[k] = x at *
      have hst := mem_take_step l k n x h1 hx'
      have Hst := Lib.hid hst
      clear hx' hst
      simp only [Nat.mul_one] at c0
      cases met
      · cases h0 : x == n
        all_goals
          have H0 := Lib.hid h0
          go_wp2
          go_roundw
          case rel => exact ⟨k + 1, _, by omega, rfl, by go_num, hx, by rw [Hst.out, Hd.out, H0.out]; rfl⟩
          case measure => simp [intOf]; omega
      · go_wp2
        go_roundw
        case rel => exact ⟨k + 1, true, by omega, rfl, by go_num, hx, by rw [Hst.out, Hd.out]; rfl⟩
        case measure => simp [intOf]; omega
    · go_wp2
      go_ret
      have := Hd.out
      rw [List.take_of_length_le (by omega)] at this
      exact ⟨ret_bool this.symm, hx⟩

def risingM (below : Int) : Int → List Int → Bool
  | _, [] => true
  | last, x :: l => decide (last < x) && decide (x < below) && risingM below x l
set_option maxHeartbeats 1000000 in
set_option maxRecDepth 100000 in
theorem rising_any (v : Value) (below : Int) (l : List Int) (w : World) (hl : IntsAt w v l) :
    Calls Tryz.prog 48 #[v, .int .i64 below] w fun r w' => r = .returned (.bool (risingM below (-1) l)) ∧ Ext w w' := by
  obtain ⟨a, cap, rfl, hlc, hcm⟩ := hl.shape
  go_enter Tryz.func48, Tryz.ntmps48
  go_wp2
  go_loopw [5, 6] (fun m i wr => ∃ k : Nat, ∃ last : Int, k ≤ l.length ∧ m = .int .i64 last ∧ i = .int .i64 k ∧ Ext w wr ∧ risingM below last (l.drop k) = risingM below (-1) l) (fun _ i _ => l.length - (intOf i).toNat)
  case atStart => exact ⟨0, -1, Nat.zero_le _, rfl, rfl, Ext.refl _, rfl⟩
  case round =>
    obtain ⟨k, last, hk, rfl, rfl, hx, hd⟩ := hrel
    have Hd := Lib.hid hd; clear hd
    by_cases h1 : k < l.length
    · have k1 : (k : Int) < (l.length : Int) := by omega
      obtain ⟨_, _, he, -, -, hh⟩ := hl.ext hx
      obtain ⟨b, off, rfl, c0, -⟩ := hh k h1
      cases he
      clear hh
      have hst : risingM below last (l.drop k) = (decide (last < l[k]) && decide (l[k] < below) && risingM below l[k] (l.drop (k + 1))) := by rw [List.drop_eq_getElem_cons h1, risingM]
      generalize hx' : l[k] = x at *
      have Hst := Lib.hid hst
      clear hx' hst
      simp only [Nat.mul_one] at c0
      by_cases h2 : x ≤ last
      · go_wp2
        go_ret
        exact ⟨ret_bool (by rw [← Hd.out, Hst.out, decide_eq_false (show ¬ last < x by omega)]; rfl), hx⟩
      · by_cases h3 : below ≤ x
        · go_wp2
          go_ret
          exact ⟨ret_bool (by rw [← Hd.out, Hst.out, decide_eq_false (show ¬ x < below by omega)]; simp), hx⟩
        · go_wp2
          go_roundw
          case rel => exact ⟨k + 1, x, by omega, rfl, by go_num, hx, by rw [← Hd.out, Hst.out, decide_eq_true (show last < x by omega), decide_eq_true (show x < below by omega)]; rfl⟩
          case measure => simp [intOf]; omega
    · go_wp2
      go_ret
      have := Hd.out
      rw [List.drop_eq_nil_of_le (by omega)] at this
      exact ⟨ret_bool this, hx⟩

set_option maxRecDepth 100000 in
theorem all_any (n : Nat) (h : n ≤ 4) (w : World) : Calls Tryz.prog 146 #[.int .i64 n] w fun r w' => r = .returned (.int .i64 (2 ^ n - 1)) ∧ w = w' := by
  go_enter Tryz.func146, Tryz.ntmps146
  go_wp2
  go_loop [3, 4] (fun m i => ∃ k : Nat, k ≤ n ∧ m = .int .i64 (2 ^ k - 1) ∧ i = .int .i64 k) (fun _ i => n - (intOf i).toNat)
  case atStart => exact ⟨0, Nat.zero_le _, rfl, rfl⟩
  case round =>
    obtain ⟨k, hk, rfl, rfl⟩ := hrel
    by_cases h1 : k < n
    · have hk4 : k = 0 ∨ k = 1 ∨ k = 2 ∨ k = 3 := by omega
      rcases hk4 with rfl | rfl | rfl | rfl
      all_goals
        have h1' : _ := Int.ofNat_lt.2 h1
        go_wp2
        go_round
        case rel => exact ⟨_, h1, rfl, rfl⟩
        case measure => simp [intOf]; omega
    · obtain rfl : k = n := by omega
      go_wp2
      go_ret
      exact ⟨rfl, rfl⟩
end Go.Proofs.YtgcibmdohifiaaaGreat

namespace Go.Proofs.YtgcibmdohifiaaaGreat
set_option linter.unusedSimpArgs false
set_option linter.unusedVariables false
open Go.RowKit

def bitM : Nat → Int → Bool
  | 0, c => c.tmod 2 == 1
  | n + 1, c => bitM n (c.tdiv 2)
theorem tdiv2_in (c : Int) (h : I64 c) : I64 (c.tdiv 2) := by
  unfold I64 at *
  rcases Int.le_total 0 c with h0 | h0
  · rw [Int.tdiv_eq_ediv_of_nonneg h0]; omega
  · have e : c.tdiv 2 = -((-c) / 2) := by
      rw [← Int.tdiv_eq_ediv_of_nonneg (by omega), Int.neg_tdiv, Int.neg_neg]
    rw [e]; omega
def whereM (s : ByteArray) : List ByteArray → Nat → Int
  | [], _ => -1
  | x :: l, k => if (x.toList == s.toList) = true then k else whereM s l (k + 1)
theorem whereM_step (s : ByteArray) (l : List ByteArray) (k : Nat) (h : k < l.length) (x : ByteArray) (hx : l[k] = x) : whereM s (l.drop k) k = if (x.toList == s.toList) = true then (k : Int) else whereM s (l.drop (k + 1)) (k + 1) := by
  rw [List.drop_eq_getElem_cons h, hx, whereM]
theorem whereM_ge (s : ByteArray) (l : List ByteArray) : ∀ k : Nat, decide (0 ≤ whereM s l k) = l.any fun y => y.toList == s.toList := by
  induction l with
  | nil => intro k; simp [whereM]
  | cons x l ih =>
    intro k
    rw [whereM, List.any_cons]
    cases h : x.toList == s.toList
    · simp only [Bool.false_eq_true, if_false, Bool.false_or]; exact ih _
    · simp only [if_true, Bool.true_or, decide_eq_true_eq]; exact Int.natCast_nonneg k
set_option maxHeartbeats 1000000 in
set_option maxRecDepth 100000 in
theorem where_any (v : Value) (s : ByteArray) (l : List ByteArray) (w : World) (hl : StrsAt w v l) :
    Calls Tryz.prog 120 #[v, .string s] w fun r w' => r = .returned (.int .i64 (whereM s l 0)) ∧ w = w' := by
  obtain ⟨a, cap, rfl, hlc, hcm, hc⟩ := hl
  go_enter Tryz.func120, Tryz.ntmps120
  go_wp2
  go_loop [5] (fun i => ∃ k : Nat, k ≤ l.length ∧ i = .int .i64 k ∧ whereM s (l.drop k) k = whereM s l 0) (fun i => l.length - (intOf i).toNat)
  case atStart => exact ⟨0, Nat.zero_le _, rfl, rfl⟩
  case round =>
    obtain ⟨k, hk, rfl, hd⟩ := hrel
    have Hd := Lib.hid hd; clear hd
    by_cases h1 : k < l.length
    · have k1 : (k : Int) < (l.length : Int) := by omega
      have n1 : ((k : Int) == (l.length : Int)) = false := by simp; omega
      obtain ⟨b, off, rfl, c0, -⟩ := hc k h1
      clear hc
      have hst := fun x hx => whereM_step s l k h1 x hx
      generalize hx : l[k] = x at *
      have Hst := Lib.hid (hst x rfl)
      clear hx hst
      simp only [Nat.mul_one] at c0
      cases h2 : x.toList == s.toList
      all_goals
        have H2 := Lib.hid h2
        go_wp2
        first
          | (go_ret
             exact ⟨ret_int (by rw [← Hd.out, Hst.out, if_pos H2.out]), rfl⟩)
          | (go_round
             case rel => exact ⟨k + 1, by omega, by go_num, by rw [← Hd.out, Hst.out, if_neg (by rw [H2.out]; decide)]⟩
             case measure => simp [intOf]; omega)
    · obtain rfl : k = l.length := by omega
      go_wp2
      go_ret
      have := Hd.out
      rw [List.drop_eq_nil_of_le (Nat.le_refl _)] at this
      exact ⟨ret_int this, rfl⟩
end Go.Proofs.YtgcibmdohifiaaaGreat
