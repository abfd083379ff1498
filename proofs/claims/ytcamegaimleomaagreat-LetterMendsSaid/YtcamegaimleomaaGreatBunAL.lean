/-
  THE SHELF OF THE EXAMPLES: what is so of it, by computation.
  WHAT A BYTE PARTS: Split of the reference.
  THE WORDS, PARTS, SHELF AND MARKS of the examples, as the statements make them.
  mark of the reference: what a mark writes, and its error.
  WHETHER LETTERS, LISTS OF LETTERS AND MARKS ARE THE SAME, and how many of some marks are corrections: Same, Sames, Equal and Corrections of the reference.
  WHETHER TWO LISTS OF MARKS ARE THE SAME: Equal of the reference.
  WHAT THE SMALL FUNCTIONS OF THE REFERENCE RETURN: whether a list comes before another one, whether two lists are the same, what is settled.
  WHAT THE SMALL FUNCTIONS OF THE REFERENCE RETURN: whether two lists are the same, whether one has fewer, whether a list has a number, ascending numbers, bits.
-/
import Derived.Test.YtcamegaimleomaaGreatBunAK
import Derived.Test.YtcamegaimleomaaGreatBunAI
import Derived.Test.YtcamegaimleomaaGreatBunAD
import Derived.Test.YtcamegaimleomaaGreatBunAA
namespace Go.Proofs.YtcamegaimleomaaGreat
set_option linter.unusedSimpArgs false
set_option linter.unusedVariables false
set_option linter.unusedVariables false
set_option maxRecDepth 100000

def wTo : ByteArray := ⟨#[116, 111]⟩
def wThe : ByteArray := ⟨#[116, 104, 101]⟩
def wI : ByteArray := ⟨#[105]⟩
def wAsk : ByteArray := ⟨#[97, 115, 107]⟩
def wJudge : ByteArray := ⟨#[106, 117, 100, 103, 101]⟩
def wMercy : ByteArray := ⟨#[109, 101, 114, 99, 121]⟩
def wFor : ByteArray := ⟨#[102, 111, 114]⟩
def wA : ByteArray := ⟨#[97]⟩
def wB : ByteArray := ⟨#[98]⟩
def wC : ByteArray := ⟨#[99]⟩
def roomP (lo hi : Int) : Part := ⟨[], lo, hi⟩
def givenP (l : List ByteArray) : Part := ⟨l, 0, 0⟩
def shelfE : Shelf := ⟨12, [⟨⟨#[112, 108, 101, 97]⟩, [givenP [wTo, wThe], roomP 1 2, givenP [wI, wAsk], roomP 1 3]⟩, ⟨⟨#[110, 111, 116, 101]⟩, [roomP 1 2, givenP [wI, wAsk], roomP 0 2]⟩, ⟨⟨#[108, 105, 115, 116]⟩, [roomP 1 2, roomP 1 2]⟩]⟩
def letA : List ByteArray := [wTo, wThe, wJudge, wI, wAsk, wMercy]
def letB : List ByteArray := [wTo, wJudge, wI, wAsk, wFor, wMercy]
def letC : List ByteArray := [wA, wB, wC]
def letN : List ByteArray := [wTo, wThe, wI, wAsk, wI, wAsk]
def noW : ByteArray := ⟨#[]⟩
def marksE : List Mark := [⟨0, noW⟩, ⟨2, noW⟩, ⟨0, noW⟩, ⟨0, noW⟩, ⟨0, noW⟩, ⟨3, wFor⟩, ⟨0, noW⟩]
def textA : ByteArray := ⟨#[116, 111, 32, 116, 104, 101, 32, 106, 117, 100, 103, 101, 10, 105, 32, 97, 115, 107, 32, 109, 101, 114, 99, 121, 10]⟩
def textB : ByteArray := ⟨#[116, 111, 32, 116, 104, 101, 10]⟩
def textW : ByteArray := ⟨#[116, 111, 32, 116, 104, 101, 32, 106, 117, 100, 103, 101, 32, 105, 10, 97, 115, 107, 32, 109, 101, 114, 99, 121, 10]⟩

theorem e_make : makeErrM shelfE 0 [[wJudge], [wMercy]] = 0 := by kernel_rfl
theorem e_built : builtM (formOf shelfE 0).parts [[wJudge], [wMercy]] = letA := by kernel_rfl
theorem e_ofC : ofM shelfE letC = [2] := by kernel_rfl
theorem e_errC : shelfErrM shelfE letC = 0 := by kernel_rfl
theorem e_fillC : fillRes shelfE 2 letC = ⟨[[wA], [wB, wC]], 2, 0⟩ := by kernel_rfl
theorem e_errA : shelfErrM shelfE letA = 0 := by kernel_rfl
theorem e_textA : writeM shelfE letA = textA := by kernel_rfl
theorem e_readA : readM shelfE textA = (letA, 0) := by kernel_rfl
theorem e_fewE : fewErrM letA letB = 0 := by kernel_rfl
theorem e_fewM : fewMarksM letA letB = marksE := by kernel_rfl
theorem e_fewN : fewManyM letA letB = 2 := by kernel_rfl
theorem e_apply : applyM marksE letA = ⟨letB, 0⟩ := by kernel_rfl
theorem e_mend2 : mendM shelfE 2 letA = 2 := by kernel_rfl
theorem e_mendE2 : openForErrM shelfE 2 letA = 0 := by kernel_rfl
theorem e_near : nearV shelfE letA = (0, 0) := by kernel_rfl
theorem e_nearE : nearErrM shelfE letA = 0 := by kernel_rfl
theorem e_readB : (readM shelfE textB).2 = 0 := by kernel_rfl
theorem e_readW : (readM shelfE textW).2 = 6 := by kernel_rfl
theorem e_mendE3 : openForErrM shelfE 3 letA = 4 := by kernel_rfl
theorem e_ofA : ofM shelfE letA = [0] := by kernel_rfl
theorem e_ofN : ofM shelfE letN = [1] := by kernel_rfl
theorem e_errN : shelfErrM shelfE letN = 0 := by kernel_rfl
theorem e_fillA : fillRes shelfE 0 letA = ⟨[[wJudge], [wMercy]], 1, 0⟩ := by kernel_rfl
theorem e_mend0 : mendM shelfE 0 letA = 0 := by kernel_rfl
theorem e_mend1 : mendM shelfE 1 letA = 1 := by kernel_rfl
theorem e_mendE0 : openForErrM shelfE 0 letA = 0 := by kernel_rfl
theorem e_mendE1 : openForErrM shelfE 1 letA = 0 := by kernel_rfl

/-! ### what a byte parts -/
theorem e_splitA : splitM 32 ⟨#[116, 111, 32, 116, 104, 101, 32, 106, 117, 100, 103, 101, 32, 105, 32, 97, 115, 107, 32, 109, 101, 114, 99, 121]⟩ = letA := by kernel_rfl
theorem e_splitB : splitM 32 ⟨#[116, 111, 32, 106, 117, 100, 103, 101, 32, 105, 32, 97, 115, 107, 32, 102, 111, 114, 32, 109, 101, 114, 99, 121]⟩ = letB := by kernel_rfl
theorem e_splitC : splitM 32 ⟨#[97, 32, 98, 32, 99]⟩ = letC := by kernel_rfl
end Go.Proofs.YtcamegaimleomaaGreat

namespace Go.Proofs.YtcamegaimleomaaGreat
set_option linter.unusedSimpArgs false
set_option linter.unusedVariables false
open Go.RowKit
set_option linter.unusedVariables false

theorem split_hit {c : UInt8} {l : List UInt8} {L : List (List UInt8)} {b k : Nat} (hk : k < l.length) (hc : l[k] = c) (h : splitB c l [] = L ++ splitB c (l.drop k) ((l.drop b).take (k - b))) :
    splitB c l [] = (L ++ [(l.drop b).take (k - b)]) ++ splitB c (l.drop (k + 1)) ((l.drop (k + 1)).take (k + 1 - (k + 1))) := by
  rw [h, List.drop_eq_getElem_cons hk, splitB, if_pos hc, Nat.sub_self, List.take_zero, List.append_assoc]
  rfl
theorem split_miss {c : UInt8} {l : List UInt8} {L : List (List UInt8)} {b k : Nat} (hk : k < l.length) (hb : b ≤ k) (hc : l[k] ≠ c) (h : splitB c l [] = L ++ splitB c (l.drop k) ((l.drop b).take (k - b))) :
    splitB c l [] = L ++ splitB c (l.drop (k + 1)) ((l.drop b).take (k + 1 - b)) := by
  rw [h, List.drop_eq_getElem_cons hk, splitB, if_neg hc]
  congr 2
  rw [show k + 1 - b = (k - b) + 1 from by omega, List.take_succ_eq_append_getElem (by rw [List.length_drop]; omega), List.getElem_drop]
  congr 3
  omega
theorem extract_part (s : ByteArray) (b k : Nat) : s.extract b k = ⟨((s.data.toList.drop b).take (k - b)).toArray⟩ := by
  apply ByteArray.ext
  rw [ByteArray.data_extract]
  apply Array.toList_inj.1
  rw [Array.toList_extract, List.extract_eq_take_drop]
theorem StrsAt.oneAt {w : World} {s : ByteArray} {t : TypeId} {B : Nat} (hB : w.heap.size = B) (h : s.size ≤ 9223372036854775807) : StrsAt (w.alloc (.cells #[.string s] t)) (.slice (some ⟨B, 0, none⟩) 1 1) [s] := by
  subst hB
  refine ⟨_, _, rfl, Nat.le_refl _, by omega, fun i hi => ?_⟩
  obtain rfl : i = 0 := by simpa using hi
  exact ⟨_, _, rfl, by simp [go_sem], h⟩
set_option maxHeartbeats 1000000 in
set_option maxRecDepth 100000 in
theorem split_any (c : UInt8) (s : ByteArray) (hs : s.size ≤ 1000000) (w : World) :
    Calls Tryz.prog 107 #[.string s, .int .u8 (c.toNat : Nat)] w fun e w' => ∃ u, e = .returned u ∧ RowW w.heap.size (splitM c s) u w' ∧ Ext w w' := by
  obtain ⟨i0, hi, hz0, hz1, hz2⟩ := info_parts infoString
  go_enter Tryz.func107, Tryz.ntmps107
  go_wp2_with fail
  go_loopw [5, 6, 7] (fun u b i wr => ∃ (k n : Nat) (L : List (List UInt8)), k ≤ s.size ∧ n ≤ k ∧ L.length ≤ k ∧ b = .int .i64 n ∧ i = .int .i64 k ∧ Ext w wr ∧ RowW w.heap.size (L.map fun l => ⟨l.toArray⟩) u wr ∧ splitB c s.data.toList [] = L ++ splitB c (s.data.toList.drop k) ((s.data.toList.drop n).take (k - n))) (fun _ _ i _ => s.size - (intOf i).toNat)
  case atStart => exact ⟨0, 0, [], Nat.zero_le _, Nat.zero_le _, Nat.zero_le _, rfl, rfl, Ext.refl _, RowW.nil, by simp⟩
  case round =>
    obtain ⟨k, n, L, hk, hn, hL, rfl, rfl, hxr, hown, hsp⟩ := hrel
    have hsz : s.data.toList.length = s.size := rfl
    by_cases hlt : k < s.size
    · have k1 : (k : Int) < (s.size : Int) := by omega
      have hit := split_hit (c := c) (L := L) (b := n) (k := k) (show k < s.data.toList.length from hlt)
      have miss := split_miss (c := c) (L := L) (b := n) (k := k) (show k < s.data.toList.length from hlt) hn
      have hge : s.data.toList[k]'hlt = s[k]'hlt := rfl
      rw [hge] at hit miss
      have Hit := Lib.hid hit
      have Miss := Lib.hid miss
      have Hsp := Lib.hid hsp
      clear hit miss hsp hge
      by_cases h0 : s[k]'hlt = c
      · have h1 : (((s[k]'hlt).toNat : Int) == (c.toNat : Int)) = true := by rw [h0]; simp
        have H0 := Lib.hid h0
        have hone := fun (x : ByteArray) (hx : x.size ≤ 9223372036854775807) => StrsAt.oneAt (w := wr) (s := x) (t := 9) rfl hx
        have hmap : (L.map fun l => (⟨l.toArray⟩ : ByteArray)).length = L.length := List.length_map ..
        have hxe : (s.extract n k).size ≤ 9223372036854775807 := by rw [ByteArray.size_extract]; omega
        have hw1 := hone _ hxe
        have own1 := RowW.ext hown (ext_alloc wr (.cells #[.string (s.extract n k)] 9))
        have hzr := hxr.size
        clear h0 hone hmap hown
        go_wp2_with ((at_builtin; go_loud (refine wpList_append_strs rfl _ _ 25 rfl w.heap.size i0 Tryz.underlying25 hi hz0 hz1 hz2 u5 _ rfl own1 (.slice (some ⟨wr.heap.size, 0, none⟩) 1 1) rfl [s.extract n k] hw1 (by simp only [List.length_map, List.length_cons, List.length_nil]; omega) (by simp; omega) ?_; intro v' w2 hown' hgrow _)))
        have hx3 : Ext w w2 := Ext.grown (hxr.alloc _) hgrow fun k hk => (World.ownsRow.lt own1 k hk).1
        go_roundw
        case rel => exact ⟨k + 1, k + 1, L ++ [(s.data.toList.drop n).take (k - n)], by omega, Nat.le_refl _, by simp; omega, by go_num, by go_num, hx3, by rw [List.map_append, List.map_singleton, ← extract_part]; exact hown', Hit.out H0.out Hsp.out⟩
        case measure => simp [intOf]; omega
      · have h1 : (((s[k]'hlt).toNat : Int) == (c.toNat : Int)) = false := by
          rw [beq_eq_false_iff_ne]
          intro e
          exact h0 (UInt8.toNat_inj.1 (by omega))
        have H0 := Lib.hid h0
        clear h0
        go_wp2
        go_roundw
        case rel => exact ⟨k + 1, n, L, by omega, by omega, by omega, rfl, by go_num, hxr, hown, Miss.out H0.out Hsp.out⟩
        case measure => simp [intOf]; omega
    · obtain rfl : k = s.size := by omega
      have k1 : ¬ (s.size : Int) < (s.size : Int) := by omega
      have hall : splitM c s = (L.map fun l => (⟨l.toArray⟩ : ByteArray)) ++ [s.extract n s.size] := by
        unfold splitM
        rw [hsp, List.drop_of_length_le (by omega), splitB, List.map_append, List.map_singleton, extract_part]
      have Hall := Lib.hid hall
      clear hall hsp
      have hxe : (s.extract n s.size).size ≤ 9223372036854775807 := by rw [ByteArray.size_extract]; omega
      have hw1 := StrsAt.oneAt (w := wr) (s := s.extract n s.size) (t := 9) rfl hxe
      have own1 := RowW.ext hown (ext_alloc wr (.cells #[.string (s.extract n s.size)] 9))
      have hzr := hxr.size
      clear hown
      go_wp2_with ((at_builtin; go_loud (refine wpList_append_strs rfl _ _ 25 rfl w.heap.size i0 Tryz.underlying25 hi hz0 hz1 hz2 u5 _ rfl own1 (.slice (some ⟨wr.heap.size, 0, none⟩) 1 1) rfl [s.extract n s.size] hw1 (by simp only [List.length_map, List.length_cons, List.length_nil]; omega) (by simp; omega) ?_; intro v' w2 hown' hgrow _)))
      have hx3 : Ext w w2 := Ext.grown (hxr.alloc _) hgrow fun k hk => (World.ownsRow.lt own1 k hk).1
      go_ret
      exact ⟨_, rfl, by rw [Hall.out]; exact hown', hx3⟩
end Go.Proofs.YtcamegaimleomaaGreat

namespace Go.Proofs.YtcamegaimleomaaGreat
set_option linter.unusedSimpArgs false
set_option linter.unusedVariables false
open Go.RowKit
set_option linter.unusedVariables false
set_option linter.unusedSimpArgs false

theorem splitB_size (c : UInt8) : ∀ (l cur : List UInt8), ∀ x ∈ splitB c l cur, x.length ≤ cur.length + l.length
  | [], cur => by simp [splitB]
  | y :: r, cur => by
    intro x hx
    rw [splitB] at hx
    split at hx
    · rcases List.mem_cons.1 hx with rfl | hx
      · simp
      · have := splitB_size c r [] x hx
        simp at this ⊢; omega
    · have := splitB_size c r _ x hx
      simp at this ⊢; omega
theorem splitM_size (c : UInt8) (s : ByteArray) : ∀ x ∈ splitM c s, x.size ≤ s.size := by
  intro x hx
  unfold splitM at hx
  obtain ⟨l, hl, rfl⟩ := List.mem_map.1 hx
  have h := splitB_size c _ _ l hl
  have : s.data.toList.length = s.size := rfl
  show l.toArray.size ≤ _
  simp at h ⊢; omega
theorem RowW.new {base : Nat} {l : List ByteArray} {u : Value} {w : World} (h : RowW base l u w) : ∀ a n c, u = .slice a n c → ∀ ad, a = some ad → base ≤ ad.block := by
  intro a n c hu ad ha
  rcases h.2 with ⟨rfl, hn⟩ | ⟨g, cap, cur, rfl, hb, -⟩
  · cases hu; cases ha
  · cases hu; cases ha; exact hb
theorem StrsAt.set {w : World} {a : Option Addr} {n c : Nat} {l : List ByteArray} {p : Addr} (h : StrsAt w (.slice a n c) l) (hne : ∀ ad, a = some ad → ad.block ≠ p.block) (v : Value) : StrsAt (w.setCell p v) (.slice a n c) l := by
  obtain ⟨a', c', e, h2, h3, h4⟩ := h
  obtain ⟨rfl, rfl, rfl⟩ := Value.slice.inj e
  refine ⟨_, _, rfl, h2, h3, fun i hi => ?_⟩
  obtain ⟨b, o, rfl, r1, r2⟩ := h4 i hi
  exact ⟨b, o, rfl, set_other r1 (.inl (hne _ rfl).symm) v, r2⟩
theorem words_any (s : ByteArray) (l : List ByteArray) (hl : splitM 32 s = l) (hs : s.size ≤ 1000000) (w : World) :
    Calls Tryz.prog 51 #[.string s] w fun e w' => (∃ a c, e = .returned (.slice a l.length c) ∧ StrsAt w' (.slice a l.length c) l ∧ ∀ ad, a = some ad → w.heap.size ≤ ad.block) ∧ Ext w w' := by
  have hsp := split_any 32 s hs
  rw [show ((32 : UInt8).toNat : Int) = 32 from rfl] at hsp
  have hsz := splitM_size 32 s
  rw [hl] at hsp hsz
  go_enter Tryz.func51, Tryz.ntmps51
  go_wp2_with fail
  refine (hsp _).mono ?_
  rintro e w1 ⟨u, rfl, hrow, hx⟩
  have hat := hrow.at_ fun x hx => Nat.le_trans (hsz x hx) (by omega)
  have hnew := hrow.new
  obtain ⟨a, c, rfl, -⟩ := hat.shape
  go_wp2
  go_ret
  exact ⟨⟨_, _, rfl, hat, hnew a _ _ rfl⟩, hx⟩
theorem span_any (lo hi : Int) (w : World) : Calls Tryz.prog 29 #[.int .i64 lo, .int .i64 hi] w fun e w' => e = .returned (.agg #[.int .i64 lo, .int .i64 hi]) ∧ Ext w w' := by
  go_enter Tryz.func29, Tryz.ntmps29
  go_wp2
  refine bodyPost_ret (v := .agg #[.int .i64 lo, .int .i64 hi]) (by simp [results, Tryz.results29, go_sem]) rfl ⟨rfl, ?_⟩
  exact ext_alloc _ _
theorem room_any (lo hi : Int) (w : World) : Calls Tryz.prog 85 #[.int .i64 lo, .int .i64 hi] w fun e w' => e = .returned (.agg #[.slice none 0 0, .int .i64 lo, .int .i64 hi]) ∧ Ext w w' := by
  go_enter Tryz.func85, Tryz.ntmps85
  go_wp2_with fail
  refine (span_any _ _ _).mono ?_
  rintro e w1 ⟨rfl, hx⟩
  have q0 : w1.cell? ⟨w.heap.size, 0, none⟩ = some (.slice none 0 0) := hx.cell (by simp [go_sem])
  have q1 : w1.cell? ⟨w.heap.size, 1, none⟩ = some (.int .i64 0) := hx.cell (by simp [go_sem])
  have q2 : w1.cell? ⟨w.heap.size, 2, none⟩ = some (.int .i64 0) := hx.cell (by simp [go_sem])
  have z1 := cell_lt q0
  have fz : ∀ o, w1.frozen? ⟨w.heap.size, o, none⟩ = false := fun o => by rw [hx.frozen (by simp)]; simp [go_sem]
  have x1 : Ext w w1 := hx.of_alloc
  clear hx
  go_wp2
  have r := three_cells q0 q1 q2 (.slice none 0 0) (.int .i64 lo) (.int .i64 hi)
  refine bodyPost_ret (v := .agg #[.slice none 0 0, .int .i64 lo, .int .i64 hi]) (by simp [results, Tryz.results85, go_sem, r.1, r.2.1, r.2.2]) rfl ⟨rfl, ?_⟩
  exact ((x1.setCell (Nat.le_refl _) _).setCell (Nat.le_refl _) _).setCell (Nat.le_refl _) _
theorem lawGiven_any (s : ByteArray) (l : List ByteArray) (hl : splitM 32 s = l) (hs : s.size ≤ 1000000) (w : World) :
    Calls Tryz.prog 84 #[.string s] w fun e w' => (∃ a c, e = .returned (.agg #[.slice a l.length c, .int .i64 0, .int .i64 0]) ∧ StrsAt w' (.slice a l.length c) l ∧ ∀ ad, a = some ad → w.heap.size < ad.block) ∧ Ext w w' := by
  go_enter Tryz.func84, Tryz.ntmps84
  go_wp2_with fail
  refine (words_any s l hl hs _).mono ?_
  rintro e w1 ⟨⟨a, c, rfl, hat, hnew⟩, hx⟩
  have q0 : w1.cell? ⟨w.heap.size, 0, none⟩ = some (.slice none 0 0) := hx.cell (by simp [go_sem])
  have q1 : w1.cell? ⟨w.heap.size, 1, none⟩ = some (.int .i64 0) := hx.cell (by simp [go_sem])
  have q2 : w1.cell? ⟨w.heap.size, 2, none⟩ = some (.int .i64 0) := hx.cell (by simp [go_sem])
  have z1 := cell_lt q0
  have fz : ∀ o, w1.frozen? ⟨w.heap.size, o, none⟩ = false := fun o => by rw [hx.frozen (by simp)]; simp [go_sem]
  have x1 : Ext w w1 := hx.of_alloc
  clear hx
  go_wp2
  have r := three_cells q0 q1 q2 (.slice a l.length c) (.int .i64 0) (.int .i64 0)
  refine bodyPost_ret (v := .agg #[.slice a l.length c, .int .i64 0, .int .i64 0]) (by simp [results, Tryz.results84, go_sem, r.1, r.2.1, r.2.2]) rfl ⟨⟨_, _, rfl, ?_, fun ad e => by have := hnew ad e; simp at this; omega⟩, ?_⟩
  · have hne : ∀ ad, a = some ad → ad.block ≠ w.heap.size := fun ad e h => by
      have := hnew ad e
      simp at this
      omega
    exact ((hat.set hne _).set hne _).set hne _
  · exact ((x1.setCell (Nat.le_refl _) _).setCell (Nat.le_refl _) _).setCell (Nat.le_refl _) _
/-- parts that lie behind a block -/
def partN (B : Nat) (w : World) (b o : Nat) (p : Part) : Prop := B < b ∧ (∃ a n c, w.cell? ⟨b, o, none⟩ = some (.slice a n c) ∧ StrsAt w (.slice a n c) p.words ∧ ∀ ad, a = some ad → B < ad.block) ∧ w.cell? ⟨b, o + 1, none⟩ = some (.int .i64 p.lo) ∧ w.cell? ⟨b, o + 2, none⟩ = some (.int .i64 p.hi) ∧ I64 p.lo ∧ I64 p.hi
theorem partN.keeps (B : Nat) : Keeps (partN B) := fun _ _ _ _ _ hx h => by
  obtain ⟨h0, ⟨a, n, c, h1, h2, h3⟩, h4, h5, h6⟩ := h
  exact ⟨h0, ⟨a, n, c, hx.cell h1, h2.ext hx, h3⟩, hx.cell h4, hx.cell h5, h6⟩
abbrev PartsN (B : Nat) : World → Value → List Part → Prop := SliceAt 3 (partN B)
theorem PartsN.ext {B : Nat} {w w' : World} {v : Value} {l : List Part} (h : PartsN B w v l) (hx : Ext w w') : PartsN B w' v l := SliceAt.ext (partN.keeps B) h hx
theorem PartsN.at_ {B : Nat} {w : World} {v : Value} {l : List Part} (h : PartsN B w v l) : PartsAt w v l := by
  obtain ⟨a, c, e, h2, h3, h4⟩ := h
  refine ⟨a, c, e, h2, h3, fun i hi => ?_⟩
  obtain ⟨b, o, e, h0, ⟨a, n, c, r1, r2, -⟩, r⟩ := h4 i hi
  exact ⟨b, o, e, ⟨_, r1, r2⟩, r⟩
theorem PartsN.set {B o : Nat} {w : World} {v : Value} {l : List Part} (h : PartsN B w v l) (x : Value) : PartsN B (w.setCell ⟨B, o, none⟩ x) v l := by
  obtain ⟨a, c, e, h2, h3, h4⟩ := h
  refine ⟨a, c, e, h2, h3, fun i hi => ?_⟩
  obtain ⟨b, o, e, h0, ⟨a, n, c, r1, r2, r3⟩, r4, r5, r6⟩ := h4 i hi
  have hb : B ≠ b := by omega
  refine ⟨b, o, e, h0, ⟨a, n, c, set_other r1 (.inl hb) _, r2.set (fun ad e => ?_) _, r3⟩, set_other r4 (.inl hb) _, set_other r5 (.inl hb) _, r6⟩
  have := r3 ad e
  show ad.block ≠ B
  omega
def parts1 : List Part := [givenP [wTo, wThe], roomP 1 2, givenP [wI, wAsk], roomP 1 3]
def parts2 : List Part := [roomP 1 2, givenP [wI, wAsk], roomP 0 2]
def parts3 : List Part := [roomP 1 2, roomP 1 2]
set_option maxRecDepth 100000 in
set_option maxHeartbeats 2000000 in
theorem Shelf_any (w : World) : Calls Tryz.prog 34 #[] w fun e w' => ∃ v, e = .returned v ∧ ShelfAt w' v shelfE ∧ Ext w w' := by
  go_enter Tryz.func34, Tryz.ntmps34
  go_wp2_with fail
  refine (lawGiven_any _ [wTo, wThe] (by kernel_rfl) (by decide) _).mono ?_
  rintro e w1 ⟨⟨a1, c1, rfl, h1, n1⟩, x1⟩
  go_wp2_with fail
  refine (room_any _ _ _).mono ?_
  rintro e w2 ⟨rfl, x2⟩
  go_wp2_with fail
  refine (lawGiven_any _ [wI, wAsk] (by kernel_rfl) (by decide) _).mono ?_
  rintro e w3 ⟨⟨a3, c3, rfl, h3, n3⟩, x3⟩
  go_wp2_with fail
  refine (room_any _ _ _).mono ?_
  rintro e w4 ⟨rfl, x4⟩
  have hr : ∀ lo hi : Int, 0 ≤ lo ∧ lo ≤ 3 ∧ 0 ≤ hi ∧ hi ≤ 3 → I64 lo ∧ I64 hi := fun lo hi h => ⟨⟨by omega, by omega⟩, by constructor <;> omega⟩
  have b1 := x1.size
  have b2 := x2.size
  have b3 := x3.size
  have b4 := x4.size
  simp only [World.size_alloc] at b1 n1
  have p1 : PartsN w.heap.size (w4.alloc (.cells #[.slice a1 2 c1, .int .i64 0, .int .i64 0, .slice none 0 0, .int .i64 1, .int .i64 2, .slice a3 2 c3, .int .i64 0, .int .i64 0, .slice none 0 0, .int .i64 1, .int .i64 3] 59)) (.slice (some ⟨w4.heap.size, 0, none⟩) 4 4) parts1 := ⟨_, _, rfl, by decide, by decide, fun i hi => by
    have : i = 0 ∨ i = 1 ∨ i = 2 ∨ i = 3 := by simp [parts1] at hi; omega
    refine ⟨_, _, rfl, ?_⟩
    rcases this with rfl | rfl | rfl | rfl
    · exact ⟨by omega, ⟨a1, 2, c1, by simp [go_sem], (h1.ext (x2.trans (x3.trans x4))).ext (ext_alloc _ _), fun ad e => by have := n1 ad e; omega⟩, by simp [go_sem, parts1, givenP], by simp [go_sem, parts1, givenP], hr _ _ (by simp [parts1, parts2, parts3, roomP, givenP])⟩
    · exact ⟨by omega, ⟨none, 0, 0, by simp [go_sem], SliceAt.nil, fun ad e => (by cases e)⟩, by simp [go_sem, parts1, roomP], by simp [go_sem, parts1, roomP], hr _ _ (by simp [parts1, parts2, parts3, roomP, givenP])⟩
    · exact ⟨by omega, ⟨a3, 2, c3, by simp [go_sem], (h3.ext x4).ext (ext_alloc _ _), fun ad e => by have := n3 ad e; omega⟩, by simp [go_sem, parts1, givenP], by simp [go_sem, parts1, givenP], hr _ _ (by simp [parts1, parts2, parts3, roomP, givenP])⟩
    · exact ⟨by omega, ⟨none, 0, 0, by simp [go_sem], SliceAt.nil, fun ad e => (by cases e)⟩, by simp [go_sem, parts1, roomP], by simp [go_sem, parts1, roomP], hr _ _ (by simp [parts1, parts2, parts3, roomP, givenP])⟩⟩
  have q0 : w4.cell? ⟨w.heap.size, 0, none⟩ = some (.int .i64 0) := (x2.trans (x3.trans x4)).cell (x1.cell (by simp [go_sem]))
  have q1 : w4.cell? ⟨w.heap.size, 1, none⟩ = some (.slice none 0 0) := (x2.trans (x3.trans x4)).cell (x1.cell (by simp [go_sem]))
  have z4 := cell_lt q0
  have fz4 : ∀ o, w4.frozen? ⟨w.heap.size, o, none⟩ = false := fun o => by rw [((x1.trans x2).trans (x3.trans x4)).frozen (by simp)]; simp [go_sem]
  have y4 : Ext w w4 := ((x1.trans x2).trans (x3.trans x4)).of_alloc
  clear h1 h3 x1 x2 x3 x4
  go_wp2_with fail
  refine (room_any _ _ _).mono ?_
  rintro e w5 ⟨rfl, x5⟩
  go_wp2_with fail
  refine (lawGiven_any _ [wI, wAsk] (by kernel_rfl) (by decide) _).mono ?_
  rintro e w6 ⟨⟨a6, c6, rfl, h6, n6⟩, x6⟩
  go_wp2_with fail
  refine (room_any _ _ _).mono ?_
  rintro e w7 ⟨rfl, x7⟩
  replace p1 := p1.ext (x5.trans (x6.trans x7))
  have b5 := x5.size
  have b6 := x6.size
  have b7 := x7.size
  simp only [World.size_alloc] at b5
  have p2 : PartsN w.heap.size (w7.alloc (.cells #[.slice none 0 0, .int .i64 1, .int .i64 2, .slice a6 2 c6, .int .i64 0, .int .i64 0, .slice none 0 0, .int .i64 0, .int .i64 2] 59)) (.slice (some ⟨w7.heap.size, 0, none⟩) 3 3) parts2 := ⟨_, _, rfl, by decide, by decide, fun i hi => by
    have : i = 0 ∨ i = 1 ∨ i = 2 := by simp [parts2] at hi; omega
    refine ⟨_, _, rfl, ?_⟩
    rcases this with rfl | rfl | rfl
    · exact ⟨by omega, ⟨none, 0, 0, by simp [go_sem], SliceAt.nil, fun ad e => (by cases e)⟩, by simp [go_sem, parts2, roomP], by simp [go_sem, parts2, roomP], hr _ _ (by simp [parts1, parts2, parts3, roomP, givenP])⟩
    · exact ⟨by omega, ⟨a6, 2, c6, by simp [go_sem], (h6.ext x7).ext (ext_alloc _ _), fun ad e => by have := n6 ad e; omega⟩, by simp [go_sem, parts2, givenP], by simp [go_sem, parts2, givenP], hr _ _ (by simp [parts1, parts2, parts3, roomP, givenP])⟩
    · exact ⟨by omega, ⟨none, 0, 0, by simp [go_sem], SliceAt.nil, fun ad e => (by cases e)⟩, by simp [go_sem, parts2, roomP], by simp [go_sem, parts2, roomP], hr _ _ (by simp [parts1, parts2, parts3, roomP, givenP])⟩⟩
  have y7 := (x5.trans (x6.trans x7)).of_alloc
  have s4 := z4
  replace q0 := y7.cell q0
  replace q1 := y7.cell q1
  replace z4 := cell_lt q0
  have fz7 : ∀ o, w7.frozen? ⟨w.heap.size, o, none⟩ = false := fun o => by rw [y7.frozen (p := ⟨w.heap.size, o, none⟩) s4]; exact fz4 o
  clear h6 x5 x6 x7 fz4 s4
  go_wp2_with fail
  refine (room_any _ _ _).mono ?_
  rintro e w8 ⟨rfl, x8⟩
  go_wp2_with fail
  refine (room_any _ _ _).mono ?_
  rintro e w9 ⟨rfl, x9⟩
  replace p1 := (p1.ext (ext_alloc _ _)).ext (x8.trans x9)
  replace p2 := p2.ext (x8.trans x9)
  have b8 := x8.size
  have b9 := x9.size
  simp only [World.size_alloc] at b8
  have y9 := (x8.trans x9).of_alloc
  have s7 := z4
  replace q0 := y9.cell q0
  replace q1 := y9.cell q1
  replace z4 := cell_lt q0
  have fz9 : ∀ o, w9.frozen? ⟨w.heap.size, o, none⟩ = false := fun o => by rw [y9.frozen (p := ⟨w.heap.size, o, none⟩) s7]; exact fz7 o
  have y := (y4.trans y7).trans y9
  clear y4 y7 y9 x8 x9 fz7 s7
  replace p1 := (p1.set (o := 0) (.int .i64 12)).set (o := 1) (.slice (some ⟨w9.heap.size + 1, 0, none⟩) 3 3)
  replace p2 := (p2.set (o := 0) (.int .i64 12)).set (o := 1) (.slice (some ⟨w9.heap.size + 1, 0, none⟩) 3 3)
  have c0 : ((w9.setCell ⟨w.heap.size, 0, none⟩ (.int .i64 12)).setCell ⟨w.heap.size, 1, none⟩ (.slice (some ⟨w9.heap.size + 1, 0, none⟩) 3 3)).cell? ⟨w.heap.size, 0, none⟩ = some (.int .i64 12) := set_other (set_cell q0 _) (.inr (by simp)) _
  have c1 : ((w9.setCell ⟨w.heap.size, 0, none⟩ (.int .i64 12)).setCell ⟨w.heap.size, 1, none⟩ (.slice (some ⟨w9.heap.size + 1, 0, none⟩) 3 3)).cell? ⟨w.heap.size, 1, none⟩ = some (.slice (some ⟨w9.heap.size + 1, 0, none⟩) 3 3) := set_cell (set_other q1 (.inr (by simp)) _) _
  have y2 : Ext w ((w9.setCell ⟨w.heap.size, 0, none⟩ (.int .i64 12)).setCell ⟨w.heap.size, 1, none⟩ (.slice (some ⟨w9.heap.size + 1, 0, none⟩) 3 3)) := (y.setCell (Nat.le_refl _) _).setCell (Nat.le_refl _) _
  have hsz : ((w9.setCell ⟨w.heap.size, 0, none⟩ (.int .i64 12)).setCell ⟨w.heap.size, 1, none⟩ (.slice (some ⟨w9.heap.size + 1, 0, none⟩) 3 3)).heap.size = w9.heap.size := by simp
  go_wp2
  generalize (w9.setCell ⟨w.heap.size, 0, none⟩ (.int .i64 12)).setCell ⟨w.heap.size, 1, none⟩ (.slice (some ⟨w9.heap.size + 1, 0, none⟩) 3 3) = W at *
  have c0' := ((ext_alloc W (.cells #[.slice none 0 0, .int .i64 1, .int .i64 2, .slice none 0 0, .int .i64 1, .int .i64 2] 59)).trans (ext_alloc _ (.cells #[.string ⟨#[112, 108, 101, 97]⟩, .slice (some ⟨w4.heap.size, 0, none⟩) 4 4, .string ⟨#[110, 111, 116, 101]⟩, .slice (some ⟨w7.heap.size, 0, none⟩) 3 3, .string ⟨#[108, 105, 115, 116]⟩, .slice (some ⟨w9.heap.size, 0, none⟩) 2 2] 55))).cell c0
  have c1' := ((ext_alloc W (.cells #[.slice none 0 0, .int .i64 1, .int .i64 2, .slice none 0 0, .int .i64 1, .int .i64 2] 59)).trans (ext_alloc _ (.cells #[.string ⟨#[112, 108, 101, 97]⟩, .slice (some ⟨w4.heap.size, 0, none⟩) 4 4, .string ⟨#[110, 111, 116, 101]⟩, .slice (some ⟨w7.heap.size, 0, none⟩) 3 3, .string ⟨#[108, 105, 115, 116]⟩, .slice (some ⟨w9.heap.size, 0, none⟩) 2 2] 55))).cell c1
  refine bodyPost_ret (v := .agg #[.int .i64 12, .slice (some ⟨w9.heap.size + 1, 0, none⟩) 3 3]) (by simp [results, Tryz.results34, go_sem, c0', c1']) rfl ⟨_, rfl, ⟨_, rfl, by constructor <;> decide, ?_⟩, (y2.alloc _).alloc _⟩
  have p3 : PartsAt (W.alloc (.cells #[.slice none 0 0, .int .i64 1, .int .i64 2, .slice none 0 0, .int .i64 1, .int .i64 2] 59)) (.slice (some ⟨w9.heap.size, 0, none⟩) 2 2) parts3 := ⟨_, _, rfl, by decide, by decide, fun i hi => by
    have : i = 0 ∨ i = 1 := by simp [parts3] at hi; omega
    refine ⟨_, _, rfl, ?_⟩
    rcases this with rfl | rfl
    · exact ⟨⟨.slice none 0 0, by simp [go_sem, hsz], SliceAt.nil⟩, by simp [go_sem, hsz, parts3, roomP], by simp [go_sem, hsz, parts3, roomP], hr _ _ (by simp [parts3, roomP])⟩
    · exact ⟨⟨.slice none 0 0, by simp [go_sem, hsz], SliceAt.nil⟩, by simp [go_sem, hsz, parts3, roomP], by simp [go_sem, hsz, parts3, roomP], hr _ _ (by simp [parts3, roomP])⟩⟩
  refine ⟨_, _, rfl, by decide, by decide, fun i hi => ?_⟩
  have hi3 : i = 0 ∨ i = 1 ∨ i = 2 := by simp [shelfE] at hi; omega
  refine ⟨_, _, rfl, ?_⟩
  rcases hi3 with rfl | rfl | rfl
  · exact ⟨by simp [go_sem, hsz, shelfE], by simp [shelfE]; decide, _, by simp [go_sem, hsz], (p1.at_.ext (ext_alloc _ _)).ext (ext_alloc _ _)⟩
  · exact ⟨by simp [go_sem, hsz, shelfE], by simp [shelfE]; decide, _, by simp [go_sem, hsz], (p2.at_.ext (ext_alloc _ _)).ext (ext_alloc _ _)⟩
  · exact ⟨by simp [go_sem, hsz, shelfE], by simp [shelfE]; decide, _, by simp [go_sem, hsz], p3.ext (ext_alloc _ _)⟩
end Go.Proofs.YtcamegaimleomaaGreat

namespace Go.Proofs.YtcamegaimleomaaGreat
set_option linter.unusedSimpArgs false
set_option linter.unusedVariables false
open Go.RowKit
set_option linter.unusedVariables false

/-- what a mark writes -/
def markW (m : Mark) (l : List ByteArray) : List ByteArray := if markErrM m l = 0 then becM m.kind.toNat l m.word else []
set_option maxRecDepth 100000 in
set_option maxHeartbeats 4000000 in
theorem refMark_any (v : Value) (m : Mark) (l : List ByteArray) (w : World) (hk : I64 m.kind) (hm : m.word.size ≤ 9223372036854775807) (hl : StrsAt w v l) :
    Calls Tryz.prog 61 #[.agg #[.int .i64 m.kind, .string m.word], v] w fun e w' => ∃ u, e = .returned (.tuple #[u, .int .i64 (markErrM m l)]) ∧ StrsAt w' u (markW m l) ∧ Ext w w' := by
  obtain ⟨la, lc, rfl, hlc, hlm⟩ := hl.shape
  obtain ⟨kd, wd⟩ := m
  simp only at hk hm ⊢
  by_cases hin : 0 ≤ kd ∧ kd ≤ 3
  · obtain ⟨k, rfl⟩ : ∃ k : Nat, kd = k := ⟨kd.toNat, by omega⟩
    have hk4 : k = 0 ∨ k = 1 ∨ k = 2 ∨ k = 3 := by omega
    clear hin hk
    rcases hk4 with rfl | rfl | rfl | rfl
    · cases hw : wd.toList == []
      · have hw' : (wd.toList != []) = true := by simp [bne, hw]
        have he : markErrM ⟨(0 : Nat), wd⟩ l = 6 := by
          unfold markErrM
          rw [if_neg (by simp), if_pos (by simp only [kWr]; rw [hw]; rfl)]
        (have he' : markW ⟨((0 : Nat) : Int), wd⟩ l = [] := (by unfold markW; rw [if_neg (by rw [he]; decide)]); have He := Lib.hid he; have He' := Lib.hid he'; clear he' he)
        (go_enter Tryz.func61, Tryz.ntmps61; go_wp2_with fail; refine (In_any _ _ _ _).mono ?_; rw [show inM 0 0 3 = true from rfl]; rintro e w1 ⟨rfl, rfl⟩; go_wp2_with fail)
        go_ret2
        exact ⟨_, by rw [He.out]; rfl, by rw [He'.out]; exact SliceAt.nil, (by first | (with_reducible exact Ext.refl _) | (with_reducible assumption) | (show Below _ _ _; go_grown; done))⟩
      · have hw' : (wd.toList != []) = false := by simp [bne, hw]
        by_cases h0 : l.length = 0
        · have he : markErrM ⟨(0 : Nat), wd⟩ l = 4 := by
            unfold markErrM
            rw [if_neg (by simp), if_neg (by simp [kWr, hw]), if_pos (by simp only [Int.toNat_natCast, kW]; omega)]
          have h0' : ((l.length : Int) == 0) = true := by rw [h0]; rfl
          (have he' : markW ⟨((0 : Nat) : Int), wd⟩ l = [] := (by unfold markW; rw [if_neg (by rw [he]; decide)]); have He := Lib.hid he; have He' := Lib.hid he'; clear he' he)
          clear h0
          (go_enter Tryz.func61, Tryz.ntmps61; go_wp2_with fail; refine (In_any _ _ _ _).mono ?_; rw [show inM 0 0 3 = true from rfl]; rintro e w1 ⟨rfl, rfl⟩; go_wp2_with fail)
          go_ret2
          exact ⟨_, by rw [He.out]; rfl, by rw [He'.out]; exact SliceAt.nil, (by first | (with_reducible exact Ext.refl _) | (with_reducible assumption) | (show Below _ _ _; go_grown; done))⟩
        · have he : markErrM ⟨(0 : Nat), wd⟩ l = 0 := by
            unfold markErrM
            rw [if_neg (by simp), if_neg (by simp [kWr, hw]), if_neg (by simp only [Int.toNat_natCast, kW]; omega), if_neg (fun h => absurd h.1 (by simp))]
          have h0' : ((l.length : Int) == 0) = false := by simpa using h0
          have h1 : 1 ≤ l.length := by omega
          have h1' : (1 : Int) ≤ (l.length : Int) := by omega
          have h1c : 1 ≤ lc := by omega
          (have he' : markW ⟨((0 : Nat) : Int), wd⟩ l = becM 0 l wd := (by unfold markW; rw [if_pos he]; rfl); have He := Lib.hid he; have He' := Lib.hid he'; clear he' he)
          clear h0
          (go_enter Tryz.func61, Tryz.ntmps61; go_wp2_with fail; refine (In_any _ _ _ _).mono ?_; rw [show inM 0 0 3 = true from rfl]; rintro e w1 ⟨rfl, rfl⟩; go_wp2_with fail)
          go_ret2
          exact ⟨_, by rw [He.out]; rfl, by rw [He'.out]; exact (hl.ext (by first | (with_reducible exact Ext.refl _) | (with_reducible assumption) | (show Below _ _ _; go_grown; done))).take 1 h1, (by first | (with_reducible exact Ext.refl _) | (with_reducible assumption) | (show Below _ _ _; go_grown; done))⟩
    · cases hw : wordM wd
      · have he : markErrM ⟨(1 : Nat), wd⟩ l = 6 := by
          unfold markErrM
          rw [if_neg (by simp), if_pos (by simp only [Int.toNat_natCast, kWr]; rw [hw]; rfl)]
        (have he' : markW ⟨((1 : Nat) : Int), wd⟩ l = [] := (by unfold markW; rw [if_neg (by rw [he]; decide)]); have He := Lib.hid he; have He' := Lib.hid he'; clear he' he)
        (go_enter Tryz.func61, Tryz.ntmps61; go_wp2_with fail; refine (In_any _ _ _ _).mono ?_; rw [show inM 1 0 3 = true from rfl]; rintro e w1 ⟨rfl, rfl⟩; go_wp2_with fail)
        refine (refWord_any wd _ hm).mono ?_
        rw [hw]
        rintro e w2 ⟨rfl, rfl⟩
        go_wp2_with fail
        go_ret2
        exact ⟨_, by rw [He.out]; rfl, by rw [He'.out]; exact SliceAt.nil, (by first | (with_reducible exact Ext.refl _) | (with_reducible assumption) | (show Below _ _ _; go_grown; done))⟩
      · by_cases h0 : l.length = 0
        · have he : markErrM ⟨(1 : Nat), wd⟩ l = 4 := by
            unfold markErrM
            rw [if_neg (by simp), if_neg (by simp [kWr, hw]), if_pos (by simp only [Int.toNat_natCast, kW]; omega)]
          have h0' : ((l.length : Int) == 0) = true := by rw [h0]; rfl
          (have he' : markW ⟨((1 : Nat) : Int), wd⟩ l = [] := (by unfold markW; rw [if_neg (by rw [he]; decide)]); have He := Lib.hid he; have He' := Lib.hid he'; clear he' he)
          clear h0
          (go_enter Tryz.func61, Tryz.ntmps61; go_wp2_with fail; refine (In_any _ _ _ _).mono ?_; rw [show inM 1 0 3 = true from rfl]; rintro e w1 ⟨rfl, rfl⟩; go_wp2_with fail)
          refine (refWord_any wd _ hm).mono ?_
          rw [hw]
          rintro e w2 ⟨rfl, rfl⟩
          go_wp2_with fail
          go_ret2
          exact ⟨_, by rw [He.out]; rfl, by rw [He'.out]; exact SliceAt.nil, (by first | (with_reducible exact Ext.refl _) | (with_reducible assumption) | (show Below _ _ _; go_grown; done))⟩
        · have h0' : ((l.length : Int) == 0) = false := by simpa using h0
          have h1 : 0 < l.length := by omega
          have h1' : (0 : Int) < (l.length : Int) := by omega
          have hhd : l.headD ByteArray.empty = l[0] := by cases l with | nil => exact absurd rfl h0 | cons x r => rfl
          obtain ⟨lb, lo, rfl, c0, -⟩ := SliceAt.get hl h1
          rw [Nat.zero_mul, Nat.add_zero] at c0
          generalize l[0] = y at *
          have hkey : markErrM ⟨(1 : Nat), wd⟩ l = if (y.toList == wd.toList) = true then 5 else 0 := by
            unfold markErrM
            rw [if_neg (by simp), if_neg (by simp [kWr, hw]), if_neg (by simp only [Int.toNat_natCast, kW]; omega), hhd]
            by_cases e : y.toList = wd.toList
            · rw [if_pos ⟨rfl, e⟩, if_pos (by simp [e])]
            · rw [if_neg (fun h => e h.2), if_neg (by simpa using e)]
          have q1 : ∀ w' : World, Ext (w.alloc (.cells #[.int .i64 (1 : Nat), .string wd] 115)) w' → w'.cell? ⟨w.heap.size, 1, none⟩ = some (.string wd) := fun w' h => h.cell (by simp [go_sem])
          have Q1 := Lib.hid q1
          have c0' := (ext_alloc w (.cells #[.int .i64 (1 : Nat), .string wd] 115)).cell c0
          clear h0 hhd q1
          cases hq : y.toList == wd.toList
          · have he : markErrM ⟨(1 : Nat), wd⟩ l = 0 := by rw [hkey, hq]; rfl
            (have he' : markW ⟨((1 : Nat) : Int), wd⟩ l = becM 1 l wd := (by unfold markW; rw [if_pos he]; rfl); have He := Lib.hid he; have He' := Lib.hid he'; clear he' he)
            clear hkey
            (go_enter Tryz.func61, Tryz.ntmps61; go_wp2_with fail; refine (In_any _ _ _ _).mono ?_; rw [show inM 1 0 3 = true from rfl]; rintro e w1 ⟨rfl, rfl⟩; go_wp2_with fail)
            refine (refWord_any wd _ hm).mono ?_
            rw [hw]
            rintro e w2 ⟨rfl, rfl⟩
            go_wp2_with fail
            apply Facts.wp_region [.val _, .val _, .val _, .val _, .val _, .val (.bool false)] (by kernel_rfl) (by kernel_rfl) trivial ?main
            case main =>
              iterate 6 (refine ⟨fun w1 hx hh => ?_, ?_⟩; focus (clear hh; have e0 := hx.cell c0'; have e1 := Q1.out _ hx; go_simp; first | exact ⟨Ext.refl _, rfl⟩ | exact Ext.refl _))
              intro w3 hx hh
              clear hh
              have e1 := Q1.out _ hx
              go_simp
              go_wp2
              go_ret2
              exact ⟨_, by rw [He.out]; rfl, by rw [He'.out]; exact StrsAt.oneAt rfl hm, ((ext_alloc _ _).trans hx).alloc _⟩
          · have he : markErrM ⟨(1 : Nat), wd⟩ l = 5 := by rw [hkey, hq]; rfl
            (have he' : markW ⟨((1 : Nat) : Int), wd⟩ l = [] := (by unfold markW; rw [if_neg (by rw [he]; decide)]); have He := Lib.hid he; have He' := Lib.hid he'; clear he' he)
            clear hkey
            (go_enter Tryz.func61, Tryz.ntmps61; go_wp2_with fail; refine (In_any _ _ _ _).mono ?_; rw [show inM 1 0 3 = true from rfl]; rintro e w1 ⟨rfl, rfl⟩; go_wp2_with fail)
            refine (refWord_any wd _ hm).mono ?_
            rw [hw]
            rintro e w2 ⟨rfl, rfl⟩
            go_wp2_with fail
            apply Facts.wp_region [.val _, .val _, .val _, .val _, .val _, .val (.bool true)] (by kernel_rfl) (by kernel_rfl) trivial ?main
            case main =>
              iterate 6 (refine ⟨fun w1 hx hh => ?_, ?_⟩; focus (clear hh; have e0 := hx.cell c0'; have e1 := Q1.out _ hx; go_simp; first | exact ⟨Ext.refl _, rfl⟩ | exact Ext.refl _))
              intro w3 hx hh
              clear hh
              go_simp
              go_wp2
              go_ret2
              exact ⟨_, by rw [He.out]; rfl, by rw [He'.out]; exact SliceAt.nil, (ext_alloc _ _).trans hx⟩
    · cases hw : wd.toList == []
      · have hw' : (wd.toList != []) = true := by simp [bne, hw]
        have he : markErrM ⟨(2 : Nat), wd⟩ l = 6 := by
          unfold markErrM
          rw [if_neg (by simp), if_pos (by simp only [kWr]; rw [hw]; rfl)]
        (have he' : markW ⟨((2 : Nat) : Int), wd⟩ l = [] := (by unfold markW; rw [if_neg (by rw [he]; decide)]); have He := Lib.hid he; have He' := Lib.hid he'; clear he' he)
        (go_enter Tryz.func61, Tryz.ntmps61; go_wp2_with fail; refine (In_any _ _ _ _).mono ?_; rw [show inM 2 0 3 = true from rfl]; rintro e w1 ⟨rfl, rfl⟩; go_wp2_with fail)
        go_ret2
        exact ⟨_, by rw [He.out]; rfl, by rw [He'.out]; exact SliceAt.nil, (by first | (with_reducible exact Ext.refl _) | (with_reducible assumption) | (show Below _ _ _; go_grown; done))⟩
      · have hw' : (wd.toList != []) = false := by simp [bne, hw]
        by_cases h0 : l.length = 0
        · have he : markErrM ⟨(2 : Nat), wd⟩ l = 4 := by
            unfold markErrM
            rw [if_neg (by simp), if_neg (by simp [kWr, hw]), if_pos (by simp only [Int.toNat_natCast, kW]; omega)]
          have h0' : ((l.length : Int) == 0) = true := by rw [h0]; rfl
          (have he' : markW ⟨((2 : Nat) : Int), wd⟩ l = [] := (by unfold markW; rw [if_neg (by rw [he]; decide)]); have He := Lib.hid he; have He' := Lib.hid he'; clear he' he)
          clear h0
          (go_enter Tryz.func61, Tryz.ntmps61; go_wp2_with fail; refine (In_any _ _ _ _).mono ?_; rw [show inM 2 0 3 = true from rfl]; rintro e w1 ⟨rfl, rfl⟩; go_wp2_with fail)
          go_ret2
          exact ⟨_, by rw [He.out]; rfl, by rw [He'.out]; exact SliceAt.nil, (by first | (with_reducible exact Ext.refl _) | (with_reducible assumption) | (show Below _ _ _; go_grown; done))⟩
        · have he : markErrM ⟨(2 : Nat), wd⟩ l = 0 := by
            unfold markErrM
            rw [if_neg (by simp), if_neg (by simp [kWr, hw]), if_neg (by simp only [Int.toNat_natCast, kW]; omega), if_neg (fun h => absurd h.1 (by simp))]
          have h0' : ((l.length : Int) == 0) = false := by simpa using h0
          have h1 : 1 ≤ l.length := by omega
          have h1' : (1 : Int) ≤ (l.length : Int) := by omega
          have h1c : 1 ≤ lc := by omega
          (have he' : markW ⟨((2 : Nat) : Int), wd⟩ l = becM 2 l wd := (by unfold markW; rw [if_pos he]; rfl); have He := Lib.hid he; have He' := Lib.hid he'; clear he' he)
          clear h0
          (go_enter Tryz.func61, Tryz.ntmps61; go_wp2_with fail; refine (In_any _ _ _ _).mono ?_; rw [show inM 2 0 3 = true from rfl]; rintro e w1 ⟨rfl, rfl⟩; go_wp2_with fail)
          go_ret2
          exact ⟨_, by rw [He.out]; rfl, by rw [He'.out]; exact SliceAt.nil, (by first | (with_reducible exact Ext.refl _) | (with_reducible assumption) | (show Below _ _ _; go_grown; done))⟩
    · cases hw : wordM wd
      · have he : markErrM ⟨(3 : Nat), wd⟩ l = 6 := by
          unfold markErrM
          rw [if_neg (by simp), if_pos (by simp only [Int.toNat_natCast, kWr]; rw [hw]; rfl)]
        (have he' : markW ⟨((3 : Nat) : Int), wd⟩ l = [] := (by unfold markW; rw [if_neg (by rw [he]; decide)]); have He := Lib.hid he; have He' := Lib.hid he'; clear he' he)
        (go_enter Tryz.func61, Tryz.ntmps61; go_wp2_with fail; refine (In_any _ _ _ _).mono ?_; rw [show inM 3 0 3 = true from rfl]; rintro e w1 ⟨rfl, rfl⟩; go_wp2_with fail)
        refine (refWord_any wd _ hm).mono ?_
        rw [hw]
        rintro e w2 ⟨rfl, rfl⟩
        go_wp2_with fail
        go_ret2
        exact ⟨_, by rw [He.out]; rfl, by rw [He'.out]; exact SliceAt.nil, (by first | (with_reducible exact Ext.refl _) | (with_reducible assumption) | (show Below _ _ _; go_grown; done))⟩
      · have he : markErrM ⟨(3 : Nat), wd⟩ l = 0 := by
          unfold markErrM
          rw [if_neg (by simp), if_neg (by simp [kWr, hw]), if_neg (by simp only [Int.toNat_natCast, kW]; omega), if_neg (fun h => absurd h.1 (by simp))]
        (have he' : markW ⟨((3 : Nat) : Int), wd⟩ l = becM 3 l wd := (by unfold markW; rw [if_pos he]; rfl); have He := Lib.hid he; have He' := Lib.hid he'; clear he' he)
        (go_enter Tryz.func61, Tryz.ntmps61; go_wp2_with fail; refine (In_any _ _ _ _).mono ?_; rw [show inM 3 0 3 = true from rfl]; rintro e w1 ⟨rfl, rfl⟩; go_wp2_with fail)
        refine (refWord_any wd _ hm).mono ?_
        rw [hw]
        rintro e w2 ⟨rfl, rfl⟩
        go_wp2_with fail
        go_ret2
        exact ⟨_, by rw [He.out]; rfl, by rw [He'.out]; exact StrsAt.oneAt (by simp) hm, (by first | (with_reducible exact Ext.refl _) | (with_reducible assumption) | (show Below _ _ _; go_grown; done))⟩
  · have he : markErrM ⟨kd, wd⟩ l = 7 := by unfold markErrM; rw [if_pos hin]
    have he' : markW ⟨kd, wd⟩ l = [] := by unfold markW; rw [if_neg (by rw [he]; decide)]
    have He := Lib.hid he
    have He' := Lib.hid he'
    have hi3 : inM kd 0 3 = false := by
      unfold inM
      rw [Bool.and_eq_false_iff]
      by_cases h : 0 ≤ kd
      · exact .inr (decide_eq_false (by omega))
      · exact .inl (decide_eq_false h)
    have Hi3 := Lib.hid hi3
    clear he he' hin hi3
    go_enter Tryz.func61, Tryz.ntmps61
    go_wp2_with fail
    refine (In_any _ _ _ _).mono ?_
    rw [Hi3.out]
    rintro e w1 ⟨rfl, rfl⟩
    go_wp2_with fail
    go_ret2
    exact ⟨_, by rw [He.out]; rfl, by rw [He'.out]; exact SliceAt.nil, (by first | (with_reducible exact Ext.refl _) | (with_reducible assumption) | (show Below _ _ _; go_grown; done))⟩
end Go.Proofs.YtcamegaimleomaaGreat

namespace Go.Proofs.YtcamegaimleomaaGreat
set_option linter.unusedSimpArgs false
set_option linter.unusedVariables false
open Go.RowKit
set_option linter.unusedVariables false

theorem same_step {α : Type} {l m : List α} {k : Nat} (h1 : k < l.length) (h2 : k < m.length) : (l.take (k + 1) = m.take (k + 1)) ↔ (l.take k = m.take k ∧ l[k] = m[k]) := by
  rw [List.take_succ_eq_append_getElem h1, List.take_succ_eq_append_getElem h2]
  constructor
  · intro h
    have := List.append_inj h (by simp; omega)
    exact ⟨this.1, by simpa using this.2⟩
  · rintro ⟨h, e⟩; rw [h, e]
theorem not_same {α : Type} {l m : List α} {k : Nat} (h1 : k < l.length) (h2 : k < m.length) (h : l[k] ≠ m[k]) : l ≠ m := fun e => by subst e; exact h rfl
theorem all_same {α : Type} {l m : List α} (hn : l.length = m.length) {k : Nat} (hk : l.length ≤ k) (h : l.take k = m.take k) : l = m := by
  rwa [List.take_of_length_le hk, List.take_of_length_le (by omega)] at h

set_option maxHeartbeats 1000000 in
set_option maxRecDepth 100000 in
theorem same_any (v u : Value) (l m : List ByteArray) (w : World) (hl : StrsAt w v l) (hm : StrsAt w u m) :
    Calls Tryz.prog 20 #[v, u] w fun r w' => r = .returned (.bool (decide (l = m))) ∧ Ext w w' := by
  obtain ⟨a, cap, rfl, hlc, hcm⟩ := hl.shape
  obtain ⟨a', cap', rfl, hlc', hcm'⟩ := hm.shape
  by_cases hn : l.length = m.length
  · have hn' : ((l.length : Int) != (m.length : Int)) = false := by simp; omega
    have Hn := Lib.hid hn
    clear hn
    go_enter Tryz.func20, Tryz.ntmps20
    go_wp2
    go_loopw [5] (fun i wr => ∃ k : Nat, k ≤ l.length ∧ i = .int .i64 k ∧ Ext w wr ∧ l.take k = m.take k) (fun i _ => l.length - (intOf i).toNat)
    case atStart => exact ⟨0, Nat.zero_le _, rfl, Ext.refl _, rfl⟩
    case round =>
      obtain ⟨k, hk, rfl, hx, hd⟩ := hrel
      have Hd := Lib.hid hd; clear hd
      by_cases h1 : k < l.length
      · have k1 : (k : Int) < (l.length : Int) := by omega
        have h2 : k < m.length := by have := Hn.out; omega
        have k2 : (k : Int) < (m.length : Int) := by omega
        obtain ⟨b, off, rfl, c0, -⟩ := (hl.ext hx).get h1
        obtain ⟨b', off', rfl, c1, -⟩ := (hm.ext hx).get h2
        have hst := same_step h1 h2
        have hno := not_same h1 h2
        generalize hx' : l[k] = x at *
        generalize hy : m[k] = y at *
        have Hst := Lib.hid hst
        have Hno := Lib.hid hno
        clear hx' hy hst hno
        simp only [Nat.mul_one] at c0 c1
        cases h0 : x.toList == y.toList
        · have H0 := Lib.hid h0
          have h0' : (x.toList != y.toList) = true := by simp [bne, h0]
          go_wp2_with fail
          apply Facts.wp_region [.val _, .val _, .val _, .val _, .val _, .val _, .val _, .val _, .val _] (by kernel_rfl) (by kernel_rfl) trivial ?main
          case main =>
            iterate 9 (refine ⟨fun w1 hx hh => ?_, ?_⟩; focus (clear hh; have e0 := hx.cell c0; have e1 := hx.cell c1; go_simp; first | exact ⟨Ext.refl _, rfl⟩ | exact Ext.refl _))
            intro w1 hx1 hh
            have hx3 := hx.trans hx1
            clear hh c0 c1
            go_simp
            go_wp2
            go_ret
            exact ⟨ret_bool (by rw [decide_eq_false (Hno.out (by have := H0.out; rw [beq_str] at this; simpa using this))]), hx3⟩
        · have H0 := Lib.hid h0
          have h0' : (x.toList != y.toList) = false := by simp [bne, h0]
          go_wp2_with fail
          apply Facts.wp_region [.val _, .val _, .val _, .val _, .val _, .val _, .val _, .val _, .val _] (by kernel_rfl) (by kernel_rfl) trivial ?main
          case main =>
            iterate 9 (refine ⟨fun w1 hx hh => ?_, ?_⟩; focus (clear hh; have e0 := hx.cell c0; have e1 := hx.cell c1; go_simp; first | exact ⟨Ext.refl _, rfl⟩ | exact Ext.refl _))
            intro w1 hx1 hh
            have hx3 := hx.trans hx1
            clear hh c0 c1
            go_simp
            go_wp2
            go_roundw
            case rel => exact ⟨k + 1, by omega, by go_num, hx3, Hst.out.2 ⟨Hd.out, by have := H0.out; rw [beq_str] at this; simpa using this⟩⟩
            case measure => simp [intOf]; omega
      · go_wp2
        go_ret
        exact ⟨ret_bool (by rw [decide_eq_true (all_same Hn.out (by omega) Hd.out)]), hx⟩
  · have hn' : ((l.length : Int) != (m.length : Int)) = true := by simp; omega
    have Hne : Hid (decide (l = m) = false) := Lib.hid (decide_eq_false fun e => hn (by rw [e]))
    clear hn
    go_enter Tryz.func20, Tryz.ntmps20
    go_wp2
    go_ret
    exact ⟨ret_bool Hne.out.symm, Ext.refl _⟩

set_option maxHeartbeats 1000000 in
set_option maxRecDepth 100000 in
theorem sames_any (v u : Value) (l m : List (List ByteArray)) (w : World) (hl : FillsAt w v l) (hm : FillsAt w u m) :
    Calls Tryz.prog 13 #[v, u] w fun r w' => r = .returned (.bool (decide (l = m))) ∧ Ext w w' := by
  obtain ⟨a, cap, rfl, hlc, hcm⟩ := hl.shape
  obtain ⟨a', cap', rfl, hlc', hcm'⟩ := hm.shape
  by_cases hn : l.length = m.length
  · have hn' : ((l.length : Int) != (m.length : Int)) = false := by simp; omega
    have Hn := Lib.hid hn
    clear hn
    go_enter Tryz.func13, Tryz.ntmps13
    go_wp2
    go_loopw [5] (fun i wr => ∃ k : Nat, k ≤ l.length ∧ i = .int .i64 k ∧ Ext w wr ∧ l.take k = m.take k) (fun i _ => l.length - (intOf i).toNat)
    case atStart => exact ⟨0, Nat.zero_le _, rfl, Ext.refl _, rfl⟩
    case round =>
      obtain ⟨k, hk, rfl, hx, hd⟩ := hrel
      have Hd := Lib.hid hd; clear hd
      by_cases h1 : k < l.length
      · have k1 : (k : Int) < (l.length : Int) := by omega
        have h2 : k < m.length := by have := Hn.out; omega
        have k2 : (k : Int) < (m.length : Int) := by omega
        obtain ⟨b, off, rfl, x, c0, hxs⟩ := (hl.ext hx).get h1
        obtain ⟨b', off', rfl, y, c1, hys⟩ := (hm.ext hx).get h2
        have hst := same_step h1 h2
        have hno := not_same h1 h2
        generalize hx' : l[k] = xl at *
        generalize hy : m[k] = yl at *
        have Hst := Lib.hid hst
        have Hno := Lib.hid hno
        have Hxs := Lib.hid hxs
        have Hys := Lib.hid hys
        clear hx' hy hst hno hxs hys
        simp only [Nat.mul_one] at c0 c1
        go_wp2_with fail
        apply Facts.wp_region [.val _, .val _, .val _, .val x, .val _, .val _, .val _, .val y, .val (.bool (decide (xl = yl))), .val _] (by kernel_rfl) (by kernel_rfl) trivial ?main
        case main =>
          iterate 8 (refine ⟨fun w1 hx hh => ?_, ?_⟩; focus (clear hh; have e0 := hx.cell c0; have e1 := hx.cell c1; go_simp; first | exact ⟨Ext.refl _, rfl⟩ | exact Ext.refl _))
          refine ⟨fun w1 hx hh => ?_, ?_⟩
          · clear hh
            go_simp
            refine (same_any x y xl yl w1 (Hxs.out.ext hx) (Hys.out.ext hx)).mono ?_
            rintro e w' ⟨rfl, hx2⟩
            exact ⟨_, rfl, hx2, rfl⟩
          iterate 1 (refine ⟨fun w1 hx hh => ?_, ?_⟩; focus (clear hh; skip; go_simp; first | exact ⟨Ext.refl _, rfl⟩ | exact Ext.refl _))
          intro w1 hx1 hh
          have hx3 := hx.trans hx1
          clear hh c0 c1
          by_cases h0 : xl = yl
          · have H0 := Lib.hid h0
            have h0' : decide (xl = yl) = true := decide_eq_true h0
            rw [h0']
            clear h0 h0'
            go_simp
            go_wp2
            go_roundw
            case rel => exact ⟨k + 1, by omega, by go_num, hx3, Hst.out.2 ⟨Hd.out, H0.out⟩⟩
            case measure => simp [intOf]; omega
          · have H0 := Lib.hid h0
            have h0' : decide (xl = yl) = false := decide_eq_false h0
            rw [h0']
            clear h0 h0'
            go_simp
            go_wp2
            go_ret
            exact ⟨ret_bool (by rw [decide_eq_false (Hno.out H0.out)]), hx3⟩
      · go_wp2
        go_ret
        exact ⟨ret_bool (by rw [decide_eq_true (all_same Hn.out (by omega) Hd.out)]), hx⟩
  · have hn' : ((l.length : Int) != (m.length : Int)) = true := by simp; omega
    have Hne : Hid (decide (l = m) = false) := Lib.hid (decide_eq_false fun e => hn (by rw [e]))
    clear hn
    go_enter Tryz.func13, Tryz.ntmps13
    go_wp2
    go_ret
    exact ⟨ret_bool Hne.out.symm, Ext.refl _⟩

def corrN (ms : List Mark) : Nat := (ms.filter fun m => m.kind != 0).length
theorem corrN_step (ms : List Mark) (k : Nat) (h : k < ms.length) : corrN (ms.take (k + 1)) = corrN (ms.take k) + if (ms[k].kind != 0) = true then 1 else 0 := by
  unfold corrN
  rw [List.take_succ_eq_append_getElem h, List.filter_append, List.length_append]
  cases h0 : ms[k].kind != 0 <;> simp [h0]
theorem corrN_le (ms : List Mark) (k : Nat) : corrN (ms.take k) ≤ k := by
  unfold corrN
  have h := List.length_filter_le (fun m : Mark => m.kind != 0) (ms.take k)
  rw [List.length_take] at h
  omega
set_option maxHeartbeats 1000000 in
set_option maxRecDepth 100000 in
theorem corrections_any (v : Value) (l : List Mark) (w : World) (hl : MarksAt w v l) :
    Calls Tryz.prog 59 #[v] w fun r w' => r = .returned (.int .i64 (corrN l)) ∧ Ext w w' := by
  obtain ⟨a, cap, rfl, hlc, hcm⟩ := hl.shape
  go_enter Tryz.func59, Tryz.ntmps59
  go_wp2
  go_loopw [3, 4] (fun n i wr => ∃ k : Nat, k ≤ l.length ∧ i = .int .i64 k ∧ Ext w wr ∧ n = .int .i64 (corrN (l.take k))) (fun _ i _ => l.length - (intOf i).toNat)
  case atStart => exact ⟨0, Nat.zero_le _, rfl, Ext.refl _, rfl⟩
  case round =>
    obtain ⟨k, hk, rfl, hx, rfl⟩ := hrel
    by_cases h1 : k < l.length
    · have k1 : (k : Int) < (l.length : Int) := by omega
      obtain ⟨b, off, rfl, c0, -⟩ := (hl.ext hx).get h1
      have hst := corrN_step l k h1
      have hle := corrN_le l k
      generalize l[k] = x at *
      generalize corrN (l.take k) = c at *
      cases h0 : x.kind != 0
      · have Hst : Hid (corrN (l.take (k + 1)) = c) := Lib.hid (by rw [hst, h0]; rfl)
        clear hst
        go_wp2
        go_roundw
        case rel => exact ⟨k + 1, by omega, by go_num, hx, by rw [Hst.out]⟩
        case measure => simp [intOf]; omega
      · have Hst : Hid (corrN (l.take (k + 1)) = c + 1) := Lib.hid (by rw [hst, h0]; rfl)
        clear hst
        go_wp2
        go_roundw
        case rel => exact ⟨k + 1, by omega, by go_num, hx, by rw [Hst.out]; go_num⟩
        case measure => simp [intOf]; omega
    · have Hn : Hid (corrN (l.take k) = corrN l) := Lib.hid (by rw [List.take_of_length_le (by omega)])
      go_wp2
      go_ret
      exact ⟨ret_int (by rw [Hn.out]), hx⟩
end Go.Proofs.YtcamegaimleomaaGreat

namespace Go.Proofs.YtcamegaimleomaaGreat
set_option linter.unusedSimpArgs false
set_option linter.unusedVariables false
open Go.RowKit
set_option linter.unusedVariables false

instance : DecidableEq Mark := fun a b => decidable_of_iff (a.kind = b.kind ∧ a.word = b.word) ⟨fun h => by cases a; cases b; simp_all, fun h => by subst h; exact ⟨rfl, rfl⟩⟩
theorem mark_fields : ∃ f g, (Tryz.prog.fieldsOf 115).toList = [f, g] ∧ f.type = 3 ∧ f.offset = 0 ∧ g.type = 9 ∧ g.offset = 1 ∧ f.name = "Kind" ∧ g.name = "Word" := by
  have hf : ((Tryz.prog.fieldsOf 115).toList.map fun f => (f.name, f.type, f.offset)) = [("Kind", 3, 0), ("Word", 9, 1)] := by kernel_rfl
  generalize (Tryz.prog.fieldsOf 115).toList = fs at *
  obtain ⟨f, g, rfl⟩ : ∃ f g, fs = [f, g] := by
    rcases fs with _ | ⟨f, _ | ⟨g, _ | ⟨h, r⟩⟩⟩
    · simp at hf
    · simp at hf
    · exact ⟨f, g, rfl⟩
    · simp at hf
  simp only [List.map_cons, List.map_nil, List.cons.injEq, Prod.mk.injEq, and_true] at hf
  obtain ⟨⟨h1, h2, h3⟩, h4, h5, h6⟩ := hf
  exact ⟨f, g, rfl, h2, h3, h5, h6, h1, h4⟩
theorem equal_mark (k m : Mark) (w : World) : (Op.equal 115 (.agg #[.int .i64 k.kind, .string k.word]) (.agg #[.int .i64 m.kind, .string m.word])).run Tryz.prog w = .ok (decide (k = m)) w := by
  have hop : ∀ x y : Value, Op.equal 115 x y = Op.equalIn Op.maxDepth 115 x y := fun _ _ => rfl
  obtain ⟨m0, hd⟩ : ∃ m0, Op.maxDepth = m0 + 2 := ⟨9998, by decide⟩
  have ha : ∀ w, (isAgg 3).run Tryz.prog w = .ok false w := fun _ => by kernel_rfl
  have hb : ∀ w, (isAgg 9).run Tryz.prog w = .ok false w := fun _ => by kernel_rfl
  rw [hop, hd]
  rw [run_equalIn_struct _ _ _ _ _ (by kernel_rfl) (by kernel_rfl)]
  obtain ⟨f, g, hfs, h2, h3, h5, h6, n1, n2⟩ := mark_fields
  rw [hfs]
  obtain ⟨a, b⟩ := k
  obtain ⟨c, d⟩ := m
  simp [Op.eqFields, h2, h3, h5, h6, n1, n2, part, ha, hb, go_sem]
  have hbq : (b.toList = d.toList) ↔ b = d := ⟨str_inj, fun e => by rw [e]⟩
  by_cases e1 : a = c <;> by_cases e2 : b = d <;> simp [e1, e2, hbq]
theorem neq_mark (k m : Mark) (w : World) : (binOp .neq 115 (.agg #[.int .i64 k.kind, .string k.word]) (.agg #[.int .i64 m.kind, .string m.word])).run Tryz.prog w = .ok (.bool (!decide (k = m))) w := by
  have h := equal_mark k m w
  have hop : Op.equal 115 (.agg #[.int .i64 k.kind, .string k.word]) (.agg #[.int .i64 m.kind, .string m.word]) = Op.equalIn 10000 115 (.agg #[.int .i64 k.kind, .string k.word]) (.agg #[.int .i64 m.kind, .string m.word]) := rfl
  rw [hop] at h
  rw [run_neq_struct, h]
  rfl
set_option maxHeartbeats 1000000 in
set_option maxRecDepth 100000 in
theorem equal_any (v u : Value) (l m : List Mark) (w : World) (hl : MarksAt w v l) (hm : MarksAt w u m) :
    Calls Tryz.prog 17 #[v, u] w fun r w' => r = .returned (.bool (decide (l = m))) ∧ Ext w w' := by
  obtain ⟨a, cap, rfl, hlc, hcm⟩ := hl.shape
  obtain ⟨a', cap', rfl, hlc', hcm'⟩ := hm.shape
  by_cases hn : l.length = m.length
  · have hn' : ((l.length : Int) != (m.length : Int)) = false := by simp; omega
    have Hn := Lib.hid hn
    clear hn
    go_enter Tryz.func17, Tryz.ntmps17
    go_wp2
    go_loopw [5] (fun i wr => ∃ k : Nat, k ≤ l.length ∧ i = .int .i64 k ∧ Ext w wr ∧ l.take k = m.take k) (fun i _ => l.length - (intOf i).toNat)
    case atStart => exact ⟨0, Nat.zero_le _, rfl, Ext.refl _, rfl⟩
    case round =>
      obtain ⟨k, hk, rfl, hx, hd⟩ := hrel
      have Hd := Lib.hid hd; clear hd
      by_cases h1 : k < l.length
      · have k1 : (k : Int) < (l.length : Int) := by omega
        have h2 : k < m.length := by have := Hn.out; omega
        have k2 : (k : Int) < (m.length : Int) := by omega
        obtain ⟨b, off, rfl, c0, d0, -⟩ := (hl.ext hx).get h1
        obtain ⟨b', off', rfl, c1, d1, -⟩ := (hm.ext hx).get h2
        have hst := same_step h1 h2
        have hno := not_same h1 h2
        generalize hx' : l[k] = x at *
        generalize hy : m[k] = y at *
        have Hst := Lib.hid hst
        have Hno := Lib.hid hno
        clear hx' hy hst hno
        have hnq := fun w => neq_mark x y w
        by_cases h0 : x = y
        · have H0 := Lib.hid h0
          rw [decide_eq_true h0] at hnq
          clear h0
          go_wp2_with fail
          apply Facts.wp_region [.val _, .val _, .val _, .val (.agg #[.int .i64 x.kind, .string x.word]), .val _, .val _, .val _, .val (.agg #[.int .i64 y.kind, .string y.word]), .val (.bool false)] (by kernel_rfl) (by kernel_rfl) trivial ?main
          case main =>
            iterate 8 (refine ⟨fun w1 hx hh => ?_, ?_⟩; focus (clear hh; have e0 := hx.cell c0; have e1 := hx.cell c1; have e2 := hx.cell d0; have e3 := hx.cell d1; go_simp; first | exact ⟨Ext.refl _, rfl⟩ | exact Ext.refl _))
            refine ⟨fun w1 hx hh => ?_, ?_⟩
            · clear hh
              go_simp
              first | exact Ext.refl _ | (rw [hnq]; exact ⟨Ext.refl _, rfl⟩)
            intro w1 hx1 hh
            have hx3 := hx.trans hx1
            clear hh c0 c1
            go_simp
            go_wp2
            go_roundw
            case rel => exact ⟨k + 1, by omega, by go_num, hx3, Hst.out.2 ⟨Hd.out, H0.out⟩⟩
            case measure => simp [intOf]; omega
        · have H0 := Lib.hid h0
          rw [decide_eq_false h0] at hnq
          clear h0
          go_wp2_with fail
          apply Facts.wp_region [.val _, .val _, .val _, .val (.agg #[.int .i64 x.kind, .string x.word]), .val _, .val _, .val _, .val (.agg #[.int .i64 y.kind, .string y.word]), .val (.bool true)] (by kernel_rfl) (by kernel_rfl) trivial ?main
          case main =>
            iterate 8 (refine ⟨fun w1 hx hh => ?_, ?_⟩; focus (clear hh; have e0 := hx.cell c0; have e1 := hx.cell c1; have e2 := hx.cell d0; have e3 := hx.cell d1; go_simp; first | exact ⟨Ext.refl _, rfl⟩ | exact Ext.refl _))
            refine ⟨fun w1 hx hh => ?_, ?_⟩
            · clear hh
              go_simp
              first | exact Ext.refl _ | (rw [hnq]; exact ⟨Ext.refl _, rfl⟩)
            intro w1 hx1 hh
            have hx3 := hx.trans hx1
            clear hh c0 c1
            go_simp
            go_wp2
            go_ret
            exact ⟨ret_bool (by rw [decide_eq_false (Hno.out H0.out)]), hx3⟩
      · go_wp2
        go_ret
        exact ⟨ret_bool (by rw [decide_eq_true (all_same Hn.out (by omega) Hd.out)]), hx⟩
  · have hn' : ((l.length : Int) != (m.length : Int)) = true := by simp; omega
    have Hne : Hid (decide (l = m) = false) := Lib.hid (decide_eq_false fun e => hn (by rw [e]))
    clear hn
    go_enter Tryz.func17, Tryz.ntmps17
    go_wp2
    go_ret
    exact ⟨ret_bool Hne.out.symm, Ext.refl _⟩
end Go.Proofs.YtcamegaimleomaaGreat

namespace Go.Proofs.YtcamegaimleomaaGreat
set_option linter.unusedSimpArgs false
set_option linter.unusedVariables false
open Go.RowKit

def settledM (some all : Int) : Int := if some = all then 1 else if some = 0 then 2 else 0
def lessM : List Int → List Int → Bool
  | _, [] => false
  | [], _ :: _ => true
  | x :: l, y :: m => if x = y then lessM l m else decide (x < y)
theorem lessM_step (l m : List Int) (k : Nat) (h1 : k < l.length) (h2 : k < m.length) : lessM (l.drop k) (m.drop k) = if l[k] = m[k] then lessM (l.drop (k + 1)) (m.drop (k + 1)) else decide (l[k] < m[k]) := by
  rw [List.drop_eq_getElem_cons h1, List.drop_eq_getElem_cons h2, lessM]

set_option maxHeartbeats 1000000 in
set_option maxRecDepth 100000 in
theorem less_any (v u : Value) (l m : List Int) (w : World) (hl : IntsAt w v l) (hm : IntsAt w u m) :
    Calls Tryz.prog 47 #[v, u] w fun r w' => r = .returned (.bool (lessM l m)) ∧ Ext w w' := by
  obtain ⟨a, cap, rfl, hlc, hcm⟩ := hl.shape
  obtain ⟨a', cap', rfl, hlc', hcm'⟩ := hm.shape
  go_enter Tryz.func47, Tryz.ntmps47
  go_wp2
  go_loopw [5] (fun i wr => ∃ k : Nat, k ≤ l.length ∧ k ≤ m.length ∧ i = .int .i64 k ∧ Ext w wr ∧ lessM (l.drop k) (m.drop k) = lessM l m) (fun i _ => l.length - (intOf i).toNat)
  case atStart => exact ⟨0, Nat.zero_le _, Nat.zero_le _, rfl, Ext.refl _, rfl⟩
  case round =>
    obtain ⟨k, hk, hk', rfl, hx, hd⟩ := hrel
    have Hd := Lib.hid hd; clear hd
    by_cases h1 : k < l.length
    · have k1 : (k : Int) < (l.length : Int) := by omega
      by_cases h2 : k < m.length
      · have k2 : (k : Int) < (m.length : Int) := by omega
        have n1 : ((k : Int) == (l.length : Int)) = false := by simp; omega
        have n2 : ((k : Int) == (m.length : Int)) = false := by simp; omega
        obtain ⟨_, _, he, -, -, hh⟩ := hl.ext hx
        obtain ⟨b, off, rfl, c0, -⟩ := hh k h1
        cases he
        clear hh
        obtain ⟨_, _, he, -, -, hh⟩ := hm.ext hx
        obtain ⟨b', off', rfl, c1, -⟩ := hh k h2
        cases he
        clear hh
        have hst := lessM_step l m k h1 h2
        generalize hx' : l[k] = x at *
        generalize hy : m[k] = y at *
        have Hst := Lib.hid hst
        clear hx' hy hst
        simp only [Nat.mul_one] at c0 c1
        by_cases h0 : x = y
        · subst h0
          have h0' : (x == x) = true := by simp
          go_wp2_with fail
          apply Facts.wp_region [.val _, .val _, .val _, .val _, .val _, .val _, .val _, .val _, .val _, .val _, .val _, .val _, .val _, .val _, .val _, .val _, .val _, .val _, .val _, .val _, .val _] (by kernel_rfl) (by kernel_rfl) trivial ?main
          case main =>
            iterate 21 (refine ⟨fun w1 hx hh => ?_, ?_⟩; focus (clear hh; have e0 := hx.cell c0; have e1 := hx.cell c1; go_simp; exact ⟨Ext.refl _, rfl⟩))
            intro w1 hx1 hh
            have hx3 := hx.trans hx1
            clear hh c0 c1
            go_simp
            go_wp2
            go_roundw
            case rel => exact ⟨k + 1, by omega, by omega, by go_num, hx3, by rw [← Hd.out, Hst.out]; simp⟩
            case measure => simp [intOf]; omega
        · have h0' : (x == y) = false := by simpa using h0
          have H0 := Lib.hid h0
          clear h0
          go_wp2_with fail
          apply Facts.wp_region [.val _, .val _, .val _, .val _, .val _, .val _, .val _, .val _, .val _, .val _, .val _, .val _, .val _, .val _, .val _, .val _, .val _, .val _, .val _, .val _, .val _] (by kernel_rfl) (by kernel_rfl) trivial ?main
          case main =>
            iterate 21 (refine ⟨fun w1 hx hh => ?_, ?_⟩; focus (clear hh; have e0 := hx.cell c0; have e1 := hx.cell c1; go_simp; exact ⟨Ext.refl _, rfl⟩))
            intro w1 hx1 hh
            have hx3 := hx.trans hx1
            have c2 := hx1.cell c0
            have c3 := hx1.cell c1
            clear hh c0 c1
            go_simp
            go_wp2_with fail
            apply Facts.wp_region [.val _, .val _, .val _, .val _, .val _, .val _, .val _, .val _, .val _, .val _, .val _, .val _, .val _, .val _, .val _, .val _] (by kernel_rfl) (by kernel_rfl) trivial ?main
            case main =>
              iterate 16 (refine ⟨fun w1 hx hh => ?_, ?_⟩; focus (clear hh; have e0 := hx.cell c2; have e1 := hx.cell c3; go_simp; exact ⟨Ext.refl _, rfl⟩))
              intro w2 hx2 hh
              have hx4 := hx3.trans hx2
              clear hh c2 c3
              go_simp
              go_wp2
              go_ret
              exact ⟨ret_bool (by rw [← Hd.out, Hst.out, if_neg H0.out]), hx4⟩
      · obtain rfl : k = m.length := by omega
        have k2 : ¬ (m.length : Int) < (m.length : Int) := by omega
        go_wp2_with fail
        apply Facts.wp_region [.val _, .val _, .val _, .val _, .val _, .val _, .val _, .val _, .val _, .val _, .val _, .val _, .val _, .val _, .val _, .val _, .val _, .val _, .val _, .val _, .val _] (by kernel_rfl) (by kernel_rfl) trivial ?main
        case main =>
          iterate 21 (refine ⟨fun w1 hx hh => ?_, ?_⟩; focus (clear hh; skip; go_simp; exact ⟨Ext.refl _, rfl⟩))
          intro w1 hx1 hh
          have hx3 := hx.trans hx1
          clear hh
          go_simp
          go_wp2
          go_ret
          exact ⟨ret_bool (by rw [← Hd.out, List.drop_eq_getElem_cons h1, List.drop_eq_nil_of_le (Nat.le_refl _)]; rfl), hx3⟩
    · obtain rfl : k = l.length := by omega
      have k1 : ¬ (l.length : Int) < (l.length : Int) := by omega
      by_cases h2 : ((l.length : Int) == (m.length : Int)) = true
      · go_wp2_with fail
        apply Facts.wp_region [.val _, .val _, .val _, .val _, .val _, .val _, .val _, .val _, .val _, .val _, .val _, .val _, .val _, .val _, .val _, .val _, .val _, .val _, .val _, .val _, .val _] (by kernel_rfl) (by kernel_rfl) trivial ?main
        case main =>
          iterate 21 (refine ⟨fun w1 hx hh => ?_, ?_⟩; focus (clear hh; skip; go_simp; exact ⟨Ext.refl _, rfl⟩))
          intro w1 hx1 hh
          have hx3 := hx.trans hx1
          clear hh
          go_simp
          go_wp2
          go_ret
          exact ⟨ret_bool (by rw [← Hd.out, List.drop_eq_nil_of_le (Nat.le_refl _), List.drop_eq_nil_of_le (by simp at h2; omega)]; rfl), hx3⟩
      · have h2' : ((l.length : Int) == (m.length : Int)) = false := by simpa using h2
        have h3 : l.length < m.length := by simp at h2; omega
        clear h2
        go_wp2_with fail
        apply Facts.wp_region [.val _, .val _, .val _, .val _, .val _, .val _, .val _, .val _, .val _, .val _, .val _, .val _, .val _, .val _, .val _, .val _, .val _, .val _, .val _, .val _, .val _] (by kernel_rfl) (by kernel_rfl) trivial ?main
        case main =>
          iterate 21 (refine ⟨fun w1 hx hh => ?_, ?_⟩; focus (clear hh; skip; go_simp; exact ⟨Ext.refl _, rfl⟩))
          intro w1 hx1 hh
          have hx3 := hx.trans hx1
          clear hh
          go_simp
          go_wp2_with fail
          apply Facts.wp_region [.val _, .val _, .val _, .val _, .val _, .val _, .val _, .val _, .val _, .val _, .val _, .val _, .val _, .val _, .val _, .val _] (by kernel_rfl) (by kernel_rfl) trivial ?main
          case main =>
            iterate 16 (refine ⟨fun w1 hx hh => ?_, ?_⟩; focus (clear hh; skip; go_simp; exact ⟨Ext.refl _, rfl⟩))
            intro w2 hx2 hh
            have hx4 := hx3.trans hx2
            clear hh
            go_simp
            go_wp2
            go_ret
            exact ⟨ret_bool (by rw [← Hd.out, List.drop_eq_nil_of_le (Nat.le_refl _), List.drop_eq_getElem_cons h3]; rfl), hx4⟩
end Go.Proofs.YtcamegaimleomaaGreat

namespace Go.Proofs.YtcamegaimleomaaGreat
set_option linter.unusedSimpArgs false
set_option linter.unusedVariables false
open Go.RowKit

theorem lessM_self (l : List Int) : lessM l l = false := by
  induction l with
  | nil => rfl
  | cons x l ih => simp [lessM, ih]
theorem lessM_total : ∀ l m : List Int, lessM l m = false → lessM m l = false → l = m
  | [], [] => fun _ _ => rfl
  | [], _ :: _ => fun h _ => by simp [lessM] at h
  | _ :: _, [] => fun _ h => by simp [lessM] at h
  | x :: l, y :: m => fun h h' => by
    by_cases e : x = y
    · subst e
      simp only [lessM, if_true] at h h'
      rw [lessM_total l m h h']
    · simp only [lessM, e, Ne.symm e, if_false, decide_eq_false_iff_not] at h h'
      omega
set_option maxHeartbeats 1000000 in
set_option maxRecDepth 100000 in
theorem ints_any (v u : Value) (l m : List Int) (w : World) (hl : IntsAt w v l) (hm : IntsAt w u m) :
    Calls Tryz.prog 10 #[v, u] w fun r w' => r = .returned (.bool (decide (l = m))) ∧ Ext w w' := by
  have hsl := hl.shape
  have hsm := hm.shape
  obtain ⟨a, cap, rfl, hlc, hcm⟩ := hsl
  obtain ⟨a', cap', rfl, hlc', hcm'⟩ := hsm
  by_cases h : ((l.length : Int) == (m.length : Int)) = true
  · go_enter Tryz.func10, Tryz.ntmps10
    go_wp2_with fail
    refine (less_any _ _ l m w hl hm).mono ?_
    rintro e w1 ⟨rfl, hx1⟩
    cases h1 : lessM l m
    · have H1 := Lib.hid h1; clear h1
      go_wp2_with fail
      refine (less_any _ _ m l w1 (hm.ext hx1) (hl.ext hx1)).mono ?_
      rintro e w2 ⟨rfl, hx2⟩
      have hx3 := hx1.trans hx2
      cases h2 : lessM m l
      all_goals
        have H2 := Lib.hid h2; clear h2
        go_wp2
        go_ret
        first
          | exact ⟨ret_bool (by rw [decide_eq_true (lessM_total l m H1.out H2.out)]), hx3⟩
          | exact ⟨ret_bool (by rw [eq_comm, decide_eq_false_iff_not]; intro e; subst e; have := H2.out; rw [lessM_self] at this; cases this), hx3⟩
    · have H1 := Lib.hid h1; clear h1
      go_wp2
      go_ret
      exact ⟨ret_bool (by rw [eq_comm, decide_eq_false_iff_not]; intro e; subst e; have := H1.out; rw [lessM_self] at this; cases this), hx1⟩
  · have h' : ((l.length : Int) == (m.length : Int)) = false := by simpa using h
    have hn : ¬ l = m := fun e => by subst e; simp at h'
    have Hn := Lib.hid hn
    clear h hn
    go_enter Tryz.func10, Tryz.ntmps10
    go_wp2
    go_ret
    exact ⟨ret_bool (by rw [decide_eq_false Hn.out]), Ext.refl _⟩

def fewerM (l m : List Int) : Bool := if l.length = m.length then lessM l m else decide (l.length < m.length)
end Go.Proofs.YtcamegaimleomaaGreat
