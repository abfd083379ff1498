/-
  WHAT LetterMended TAKES besides a shelf and a letter, opened.
  THE WAYS IN WHICH A LETTER IS OF A FORM, as lists of counts, plain: what fills they are, in which order they come.
  LetterMade: a letter that is made of a form is of it; Fills tells as many ways as there are, and any fills of which it is do not come before the first ones; made of Fills it is the same again.
-/
import Derived.Test.YtgcibmdohifiaaaGreatBunAM
import Derived.Lib.SmallJoins
import Derived.Test.YtgcibmdohifiaaaGreatBunAO
import Derived.Test.YtgcibmdohifiaaaGreatBunAJ
import Derived.Test.YtgcibmdohifiaaaGreatBunAK
import Derived.Test.YtgcibmdohifiaaaGreatBunAC
namespace Go.Proofs.YtgcibmdohifiaaaGreat
set_option linter.unusedSimpArgs false
set_option linter.unusedVariables false
open Go.ChangeShapes Go.WideShapes Go.RowKit
set_option maxRecDepth 100000
section
variable {H : Type} {enc : TypeId × Value → H} {w : World} {base : Nat} {sp : Nat → Bool} {held : Bool}
theorem cellsMended : Tryz.prog.cellsOf 68 = 4 := by kernel_rfl
theorem cellsBytesL : Tryz.prog.cellsOf 56 = 1 := by kernel_rfl
theorem four_of {l : List Value} (h : l.length = 4) : ∃ a b c d, l = [a, b, c, d] := by
  match l, h with
  | [a, b, c, d], _ => exact ⟨a, b, c, d, rfl⟩
theorem mended_of {r : Reach} {b0 : Nat} {v : Value} {d : DataW H} {ps : List MemPlace} (hval : Value.okWide Tryz.prog w r b0 68 v) (hd : DataW.Trod enc Tryz.prog w base sp held 68 v d ps) : ∃ (xf xa : Nat) (xt : Bool) (xv : Value) (x : List Int), v = .agg #[.int .u8 xf, xv, .int .u8 xa, .bool xt] ∧ xf ≤ 255 ∧ xa ≤ 255 ∧ BytesAt w xv x := by
  simp only [Value.okWide, Tryz.underlying68] at hval
  obtain ⟨cs, rfl, -, -⟩ := hval
  obtain ⟨fuel, h⟩ := hd
  simp only [Value.cells] at h
  obtain ⟨y0, y1, y2, y3, m, -, hl, h0, h1, h2, h3⟩ := Joins.trod_struct4 Tryz.underlying68 h
  rw [cellsMended] at hl
  obtain ⟨cs⟩ := cs
  obtain ⟨c0, c1, c2, c3, rfl⟩ := four_of hl
  simp only [cellsU8, cellsBytesL, cellsBool, List.drop_zero, List.drop_succ_cons, List.take_succ_cons, List.take_zero] at h0 h1 h2 h3
  obtain ⟨a, ea, -, wa⟩ := DataW.trod_int Tryz.underlying5 h0
  obtain ⟨e, ee, -, we⟩ := DataW.trod_int Tryz.underlying5 h2
  obtain ⟨t, et, -⟩ := DataW.trod_bool Tryz.underlying4 h3
  have hb : ∃ l, BytesAt w c1 l := slice_of Tryz.underlying56 cellsU8 (by decide) (fun n cs y hy => by
    obtain ⟨x, rfl, -, wx⟩ := DataW.trod_int Tryz.underlying5 hy
    exact ⟨x, fun b o hc => ⟨hc 0 (by decide), wf_u8 wx⟩⟩) h1
  obtain ⟨x, hx⟩ := hb
  simp only [List.cons.injEq, and_true] at ea ee et
  subst ea ee et
  have ua := wf_u8 wa
  have ue := wf_u8 we
  unfold U8 at ua ue
  exact ⟨a.toNat, e.toNat, t, c1, x, by rw [show ((a.toNat : Nat) : Int) = a from by omega, show ((e.toNat : Nat) : Int) = e from by omega], by omega, by omega, hx⟩
end
end Go.Proofs.YtgcibmdohifiaaaGreat

namespace Go.Proofs.YtgcibmdohifiaaaGreat
set_option linter.unusedSimpArgs false
set_option linter.unusedVariables false
set_option linter.unusedVariables false

/-- counts as a list, over others -/
def ovr : (Nat → Int) → Nat → List Nat → (Nat → Int)
  | c, _, [] => c
  | c, k, n :: ns => ovr (updC c k n) (k + 1) ns
def waysL : List (List Slot) → List ByteArray → List (List Nat)
  | [], left => if left.length = 0 then [[]] else []
  | sl :: r, left => (List.range (sl.length + 1)).flatMap fun n => if sizeOk sl left n = true then (waysL r (left.drop n)).map (n :: ·) else []
theorem waysTo_flat (step : Nat → List (Nat → Int)) (sl : List Slot) (left : List ByteArray) : ∀ k, waysTo step sl left k = (List.range k).flatMap fun n => if sizeOk sl left n = true then step n else []
  | 0 => rfl
  | k + 1 => by rw [waysTo, waysTo_flat step sl left k, List.range_succ, List.flatMap_append]; simp
theorem ways_list : ∀ (ss : List (List Slot)) (k : Nat) (left : List ByteArray) (c : Nat → Int), waysF ss k left c = (waysL ss left).map (ovr c k)
  | [], k, left, c => by unfold waysF waysL; split <;> rfl
  | sl :: r, k, left, c => by
    rw [waysF, waysTo_flat, waysL, List.map_flatMap]
    congr 1
    funext n
    split
    · rw [ways_list r (k + 1) _ _, List.map_map]; rfl
    · rfl
theorem waysL_mem {sl : List Slot} {r : List (List Slot)} {left : List ByteArray} {ns : List Nat} : ns ∈ waysL (sl :: r) left ↔ ∃ n m, ns = n :: m ∧ n ≤ sl.length ∧ sizeOk sl left n = true ∧ m ∈ waysL r (left.drop n) := by
  rw [waysL, List.mem_flatMap]
  constructor
  · rintro ⟨n, hn, h⟩
    split at h
    · rename_i hs
      obtain ⟨m, hm, rfl⟩ := List.mem_map.1 h
      exact ⟨n, m, rfl, by have := List.mem_range.1 hn; omega, hs, hm⟩
    · cases h
  · rintro ⟨n, m, rfl, h1, h2, h3⟩
    exact ⟨n, List.mem_range.2 (by omega), by rw [if_pos h2]; exact List.mem_map.2 ⟨m, h3, rfl⟩⟩
theorem waysL_len : ∀ (ss : List (List Slot)) (left : List ByteArray) (ns : List Nat), ns ∈ waysL ss left → ns.length = ss.length
  | [], left, ns, h => by
    unfold waysL at h
    split at h
    · rw [List.mem_singleton] at h; subst h; rfl
    · cases h
  | sl :: r, left, ns, h => by
    obtain ⟨n, m, rfl, -, -, hm⟩ := waysL_mem.1 h
    rw [List.length_cons, List.length_cons, waysL_len r _ m hm]
theorem ovr_at : ∀ (ns : List Nat) (c : Nat → Int) (k j : Nat), ovr c k ns j = if k ≤ j ∧ j < k + ns.length then ((ns.getD (j - k) 0 : Nat) : Int) else c j
  | [], c, k, j => by rw [ovr, if_neg (by simp only [List.length_nil]; omega)]
  | n :: ns, c, k, j => by
    rw [ovr, ovr_at ns _ (k + 1) j]
    by_cases hj : j = k
    · subst hj
      rw [if_neg (by omega), if_pos (by simp)]
      simp [updC]
    · by_cases h : k + 1 ≤ j ∧ j < k + 1 + ns.length
      · rw [if_pos h, if_pos (by simp; omega)]
        have : j - k = (j - (k + 1)) + 1 := by omega
        rw [this, List.getD_cons_succ]
      · rw [if_neg h, if_neg (by simp; omega)]
        simp [updC, hj]
/-- the fills by counts, part by part -/
def fillsR : List Part → List Nat → List ByteArray → List (List ByteArray)
  | p :: ps, n :: ns, l => if roomyM p then l.take n :: fillsR ps ns (l.drop n) else fillsR ps ns (l.drop n)
  | _, _, _ => []
theorem fillsR_nil (ns : List Nat) (l : List ByteArray) : fillsR [] ns l = [] := by cases ns <;> rfl
theorem fills_rec (ps : List Part) (c : Nat → Int) (ns : List Nat) (l : List ByteArray) (hn : ns.length = ps.length) (hc : ∀ j (h : j < ns.length), c j = (ns[j] : Nat)) : ∀ k, k ≤ ps.length → (fillsTo ps c l k).1 ++ fillsR (ps.drop k) (ns.drop k) (fillsTo ps c l k).2 = fillsR ps ns l
  | 0, _ => by simp [fillsTo]
  | k + 1, hk => by
    have ih := fills_rec ps c ns l hn hc k (by omega)
    have hlt : k < ps.length := by omega
    have hln : k < ns.length := by omega
    rw [List.drop_eq_getElem_cons hlt, List.drop_eq_getElem_cons hln, fillsR] at ih
    have e : ps.getD k ⟨[], 0, 0⟩ = ps[k] := by rw [List.getD_eq_getElem?_getD, List.getElem?_eq_getElem hlt]; rfl
    have e2 : (c k).toNat = ns[k] := by rw [hc k hln]; simp
    rw [fillsTo, e, e2]
    cases hr : roomyM ps[k]
    · rw [hr] at ih
      simpa using ih
    · rw [hr] at ih
      simpa using ih
theorem fills_is (ps : List Part) (ns : List Nat) (l : List ByteArray) (hn : ns.length = ps.length) : fillsM ps (ovr (fun _ => 0) 0 ns) l = fillsR ps ns l := by
  have := fills_rec ps (ovr (fun _ => 0) 0 ns) ns l hn (fun j h => by rw [ovr_at, if_pos (by omega)]; simp [h]) ps.length (Nat.le_refl _)
  rw [List.drop_length, fillsR_nil, List.append_nil] at this
  exact this
/-- the lengths in the rooms -/
def lensR : List Part → List Nat → List Int
  | p :: ps, n :: ns => if roomyM p then (n : Int) :: lensR ps ns else lensR ps ns
  | _, _ => []
theorem given_size {ws left : List ByteArray} {n : Nat} (hw : ∀ s ∈ ws, wordM s = true) (h : n ≤ ws.length) (hs : sizeOk (givenM ws) left n = true) : n = ws.length ∧ left.take n = ws := by
  obtain ⟨h1, h2, h3⟩ := sizeOk_iff.1 hs
  have hlen : (givenM ws).length = ws.length := by simp [givenM]
  have hn : n = ws.length := by
    rcases h2 with h2 | h2
    · omega
    · by_cases hlt : n < ws.length
      · have e : (givenM ws).getD n noSlot = ⟨ws[n], false⟩ := by rw [List.getD_eq_getElem?_getD, List.getElem?_eq_getElem (by omega)]; simp [givenM]
        rw [e] at h2; cases h2
      · omega
  subst hn
  refine ⟨rfl, List.ext_getElem (by rw [List.length_take]; omega) fun i hi h2 => ?_⟩
  have := h3 i h2
  have e : (givenM ws).getD i noSlot = ⟨ws[i], false⟩ := by rw [List.getD_eq_getElem?_getD, List.getElem?_eq_getElem (by omega)]; simp [givenM]
  rw [e] at this
  unfold takesM at this
  rw [toList_ne (hw _ (List.getElem_mem h2)), Bool.false_or] at this
  have e2 : left.getD i ByteArray.empty = left[i]'(by omega) := by rw [List.getD_eq_getElem?_getD, List.getElem?_eq_getElem (by omega)]; rfl
  rw [e2] at this
  rw [List.getElem_take]
  exact (toList_inj (eq_of_beq this)).symm
theorem room_size {lo hi : Int} {left : List ByteArray} {n : Nat} (hlh : lo ≤ hi) (h0 : 0 ≤ lo) (h : n ≤ (roomSlotsM lo hi.toNat).length) (hs : sizeOk (roomSlotsM lo hi.toNat) left n = true) : n ≤ left.length ∧ lo ≤ n ∧ (n : Int) ≤ hi := by
  obtain ⟨h1, h2, -⟩ := sizeOk_iff.1 hs
  have hlen : (roomSlotsM lo hi.toNat).length = hi.toNat := by simp [roomSlotsM]
  rw [hlen] at h h2
  refine ⟨h1, ?_, by omega⟩
  rcases h2 with h2 | h2
  · omega
  · by_cases hlt : n < hi.toNat
    · have e : (roomSlotsM lo hi.toNat).getD n noSlot = ⟨ByteArray.empty, decide (lo ≤ (n : Int))⟩ := by rw [List.getD_eq_getElem?_getD, List.getElem?_eq_getElem (by omega)]; simp [roomSlotsM]
      rw [e] at h2
      exact of_decide_eq_true h2
    · omega
theorem part_given {p : Part} (hv : ValidPart p) (hr : roomyM p = false) : partSlotsM p = givenM p.words ∧ ∀ s ∈ p.words, wordM s = true := by
  have hne : p.words ≠ [] := fun e => by unfold roomyM at hr; rw [e] at hr; simp at hr
  have hw := hv.w
  unfold wordsM at hw
  rw [List.all_eq_true] at hw
  exact ⟨by unfold partSlotsM; rw [(hv.z hne).2]; simp [roomSlotsM], hw⟩
theorem part_room {p : Part} (hv : ValidPart p) (hr : roomyM p = true) : partSlotsM p = roomSlotsM p.lo p.hi.toNat ∧ 0 ≤ p.lo ∧ p.lo ≤ p.hi ∧ 1 ≤ p.hi ∧ p.hi ≤ 3 := by
  have he : p.words = [] := by unfold roomyM at hr; exact List.eq_nil_of_length_eq_zero (by simpa using hr)
  exact ⟨by unfold partSlotsM; rw [he]; rfl, hv.r he⟩
/-- a way's fills are right, and make the letter -/
theorem way_fills : ∀ (ps : List Part) (l : List ByteArray) (ns : List Nat), (∀ p ∈ ps, ValidPart p) → (∀ s ∈ l, wordM s = true) → ns ∈ waysL (ps.map partSlotsM) l →
    builtR ps (fillsR ps ns l) = l ∧ PutOk (roomsM ps) (fillsR ps ns l) ∧ (fillsR ps ns l).length = (roomsM ps).length ∧ (fillsR ps ns l).map (fun x => (x.length : Int)) = lensR ps ns
  | [], l, ns, _, _, h => by
    unfold waysL at h
    simp only [List.map_nil] at h
    split at h
    · rename_i h0
      rw [List.mem_singleton] at h; subst h
      exact ⟨(List.eq_nil_of_length_eq_zero h0).symm, ⟨by simp [fillsR], by simp [fillsR], by simp [fillsR]⟩, rfl, rfl⟩
    · cases h
  | p :: ps, l, ns, hv, hw, h => by
    rw [List.map_cons] at h
    obtain ⟨n, m, rfl, h1, h2, h3⟩ := waysL_mem.1 h
    have hvp := hv p List.mem_cons_self
    obtain ⟨i1, i2, i3, i4⟩ := way_fills ps (l.drop n) m (fun q hq => hv q (List.mem_cons_of_mem _ hq)) (fun s hs => hw s (List.mem_of_mem_drop hs)) h3
    rw [fillsR, builtR, lensR]
    cases hr : roomyM p
    · obtain ⟨e1, e2⟩ := part_given hvp hr
      rw [e1] at h1 h2
      obtain ⟨e3, e4⟩ := given_size e2 (by simpa [givenM] using h1) h2
      have hrm : roomsM (p :: ps) = roomsM ps := by simp [roomsM, hr]
      rw [hrm]
      simp only [Bool.false_eq_true, if_false]
      refine ⟨?_, i2, i3, i4⟩
      rw [i1]
      conv => rhs; rw [← List.take_append_drop n l, e4]
    · obtain ⟨e1, e2, e3, e4, e5⟩ := part_room hvp hr
      rw [e1] at h1 h2
      obtain ⟨g1, g2, g3⟩ := room_size e3 e2 h1 h2
      have hrm : roomsM (p :: ps) = p :: roomsM ps := by simp [roomsM, hr]
      have hlt : (l.take n).length = n := by rw [List.length_take]; omega
      rw [hrm]
      simp only [if_true, List.headD_cons, List.tail_cons, List.map_cons, hlt]
      refine ⟨by rw [i1, List.take_append_drop], ⟨by simp; omega, fun i hi hi2 => ?_, fun x hx => ?_⟩, by simp [i3], by rw [i4]⟩
      · cases i with
        | zero => simp only [List.getElem_cons_zero, hlt]; exact ⟨g2, g3⟩
        | succ i => simpa using i2.at_ i (by simpa using hi) (by simpa using hi2)
      · rcases List.mem_cons.1 hx with rfl | hx
        · exact fun s hs => hw s (List.mem_of_mem_take hs)
        · exact i2.w x hx
/-- fills that are right are one of the ways of their letter -/
theorem fills_way : ∀ (ps : List Part) (fs : List (List ByteArray)), (∀ p ∈ ps, ValidPart p) → PutOk (roomsM ps) fs → fs.length = (roomsM ps).length → ∃ ns, ns ∈ waysL (ps.map partSlotsM) (builtR ps fs) ∧ fillsR ps ns (builtR ps fs) = fs
  | [], fs, _, _, hn => by
    have : fs = [] := List.eq_nil_of_length_eq_zero hn
    subst this
    exact ⟨[], by simp [waysL, builtR], rfl⟩
  | p :: ps, fs, hv, hp, hn => by
    have hvp := hv p List.mem_cons_self
    have hv' : ∀ q ∈ ps, ValidPart q := fun q hq => hv q (List.mem_cons_of_mem _ hq)
    cases hr : roomyM p
    · have hrm : roomsM (p :: ps) = roomsM ps := by simp [roomsM, hr]
      rw [hrm] at hp hn
      obtain ⟨ns, i1, i2⟩ := fills_way ps fs hv' hp hn
      obtain ⟨e1, e2⟩ := part_given hvp hr
      have hb : builtR (p :: ps) fs = p.words ++ builtR ps fs := by rw [builtR, hr]; rfl
      have hd : (p.words ++ builtR ps fs).drop p.words.length = builtR ps fs := List.drop_left
      rw [hb]
      refine ⟨p.words.length :: ns, ?_, by rw [fillsR, hr, hd]; exact i2⟩
      rw [List.map_cons, e1]
      refine waysL_mem.2 ⟨_, _, rfl, by simp [givenM], sizeOk_iff.2 ⟨by simp, .inl (by simp [givenM]), fun i hi => ?_⟩, by rw [hd]; exact i1⟩
      have e : (givenM p.words).getD i noSlot = ⟨p.words[i], false⟩ := by rw [List.getD_eq_getElem?_getD, List.getElem?_eq_getElem (by simp [givenM]; exact hi)]; simp [givenM]
      have e3 : (p.words ++ builtR ps fs).getD i ByteArray.empty = p.words[i] := by rw [List.getD_eq_getElem?_getD, List.getElem?_append_left hi, List.getElem?_eq_getElem hi]; rfl
      rw [e, e3]
      simp [takesM]
    · have hrm : roomsM (p :: ps) = p :: roomsM ps := by simp [roomsM, hr]
      rw [hrm] at hp hn
      cases fs with
      | nil => simp at hn
      | cons x fs =>
        obtain ⟨t1, t2, t3⟩ := hp.tail
        obtain ⟨ns, i1, i2⟩ := fills_way ps fs hv' t1 (by simpa using hn)
        obtain ⟨e1, e2, e3, e4, e5⟩ := part_room hvp hr
        have hb : builtR (p :: ps) (x :: fs) = x ++ builtR ps fs := by rw [builtR, hr]; rfl
        have hd : (x ++ builtR ps fs).drop x.length = builtR ps fs := List.drop_left
        have ht : (x ++ builtR ps fs).take x.length = x := List.take_left
        have hlen : (roomSlotsM p.lo p.hi.toNat).length = p.hi.toNat := by simp [roomSlotsM]
        rw [hb]
        refine ⟨x.length :: ns, ?_, by rw [fillsR, hr, hd, ht]; simp [i2]⟩
        rw [List.map_cons, e1]
        refine waysL_mem.2 ⟨_, _, rfl, by rw [hlen]; omega, sizeOk_iff.2 ⟨by simp, ?_, fun i hi => ?_⟩, by rw [hd]; exact i1⟩
        · by_cases hlt : x.length < p.hi.toNat
          · right
            have e : (roomSlotsM p.lo p.hi.toNat).getD x.length noSlot = ⟨ByteArray.empty, decide (p.lo ≤ (x.length : Int))⟩ := by rw [List.getD_eq_getElem?_getD, List.getElem?_eq_getElem (by omega)]; simp [roomSlotsM]
            rw [e]
            exact decide_eq_true t2.1
          · left; rw [hlen]; omega
        · have e : (roomSlotsM p.lo p.hi.toNat).getD i noSlot = ⟨ByteArray.empty, decide (p.lo ≤ (i : Int))⟩ := by rw [List.getD_eq_getElem?_getD, List.getElem?_eq_getElem (by omega)]; simp [roomSlotsM]
          rw [e]
          simp [takesM]
/-! ### in which order the ways come -/
def intsN (ns : List Nat) : List Int := ns.map fun (n : Nat) => ((n : Nat) : Int)
theorem lexL_cons (x y : Int) (a b : List Int) : lexL (x :: a) (y :: b) = if x = y then lexL a b else decide (x < y) := rfl
theorem lexL_asym : ∀ (a b : List Int), lexL a b = true → lexL b a = false
  | [], _, h => by simp [lexL] at h
  | _ :: _, [], h => by simp [lexL] at h
  | x :: a, y :: b, h => by
    rw [lexL_cons] at h ⊢
    by_cases e : x = y
    · subst e
      rw [if_pos rfl] at h ⊢
      exact lexL_asym a b h
    · rw [if_neg e] at h
      rw [if_neg (Ne.symm e)]
      have := of_decide_eq_true h
      exact decide_eq_false (by omega)
theorem lexL_self : ∀ a : List Int, lexL a a = false
  | [] => rfl
  | x :: a => by rw [lexL_cons, if_pos rfl]; exact lexL_self a
theorem ways_sorted : ∀ (ss : List (List Slot)) (left : List ByteArray), (waysL ss left).Pairwise fun a b => lexL (intsN a) (intsN b) = true
  | [], left => by unfold waysL; split <;> simp
  | sl :: r, left => by
    rw [waysL, List.pairwise_flatMap]
    refine ⟨fun n hn => ?_, ?_⟩
    · split
      · rw [List.pairwise_map]
        exact (ways_sorted r (left.drop n)).imp fun {a b} h => by
          show lexL ((n : Int) :: intsN a) ((n : Int) :: intsN b) = true
          rw [lexL_cons, if_pos rfl]; exact h
      · simp
    · refine List.pairwise_lt_range.imp fun {n m} h a ha b hb => ?_
      split at ha
      · split at hb
        · obtain ⟨a, -, rfl⟩ := List.mem_map.1 ha
          obtain ⟨b, -, rfl⟩ := List.mem_map.1 hb
          show lexL ((n : Int) :: intsN a) ((m : Int) :: intsN b) = true
          rw [lexL_cons, if_neg (by omega)]
          exact decide_eq_true (by omega)
        · cases hb
      · cases ha
theorem lex_pad : ∀ (a b z : List Int), a.length = b.length → lexL (a ++ z) (b ++ z) = lexL a b
  | [], [], z, _ => by rw [List.nil_append, lexL_self]; rfl
  | x :: a, y :: b, z, h => by
    rw [List.cons_append, List.cons_append, lexL_cons, lexL_cons, lex_pad a b z (by simpa using h)]
  | [], _ :: _, z, h => by simp at h
  | _ :: _, [], z, h => by simp at h
theorem ovr_five {ns : List Nat} (h : ns.length ≤ 5) : [ovr (fun _ => 0) 0 ns 0, ovr (fun _ => 0) 0 ns 1, ovr (fun _ => 0) 0 ns 2, ovr (fun _ => 0) 0 ns 3, ovr (fun _ => 0) 0 ns 4] = intsN ns ++ List.replicate (5 - ns.length) 0 := by
  match ns, h with
  | [], _ => rfl
  | [a], _ => rfl
  | [a, b], _ => rfl
  | [a, b, c], _ => rfl
  | [a, b, c, d], _ => rfl
  | [a, b, c, d, e], _ => rfl
theorem before_lex {a b : List Nat} (h : a.length ≤ 5) (e : a.length = b.length) : beforeM (ovr (fun _ => 0) 0 a) (ovr (fun _ => 0) 0 b) = lexL (intsN a) (intsN b) := by
  unfold beforeM
  rw [ovr_five h, ovr_five (by omega), ← e, lex_pad _ _ _ (by simp [intsN, e])]
theorem pick_head {α : Type} (bf : α → α → Bool) (z h : α) : ∀ t : List α, (∀ x ∈ t, bf x h = false) → (pickB bf z (h :: t)).1 = h := by
  intro t
  refine snoc_ind (p := fun t => (∀ x ∈ t, bf x h = false) → (pickB bf z (h :: t)).1 = h) (fun _ => rfl) (fun t x ih ht => ?_) t
  have := ih fun y hy => ht y (List.mem_append_left _ hy)
  rw [← List.cons_append, pickB_snoc, pickB_many, this, if_neg]
  rintro (h0 | h0)
  · simp at h0
  · rw [ht x (by simp)] at h0; cases h0
/-- the lengths in the rooms are in the order of the counts -/
theorem lens_lex : ∀ (ps : List Part) (la lb : List ByteArray) (a b : List Nat), (∀ p ∈ ps, ValidPart p) → a ∈ waysL (ps.map partSlotsM) la → b ∈ waysL (ps.map partSlotsM) lb → lessM (lensR ps a) (lensR ps b) = lexL (intsN a) (intsN b)
  | [], la, lb, a, b, _, ha, hb => by
    have h1 := waysL_len _ _ _ ha
    have h2 := waysL_len _ _ _ hb
    rw [List.eq_nil_of_length_eq_zero h1, List.eq_nil_of_length_eq_zero h2]; rfl
  | p :: ps, la, lb, a, b, hv, ha, hb => by
    rw [List.map_cons] at ha hb
    obtain ⟨n, a, rfl, a1, a2, a3⟩ := waysL_mem.1 ha
    obtain ⟨m, b, rfl, b1, b2, b3⟩ := waysL_mem.1 hb
    have ih := lens_lex ps _ _ a b (fun q hq => hv q (List.mem_cons_of_mem _ hq)) a3 b3
    have hvp := hv p List.mem_cons_self
    rw [lensR, lensR]
    show _ = lexL ((n : Int) :: intsN a) ((m : Int) :: intsN b)
    rw [lexL_cons]
    cases hr : roomyM p
    · obtain ⟨e1, e2⟩ := part_given hvp hr
      rw [e1] at a1 a2 b1 b2
      obtain ⟨e3, -⟩ := given_size e2 (by simpa [givenM] using a1) a2
      obtain ⟨e4, -⟩ := given_size e2 (by simpa [givenM] using b1) b2
      rw [e3, e4, if_pos rfl]
      simpa using ih
    · simp only [if_true]
      rw [lessM, ih]
/-- what LetterMade needs of the ways -/
theorem made_first {f : Form} (hv : ValidForm f) {fs : List (List ByteArray)} (hp : PutOk (roomsM f.parts) fs) (hn : fs.length = (roomsM f.parts).length) :
    (formWays f.parts (builtM f.parts fs)).length ≠ 0 ∧ builtM f.parts (fillsM f.parts (firstWayM f.parts (builtM f.parts fs)) (builtM f.parts fs)) = builtM f.parts fs ∧
      PutOk (roomsM f.parts) (fillsM f.parts (firstWayM f.parts (builtM f.parts fs)) (builtM f.parts fs)) ∧ (fillsM f.parts (firstWayM f.parts (builtM f.parts fs)) (builtM f.parts fs)).length = (roomsM f.parts).length ∧
      lessM (fs.map fun x => (x.length : Int)) ((fillsM f.parts (firstWayM f.parts (builtM f.parts fs)) (builtM f.parts fs)).map fun x => (x.length : Int)) = false ∧
      ((formWays f.parts (builtM f.parts fs)).length ≤ 1 → fillsM f.parts (firstWayM f.parts (builtM f.parts fs)) (builtM f.parts fs) = fs) := by
  obtain ⟨-, -, hw⟩ := made_ed f.parts fs hv.parts hp hn
  obtain ⟨ns, h1, h2⟩ := fills_way f.parts fs hv.parts hp hn
  rw [built_is]
  generalize hl : builtR f.parts fs = l at *
  have h5 := hv.n
  have hways : formWays f.parts l = (waysL (f.parts.map partSlotsM) l).map (ovr (fun _ => 0) 0) := by unfold formWays; rw [ways_list]
  have hlen := fun m (hm : m ∈ waysL (f.parts.map partSlotsM) l) => (waysL_len _ _ _ hm).trans (List.length_map ..)
  have hsort := ways_sorted (f.parts.map partSlotsM) l
  cases hW : waysL (f.parts.map partSlotsM) l with
  | nil => rw [hW] at h1; cases h1
  | cons hd tl =>
    rw [hW] at hsort hlen h1 hways
    have hhd := hlen hd List.mem_cons_self
    have hlt := (List.pairwise_cons.1 hsort).1
    have hfirst : firstWayM f.parts l = ovr (fun _ => 0) 0 hd := by
      unfold firstWayM
      rw [hways, List.map_cons]
      refine pick_head _ _ _ _ fun x hx => ?_
      obtain ⟨m, hm, rfl⟩ := List.mem_map.1 hx
      rw [before_lex (by rw [hlen m (List.mem_cons_of_mem _ hm)]; exact h5) (by rw [hhd, hlen m (List.mem_cons_of_mem _ hm)])]
      exact lexL_asym _ _ (hlt m hm)
    have hin : hd ∈ waysL (f.parts.map partSlotsM) l := by rw [hW]; exact List.mem_cons_self
    have hin2 : ns ∈ waysL (f.parts.map partSlotsM) l := by rw [hW]; exact h1
    obtain ⟨g1, g2, g3, g4⟩ := way_fills f.parts l hd hv.parts hw hin
    obtain ⟨-, -, -, k4⟩ := way_fills f.parts l ns hv.parts hw hin2
    rw [h2] at k4
    rw [hfirst, fills_is _ _ _ hhd, built_is]
    refine ⟨by rw [hways]; simp, g1, g2, g3, ?_, fun hle => ?_⟩
    · rw [g4, k4, lens_lex f.parts l l ns hd hv.parts hin2 hin]
      rcases List.mem_cons.1 h1 with rfl | h
      · exact lexL_self _
      · exact lexL_asym _ _ (hlt ns h)
    · rw [hways, List.length_map, List.length_cons] at hle
      have : tl = [] := List.eq_nil_of_length_eq_zero (by omega)
      subst this
      rw [List.mem_singleton] at h1
      subst h1
      exact h2
end Go.Proofs.YtgcibmdohifiaaaGreat

namespace Go.Proofs.YtgcibmdohifiaaaGreat
set_option linter.unusedSimpArgs false
set_option linter.unusedVariables false
open Go.RowKit
set_option linter.unusedVariables false

theorem firstErr_noneFrom {α : Type} (f : List α → α → Int) : ∀ (r pre : List α), (∀ k (hk : k < r.length), f (pre ++ r.take k) r[k] = 0) → (firstErrFrom f pre r).2 = 0
  | [], _, _ => rfl
  | x :: r, pre, h => by
    have h0 := h 0 (by simp)
    simp only [List.take_zero, List.append_nil, List.getElem_cons_zero] at h0
    unfold firstErrFrom
    rw [if_pos h0]
    refine firstErr_noneFrom f r (pre ++ [x]) fun k hk => ?_
    have := h (k + 1) (by simpa using hk)
    simpa using this
/-- fills that are right have no error -/
theorem fillsErr_none {ps : List Part} {fs : List (List ByteArray)} (hp : PutOk (roomsM ps) fs) (hn : fs.length = (roomsM ps).length) : fillsErrM ps fs = 0 := by
  unfold fillsErrM
  rw [if_neg (by simpa using hn)]
  refine firstErr_noneFrom _ fs [] fun k hk => ?_
  rw [List.nil_append]
  unfold fillErrM
  have hlr : k < (roomsM ps).length := by omega
  have hlk : (fs.take k).length = k := by rw [List.length_take]; omega
  rw [hlk, show (roomsM ps).getD k ⟨[], 0, 0⟩ = (roomsM ps)[k] from by simp [hlr]]
  obtain ⟨h1, h2⟩ := hp.at_ k hk hlr
  rw [if_neg, if_neg]
  · rw [Bool.not_eq_false]
    unfold wordsM
    rw [List.all_eq_true]
    exact hp.w _ (List.getElem_mem hk)
  · rw [Bool.not_eq_false]
    unfold inM
    rw [Bool.and_eq_true]
    exact ⟨decide_eq_true h1, decide_eq_true h2⟩
theorem fills_bad {s : Shelf} (h : errS s ≠ 0 ∨ s.forms.length = 0) : (fillRes s 0 []).err ≠ 0 := by
  have ho : openForErrM s 0 [] ≠ 0 := by
    have : openErrM s 0 ≠ 0 := by
      unfold openErrM
      by_cases h1 : errS s = 0
      · have h2 := h.resolve_left fun e => e h1
        rw [if_neg (by rw [h1]; simp), h2, if_pos (by decide)]
        decide
      · rw [if_pos h1]; exact h1
    unfold openForErrM
    rw [if_pos this]; exact this
  unfold fillRes
  rw [if_pos ho]; exact ho
def lenI (fs : List (List ByteArray)) : List Int := fs.map fun x => (x.length : Int)
theorem lenI_step (fs : List (List ByteArray)) (k : Nat) (h : k < fs.length) : lenI (fs.take (k + 1)) = lenI (fs.take k) ++ [(fs[k].length : Int)] := by
  unfold lenI
  rw [List.take_succ_eq_append_getElem h, List.map_append]; rfl
theorem lenI_len (fs : List (List ByteArray)) (k : Nat) (h : k ≤ fs.length) : (lenI (fs.take k)).length = k := by
  unfold lenI
  rw [List.length_map, List.length_take]; omega
/-- two rows do not lie in one block -/
def ApartV (a b : Value) : Prop := ∀ g, a.ownBlock = some g → b.ownBlock = some g → False
theorem apart_ne {a b : Value} (h : ApartV a b) : b.ownBlock = none ∨ b.ownBlock ≠ a.ownBlock := by
  cases hb : b.ownBlock with
  | none => exact .inl rfl
  | some g => exact .inr fun e => h g e.symm hb
theorem apart_ne' {a b : Value} (h : ApartV a b) : a.ownBlock = none ∨ a.ownBlock ≠ b.ownBlock := by
  cases ha : a.ownBlock with
  | none => exact .inl rfl
  | some g => exact .inr fun e => h g ha e.symm
/-- a row of numbers of the call's own -/
def RowI (base : Nat) (l : List Int) (u : Value) (w : World) : Prop := w.ownsRow base 3 1 u l.length (l.map (Value.int .i64))
theorem RowI.ext {base : Nat} {l : List Int} {u : Value} {w w' : World} (h : RowI base l u w) (hx : Ext w w') : RowI base l u w' := Ext.owns h hx
theorem RowI.snoc {base : Nat} {l : List Int} {c : Int} {u : Value} {w : World} (h : w.ownsRow base 3 1 u (l.length + 1) (l.map (Value.int .i64) ++ [.int .i64 c])) : RowI base (l ++ [c]) u w := by
  unfold RowI
  rw [List.length_append, List.map_append]; exact h
theorem lenI_I64 {fs : List (List ByteArray)} (h : ∀ l ∈ fs, l.length ≤ 15) : ∀ x ∈ lenI fs, I64 x := by
  intro x hx
  obtain ⟨l, hl, rfl⟩ := List.mem_map.1 hx
  have := h l hl
  constructor <;> omega
theorem fillRes_ok {s : Shelf} {k : Nat} {l : List ByteArray} (hk : k < s.forms.length) (ho : openForErrM s k l = 0) (hw : (formWays s.forms[k].parts l).length ≠ 0) : fillRes s k l = ⟨fillsM s.forms[k].parts (firstWayM s.forms[k].parts l) l, (formWays s.forms[k].parts l).length, 0⟩ := by
  unfold fillRes
  rw [if_neg (by rw [ho]; simp), Int.toNat_natCast, List.getElem?_eq_getElem hk]
  simp only
  rw [if_neg hw]
set_option maxRecDepth 100000 in
set_option maxHeartbeats 8000000 in
theorem madeL_any (sv yv : Value) (s : Shelf) (xf : Nat) (hxf : xf ≤ 255) (x : List Int) (w : World) (hs : ShelfAt w sv s) (hxs : BytesAt w yv x) :
    Calls Tryz.prog 8 #[sv, .int .u8 xf, yv] w fun e w' => e = .returned (.bool true) ∧ Ext w w' := by
  obtain ⟨fa, fc, rfl, -⟩ := hs.open
  obtain ⟨ya, yc, rfl, -⟩ := hxs.shape
  obtain ⟨i0, hi, hz0, hz1, hz2⟩ := info_parts infoInt
  obtain ⟨W, hW, hb, q0, q1, x1⟩ := box_shelf hs
  replace hxs := hxs.ext x1
  have z1 := cell_lt q0
  have HW := Lib.hid hW
  clear hs hW
  go_enter Tryz.func8, Tryz.ntmps8
  go_wp2_with fail
  rw [← HW.out]
  clear HW
  by_cases hbad : errS s ≠ 0 ∨ s.forms.length = 0
  · have g1' := neT (fills_bad hbad)
    have hfi := fun w' v (h : ShelfAt w' v s) => Fills_any v (.slice none 0 0) s 0 (by constructor <;> decide) [] w' h SliceAt.nil
    generalize (fillRes s 0 []).err = er at *
    generalize (fillRes s 0 []).many = mn at *
    generalize (fillRes s 0 []).fills = fl at *
    by_cases h1 : errS s = 0
    · have h2 := hbad.resolve_left fun e => e h1
      have h2' : ((s.forms.length : Int) == 0) = true := by rw [h2]; rfl
      clear h2 hbad
      refine (validL_any _ s _ hb).mono ?_
      rw [show (errS s == 0) = true from by rw [h1]; rfl]
      rintro e w3 ⟨rfl, hx⟩
      (replace hb := hb.ext hx; replace q0 := hx.cell q0; replace q1 := hx.cell q1; replace z1 := cell_lt q0; replace hxs := hxs.ext hx; replace x1 := x1.trans hx; clear hx)
      clear h1
      go_wp2_with fail
      refine (hfi _ _ hb).mono ?_
      rintro e w4 ⟨u, rfl, hu, hx⟩
      obtain ⟨ua, uc, rfl, -⟩ := hu.shape
      (replace hb := hb.ext hx; replace q0 := hx.cell q0; replace q1 := hx.cell q1; replace z1 := cell_lt q0; replace hxs := hxs.ext hx; replace x1 := x1.trans hx; clear hx)
      go_wp2_with fail
      refine (awakeL_any _).mono ?_
      rintro e w7 ⟨rfl, hx⟩
      go_wp2
      go_ret
      exact ⟨rfl, x1.trans hx⟩
    · clear hbad
      refine (validL_any _ s _ hb).mono ?_
      rw [show (errS s == 0) = false from by simpa using h1]
      rintro e w3 ⟨rfl, hx⟩
      (replace hb := hb.ext hx; replace q0 := hx.cell q0; replace q1 := hx.cell q1; replace z1 := cell_lt q0; replace hxs := hxs.ext hx; replace x1 := x1.trans hx; clear hx)
      clear h1
      go_wp2_with fail
      refine (hfi _ _ hb).mono ?_
      rintro e w4 ⟨u, rfl, hu, hx⟩
      obtain ⟨ua, uc, rfl, -⟩ := hu.shape
      (replace hb := hb.ext hx; replace q0 := hx.cell q0; replace q1 := hx.cell q1; replace z1 := cell_lt q0; replace hxs := hxs.ext hx; replace x1 := x1.trans hx; clear hx)
      go_wp2_with fail
      refine (awakeL_any _).mono ?_
      rintro e w7 ⟨rfl, hx⟩
      go_wp2
      go_ret
      exact ⟨rfl, x1.trans hx⟩
  · have h1 : errS s = 0 := Decidable.not_not.1 fun e => hbad (.inl e)
    have h2 : s.forms.length ≠ 0 := fun e => hbad (.inr e)
    have hv4 := (errS_ok h1).n
    have V := Lib.hid (errS_ok h1)
    have H1 := Lib.hid h1
    have h2' : ((s.forms.length : Int) == 0) = false := by simpa using h2
    have H2 := Lib.hid h2
    clear hbad h1 h2
    refine (validL_any _ s _ hb).mono ?_
    rw [show (errS s == 0) = true from by rw [H1.out]; rfl]
    rintro e w4 ⟨rfl, hx⟩
    (replace hb := hb.ext hx; replace q0 := hx.cell q0; replace q1 := hx.cell q1; replace z1 := cell_lt q0; replace hxs := hxs.ext hx; replace x1 := x1.trans hx; clear hx)
    have hwh := fun w' v (h : ShelfAt w' v s) => which_any v s xf hxf w' h H2.out hv4
    obtain ⟨k, hk⟩ : ∃ k, k = xf % s.forms.length := ⟨_, rfl⟩
    have hkl : k < s.forms.length := by rw [hk]; exact Nat.mod_lt _ (by have := H2.out; omega)
    rw [← hk] at hwh
    clear hk
    have k1 : (k : Int) < (s.forms.length : Int) := by omega
    have hkI : I64 k := by constructor <;> omega
    obtain ⟨fb, fo, rfl, f0, fsz, pu, f1, hps⟩ : ∃ b o, fa = some ⟨b, o, none⟩ ∧ w4.cell? ⟨b, o + k * 2, none⟩ = some (.string s.forms[k].name) ∧ s.forms[k].name.size ≤ 9223372036854775807 ∧ ∃ u, w4.cell? ⟨b, o + k * 2 + 1, none⟩ = some u ∧ PartsAt w4 u s.forms[k].parts := by
      obtain ⟨u, e, -, h⟩ := hb
      obtain rfl : u = .slice fa s.forms.length fc := by simpa using e.symm
      exact h.get hkl
    obtain ⟨pa, pc, rfl, -⟩ := hps.shape
    have hVf : ValidForm s.forms[k] := V.out.forms _ (List.getElem_mem hkl)
    have hform : FormV w4 (.agg #[.string s.forms[k].name, .slice pa s.forms[k].parts.length pc]) s.forms[k] := ⟨_, rfl, fsz, hps⟩
    have ho0 : openErrM s k = 0 := by
      unfold openErrM
      rw [if_neg (by rw [H1.out]; simp), if_neg]
      rw [Bool.not_eq_false]
      unfold inM
      rw [Bool.and_eq_true]
      exact ⟨decide_eq_true (by omega), decide_eq_true (by omega)⟩
    have hmk : ∀ fs, PutOk (roomsM s.forms[k].parts) fs → fs.length = (roomsM s.forms[k].parts).length → makeErrM s k fs = 0 := fun fs h1 h2 => by
      unfold makeErrM
      rw [if_neg (by rw [ho0]; simp), show formOf s k = s.forms[k] from by unfold formOf; rw [Int.toNat_natCast]; simp [hkl]]
      exact fillsErr_none h1 h2
    have hfo : formOf s k = s.forms[k] := by unfold formOf; rw [Int.toNat_natCast]; simp [hkl]
    have hof : ∀ l, letterErrL l = 0 → (formWays s.forms[k].parts l).length ≠ 0 → openForErrM s k l = 0 ∧ shelfErrM s l = 0 ∧ (k : Int) ∈ ofM s l ∧ fillRes s k l = ⟨fillsM s.forms[k].parts (firstWayM s.forms[k].parts l) l, (formWays s.forms[k].parts l).length, 0⟩ := fun l h1 h2 => by
      have ho : openForErrM s k l = 0 := by unfold openForErrM; rw [if_neg (by rw [ho0]; simp), h1]
      refine ⟨ho, by unfold shelfErrM; rw [if_neg (by rw [H1.out]; simp), h1], ?_, fillRes_ok hkl ho h2⟩
      unfold ofM
      exact (ofTo_mem s.forms l s.forms.length k).2 ⟨hkl, by rw [List.getD_eq_getElem?_getD, List.getElem?_eq_getElem hkl]; exact Nat.pos_of_ne_zero h2⟩
    generalize s.forms[k] = f at *
    have Hmk := Lib.hid hmk
    have Hfo := Lib.hid hfo
    have Hof := Lib.hid hof
    have HV := Lib.hid hVf
    clear V hmk hfo hof hVf hps ho0
    go_wp2_with fail
    refine (hwh _ _ hb).mono ?_
    rintro e w5 ⟨rfl, hx⟩
    (replace hform := hform.ext hx; replace f0 := hx.cell f0; replace f1 := hx.cell f1)
    (replace hb := hb.ext hx; replace q0 := hx.cell q0; replace q1 := hx.cell q1; replace z1 := cell_lt q0; replace hxs := hxs.ext hx; replace x1 := x1.trans hx; clear hx)
    clear hwh
    go_wp2_with fail
    refine (any_any _ _ f x _ HV.out hform hxs).mono ?_
    rintro e w6 ⟨u, fs, rfl, hfs, p1, p2, hx⟩
    (replace hb := hb.ext hx; replace q0 := hx.cell q0; replace q1 := hx.cell q1; replace z1 := cell_lt q0; replace hxs := hxs.ext hx; replace x1 := x1.trans hx; clear hx)
    clear hform f0 f1
    obtain ⟨ua, uc, rfl, -⟩ := hfs.shape
    have hmf := made_first HV.out p1 p2
    obtain ⟨m1, -, m3⟩ := made_ed f.parts fs HV.out.parts p1 p2
    have hlo : letterErrL (builtM f.parts fs) = 0 := by
      have m2 := (made_ed f.parts fs HV.out.parts p1 p2).2.1
      have := HV.out.n
      rw [built_is]
      exact lett_okM (by omega) m3
    obtain ⟨n1, n2, n3, n4, n5, n6⟩ := hmf
    obtain ⟨o1, o2, o3, o4⟩ := Hof.out _ hlo n1
    have e1 := Hmk.out _ p1 p2
    have e2 := Hmk.out _ n3 n4
    have hmA := fun w' v u (h : ShelfAt w' v s) (h2 : FillsAt w' u fs) => make_any v u s k hkI fs w' h h2
    rw [e1, Hfo.out] at hmA
    have lf1 := putOk_len HV.out p1
    have lf2 := putOk_len HV.out n3
    generalize builtM f.parts fs = l at *
    generalize hgF : fillsM f.parts (firstWayM f.parts l) l = F at *
    have hmB := fun w' v u (h : ShelfAt w' v s) (h2 : FillsAt w' u F) => make_any v u s k hkI F w' h h2
    rw [e2, Hfo.out, n2] at hmB
    have hfi := fun w' v u (h : ShelfAt w' v s) (h2 : StrsAt w' u l) => Fills_any v u s k hkI l w' h h2
    rw [o4] at hfi
    have hofA := fun w' v u (h : ShelfAt w' v s) (h2 : StrsAt w' u l) => of_any v u s l w' h h2
    rw [o2] at hofA
    generalize (formWays f.parts l).length = mn at *
    have hF5 : F.length = fs.length := by omega
    have h5 : fs.length ≤ 5 := by have := p1.le; have : (roomsM f.parts).length ≤ 5 := Nat.le_trans (List.length_filter_le _ _) HV.out.n; omega
    have N5 := Lib.hid n5
    have N6 := Lib.hid n6
    have O3 := Lib.hid o3
    have Lf1 := Lib.hid lf1
    have Lf2 := Lib.hid lf2
    have HF5 := Lib.hid hF5
    have hmn1 : ¬ (mn : Int) < 1 := by omega
    clear p1 p2 m1 m3 hlo n1 n2 n3 n4 n5 n6 o1 o2 o3 o4 e1 e2 lf1 lf2 hgF hF5
    go_wp2_with fail
    refine (hmA _ _ _ hb hfs).mono ?_
    rintro e w7 ⟨u, rfl, ⟨v, rfl, hl, -⟩, hx⟩
    replace hl := hl rfl
    replace hfs := hfs.ext hx
    (replace hb := hb.ext hx; replace q0 := hx.cell q0; replace q1 := hx.cell q1; replace z1 := cell_lt q0; replace hxs := hxs.ext hx; replace x1 := x1.trans hx; clear hx)
    obtain ⟨la, lc, rfl, -⟩ := hl.shape
    clear hmA
    go_wp2_with fail
    refine (hofA _ _ _ hb hl).mono ?_
    rintro e w8 ⟨u, rfl, ⟨ov, rfl, ho, -⟩, hx⟩
    replace ho := ho rfl
    replace hfs := hfs.ext hx
    replace hl := hl.ext hx
    (replace hb := hb.ext hx; replace q0 := hx.cell q0; replace q1 := hx.cell q1; replace z1 := cell_lt q0; replace hxs := hxs.ext hx; replace x1 := x1.trans hx; clear hx)
    obtain ⟨oa, oc, rfl, -⟩ := ho.shape
    clear hofA
    go_wp2_with fail
    refine (hfi _ _ _ hb hl).mono ?_
    rintro e w9 ⟨u, rfl, hF, hx⟩
    replace hF : FillsAt w9 u F := hF
    replace ho := ho.ext hx
    replace hfs := hfs.ext hx
    replace hl := hl.ext hx
    (replace hb := hb.ext hx; replace q0 := hx.cell q0; replace q1 := hx.cell q1; replace z1 := cell_lt q0; replace hxs := hxs.ext hx; replace x1 := x1.trans hx; clear hx)
    obtain ⟨Fa, Fc, rfl, -⟩ := hF.shape
    clear hfi
    go_wp2_with fail
    refine (hmB _ _ _ hb hF).mono ?_
    rintro e w10 ⟨u, rfl, ⟨v, rfl, hl2, -⟩, hx⟩
    replace hl2 := hl2 rfl
    replace hF := hF.ext hx
    replace ho := ho.ext hx
    replace hfs := hfs.ext hx
    replace hl := hl.ext hx
    (replace hb := hb.ext hx; replace q0 := hx.cell q0; replace q1 := hx.cell q1; replace z1 := cell_lt q0; replace hxs := hxs.ext hx; replace x1 := x1.trans hx; clear hx)
    obtain ⟨la2, lc2, rfl, -⟩ := hl2.shape
    clear hmB
    go_wp2_with fail
    refine (has_any _ _ (ofM s l) _ ho).mono ?_
    rw [decide_eq_true O3.out]
    rintro e w11 ⟨rfl, hx⟩
    replace hF := hF.ext hx
    replace hfs := hfs.ext hx
    replace hl := hl.ext hx
    replace hl2 := hl2.ext hx
    (replace hb := hb.ext hx; replace q0 := hx.cell q0; replace q1 := hx.cell q1; replace z1 := cell_lt q0; replace hxs := hxs.ext hx; replace x1 := x1.trans hx; clear hx)
    clear ho
    go_wp2_with fail
    refine (same_any _ _ l l _ hl hl2).mono ?_
    rw [decide_eq_true rfl]
    rintro e w12 ⟨rfl, hx⟩
    replace hF := hF.ext hx
    replace hfs := hfs.ext hx
    (replace hb := hb.ext hx; replace q0 := hx.cell q0; replace q1 := hx.cell q1; replace z1 := cell_lt q0; replace hxs := hxs.ext hx; replace x1 := x1.trans hx; clear hx)
    clear hl hl2
    have hFn : ((F.length : Int) != (fs.length : Int)) = false := by rw [HF5.out]; simp
    go_wp2_with fail
    clear hFn
    go_loopw [21, 22, 23] (fun av bv iv wr => ∃ j : Nat, j ≤ fs.length ∧ iv = .int .i64 j ∧ Ext w12 wr ∧ RowI w12.heap.size (lenI (F.take j)) av wr ∧ RowI w12.heap.size (lenI (fs.take j)) bv wr ∧ ApartV av bv) (fun _ _ i _ => fs.length - (intOf i).toNat)
    case atStart => exact ⟨0, Nat.zero_le _, rfl, Ext.refl _, World.ownsRow_nil _ _ _ _, World.ownsRow_nil _ _ _ _, fun g h => by simp [Value.ownBlock] at h⟩
    case round =>
      obtain ⟨j, hj, rfl, hxr, hA, hB, hap⟩ := hrel
      by_cases hlt : j < fs.length
      · have l1 : (j : Int) < (fs.length : Int) := by omega
        have hltF : j < F.length := by have := HF5.out; omega
        have l2 : (j : Int) < (F.length : Int) := by omega
        obtain ⟨gb, go, rfl, gv, gc, gst⟩ := SliceAt.get hF hltF
        obtain ⟨kb, ko, rfl, kv, kc, kst⟩ := SliceAt.get hfs hlt
        have stF := lenI_step F j hltF
        have stf := lenI_step fs j hlt
        have nF := lenI_len F j (by omega)
        have nf := lenI_len fs j (by omega)
        have bF := Lf2.out _ (List.getElem_mem hltF)
        have bf := Lf1.out _ (List.getElem_mem hlt)
        obtain ⟨ga, gcc, rfl, -⟩ := gst.shape
        obtain ⟨ka, kcc, rfl, -⟩ := kst.shape
        generalize F[j].length = nA at *
        generalize fs[j].length = nB at *
        unfold RowI at hA hB
        rw [nF] at hA
        rw [nf] at hB
        generalize lenI (F.take j) = LA at *
        generalize lenI (fs.take j) = LB at *
        have SF := Lib.hid stF
        have Sf := Lib.hid stf
        have NF := Lib.hid nF
        have Nf := Lib.hid nf
        have hAlt := fun k hk => World.ownsRow.lt hA k hk
        have hBlt := fun k hk => World.ownsRow.lt hB k hk
        have gc' := hxr.cell gc
        have tok1 : True := trivial
        have hszr := hxr.size
        clear stF stf nF nf gst kst
        simp only [Nat.mul_one] at gc gc' kc
        go_wp2_with (at_builtin; first
          | (have _t := tok1; go_loud (refine wpList_append_own_at _ rfl _ _ 35 rfl w12.heap.size 3 i0 (.int .i64 0) 1 8 Tryz.underlying35 hi hz0 hz1 hz2 rfl (by decide) u21 j (LA.map (Value.int .i64)) rfl (World.ownsRow.alloc hA _) ⟨wr.heap.size, 0, none⟩ 1 1 [.int .i64 (nA : Int)] rfl rfl (cell_one_at (by simp [go_sem])) (by simp [Value.oneCell']) (by unfold maxLen; omega) (by omega) (by simp; omega) ?_; intro v1 w13 hown1 hgrow1 _ hat1; have x13 : Ext w12 w13 := Ext.grown (hxr.alloc _) hgrow1 (fun k hk => (hAlt k hk).1); have kc' := x13.cell kc; have hB1 := World.ownsRow.kept (World.ownsRow.alloc hB (.cells #[.int .i64 (nA : Int)] 3)) hgrow1 (apart_ne hap); have hB2 := World.ownsRow.alloc hB1 (.cells #[.int .i64 (nB : Int)] 3); have hsz13 := x13.size); clear tok1)
          | (go_loud (refine wpList_append_own_at _ rfl _ _ 35 rfl w12.heap.size 3 i0 (.int .i64 0) 1 8 Tryz.underlying35 hi hz0 hz1 hz2 rfl (by decide) u22 j (LB.map (Value.int .i64)) rfl hB2 ⟨w13.heap.size, 0, none⟩ 1 1 [.int .i64 (nB : Int)] rfl rfl (cell_one_at (by simp [go_sem])) (by simp [Value.oneCell']) (by unfold maxLen; omega) (by omega) (by simp; omega) ?_; intro v2 w14 hown2 hgrow2 _ hat2)))
        have x14 : Ext w12 w14 := Ext.grown (x13.alloc _) hgrow2 (fun k hk => (hBlt k hk).1)
        have hne : ApartV v1 u22 := fun g hg h2 => by
          rcases hat1 with e | e
          · exact hap g (e ▸ hg) h2
          · rw [e] at hg
            have := (hBlt g h2).2
            simp at hg; omega
        have hown1' := World.ownsRow.kept (World.ownsRow.alloc hown1 (.cells #[.int .i64 (nB : Int)] 3)) hgrow2 (apart_ne' hne)
        have hap2 : ApartV v1 v2 := fun g hg h2 => by
          rcases hat2 with e | e
          · exact hne g hg (e ▸ h2)
          · rw [e] at h2
            have := (World.ownsRow.lt hown1 g hg).2
            simp at h2; omega
        go_roundw
        case rel => exact ⟨j + 1, by omega, by go_num, x14, by rw [SF.out]; refine RowI.snoc ?_; rw [NF.out]; exact hown1', by rw [Sf.out]; refine RowI.snoc ?_; rw [Nf.out]; exact hown2, hap2⟩
        case measure => simp [intOf]; omega
      · obtain rfl : j = fs.length := by omega
        rw [show F.take fs.length = F from List.take_of_length_le (by rw [HF5.out]; omega)] at hA
        rw [List.take_length] at hB
        have hIA := IntsAt.of_own hA (lenI_I64 Lf2.out)
        have hIB := IntsAt.of_own hB (lenI_I64 Lf1.out)
        obtain ⟨aa, ac, rfl, -⟩ := hIA.shape
        obtain ⟨ba, bc, rfl, -⟩ := hIB.shape
        have hless := fun w' v u (h1 : IntsAt w' v (lenI fs)) (h2 : IntsAt w' u (lenI F)) => less_any v u (lenI fs) (lenI F) w' h1 h2
        rw [show lessM (lenI fs) (lenI F) = false from N5.out] at hless
        clear hA hB hap
        by_cases hm1 : (1 : Int) < (mn : Int)
        · go_wp2_with fail
          refine (hless _ _ _ hIB hIA).mono ?_
          rintro e w13 ⟨rfl, hx⟩
          replace hxr := hxr.trans hx
          clear hx
          go_wp2_with fail
          refine (awakeL_any _).mono ?_
          rintro e w14 ⟨rfl, hx⟩
          go_wp2
          go_ret
          exact ⟨rfl, (x1.trans hxr).trans hx⟩
        · have HFf : Hid (F = fs) := Lib.hid (N6.out (by omega))
          go_wp2_with fail
          refine (hless _ _ _ hIB hIA).mono ?_
          rintro e w13 ⟨rfl, hx⟩
          replace hxr := hxr.trans hx
          replace hIA := hIA.ext hx
          replace hIB := hIB.ext hx
          clear hx
          go_wp2_with fail
          refine (ints_any _ _ (lenI F) (lenI fs) _ hIA hIB).mono ?_
          rw [decide_eq_true (by rw [HFf.out])]
          rintro e w14 ⟨rfl, hx⟩
          replace hxr := hxr.trans hx
          clear hx
          go_wp2_with fail
          refine (awakeL_any _).mono ?_
          rintro e w15 ⟨rfl, hx⟩
          go_wp2
          go_ret
          exact ⟨rfl, (x1.trans hxr).trans hx⟩
end Go.Proofs.YtgcibmdohifiaaaGreat
