/-
  LISTS OF LISTS THAT A CALL MAKES ITSELF: a row of slices, each with numbers of its own.
  WHAT counts OF THE REFERENCE RETURNS.
  Mends of the reference: the fewest corrections to a form.
  A BOOK THAT IS HANDED IN, opened: lists of letters, alphabets and spellings as they lie in memory.
  LETTERS, MARKS, FILLS AND SHELVES that are handed in, opened.
  NUMBERS AND BYTES that are handed in, opened.
  A CALL THAT LETS ALL BE AS IT WAS, AND ANSWERS AS IT SHOULD, KEEPS A LAW's WORD.
  WHAT LetterOfs LEANS ON, gathered.
  All of the reference: all fills by which a letter is of a form, in order.
-/
import Derived.Test.YtcamegaimleomaaGreatBunAE
import Derived.Test.YtcamegaimleomaaGreatBunAD
import Derived.Test.YtcamegaimleomaaGreatBunAC
import Derived.Maps.AppendAt
import Derived.Laws.AppendOwnNone
import Derived.Test.YtcamegaimleomaaGreatBunAN
import Derived.Test.YtcamegaimleomaaGreatBunAL
import Derived.Test.YtcamegaimleomaaGreatBunAO
import Derived.Test.YtcamegaimleomaaGreatBunAA
import Derived.Deep.Slices
import Derived.Deep.Strs
import Derived.WideKeyArgs
import Derived.OpenShut
import Derived.ProofKit
import Derived.Test.YtcamegaimleomaaGreatBunAF
import Derived.Test.YtcamegaimleomaaGreatBunAK
import Derived.Test.YtcamegaimleomaaGreatBunAM
import Derived.Test.YtcamegaimleomaaGreatBunAH
import Derived.Test.YtcamegaimleomaaGreatBunAJ
namespace Go.Proofs.YtcamegaimleomaaGreat
set_option linter.unusedSimpArgs false
set_option linter.unusedVariables false
open Go.RowKit
set_option linter.unusedVariables false

/-- a list of lists -/
def listRL (w : World) (b o : Nat) (l : List Nat) : Prop := ∃ s, w.cell? ⟨b, o, none⟩ = some s ∧ IntsAt w s (ints l)
theorem listRL.keeps : Keeps listRL := fun _ _ _ _ _ hx ⟨s, h1, h2⟩ => ⟨s, hx.cell h1, h2.ext hx⟩
abbrev ListsAtL : World → Value → List (List Nat) → Prop := SliceAt 1 listRL
theorem ListsAtL.ext {w w' : World} {v : Value} {l : List (List Nat)} (h : ListsAtL w v l) (hx : Ext w w') : ListsAtL w' v l := SliceAt.ext listRL.keeps h hx
theorem IntsAt.nothingL (w : World) : IntsAt w (.slice none 0 0) [] := ⟨none, 0, rfl, Nat.le_refl _, by decide, fun i hi => absurd hi (Nat.not_lt_zero _)⟩
theorem IntsAt.grownByL {w w' : World} {row : Option Nat} {sa : Option Addr} {n sc : Nat} {l : List Int} (h : IntsAt w (.slice sa n sc) l) (hg : w.grownBy w' row) (hne : ∀ ad, sa = some ad → some ad.block ≠ row) : IntsAt w' (.slice sa n sc) l := by
  obtain ⟨a, cap, e, h2, h3, h4⟩ := h
  obtain ⟨rfl, rfl, rfl⟩ := Value.slice.inj e
  refine ⟨_, _, rfl, h2, h3, fun i hi => ?_⟩
  obtain ⟨b, o, rfl, r⟩ := h4 i hi
  exact ⟨b, o, rfl, hg.cell r.1 (show some b ≠ row from hne ⟨b, o, none⟩ rfl), r.2⟩
/-- one element: a slice with these numbers, not in the row's own block -/
def ElemAtL (w : World) (own : Option Nat) (x : Value) (L : List Nat) : Prop := ∃ sa sc, x = .slice sa L.length sc ∧ IntsAt w (.slice sa L.length sc) (ints L) ∧ ∀ ad, sa = some ad → ad.block < w.heap.size ∧ some ad.block ≠ own
/-- a row of lists of one's own -/
def ListsOwnL (w : World) (base : Nat) (v : Value) (LL : List (List Nat)) : Prop :=
  ∃ vs : List Value, w.ownsRow base 26 1 v LL.length vs ∧ ∀ (i : Nat) (x : Value) (L : List Nat), vs[i]? = some x → LL[i]? = some L → ElemAtL w v.ownBlock x L
theorem ListsOwnL.nil (w : World) (base : Nat) : ListsOwnL w base (.slice none 0 0) [] := ⟨[], World.ownsRow_nil _ _ _ _, fun i x L h => by simp at h⟩
theorem ListsOwnL.ext {w w' : World} {base : Nat} {v : Value} {LL : List (List Nat)} (h : ListsOwnL w base v LL) (hx : Ext w w') : ListsOwnL w' base v LL := by
  obtain ⟨vs, h1, h2⟩ := h
  refine ⟨vs, Ext.owns h1 hx, fun i x L hi hL => ?_⟩
  obtain ⟨sa, sc, rfl, h3, h4⟩ := h2 i x L hi hL
  exact ⟨sa, sc, rfl, h3.ext hx, fun ad e => ⟨Nat.lt_of_lt_of_le (h4 ad e).1 hx.size, (h4 ad e).2⟩⟩
theorem ListsOwnL.at_ {w : World} {base : Nat} {v : Value} {LL : List (List Nat)} (h : ListsOwnL w base v LL) : ListsAtL w v LL := by
  obtain ⟨vs, h1, h2⟩ := h
  have hlen : vs.length = LL.length := by have := h1.1; omega
  have hcells := fun g hg => h1.cells (g := g) hg
  rcases h1.2 with ⟨rfl, hn⟩ | ⟨g, cap, cur, rfl, hb, hg, hnc, hcm, hcs, htake⟩
  · have : LL = [] := List.eq_nil_of_length_eq_zero hn
    subst this; exact SliceAt.nil
  · refine ⟨_, _, rfl, hnc, by simpa [maxLen] using hcm, fun i hi => ⟨g, 0, rfl, ?_⟩⟩
    have hv : vs[i]? = some vs[i] := List.getElem?_eq_getElem (by omega)
    obtain ⟨sa, sc, e, h3, -⟩ := h2 i vs[i] LL[i] hv (List.getElem?_eq_getElem hi)
    have := hcells g rfl i vs[i] hv
    have ea : (⟨g, 0, none⟩ : Addr).add i = ⟨g, 0 + i * 1, none⟩ := by unfold Addr.add; split <;> simp_all
    rw [ea, e] at this
    exact ⟨_, this, h3⟩
/-- one more list at the end -/
theorem ListsOwnL.push {w wA w' : World} {base : Nat} {v v' x : Value} {LL : List (List Nat)} {L : List Nat} {vs : List Value} (h1 : w.ownsRow base 26 1 v LL.length vs) (h2 : ∀ (i : Nat) (x : Value) (L : List Nat), vs[i]? = some x → LL[i]? = some L → ElemAtL w v.ownBlock x L) (hx : Ext w wA) {t : TypeId}
    (hv : ∃ sa sc, x = .slice sa L.length sc ∧ IntsAt wA x (ints L) ∧ ∀ ad, sa = some ad → w.heap.size ≤ ad.block ∧ ad.block < wA.heap.size)
    (hown : w'.ownsRow base 26 1 v' (LL.length + 1) (vs ++ [x])) (hg : (wA.alloc (.cells #[x] t)).grownBy w' v.ownBlock) (hb : v'.ownBlock = v.ownBlock ∨ v'.ownBlock = some (wA.heap.size + 1)) :
    ListsOwnL w' base v' (LL ++ [L]) := by
  have hlt := fun k hk => h1.lt k hk
  have h2A : ∀ (i : Nat) (x : Value) (L : List Nat), vs[i]? = some x → LL[i]? = some L → ElemAtL wA v.ownBlock x L := fun i x L hi hL => by
    obtain ⟨sa, sc, rfl, h3, h4⟩ := h2 i x L hi hL
    exact ⟨sa, sc, rfl, h3.ext hx, fun ad e => ⟨Nat.lt_of_lt_of_le (h4 ad e).1 hx.size, (h4 ad e).2⟩⟩
  have hlen : vs.length = LL.length := by have := h1.1; omega
  have hg0 : wA.grownBy (wA.alloc (.cells #[x] t)) v.ownBlock := World.grownBy_alloc _ _ _
  have hsz : (wA.alloc (.cells #[x] t)).heap.size = wA.heap.size + 1 := by simp
  have hsz2 := hg.size
  have keep : ∀ (sa : Option Addr) (n sc : Nat) (l : List Int), IntsAt wA (.slice sa n sc) l → (∀ ad, sa = some ad → ad.block < wA.heap.size ∧ some ad.block ≠ v.ownBlock) → IntsAt w' (.slice sa n sc) l ∧ ∀ ad, sa = some ad → ad.block < w'.heap.size ∧ some ad.block ≠ v'.ownBlock := fun sa n sc l hi hne => by
    refine ⟨(hi.grownByL hg0 fun ad e => (hne ad e).2).grownByL hg fun ad e => (hne ad e).2, fun ad e => ⟨by have := (hne ad e).1; omega, ?_⟩⟩
    rcases hb with hb | hb
    · rw [hb]; exact (hne ad e).2
    · rw [hb]; intro e2; have := (hne ad e).1; have := Option.some.inj e2; omega
  refine ⟨vs ++ [x], by rw [List.length_append]; exact hown, fun i y M hi hM => ?_⟩
  rcases Nat.lt_or_ge i vs.length with h3 | h3
  · rw [List.getElem?_append_left h3] at hi
    rw [List.getElem?_append_left (by omega)] at hM
    obtain ⟨sa, sc, rfl, h4, h5⟩ := h2A i y M hi hM
    obtain ⟨k1, k2⟩ := keep sa _ sc _ h4 h5
    exact ⟨sa, sc, rfl, k1, k2⟩
  · rw [List.getElem?_append_right h3] at hi
    rw [List.getElem?_append_right (by omega)] at hM
    have hi0 : i - vs.length = 0 := by
      rcases Nat.eq_zero_or_pos (i - vs.length) with h6 | h6
      · exact h6
      · rw [List.getElem?_eq_none (by simp; omega)] at hi; cases hi
    rw [hi0] at hi
    rw [show i - LL.length = 0 from by omega] at hM
    obtain rfl : x = y := by simpa using hi
    obtain rfl : L = M := by simpa using hM
    obtain ⟨sa, sc, rfl, h4, h5⟩ := hv
    obtain ⟨k1, k2⟩ := keep sa _ sc _ h4 fun ad e => ⟨(h5 ad e).2, fun e2 => by have := (hlt ad.block e2.symm).2; have := (h5 ad e).1; omega⟩
    exact ⟨sa, sc, rfl, k1, k2⟩
theorem intsL_news {w : World} {ad : Addr} {n c : Nat} {l : List Int} (h : IntsAt w (.slice (some ad) n c) l) : ∀ j u, (l.map (Value.int .i64))[j]? = some u → w.cell? (ad.add j) = some u := by
  intro j u hu
  have hj : j < l.length := by
    rcases Nat.lt_or_ge j l.length with h1 | h1
    · exact h1
    · rw [List.getElem?_eq_none (by simpa using h1)] at hu; cases hu
  obtain ⟨a, cap, e, -, -, h4⟩ := h
  obtain ⟨b, o, e2, r⟩ := h4 j hj
  have e3 := (Value.slice.inj e).1
  rw [e2] at e3
  obtain rfl := Option.some.inj e3
  rw [List.getElem?_eq_getElem (by simpa using hj)] at hu
  obtain rfl := Option.some.inj hu
  have ea : (⟨b, o, none⟩ : Addr).add j = ⟨b, o + j * 1, none⟩ := by unfold Addr.add; split <;> simp_all
  rw [ea, List.getElem_map]
  exact r.1
theorem intsL_cells (l : List Int) : ∀ u ∈ l.map (Value.int .i64), u.oneCell' = true := fun u hu => by
  obtain ⟨x, -, rfl⟩ := List.mem_map.1 hu
  simp [Value.oneCell']
theorem infoIntsL : (Tryz.prog.info? 26).map (fun i => (i.zero, i.size, i.bytes)) = some (some (.slice none 0 0), 1, 24) := by kernel_rfl
/-- a list of lists where a list of nothing is nil -/
def listZL (w : World) (b o : Nat) (l : List Nat) : Prop := ∃ s, w.cell? ⟨b, o, none⟩ = some s ∧ IntsAt w s (ints l) ∧ (l = [] → s = .slice none 0 0)
theorem listZL.keeps : Keeps listZL := fun _ _ _ _ _ hx ⟨s, h1, h2, h3⟩ => ⟨s, hx.cell h1, h2.ext hx, h3⟩
abbrev ListsZL : World → Value → List (List Nat) → Prop := SliceAt 1 listZL
theorem ListsZL.ext {w w' : World} {v : Value} {l : List (List Nat)} (h : ListsZL w v l) (hx : Ext w w') : ListsZL w' v l := SliceAt.ext listZL.keeps h hx
theorem ListsZL.of {w : World} {v : Value} {l : List (List Nat)} (h : ListsAtL w v l) (hne : ∀ L ∈ l, L ≠ []) : ListsZL w v l := by
  obtain ⟨a, cap, e, h2, h3, h4⟩ := h
  refine ⟨a, cap, e, h2, h3, fun i hi => ?_⟩
  obtain ⟨b, o, e2, s, h5, h6⟩ := h4 i hi
  exact ⟨b, o, e2, s, h5, h6, fun e3 => absurd e3 (hne _ (List.getElem_mem hi))⟩
theorem ListsZL.at_ {w : World} {v : Value} {l : List (List Nat)} (h : ListsZL w v l) : ListsAtL w v l := by
  obtain ⟨a, cap, e, h2, h3, h4⟩ := h
  refine ⟨a, cap, e, h2, h3, fun i hi => ?_⟩
  obtain ⟨b, o, e2, s, h5, h6, -⟩ := h4 i hi
  exact ⟨b, o, e2, s, h5, h6⟩
end Go.Proofs.YtcamegaimleomaaGreat

namespace Go.Proofs.YtcamegaimleomaaGreat
set_option linter.unusedSimpArgs false
set_option linter.unusedVariables false
open Go.RowKit
set_option linter.unusedVariables false
set_option linter.unusedSimpArgs false

set_option maxRecDepth 100000 in
set_option maxHeartbeats 8000000 in
theorem counts_any (rv : Value) (rooms : List Part) (w : World) (hr : SpansAt w rv rooms) (hok : ∀ p ∈ rooms, RoomOk p) (h5 : rooms.length ≤ 5) :
    Calls Tryz.prog 102 #[rv] w fun e w' => ∃ u, e = .returned u ∧ ListsAtL w' u (countsM rooms) ∧ Ext w w' := by
  obtain ⟨ra, rc, rfl, -⟩ := hr.shape
  have Hok := Lib.hid hok
  clear hok
  obtain ⟨i0, hi, hz0, hz1, hz2⟩ := info_parts infoInt
  obtain ⟨j0, hj, hy0, hy1, hy2⟩ := info_parts infoIntsL
  go_enter Tryz.func102, Tryz.ntmps102
  go_wp2
  go_loopw [3, 4] (fun v i wr => ∃ k : Nat, k ≤ rooms.length ∧ i = .int .i64 k ∧ Ext w wr ∧ ListsZL wr v (cntTo rooms k)) (fun _ i _ => rooms.length - (intOf i).toNat)
  case atStart =>
    refine ⟨0, Nat.zero_le _, rfl, ext_alloc _ _, some ⟨w.heap.size, 0, none⟩, 1, rfl, Nat.le_refl _, by omega, fun i hi => ?_⟩
    have hi' : i < 1 := hi
    obtain rfl : i = 0 := by omega
    exact ⟨_, _, rfl, .slice none 0 0, by simp [go_sem], IntsAt.nothingL _, fun _ => rfl⟩
  case round =>
    obtain ⟨k, hk, rfl, hx, hLL⟩ := hrel
    obtain ⟨R, hR⟩ : ∃ R : World, R = wr := ⟨_, rfl⟩
    subst hR
    by_cases hlt : k < rooms.length
    · have k1 : (k : Int) < (rooms.length : Int) := by omega
      have hf := cntTo_fine Hok.out k
      have hll := cntTo_len Hok.out k
      have h4k : 4 ^ k ≤ 4 ^ 4 := Nat.pow_le_pow_right (by decide) (by omega)
      have hch : cntTo rooms (k + 1) = (cntTo rooms k).flatMap (cntStep (rooms.getD k noPart)) := rfl
      have hf2 := cntTo_fine Hok.out (k + 1)
      rw [hch] at hf2
      have hpo := getD_ok Hok.out k
      have hpe : rooms.getD k noPart = rooms[k] := by rw [List.getD_eq_getElem?_getD, List.getElem?_eq_getElem hlt]; rfl
      obtain ⟨rb, ro, rfl, d0, d1, -⟩ := SliceAt.get (hr.ext hx) hlt
      rw [← hpe] at d0 d1
      obtain ⟨p, hp⟩ : ∃ p, p = rooms.getD k noPart := ⟨_, rfl⟩
      rw [← hp] at hch hf2 hpo d0 d1
      obtain ⟨o1, o2, o3⟩ := hpo
      obtain ⟨a, ha⟩ : ∃ a : Nat, p.lo = a := ⟨p.lo.toNat, by omega⟩
      obtain ⟨b, hb⟩ : ∃ b : Nat, p.hi = b := ⟨p.hi.toNat, by omega⟩
      rw [ha] at d0
      rw [hb] at d1
      have hab : a ≤ b := by omega
      have hb3 : b ≤ 3 := by omega
      have hstp : ∀ L, cntStep p L = cntBelow a (b + 1) L := fun L => by unfold cntStep cntBelow; rw [ha, hb]; rfl
      obtain ⟨LL, hLLe⟩ : ∃ LL, LL = cntTo rooms k := ⟨_, rfl⟩
      rw [← hLLe] at hLL hf hll hch hf2
      have hl256 : LL.length ≤ 256 := by omega
      have hfl : ∀ q, ((LL.take q).flatMap (cntStep p)).length ≤ 4 * 256 := fun q => by
        have h1 := cntFlat_len (p := p) ⟨o1, o2, o3⟩ (LL.take q)
        have h2 : (LL.take q).length ≤ LL.length := by rw [List.length_take]; omega
        omega
      have Hfl := Lib.hid hfl
      have Hch := Lib.hid hch
      have Hf2 := Lib.hid hf2
      have Hstp := Lib.hid hstp
      clear hch hLLe hf2 hpe hp o1 o2 o3 ha hb hstp hll h4k hfl
      obtain ⟨oa, oc, rfl, -⟩ := hLL.shape
      have Hf := Lib.hid hf
      clear hf
      go_wp2
      go_loopw [5, 6] (fun v i wr => ∃ q : Nat, q ≤ LL.length ∧ i = .int .i64 q ∧ Ext R wr ∧ ListsOwnL wr R.heap.size v ((LL.take q).flatMap (cntStep p))) (fun _ i _ => LL.length - (intOf i).toNat)
      case atStart => exact ⟨0, Nat.zero_le _, rfl, Ext.refl _, ListsOwnL.nil _ _⟩
      case round =>
        obtain ⟨q, hq, rfl, hxr, hown⟩ := hrel
        obtain ⟨R1, hR1⟩ : ∃ R1 : World, R1 = wr := ⟨_, rfl⟩
        subst hR1
        have e0 := hxr.cell d0
        have y0 := cell_lt e0
        by_cases hql : q < LL.length
        · have k2 : (q : Int) < (LL.length : Int) := by omega
          have hnx := cnt_next p LL q hql
          rw [Hstp.out] at hnx
          have hplen := Hfl.out q
          have hLf := Hf.out LL[q] (List.getElem_mem hql)
          have hLL0 := hLL
          obtain ⟨_, _, hea, -, -, hh⟩ := hLL0
          obtain ⟨ob, oo, rfl, s, cs, hs, hs0⟩ := hh q hql
          have hea1 := (Value.slice.inj hea).1
          subst hea1
          simp only [Nat.mul_one] at cs
          clear hea hh
          generalize LL[q] = L at *
          generalize (LL.take q).flatMap (cntStep p) = pre at *
          have Hnx := Lib.hid hnx
          clear hnx
          go_wp2
          clear e0 y0
          go_loopw [5, 7] (fun v i wr => ∃ m : Nat, a ≤ m ∧ m ≤ b + 1 ∧ i = .int .i64 m ∧ Ext R wr ∧ ListsOwnL wr R.heap.size v (pre ++ cntBelow a m L)) (fun _ i _ => b + 1 - (intOf i).toNat)
          case atStart => exact ⟨a, Nat.le_refl _, by omega, rfl, hxr, by unfold cntBelow; rw [Nat.sub_self]; simpa using hown⟩
          case round =>
            obtain ⟨m, hm1, hm2, rfl, hxr, hown⟩ := hrel
            have c0 := hxr.cell cs
            have hsr := hs.ext hxr
            have z1 := cell_lt c0
            have e1 := hxr.cell d1
            have y1 := cell_lt e1
            by_cases hmn : m ≤ b
            · have k3 : (m : Int) ≤ (b : Int) := by omega
              have hsn := cntBelow_snoc a m L hm1
              have hcl : (pre ++ cntBelow a m L).length ≤ 1100 := by
                rw [List.length_append, cntBelow_len]; omega
              have hsn2 : pre ++ cntBelow a (m + 1) L = (pre ++ cntBelow a m L) ++ [L ++ [m]] := by rw [hsn, List.append_assoc]
              have Hsn := Lib.hid hsn2
              generalize pre ++ cntBelow a m L = cur at *
              clear hsn hsn2
              obtain ⟨vs, hrow, helem⟩ := hown
              have hszr := hxr.size
              have hvl := hrow.1
              have Hvl := Lib.hid hvl
              have Helem := Lib.hid helem
              clear hvl helem
              have hIL : ∀ x ∈ ints (L ++ [m]), I64 x := fun x hx => by
                simp only [ints, List.mem_map] at hx
                obtain ⟨y, hy, rfl⟩ := hx
                rcases List.mem_append.1 hy with h | h
                · have := hLf.2 y h
                  unfold I64; omega
                · rw [List.mem_singleton] at h; subst h; unfold I64; omega
              have HIL := Lib.hid hIL
              have hil : (ints (L ++ [m])).length = (L ++ [m]).length := by simp [ints]
              have Hil := Lib.hid hil
              have hL5 : L.length ≤ 5 := by have := hLf.1; omega
              clear hIL hil
              by_cases hL0 : L = []
              · obtain rfl := hs0 hL0
                have HL0 := Lib.hid hL0
                clear hs0 hL0
                go_wp2_with (at_builtin; first | (refine wpList_append_own_none rfl _ _ 26 rfl (wr.heap.size) 3 i0 1 Tryz.underlying26 hi _ _ _ rfl (World.ownsRow_made wr #[] 0 (Nat.le_refl _) (by unfold maxLen; omega) rfl) rfl ?_; have hown1 := World.ownsRow_made (base := wr.heap.size) (e := 3) (size := 1) wr #[] 0 (Nat.le_refl _) (by unfold maxLen; omega) rfl; have x1 : Ext wr (wr.alloc (.cells #[] 3)) := ext_alloc _ _; have x1s := x1.size; generalize wr.alloc (.cells #[] 3) = w1 at *) | (refine wpList_append_own _ rfl _ _ 26 rfl (wr.heap.size) 3 i0 (.int .i64 0) 1 8 Tryz.underlying26 hi hz0 hz1 hz2 rfl (by decide) _ _ _ rfl (hown1.alloc _) ⟨w1.heap.size, 0, none⟩ 1 1 [.int .i64 m] rfl rfl (cell_one_new _ _ _) (by simp [Value.oneCell']) (by unfold maxLen; omega) (by omega) (by simp; omega) ?_; intro v2 w2 hown2 hgrow2 _; have hl2 : IntsAt w2 v2 (ints (L ++ [m])) := IntsAt.of_own (by simpa [ints, HL0.out] using hown2) HIL.out; have x2 : Ext wr w2 := Ext.grown (x1.alloc _) hgrow2 (fun k hk => (hown1.lt k hk).1); have hx2s := x2.size; have hlt2 := hown2.lt; obtain ⟨sa2, sc2, rfl, -⟩ := hl2.shape; rw [Hil.out] at hl2 hlt2 ⊢; obtain ⟨nl, hnl⟩ : ∃ nl, nl = (L ++ [m]).length := ⟨_, rfl⟩; rw [← hnl] at hl2 hlt2 ⊢; have Hnl := Lib.hid hnl; clear hown2 hgrow2 hnl) | (refine wpList_append_own_at _ rfl _ _ 176 rfl R.heap.size 26 j0 (.slice none 0 0) 1 24 Tryz.underlying176 hj hy0 hy1 hy2 rfl (by decide) _ _ _ rfl ((Ext.owns hrow x2).alloc _) ⟨w2.heap.size, 0, none⟩ 1 1 [.slice sa2 nl sc2] rfl rfl (cell_one_new _ _ _) (by simp [Value.oneCell']) (by unfold maxLen; omega) (by omega) (by simp; omega) ?_; intro v3 w3 hown3 hgrow3 _ hblk))
                have x3 : Ext R w3 := Ext.grown ((hxr.trans x2).alloc _) hgrow3 fun k hk => (hrow.lt k hk).1
                have hnew := ListsOwnL.push hrow Helem.out x2 ⟨sa2, sc2, (by rw [Hnl.out]), hl2, fun ad e => hlt2 ad.block (by rw [e]; rfl)⟩ hown3 hgrow3 (hblk.elim .inl (fun e => .inr (e.trans (by simp))))
                go_roundw
                case rel => exact ⟨m + 1, by omega, by omega, by go_num, x3, by rw [Hsn.out]; exact hnew⟩
                case measure => simp [intOf]; omega
              · have hil0 : (ints L).length = L.length := by simp [ints]
                have hL1 : 0 < L.length := List.length_pos_iff.2 hL0
                obtain ⟨sa0, sc, rfl, hsc1, hsc2⟩ := hs.shape
                obtain ⟨sb, so, rfl, -⟩ := SliceAt.get hsr (by rw [hil0]; exact hL1)
                rw [hil0] at hs cs hsc1 hsr c0
                obtain ⟨n0, hn0⟩ : ∃ n0, n0 = L.length := ⟨_, rfl⟩
                rw [← hn0] at hs cs hsc1 hsr c0
                have hn05 : n0 ≤ 5 := by omega
                have Hn0 := Lib.hid hn0
                clear hs0 hil0 hn0 hL0
                go_wp2_with (at_builtin; first | (refine wpList_append_own _ rfl _ _ 26 rfl (wr.heap.size) 3 i0 (.int .i64 0) 1 8 Tryz.underlying26 hi hz0 hz1 hz2 rfl (by decide) _ _ _ rfl (World.ownsRow_made wr #[] 0 (Nat.le_refl _) (by unfold maxLen; omega) rfl) ⟨sb, so, none⟩ n0 sc ((ints L).map (Value.int .i64)) rfl (by have := Hn0.out; simp [ints]; omega) (intsL_news (hsr.ext (ext_alloc _ _))) (intsL_cells _) (by unfold maxLen; omega) (by omega) (by simp) ?_; intro v1 w1 hown1 hgrow1 _; have x1 : Ext wr w1 := Ext.grown (ext_alloc _ _) hgrow1 (fun k hk => Nat.le_of_eq (Option.some.inj (show some wr.heap.size = some k from hk))); have x1s := x1.size) | (refine wpList_append_own _ rfl _ _ 26 rfl (wr.heap.size) 3 i0 (.int .i64 0) 1 8 Tryz.underlying26 hi hz0 hz1 hz2 rfl (by decide) _ _ _ rfl (hown1.alloc _) ⟨w1.heap.size, 0, none⟩ 1 1 [.int .i64 m] rfl rfl (cell_one_new _ _ _) (by simp [Value.oneCell']) (by unfold maxLen; omega) (by omega) (by simp; omega) ?_; intro v2 w2 hown2 hgrow2 _; have hl2 : IntsAt w2 v2 (ints (L ++ [m])) := IntsAt.of_own (by have h0 := Hn0.out; subst h0; simpa [ints] using hown2) HIL.out; have x2 : Ext wr w2 := Ext.grown (x1.alloc _) hgrow2 (fun k hk => (hown1.lt k hk).1); have hx2s := x2.size; have hlt2 := hown2.lt; obtain ⟨sa2, sc2, rfl, -⟩ := hl2.shape; rw [Hil.out] at hl2 hlt2 ⊢; obtain ⟨nl, hnl⟩ : ∃ nl, nl = (L ++ [m]).length := ⟨_, rfl⟩; rw [← hnl] at hl2 hlt2 ⊢; have Hnl := Lib.hid hnl; clear hown2 hgrow2 hnl) | (refine wpList_append_own_at _ rfl _ _ 176 rfl R.heap.size 26 j0 (.slice none 0 0) 1 24 Tryz.underlying176 hj hy0 hy1 hy2 rfl (by decide) _ _ _ rfl ((Ext.owns hrow x2).alloc _) ⟨w2.heap.size, 0, none⟩ 1 1 [.slice sa2 nl sc2] rfl rfl (cell_one_new _ _ _) (by simp [Value.oneCell']) (by unfold maxLen; omega) (by omega) (by simp; omega) ?_; intro v3 w3 hown3 hgrow3 _ hblk))
                have x3 : Ext R w3 := Ext.grown ((hxr.trans x2).alloc _) hgrow3 fun k hk => (hrow.lt k hk).1
                have hnew := ListsOwnL.push hrow Helem.out x2 ⟨sa2, sc2, (by rw [Hnl.out]), hl2, fun ad e => hlt2 ad.block (by rw [e]; rfl)⟩ hown3 hgrow3 (hblk.elim .inl (fun e => .inr (e.trans (by simp))))
                go_roundw
                case rel => exact ⟨m + 1, by omega, by omega, by go_num, x3, by rw [Hsn.out]; exact hnew⟩
                case measure => simp [intOf]; omega
            · obtain rfl : m = b + 1 := by omega
              have k3 : ¬ ((b : Int) + 1 ≤ (b : Int)) := by omega
              have Hfin : Hid ((LL.take (q + 1)).flatMap (cntStep p) = pre ++ cntBelow a (b + 1) L) := Lib.hid Hnx.out
              clear hmn
              go_wp2
              go_roundw
              case rel => exact ⟨q + 1, by omega, by go_num, hxr, by rw [Hfin.out]; exact hown⟩
              case measure => simp [intOf]; omega
        · obtain rfl : q = LL.length := by omega
          rw [List.take_length] at hown
          have hlists := ListsZL.of hown.at_ fun L hL e => by
            have := (Hf2.out L hL).1
            rw [e] at this; simp at this
          rw [← Hch.out] at hlists
          have x3 := hx.trans hxr
          clear hql e0 y0
          go_wp2
          go_roundw
          case rel => exact ⟨k + 1, by omega, by go_num, x3, hlists⟩
          case measure => simp [intOf]; omega
    · obtain rfl : k = rooms.length := by omega
      have hres := hLL.at_
      obtain ⟨oa, oc, rfl, -⟩ := hLL.shape
      clear hlt
      go_wp2
      go_ret
      exact ⟨_, rfl, hres, hx⟩
end Go.Proofs.YtcamegaimleomaaGreat

namespace Go.Proofs.YtcamegaimleomaaGreat
set_option linter.unusedSimpArgs false
set_option linter.unusedVariables false
open Go.RowKit
set_option linter.unusedVariables false
set_option linter.unusedSimpArgs false

theorem shape_len : ∀ (ps : List Part) (ns : List Nat), (∀ p ∈ ps, p.words.length ≤ 3) → (∀ n ∈ ns, n ≤ 3) → (shapeR ps ns).length ≤ 3 * ps.length
  | [], ns, _, _ => by simp [shapeR, builtR]
  | p :: ps, ns, h, hn => by
    have hq := fun q hq => h q (List.mem_cons_of_mem _ hq)
    unfold shapeR
    rw [builtR]
    cases roomyM p
    · have ih := shape_len ps ns hq hn
      have := h p List.mem_cons_self
      unfold shapeR at ih
      simp only [Bool.false_eq_true, if_false, List.length_append, List.length_cons]
      omega
    · simp only [if_true, List.length_append, List.length_cons]
      cases ns with
      | nil =>
        have ih := shape_len ps [] hq (by simp)
        unfold shapeR at ih
        simp only [List.map_nil, List.headD_nil, List.tail_nil, List.length_nil] at ih ⊢
        omega
      | cons n ns =>
        have ih := shape_len ps ns hq fun m hm => hn m (List.mem_cons_of_mem _ hm)
        have := hn n List.mem_cons_self
        unfold shapeR at ih
        simp only [List.map_cons, List.headD_cons, List.tail_cons]
        have e : (blank n).length = n := by simp [blank]
        omega
def StrV (l : List ByteArray) (u : Value) (w : World) : Prop := StrsAt w u l
set_option maxRecDepth 100000 in
set_option maxHeartbeats 4000000 in
theorem mends_any (fv lv : Value) (f : Form) (l : List ByteArray) (w : World) (hV : ValidForm f) (hf : FormV w fv f) (hl : StrsAt w lv l) (h15 : l.length ≤ 15) :
    Calls Tryz.prog 63 #[fv, lv] w fun e w' => e = .returned (.int .i64 ((costM l (formSlotsM f.parts)).2 : Nat)) ∧ Ext w w' := by
  have hf0 := hf
  obtain ⟨pv, rfl, hns, hp⟩ := hf
  obtain ⟨pa, pc, rfl, -⟩ := hp.shape
  obtain ⟨la, lc, rfl, -⟩ := hl.shape
  have h5 := hV.n
  have hro := rooms_ok hV.parts
  have hr5 : (roomsM f.parts).length ≤ 5 := Nat.le_trans (List.length_filter_le _ _) h5
  have hcs := cost_shapes hV.parts l
  have hfine := cntTo_fine hro (roomsM f.parts).length
  have hclen := cntTo_len hro (roomsM f.parts).length
  have hpow : 4 ^ (roomsM f.parts).length ≤ 4 ^ 5 := Nat.pow_le_pow_right (by decide) hr5
  have hcne := List.length_pos_iff.2 (cntTo_ne hro (roomsM f.parts).length)
  change 0 < (countsM (roomsM f.parts)).length at hcne
  change (countsM (roomsM f.parts)).length ≤ _ at hclen
  have hsh : ∀ L ∈ countsM (roomsM f.parts), (roomsM f.parts).length = L.length ∧ (∀ x ∈ L, x ≤ 3) ∧ (shapeR f.parts L).length ≤ 15 := fun L hL => by
    have h := hfine L hL
    refine ⟨h.1.symm, h.2, ?_⟩
    have := shape_len f.parts L (fun p hp => (hV.parts p hp).n) h.2
    omega
  obtain ⟨CC, hCC⟩ : ∃ CC, CC = countsM (roomsM f.parts) := ⟨_, rfl⟩
  rw [← hCC] at hcs hcne hclen hsh
  have hcnt := fun v w' (h : SpansAt w' v (roomsM f.parts)) => counts_any v (roomsM f.parts) w' h hro hr5
  rw [← hCC] at hcnt
  obtain ⟨g, hg⟩ : ∃ g : Nat → Nat, g = fun j => lsM l (shapeR f.parts (CC.getD j [])) := ⟨_, rfl⟩
  rw [← hg] at hcs
  have hgj : ∀ j (hj : j < CC.length), g j = lsM l (shapeR f.parts CC[j]) := fun j hj => by rw [hg]; show lsM l (shapeR f.parts (CC.getD j [])) = _; rw [List.getD_eq_getElem?_getD, List.getElem?_eq_getElem hj]; rfl
  have hgb : ∀ j, j < CC.length → g j ≤ 30 := fun j hj => by
    have h1 := ls_le l (shapeR f.parts CC[j])
    have h2 := (hsh _ (List.getElem_mem hj)).2.2
    rw [hgj j hj]; omega
  have hbb : ∀ k, 0 < k → k ≤ CC.length → bestF g k ≤ 30 := fun k h1 h2 => by
    obtain ⟨j, hj, e⟩ := bestF_is g k h1
    rw [e]; exact hgb j (by omega)
  rw [hcs]
  have hcl : CC.length ≤ 1024 := Nat.le_trans hclen hpow
  have Hsh := Lib.hid hsh
  have Hgj := Lib.hid hgj
  have Hgb := Lib.hid hgb
  have Hbb := Lib.hid hbb
  clear hfine hCC hg hcs hsh hgj hgb hbb hpow hclen
  go_enter Tryz.func63, Tryz.ntmps63
  go_wp2_with fail
  obtain ⟨W, hW⟩ : ∃ W, W = w.alloc (.cells #[.string f.name, .slice pa f.parts.length pc] 55) := ⟨_, rfl⟩
  have xW : Ext w W := by rw [hW]; exact ext_alloc _ _
  have b0 : W.cell? ⟨w.heap.size, 0, none⟩ = some (.string f.name) := by rw [hW]; simp [go_sem]
  have b1 : W.cell? ⟨w.heap.size, 1, none⟩ = some (.slice pa f.parts.length pc) := by rw [hW]; simp [go_sem]
  rw [← hW]
  clear hW
  replace hf0 := hf0.ext xW
  replace hl := hl.ext xW
  refine (refRooms_any _ f h5 _ hf0).mono ?_
  rintro e w1 ⟨u1, rfl, hu1, hx⟩
  obtain ⟨ra, rc, rfl, -⟩ := hu1.shape
  replace b0 := hx.cell b0
  replace b1 := hx.cell b1
  replace xW := xW.trans hx
  replace hf0 := hf0.ext hx
  replace hl := hl.ext hx
  have z1 := cell_lt b0
  clear hx
  go_wp2_with fail
  refine (hcnt _ _ hu1).mono ?_
  rintro e w2 ⟨u2, rfl, hall, hx⟩
  replace b0 := hx.cell b0
  replace b1 := hx.cell b1
  replace xW := xW.trans hx
  replace hf0 := hf0.ext hx
  replace hl := hl.ext hx
  replace z1 := cell_lt b0
  obtain ⟨oa, oc, rfl, -⟩ := hall.shape
  clear hx hu1 hcnt hp
  have hel : ∀ j (hj : j < CC.length), ∃ ob oo s, oa = some ⟨ob, oo, none⟩ ∧ w2.cell? ⟨ob, oo + j, none⟩ = some s ∧ IntsAt w2 s (ints CC[j]) := fun j hj => by
    obtain ⟨ob, oo, e, s, h1, h2⟩ := hall.get hj
    exact ⟨ob, oo, s, e, by rw [Nat.mul_one] at h1; exact h1, h2⟩
  have Hel := Lib.hid hel
  obtain ⟨ob, oo, s0, rfl, c0, i0⟩ := hel 0 hcne
  rw [Nat.add_zero] at c0
  obtain ⟨hs1, hs2, hs3⟩ := Hsh.out CC[0] (List.getElem_mem hcne)
  have hg0 := Hgj.out 0 hcne
  generalize CC[0] = L0 at *
  have l0 : (0 : Int) < (CC.length : Int) := by omega
  have shp := fun w' (hx' : Ext w2 w') => shape_any (.agg #[.string f.name, .slice pa f.parts.length pc]) s0 f L0 w' hV (hf0.ext hx') (i0.ext hx') hs1 hs2
  have Shp := Lib.hid shp
  have HV := Lib.hid hV
  have Hs2 := Lib.hid hs2
  obtain ⟨S0, hS0⟩ : ∃ S0, shapeR f.parts L0 = S0 := ⟨_, rfl⟩
  rw [hS0] at hs3 hg0 Shp
  have Hg0 := Lib.hid hg0
  clear shp hs2 hel hS0 hg0
  go_wp2_with fail
  apply Facts.wp_region [.val _, .val _, .val _, .val _, .val s0, .fact (StrV S0), .val (.int .i64 (g 0 : Nat)), .val _] (by kernel_rfl) (by kernel_rfl) ⟨fun u a c hx h => StrsAt.ext h hx, trivial⟩ ?main
  case main =>
    iterate 5 (refine ⟨fun w1 hx hh => ?_, ?_⟩; focus (clear hh; have e0 := hx.cell b0; have e1 := hx.cell b1; have e2 := hx.cell c0; go_simp; first | exact ⟨Ext.refl _, rfl⟩ | exact Ext.refl _))
    refine ⟨fun w3 hx hh => ?_, ?_⟩
    · clear hh
      go_simp
      refine (Shp.out _ hx).mono ?_
      rintro e w' ⟨u, rfl, hu, hx'⟩
      exact ⟨_, rfl, hx', hu⟩
    intro u5
    refine ⟨fun w3 hx hh => ?_, ?_⟩
    · have h5 : StrV S0 u5 w3 := hh 5 _ List.mem_cons_self (by kernel_rfl)
      clear hh
      go_simp
      refine (far_any _ _ l S0 _ (hl.ext hx) h5 (by omega) (by omega)).mono ?_
      rw [← Hg0.out]
      rintro e w' ⟨rfl, hx'⟩
      exact ⟨_, rfl, hx', rfl⟩
    (refine ⟨fun w1 hx hh => ?_, ?_⟩; focus (clear hh; skip; go_simp; first | exact ⟨Ext.refl _, rfl⟩ | exact Ext.refl _))
    intro w3 hx hh
    clear hh
    go_simp
    replace b0 := hx.cell b0
    replace b1 := hx.cell b1
    replace xW := xW.trans hx
    replace hf0 := hf0.ext hx
    replace hl := hl.ext hx
    replace z1 := cell_lt b0
    have HE : ∀ j (hj : j < CC.length), ∃ s, w3.cell? ⟨ob, oo + j, none⟩ = some s ∧ IntsAt w3 s (ints CC[j]) := fun j hj => by
      obtain ⟨ob', oo', s, e, h1, h2⟩ := Hel.out j hj
      obtain ⟨rfl, rfl, -⟩ := Addr.mk.inj (Option.some.inj e)
      exact ⟨s, hx.cell h1, h2.ext hx⟩
    have HE' := Lib.hid HE
    clear hall c0 i0 hs1 hs3 l0 hx Shp HE
    go_wp2_with fail
    go_loopw [6, 7] (fun bv iv wr => ∃ i : Nat, 1 ≤ i ∧ i ≤ CC.length ∧ iv = .int .i64 i ∧ bv = .int .i64 (bestF g i : Nat) ∧ Ext w3 wr) (fun _ i _ => CC.length - (intOf i).toNat)
    case atStart => exact ⟨1, Nat.le_refl _, hcne, rfl, by rw [bestF_one], Ext.refl _⟩
    case round =>
      obtain ⟨i, hi1, hi2, rfl, rfl, hxr⟩ := hrel
      by_cases hlt : i < CC.length
      · have l1 : (i : Int) < (CC.length : Int) := by omega
        obtain ⟨si, ci, ii⟩ := HE'.out i hlt
        obtain ⟨hs1, hs2, hs3⟩ := Hsh.out CC[i] (List.getElem_mem hlt)
        have hgi := Hgj.out i hlt
        have hbi := Hbb.out i hi1 hi2
        have hgib := Hgb.out i hlt
        have hbs : bestF g (i + 1) = min (bestF g i) (g i) := rfl
        generalize CC[i] = Li at *
        have shp := fun w' (hx' : Ext wr w') => shape_any (.agg #[.string f.name, .slice pa f.parts.length pc]) si f Li w' HV.out ((hf0.ext hxr).ext hx') ((ii.ext hxr).ext hx') hs1 hs2
        have Shp := Lib.hid shp
        obtain ⟨Si, hSi⟩ : ∃ Si, shapeR f.parts Li = Si := ⟨_, rfl⟩
        rw [hSi] at hs3 hgi Shp
        have a0 := hxr.cell b0
        have a1 := hxr.cell b1
        have ci' := hxr.cell ci
        have hl' := hl.ext hxr
        have zr := cell_lt a0
        obtain ⟨bi, hbi'⟩ : ∃ bi, bestF g i = bi := ⟨_, rfl⟩
        obtain ⟨bn, hbn⟩ : ∃ bn, bestF g (i + 1) = bn := ⟨_, rfl⟩
        rw [hbi'] at hbs hbi ⊢
        rw [hbn] at hbs
        have Hbn := Lib.hid hbn
        have Hbs := Lib.hid hbs
        have Hgi := Lib.hid hgi
        clear shp hs2 hSi hbn hbs hbi' ci ii hgi
        go_wp2_with fail
        apply Facts.wp_region [.val _, .val _, .val _, .val _, .val _, .val _, .val si, .fact (StrV Si), .val (.int .i64 (g i : Nat)), .val (.int .i64 (bn : Nat)), .val _] (by kernel_rfl) (by kernel_rfl) ⟨fun u a c hx h => StrsAt.ext h hx, trivial⟩ ?main
        case main =>
          iterate 7 (refine ⟨fun w1 hx hh => ?_, ?_⟩; focus (clear hh; have e0 := hx.cell a0; have e1 := hx.cell a1; have e2 := hx.cell ci'; go_simp; first | exact ⟨Ext.refl _, rfl⟩ | exact Ext.refl _))
          refine ⟨fun w4 hx hh => ?_, ?_⟩
          · clear hh
            go_simp
            refine (Shp.out _ hx).mono ?_
            rintro e w' ⟨u, rfl, hu, hx'⟩
            exact ⟨_, rfl, hx', hu⟩
          intro u7'
          refine ⟨fun w4 hx hh => ?_, ?_⟩
          · have h5 : StrV Si u7' w4 := hh 7 _ List.mem_cons_self (by kernel_rfl)
            clear hh
            go_simp
            refine (far_any _ _ l Si _ (hl'.ext hx) h5 (by omega) (by omega)).mono ?_
            rw [← Hgi.out]
            rintro e w' ⟨rfl, hx'⟩
            exact ⟨_, rfl, hx', rfl⟩
          refine ⟨fun w4 hx hh => ?_, ?_⟩
          · clear hh hx
            go_simp
            exact ⟨Ext.refl _, by have := Hbs.out; congr 1; first | omega | (split <;> omega)⟩
          (refine ⟨fun w1 hx hh => ?_, ?_⟩; focus (clear hh; skip; go_simp; first | exact ⟨Ext.refl _, rfl⟩ | exact Ext.refl _))
          intro w4 hx hh
          clear hh
          go_simp
          go_wp2
          go_roundw
          case rel => exact ⟨i + 1, by omega, by omega, by go_num, by rw [Hbn.out], hxr.trans hx⟩
          case measure => simp [intOf]; omega
      · obtain rfl : i = CC.length := by omega
        go_wp2
        go_ret
        exact ⟨rfl, xW.trans hxr⟩
end Go.Proofs.YtcamegaimleomaaGreat

namespace Go.Proofs.YtcamegaimleomaaGreat
set_option linter.unusedSimpArgs false
set_option linter.unusedVariables false
open Go.ChangeShapes Go.WideShapes Go.RowKit

theorem add_none (b o n : Nat) : (⟨b, o, none⟩ : Addr).add n = ⟨b, o + n, none⟩ := by
  unfold Addr.add
  by_cases h : n = 0
  · subst h; simp
  · simp [h]
theorem three_of {cs : List Value} (h : cs.length = 3) : ∃ a b c, cs = [a, b, c] := by
  match cs, h with
  | [a, b, c], _ => exact ⟨a, b, c, rfl⟩
theorem two_of {cs : List Value} (h : cs.length = 2) : ∃ a b, cs = [a, b] := by
  match cs, h with
  | [a, b], _ => exact ⟨a, b, rfl⟩
theorem spot_none {w : World} {a : Addr} {v : Value} (h : w.cell? a = some v) : a.spot = none := by
  unfold World.cell? at h
  cases hs : a.spot with
  | none => rfl
  | some x => split at h <;> simp [hs] at h
section
variable {H : Type} {enc : TypeId × Value → H} {w : World} {base : Nat} {sp : Nat → Bool} {held : Bool}
theorem slice_of {α : Type} [Inhabited α] {sz : Nat} {R : World → Nat → Nat → α → Prop} {t e : TypeId} (ht : Tryz.prog.underlying t = some (.slice e)) (hc : Tryz.prog.cellsOf e = sz) (hsz : 0 < sz)
    (hel : ∀ n cs y, DataW.trod enc Tryz.prog w base sp held n e cs = some y → ∃ x : α, ∀ b o, (∀ j, j < sz → w.cell? ⟨b, o + j, none⟩ = cs[j]?) → R w b o x)
    {fuel : Nat} {v : Value} {x : DataW H × List MemPlace} (h : DataW.trod enc Tryz.prog w base sp held fuel t [v] = some x) : ∃ l : List α, SliceAt sz R w v l := by
  rcases Deep.open_slice ht h with ⟨h1, _⟩ | ⟨a, len, cap, m, n, D, Pl, hcs, _, hl, hm, hmm, _, hx⟩
  · obtain rfl : v = .slice none 0 0 := by simpa using h1
    exact ⟨[], SliceAt.nil⟩
  · obtain rfl : v = .slice (some a) len cap := by simpa using hcs
    have hlm : len ≤ m := by rw [hmm]; split <;> omega
    rw [hc] at hx
    obtain ⟨f, hf⟩ := Deep.choose_lt (α := α) (n := len) (p := fun i x => ∃ cs', w.cells? base (a.add (i * sz)) sz = some cs' ∧ ∀ b o, (∀ j, j < sz → w.cell? ⟨b, o + j, none⟩ = cs'[j]?) → R w b o x) (fun i hi => by
      obtain ⟨cs', h1, h2⟩ := hx i (by omega)
      obtain ⟨x, hR⟩ := hel _ _ _ h2
      exact ⟨x, cs', h1, hR⟩)
    refine ⟨(List.range len).map f, some a, cap, by simp, by simpa using hl, by simpa [maxLen] using hm, fun i hi => ?_⟩
    have hi' : i < len := by simpa using hi
    obtain ⟨b, o, s⟩ := a
    have hs : s = none := by
      obtain ⟨cs0, h1, _⟩ := hf 0 (by omega)
      obtain ⟨_, hl0, h2⟩ := World.cells?_some h1
      have h3 := h2 0 hsz
      rw [Nat.zero_mul] at h3
      have h4 : w.cell? ⟨b, o, s⟩ = cs0[0]? := by simpa [Addr.add] using h3
      rw [List.getElem?_eq_getElem (by omega)] at h4
      exact spot_none h4
    subst hs
    obtain ⟨cs', h1, hR⟩ := hf i hi'
    refine ⟨b, o, rfl, ?_⟩
    have e1 : ((List.range len).map f)[i] = f i := by simp
    rw [e1]
    refine hR b (o + i * sz) fun j hj => ?_
    have h2 := (World.cells?_some h1).2.2 j hj
    rw [add_none, add_none] at h2
    exact h2
instance : Inhabited Letter := ⟨⟨0, 0, true⟩⟩
instance : Inhabited Alphabet := ⟨⟨⟨#[]⟩, []⟩⟩
instance : Inhabited Spelling := ⟨⟨0, ⟨#[]⟩⟩⟩
theorem cellsInt : Tryz.prog.cellsOf 3 = 1 := by kernel_rfl
theorem cellsU8 : Tryz.prog.cellsOf 5 = 1 := by kernel_rfl
theorem cellsBool : Tryz.prog.cellsOf 4 = 1 := by kernel_rfl
theorem cellsString : Tryz.prog.cellsOf 9 = 1 := by kernel_rfl
theorem cellsLetter : Tryz.prog.cellsOf 200 = 3 := by kernel_rfl
theorem cellsAlphabet : Tryz.prog.cellsOf 135 = 2 := by kernel_rfl
theorem cellsSpelling : Tryz.prog.cellsOf 83 = 2 := by kernel_rfl
theorem cellsBook : Tryz.prog.cellsOf 67 = 3 := by kernel_rfl
theorem cellsLetters : Tryz.prog.cellsOf 133 = 1 := by kernel_rfl
theorem cellsAlphabets : Tryz.prog.cellsOf 64 = 1 := by kernel_rfl
theorem cellsSpellings : Tryz.prog.cellsOf 65 = 1 := by kernel_rfl
theorem wf_i64 {n : Int} (h : (Lit.int .i64 n).wf = true) : I64 n := by
  simpa [Lit.wf, IntKind.min, IntKind.max, IntKind.signed, IntKind.bits, I64] using h
theorem wf_u8 {n : Int} (h : (Lit.int .u8 n).wf = true) : U8 n := by
  simpa [Lit.wf, IntKind.min, IntKind.max, IntKind.signed, IntKind.bits, U8] using h
theorem letter_of {n : Nat} {cs : List Value} {y : DataW H × List MemPlace} (h : DataW.trod enc Tryz.prog w base sp held n 200 cs = some y) :
    ∃ x : Letter, cs = [.int .u8 x.c, .int .i64 x.sounds, .bool x.silent] ∧ U8 x.c ∧ I64 x.sounds := by
  obtain ⟨y0, y1, y2, m, -, hl, h0, h1, h2⟩ := Deep.trod_struct3 Tryz.underlying200 h
  rw [cellsLetter] at hl
  obtain ⟨c0, c1, c2, rfl⟩ := three_of hl
  simp only [cellsU8, cellsInt, cellsBool, List.drop_zero, List.drop_succ_cons, List.take_succ_cons, List.take_zero] at h0 h1 h2
  obtain ⟨a, ea, -, wa⟩ := DataW.trod_int Tryz.underlying5 h0
  obtain ⟨b, eb, -, wb⟩ := DataW.trod_int Tryz.underlying3 h1
  obtain ⟨c, ec, -⟩ := DataW.trod_bool Tryz.underlying4 h2
  simp only [List.cons.injEq, and_true] at ea eb ec
  subst ea eb ec
  exact ⟨⟨a, b, c⟩, rfl, wf_u8 wa, wf_i64 wb⟩
theorem letters_of {fuel : Nat} {v : Value} {x : DataW H × List MemPlace} (h : DataW.trod enc Tryz.prog w base sp held fuel 133 [v] = some x) : ∃ l, LettersAt w v l :=
  slice_of Tryz.underlying133 cellsLetter (by decide) (fun n cs y hy => by
    obtain ⟨x, rfl, hu, hi⟩ := letter_of hy
    refine ⟨x, fun b o hc => ⟨?_, ?_, ?_, hu, hi⟩⟩
    · exact hc 0 (by decide)
    · exact hc 1 (by decide)
    · exact hc 2 (by decide)) h
theorem alphabet_of {n : Nat} {cs : List Value} {y : DataW H × List MemPlace} (h : DataW.trod enc Tryz.prog w base sp held n 135 cs = some y) :
    ∃ (x : Alphabet) (u : Value), cs = [.string x.name, u] ∧ x.name.size ≤ 9223372036854775807 ∧ LettersAt w u x.letters := by
  obtain ⟨y0, y1, m, -, hl, h0, h1⟩ := trod_struct2 Tryz.underlying135 h
  rw [cellsAlphabet] at hl
  obtain ⟨c0, c1, rfl⟩ := two_of hl
  simp only [cellsString, cellsLetters, List.drop_zero, List.drop_succ_cons, List.take_succ_cons, List.take_zero] at h0 h1
  obtain ⟨s, es, -, hs⟩ := DataW.trod_string Tryz.underlying9 h0
  obtain ⟨l, hll⟩ := letters_of h1
  simp only [List.cons.injEq, and_true] at es
  subst es
  exact ⟨⟨s, l⟩, c1, rfl, by simpa [maxLen] using hs, hll⟩
theorem alphabets_of {fuel : Nat} {v : Value} {x : DataW H × List MemPlace} (h : DataW.trod enc Tryz.prog w base sp held fuel 64 [v] = some x) : ∃ l, AlphabetsAt w v l :=
  slice_of Tryz.underlying64 cellsAlphabet (by decide) (fun n cs y hy => by
    obtain ⟨x, u, rfl, hs, hl⟩ := alphabet_of hy
    refine ⟨x, fun b o hc => ⟨?_, hs, u, ?_, hl⟩⟩
    · exact hc 0 (by decide)
    · exact hc 1 (by decide)) h
theorem spelling_of {n : Nat} {cs : List Value} {y : DataW H × List MemPlace} (h : DataW.trod enc Tryz.prog w base sp held n 83 cs = some y) :
    ∃ x : Spelling, cs = [.int .i64 x.alphabet, .string x.text] ∧ I64 x.alphabet ∧ x.text.size ≤ 9223372036854775807 := by
  obtain ⟨y0, y1, m, -, hl, h0, h1⟩ := trod_struct2 Tryz.underlying83 h
  rw [cellsSpelling] at hl
  obtain ⟨c0, c1, rfl⟩ := two_of hl
  simp only [cellsString, cellsInt, List.drop_zero, List.drop_succ_cons, List.take_succ_cons, List.take_zero] at h0 h1
  obtain ⟨a, ea, -, wa⟩ := DataW.trod_int Tryz.underlying3 h0
  obtain ⟨s, es, -, hs⟩ := DataW.trod_string Tryz.underlying9 h1
  simp only [List.cons.injEq, and_true] at ea es
  subst ea es
  exact ⟨⟨a, s⟩, rfl, wf_i64 wa, by simpa [maxLen] using hs⟩
theorem spellings_of {fuel : Nat} {v : Value} {x : DataW H × List MemPlace} (h : DataW.trod enc Tryz.prog w base sp held fuel 65 [v] = some x) : ∃ l, SpellingsAt w v l :=
  slice_of Tryz.underlying65 cellsSpelling (by decide) (fun n cs y hy => by
    obtain ⟨x, rfl, hi, hs⟩ := spelling_of hy
    refine ⟨x, fun b o hc => ⟨?_, ?_, hi, hs⟩⟩
    · exact hc 0 (by decide)
    · exact hc 1 (by decide)) h
set_option maxRecDepth 100000 in
/-- A BOOK -/
theorem book_of {r : Reach} {b0 : Nat} {v : Value} {d : DataW H} {ps : List MemPlace} (hval : Value.okWide Tryz.prog w r b0 67 v) (hd : DataW.Trod enc Tryz.prog w base sp held 67 v d ps) : ∃ b, BookAt w v b := by
  simp only [Value.okWide, Tryz.underlying67] at hval
  obtain ⟨cs, rfl, -, -⟩ := hval
  obtain ⟨fuel, h⟩ := hd
  simp only [Value.cells] at h
  obtain ⟨y0, y1, y2, m, -, hl, h0, h1, h2⟩ := Deep.trod_struct3 Tryz.underlying67 h
  rw [cellsBook] at hl
  obtain ⟨cs⟩ := cs
  obtain ⟨c0, c1, c2, rfl⟩ := three_of hl
  simp only [cellsInt, cellsAlphabets, cellsSpellings, List.drop_zero, List.drop_succ_cons, List.take_succ_cons, List.take_zero] at h0 h1 h2
  obtain ⟨a, ea, -, wa⟩ := DataW.trod_int Tryz.underlying3 h0
  obtain ⟨al, hal⟩ := alphabets_of h1
  obtain ⟨sl, hsl⟩ := spellings_of h2
  simp only [List.cons.injEq, and_true] at ea
  subst ea
  exact ⟨⟨a, al, sl⟩, c1, c2, rfl, wf_i64 wa, hal, hsl⟩
/-- a place that was there is as it was -/
theorem same_of_ext {W W' : World} (h : Ext W W') {p : MemPlace} (hp : p.block < W.heap.size) : W.sameAt W' p := by
  cases p with
  | cell b off =>
    show W'.cell? ⟨b, off, none⟩ = W.cell? ⟨b, off, none⟩
    exact Below.cell (p := ⟨b, off, none⟩) h hp
  | map b =>
    show W'.heap[b]? = W.heap[b]?
    exact Below.block h b hp
end
end Go.Proofs.YtcamegaimleomaaGreat

namespace Go.Proofs.YtcamegaimleomaaGreat
set_option linter.unusedSimpArgs false
set_option linter.unusedVariables false
open Go.ChangeShapes Go.WideShapes Go.RowKit
set_option maxRecDepth 100000
section
variable {H : Type} {enc : TypeId × Value → H} {w : World} {base : Nat} {sp : Nat → Bool} {held : Bool}
instance : Inhabited Part := ⟨⟨[], 0, 0⟩⟩
instance : Inhabited Form := ⟨⟨⟨#[]⟩, []⟩⟩
instance : Inhabited Mark := ⟨⟨0, ⟨#[]⟩⟩⟩
instance : Inhabited ByteArray := ⟨⟨#[]⟩⟩
theorem cellsStrs : Tryz.prog.cellsOf 25 = 1 := by kernel_rfl
theorem strs_in {fuel : Nat} {v : Value} {x : DataW H × List MemPlace} (h : DataW.trod enc Tryz.prog w base sp held fuel 25 [v] = some x) : ∃ l, StrsAt w v l :=
  slice_of Tryz.underlying25 cellsString (by decide) (fun n cs y hy => by
    obtain ⟨s, rfl, -, hs⟩ := DataW.trod_string Tryz.underlying9 hy
    exact ⟨s, fun b o hc => ⟨hc 0 (by decide), by simpa [maxLen] using hs⟩⟩) h
/-- a letter -/
theorem strsArg_of {r : Reach} {b0 : Nat} {v : Value} {d : DataW H} {ps : List MemPlace} (hval : Value.okWide Tryz.prog w r b0 25 v) (hd : DataW.Trod enc Tryz.prog w base sp held 25 v d ps) : ∃ l, StrsAt w v l := by
  obtain ⟨a0, len, cap, rfl⟩ := okWide_slice Tryz.underlying25 hval
  obtain ⟨fuel, h⟩ := hd
  exact strs_in h
/-- a list of bytes -/
theorem bytesL_of {r : Reach} {b0 : Nat} {v : Value} {d : DataW H} {ps : List MemPlace} (hval : Value.okWide Tryz.prog w r b0 68 v) (hd : DataW.Trod enc Tryz.prog w base sp held 68 v d ps) : ∃ l, BytesAt w v l := by
  obtain ⟨a0, len, cap, rfl⟩ := okWide_slice Tryz.underlying68 hval
  obtain ⟨fuel, h⟩ := hd
  exact slice_of Tryz.underlying68 cellsU8 (by decide) (fun n cs y hy => by
    obtain ⟨x, rfl, -, wx⟩ := DataW.trod_int Tryz.underlying5 hy
    exact ⟨x, fun b o hc => ⟨hc 0 (by decide), wf_u8 wx⟩⟩) h
/-- a string -/
theorem str_of {r : Reach} {b0 : Nat} {v : Value} {d : DataW H} {ps : List MemPlace} (hval : Value.okWide Tryz.prog w r b0 9 v) (hd : DataW.Trod enc Tryz.prog w base sp held 9 v d ps) : ∃ s, v = .string s ∧ s.size ≤ 9223372036854775807 := by
  obtain ⟨s, rfl⟩ := okWide_string Tryz.underlying9 hval
  obtain ⟨fuel, h⟩ := hd
  simp only [Value.cells] at h
  obtain ⟨s', e, -, hs⟩ := DataW.trod_string Tryz.underlying9 h
  simp only [List.cons.injEq, and_true] at e
  cases e
  exact ⟨_, rfl, by simpa [maxLen] using hs⟩
end
section
variable {H : Type} {enc : TypeId × Value → H} {w : World} {base : Nat} {sp : Nat → Bool} {held : Bool}
theorem cellsMark : Tryz.prog.cellsOf 115 = 2 := by kernel_rfl
theorem marksArg_of {r : Reach} {b0 : Nat} {v : Value} {d : DataW H} {ps : List MemPlace} (hval : Value.okWide Tryz.prog w r b0 37 v) (hd : DataW.Trod enc Tryz.prog w base sp held 37 v d ps) : ∃ l, MarksAt w v l := by
  obtain ⟨a0, len, cap, rfl⟩ := okWide_slice Tryz.underlying37 hval
  obtain ⟨fuel, h⟩ := hd
  exact slice_of Tryz.underlying37 cellsMark (by decide) (fun n cs y hy => by
    obtain ⟨y0, y1, m, -, hl, h0, h1⟩ := trod_struct2 Tryz.underlying115 hy
    rw [cellsMark] at hl
    obtain ⟨c0, c1, rfl⟩ := two_of hl
    simp only [cellsInt, cellsString, List.drop_zero, List.drop_succ_cons, List.take_succ_cons, List.take_zero] at h0 h1
    obtain ⟨a, ea, -, wa⟩ := DataW.trod_int Tryz.underlying3 h0
    obtain ⟨s, es, -, hs⟩ := DataW.trod_string Tryz.underlying9 h1
    simp only [List.cons.injEq, and_true] at ea es
    subst ea es
    refine ⟨⟨a, s⟩, fun b o hc => ⟨?_, ?_, wf_i64 wa, by simpa [maxLen] using hs⟩⟩
    · exact hc 0 (by decide)
    · exact hc 1 (by decide)) h
theorem fillsArg_of {r : Reach} {b0 : Nat} {v : Value} {d : DataW H} {ps : List MemPlace} (hval : Value.okWide Tryz.prog w r b0 31 v) (hd : DataW.Trod enc Tryz.prog w base sp held 31 v d ps) : ∃ l, FillsAt w v l := by
  obtain ⟨a0, len, cap, rfl⟩ := okWide_slice Tryz.underlying31 hval
  obtain ⟨fuel, h⟩ := hd
  exact slice_of Tryz.underlying31 cellsStrs (by decide) (fun n cs y hy => by
    have hl : ∃ v, cs = [v] := by
      rcases Deep.open_slice Tryz.underlying25 hy with ⟨h1, _⟩ | ⟨a, len, cap, m, n, D, Pl, hcs, _⟩
      · exact ⟨_, h1⟩
      · exact ⟨_, hcs⟩
    obtain ⟨v, rfl⟩ := hl
    obtain ⟨l, hl⟩ := strs_in hy
    exact ⟨l, fun b o hc => ⟨v, hc 0 (by decide), hl⟩⟩) h
end
section
variable {H : Type} {enc : TypeId × Value → H} {w : World} {base : Nat} {sp : Nat → Bool} {held : Bool}
theorem cellsPart : Tryz.prog.cellsOf 59 = 3 := by kernel_rfl
theorem cellsForm : Tryz.prog.cellsOf 55 = 2 := by kernel_rfl
theorem cellsShelf : Tryz.prog.cellsOf 24 = 2 := by kernel_rfl
theorem cellsSpan : Tryz.prog.cellsOf 57 = 2 := by kernel_rfl
theorem cellsParts : Tryz.prog.cellsOf 53 = 1 := by kernel_rfl
theorem cellsForms : Tryz.prog.cellsOf 22 = 1 := by kernel_rfl
theorem part_of {n : Nat} {cs : List Value} {y : DataW H × List MemPlace} (h : DataW.trod enc Tryz.prog w base sp held n 59 cs = some y) :
    ∃ (x : Part) (u : Value), cs = [u, .int .i64 x.lo, .int .i64 x.hi] ∧ StrsAt w u x.words ∧ I64 x.lo ∧ I64 x.hi := by
  obtain ⟨y0, y1, m, -, hl, h0, h1⟩ := trod_struct2 Tryz.underlying59 h
  rw [cellsPart] at hl
  obtain ⟨c0, c1, c2, rfl⟩ := three_of hl
  simp only [cellsStrs, cellsSpan, List.drop_zero, List.drop_succ_cons, List.take_succ_cons, List.take_zero] at h0 h1
  obtain ⟨l, hll⟩ := strs_in h0
  obtain ⟨z0, z1, m', -, -, k0, k1⟩ := trod_struct2 Tryz.underlying57 h1
  simp only [cellsInt, List.drop_zero, List.drop_succ_cons, List.take_succ_cons, List.take_zero] at k0 k1
  obtain ⟨a, ea, -, wa⟩ := DataW.trod_int Tryz.underlying3 k0
  obtain ⟨b, eb, -, wb⟩ := DataW.trod_int Tryz.underlying3 k1
  simp only [List.cons.injEq, and_true] at ea eb
  subst ea eb
  exact ⟨⟨l, a, b⟩, c0, rfl, hll, wf_i64 wa, wf_i64 wb⟩
theorem parts_of {fuel : Nat} {v : Value} {x : DataW H × List MemPlace} (h : DataW.trod enc Tryz.prog w base sp held fuel 53 [v] = some x) : ∃ l, PartsAt w v l :=
  slice_of Tryz.underlying53 cellsPart (by decide) (fun n cs y hy => by
    obtain ⟨x, u, rfl, hs, h1, h2⟩ := part_of hy
    refine ⟨x, fun b o hc => ⟨⟨u, ?_, hs⟩, ?_, ?_, h1, h2⟩⟩
    · exact hc 0 (by decide)
    · exact hc 1 (by decide)
    · exact hc 2 (by decide)) h
theorem form_of {n : Nat} {cs : List Value} {y : DataW H × List MemPlace} (h : DataW.trod enc Tryz.prog w base sp held n 55 cs = some y) :
    ∃ (x : Form) (u : Value), cs = [.string x.name, u] ∧ x.name.size ≤ 9223372036854775807 ∧ PartsAt w u x.parts := by
  obtain ⟨y0, y1, m, -, hl, h0, h1⟩ := trod_struct2 Tryz.underlying55 h
  rw [cellsForm] at hl
  obtain ⟨c0, c1, rfl⟩ := two_of hl
  simp only [cellsString, cellsParts, List.drop_zero, List.drop_succ_cons, List.take_succ_cons, List.take_zero] at h0 h1
  obtain ⟨s, es, -, hs⟩ := DataW.trod_string Tryz.underlying9 h0
  obtain ⟨l, hll⟩ := parts_of h1
  simp only [List.cons.injEq, and_true] at es
  subst es
  exact ⟨⟨s, l⟩, c1, rfl, by simpa [maxLen] using hs, hll⟩
theorem forms_of {fuel : Nat} {v : Value} {x : DataW H × List MemPlace} (h : DataW.trod enc Tryz.prog w base sp held fuel 22 [v] = some x) : ∃ l, FormsAt w v l :=
  slice_of Tryz.underlying22 cellsForm (by decide) (fun n cs y hy => by
    obtain ⟨x, u, rfl, hs, hl⟩ := form_of hy
    refine ⟨x, fun b o hc => ⟨?_, hs, u, ?_, hl⟩⟩
    · exact hc 0 (by decide)
    · exact hc 1 (by decide)) h
/-- A SHELF -/
theorem shelf_of {r : Reach} {b0 : Nat} {v : Value} {d : DataW H} {ps : List MemPlace} (hval : Value.okWide Tryz.prog w r b0 24 v) (hd : DataW.Trod enc Tryz.prog w base sp held 24 v d ps) : ∃ s, ShelfAt w v s := by
  simp only [Value.okWide, Tryz.underlying24] at hval
  obtain ⟨cs, rfl, -, -⟩ := hval
  obtain ⟨fuel, h⟩ := hd
  simp only [Value.cells] at h
  obtain ⟨y0, y1, m, -, hl, h0, h1⟩ := trod_struct2 Tryz.underlying24 h
  rw [cellsShelf] at hl
  obtain ⟨cs⟩ := cs
  obtain ⟨c0, c1, rfl⟩ := two_of hl
  simp only [cellsInt, cellsForms, List.drop_zero, List.drop_succ_cons, List.take_succ_cons, List.take_zero] at h0 h1
  obtain ⟨a, ea, -, wa⟩ := DataW.trod_int Tryz.underlying3 h0
  obtain ⟨l, hll⟩ := forms_of h1
  simp only [List.cons.injEq, and_true] at ea
  subst ea
  exact ⟨⟨a, l⟩, c1, rfl, wf_i64 wa, hll⟩
end
end Go.Proofs.YtcamegaimleomaaGreat

namespace Go.Proofs.YtcamegaimleomaaGreat
set_option linter.unusedSimpArgs false
set_option linter.unusedVariables false
open Go.ChangeShapes Go.WideShapes Go.RowKit
set_option maxRecDepth 100000
section
variable {H : Type} {enc : TypeId × Value → H} {w : World} {base : Nat} {sp : Nat → Bool} {held : Bool}
/-- one byte -/
theorem byteL_of {r : Reach} {b0 : Nat} {v : Value} {d : DataW H} {ps : List MemPlace} (hval : Value.okWide Tryz.prog w r b0 5 v) (hd : DataW.Trod enc Tryz.prog w base sp held 5 v d ps) : ∃ x : Nat, v = .int .u8 x ∧ x ≤ 255 := by
  obtain ⟨a, rfl, -, -, wa⟩ := Go.ChangeShapes.open_int Tryz.underlying5 hval hd
  have ha := wf_u8 wa
  unfold U8 at ha
  exact ⟨a.toNat, by rw [show ((a.toNat : Nat) : Int) = a from by omega], by omega⟩
/-- one number -/
theorem intL_of {r : Reach} {b0 : Nat} {v : Value} {d : DataW H} {ps : List MemPlace} (hval : Value.okWide Tryz.prog w r b0 3 v) (hd : DataW.Trod enc Tryz.prog w base sp held 3 v d ps) : ∃ x : Int, v = .int .i64 x ∧ I64 x := by
  obtain ⟨a, rfl, -, -, wa⟩ := Go.ChangeShapes.open_int Tryz.underlying3 hval hd
  exact ⟨a, rfl, wf_i64 wa⟩
end
end Go.Proofs.YtcamegaimleomaaGreat

namespace Go.Proofs.YtcamegaimleomaaGreat
set_option linter.unusedSimpArgs false
set_option linter.unusedVariables false
open Go.ChangeShapes Go.WideShapes Go.ChangeAt Go.RowKit
section
variable {H : Type} {enc : TypeId × Value → H} {P : Program}
/-- a call that lets all that was there be, and answers as it should, keeps a law's word -/
theorem post_ext {f : Func} {s : ChangeSpec} {apart fresh handsOn again : Bool} {W W' : World} {args : Array Value} {v : Value} {ds gs : List (DataW H)} {before pa pv : List MemPlace}
    (hW : DataW.Whole enc P f.params.toList s.vars apart W args.toList ds gs before)
    (hres : ∀ (b : Nat) (sp : Nat → Bool) (hd : Bool), DataW.TrodAll enc P W' b sp hd f.resultTypes.toList (v.resultList f.resultTypes.size) (s.fn H (ds ++ gs)).results [])
    (hargs : ∀ sp : Nat → Bool, (∀ p ∈ before, sp p.block = true) → DataW.TrodAll enc P W' 0 sp true f.params.toList args.toList (s.fn H (ds ++ gs)).args pa)
    (hvars : ∀ sp : Nat → Bool, (∀ p ∈ before, sp p.block = true) → DataW.TrodVars enc P W' sp s.vars (s.fn H (ds ++ gs)).vars pv)
    (hps : before = pa ++ pv) (hx : Ext W W')
    (hok : ∀ (j : Nat) (t : TypeId) (r : Value), f.resultTypes[j]? = some t → (v.resultList f.resultTypes.size)[j]? = some r → Value.okWide P W' .any 0 t r) :
    s.post enc P f apart fresh handsOn again W args v W' := by
  have hlt := hW.lt
  have hold : ∀ p ∈ before, (fun b => decide (b < W.heap.size)) p.block = true := fun p hp => decide_eq_true (hlt p hp)
  have hin : ∀ p ∈ before, p ∈ pa ∨ p ∈ pv := fun p hp => List.mem_append.1 (hps ▸ hp)
  refine ⟨ds, gs, before, [], pa, pv, hW, hres _ _ _, hargs _ hold, hvars _ hold, World.keptBut_mono (fun p (hp : p ∈ before) => ⟨hp, .inr (hin p hp)⟩) (Below.frame hx _), fun _ => ⟨hok, ?_⟩⟩
  obtain ⟨_, _, _, _, _, hz, hn⟩ := hW
  refine ⟨_, _, pa ++ pv, ⟨[] ++ pa, pv, trodAll_append (hargs _ (fun _ _ => rfl)) (hres _ _ _), hvars _ (fun _ _ => rfl), by simp, fun b off hp => ?_, fun ha => by rw [← hps]; exact hn ha⟩, fun p hp _ => by rw [hps]; exact hp⟩
  rw [← hps] at hp
  rw [hx.frozen (p := ⟨b, off, none⟩) (hlt _ hp)]
  exact hz b off hp
end
end Go.Proofs.YtcamegaimleomaaGreat

namespace Go.Proofs.YtcamegaimleomaaGreat
set_option linter.unusedSimpArgs false
set_option linter.unusedVariables false
end Go.Proofs.YtcamegaimleomaaGreat

namespace Go.Proofs.YtcamegaimleomaaGreat
set_option linter.unusedSimpArgs false
set_option linter.unusedVariables false
open Go.RowKit
set_option linter.unusedVariables false
set_option linter.unusedSimpArgs false

/-- one element: fills that lie in no block of the row's own -/
def ElemG (w : World) (own : Option Nat) (x : Value) (fl : List (List ByteArray)) : Prop :=
  ∃ vs : List Value, w.ownsRow 0 25 1 x fl.length vs ∧ (∀ b, x.ownBlock = some b → some b ≠ own) ∧ ∀ (i : Nat) (y : Value) (L : List ByteArray), vs[i]? = some y → fl[i]? = some L → ElemS w x.ownBlock y L ∧ ∀ ad n c, y = .slice (some ad) n c → some ad.block ≠ own
theorem ElemG.ext {w w' : World} {own : Option Nat} {x : Value} {fl : List (List ByteArray)} (h : ElemG w own x fl) (hx : Ext w w') : ElemG w' own x fl := by
  obtain ⟨vs, h1, h2, h3⟩ := h
  exact ⟨vs, Ext.owns h1 hx, h2, fun i y L hi hL => ⟨(h3 i y L hi hL).1.ext hx, (h3 i y L hi hL).2⟩⟩
theorem ElemG.grown {w w' : World} {own own' : Option Nat} {x : Value} {fl : List (List ByteArray)} (h : ElemG w own x fl) (hg : w.grownBy w' own) (ho : own' = own ∨ ∃ k, own' = some k ∧ w.heap.size ≤ k) : ElemG w' own' x fl := by
  obtain ⟨vs, h1, h2, h3⟩ := h
  have hlt := fun b hb => h1.lt b hb
  have ne : ∀ b, some b ≠ own → b < w.heap.size → some b ≠ own' := fun b g1 g2 => by
    rcases ho with e | ⟨k, e, hk⟩
    · rw [e]; exact g1
    · rw [e]; intro e2; have := Option.some.inj e2; omega
  refine ⟨vs, World.ownsRow.kept h1 hg ?_, fun b hb => ne b (h2 b hb) (hlt b hb).2, fun i y L hi hL => ?_⟩
  · cases hb : x.ownBlock with
    | none => exact .inl rfl
    | some b => exact .inr (h2 b hb)
  · obtain ⟨⟨sa, sc, rfl, g1, g2⟩, g3⟩ := h3 i y L hi hL
    refine ⟨⟨sa, sc, rfl, g1.grownBy hg fun ad e => by subst e; exact g3 ad _ _ rfl, fun ad e => ⟨by have := (g2 ad e).1; have := hg.size; omega, (g2 ad e).2⟩⟩, fun ad n c e => ?_⟩
    obtain ⟨rfl, -, -⟩ := Value.slice.inj e
    exact ne _ (g3 ad _ _ rfl) (g2 ad rfl).1
theorem ElemG.at_ {w : World} {own : Option Nat} {x : Value} {fl : List (List ByteArray)} (h : ElemG w own x fl) : FillsAt w x fl := by
  obtain ⟨vs, h1, h2, h3⟩ := h
  exact RowF.at_ (base := 0) ⟨vs, h1, fun i y L hi hL => (h3 i y L hi hL).1⟩
theorem ElemG.of {w : World} {base : Nat} {own : Option Nat} {x : Value} {fl : List (List ByteArray)} (h : RowFB base fl x w) (ho : ∀ b, own = some b → b < base) : ElemG w own x fl := by
  obtain ⟨vs, h1, h2⟩ := h
  refine ⟨vs, ⟨h1.1, h1.2.imp id fun ⟨g, cap, cur, e, hb2, h⟩ => ⟨g, cap, cur, e, Nat.zero_le _, h⟩⟩, fun b hb e => ?_, fun i y L hi hL => ⟨(h2 i y L hi hL).1, fun ad n c e e2 => ?_⟩⟩
  · have := (h1.lt b hb).1
    have := ho b e.symm
    omega
  · have := (h2 i y L hi hL).2 ad n c e
    have := ho _ e2.symm
    omega
/-- a row of fills -/
def RowG (base : Nat) (FL : List (List (List ByteArray))) (u : Value) (w : World) : Prop :=
  ∃ vs : List Value, w.ownsRow base 31 1 u FL.length vs ∧ ∀ (i : Nat) (x : Value) (fl : List (List ByteArray)), vs[i]? = some x → FL[i]? = some fl → ElemG w u.ownBlock x fl
theorem RowG.ext {base : Nat} {FL : List (List (List ByteArray))} {u : Value} {w w' : World} (h : RowG base FL u w) (hx : Ext w w') : RowG base FL u w' := by
  obtain ⟨vs, h1, h2⟩ := h
  exact ⟨vs, Ext.owns h1 hx, fun i x L hi hL => (h2 i x L hi hL).ext hx⟩
theorem rowG_push {w w' : World} {base : Nat} {v v' x : Value} {FL : List (List (List ByteArray))} {fl : List (List ByteArray)} {vs : List Value} (h1 : w.ownsRow base 31 1 v FL.length vs) (h2 : ∀ (i : Nat) (x : Value) (fl : List (List ByteArray)), vs[i]? = some x → FL[i]? = some fl → ElemG w v.ownBlock x fl)
    (hv : ElemG w v.ownBlock x fl) (hown : w'.ownsRow base 31 1 v' (FL.length + 1) (vs ++ [x])) (hg : w.grownBy w' v.ownBlock) (hb : v'.ownBlock = v.ownBlock ∨ v'.ownBlock = some w.heap.size) : RowG base (FL ++ [fl]) v' w' := by
  have hlen : vs.length = FL.length := by have := h1.1; omega
  have ho : v'.ownBlock = v.ownBlock ∨ ∃ k, v'.ownBlock = some k ∧ w.heap.size ≤ k := hb.imp id fun e => ⟨_, e, Nat.le_refl _⟩
  refine ⟨vs ++ [x], by rw [List.length_append]; exact hown, fun i y M hi hM => ?_⟩
  rcases Nat.lt_or_ge i vs.length with h3 | h3
  · rw [List.getElem?_append_left h3] at hi
    rw [List.getElem?_append_left (by omega)] at hM
    exact (h2 i y M hi hM).grown hg ho
  · rw [List.getElem?_append_right h3] at hi
    rw [List.getElem?_append_right (by omega)] at hM
    have hi0 : i - vs.length = 0 := by
      rcases Nat.eq_zero_or_pos (i - vs.length) with h6 | h6
      · exact h6
      · rw [List.getElem?_eq_none (by simp; omega)] at hi; cases hi
    rw [hi0] at hi
    rw [show i - FL.length = 0 from by omega] at hM
    obtain rfl : x = y := by simpa using hi
    obtain rfl : fl = M := by simpa using hM
    exact hv.grown hg ho
/-- lists of fills in memory -/
def fillsLR (w : World) (b o : Nat) (l : List (List ByteArray)) : Prop := ∃ u, w.cell? ⟨b, o, none⟩ = some u ∧ FillsAt w u l
theorem RowG.at_ {base : Nat} {FL : List (List (List ByteArray))} {u : Value} {w : World} (h : RowG base FL u w) : SliceAt 1 fillsLR w u FL := by
  obtain ⟨vs, h1, h2⟩ := h
  have hlen : vs.length = FL.length := by have := h1.1; omega
  have hcells := fun g hg => h1.cells (g := g) hg
  rcases h1.2 with ⟨rfl, hn⟩ | ⟨g, cap, cur, rfl, hb, hg, hnc, hcm, hcs, htake⟩
  · have : FL = [] := List.eq_nil_of_length_eq_zero hn
    subst this; exact SliceAt.nil
  · refine ⟨_, _, rfl, hnc, by simpa [maxLen] using hcm, fun i hi => ⟨g, 0, rfl, ?_⟩⟩
    have hv : vs[i]? = some vs[i] := List.getElem?_eq_getElem (by omega)
    have h3 := (h2 i vs[i] FL[i] hv (List.getElem?_eq_getElem hi)).at_
    have := hcells g rfl i vs[i] hv
    have ea : (⟨g, 0, none⟩ : Addr).add i = ⟨g, 0 + i * 1, none⟩ := by unfold Addr.add; split <;> simp_all
    rw [ea] at this
    exact ⟨_, this, h3⟩
theorem infoFillsL : (Tryz.prog.info? 31).map (fun i => (i.zero, i.size, i.bytes)) = some (some (.slice none 0 0), 1, 24) := by kernel_rfl
/-- what filled gives, seen from a row -/
def FldV (own : Option Nat) (fl : List (List ByteArray)) (u : Value) (w : World) : Prop := ElemG w own u fl ∧ (∃ a n c, u = .slice a n c)
theorem FldV.ext {own : Option Nat} {fl : List (List ByteArray)} {u : Value} {w w' : World} (h : FldV own fl u w) (hx : Ext w w') : FldV own fl u w' := ⟨h.1.ext hx, h.2⟩
theorem FldV.but {own : Option Nat} {fl : List (List ByteArray)} {u : Value} {w w' : World} (h : FldV own fl u w) (hx : Facts.App.But own w w') : FldV own fl u w' := ⟨h.1.grown hx (.inl rfl), h.2⟩
/-- .. in a slice of one -/
def OneG (own : Option Nat) (fl : List (List ByteArray)) (u : Value) (w : World) : Prop := ∃ x B, u = .slice (some ⟨B, 0, none⟩) 1 1 ∧ w.cell? ⟨B, 0, none⟩ = some x ∧ FldV own fl x w ∧ some B ≠ own
theorem OneG.ext {own : Option Nat} {fl : List (List ByteArray)} {u : Value} {w w' : World} (h : OneG own fl u w) (hx : Ext w w') : OneG own fl u w' := by
  obtain ⟨x, B, e, h1, h2, h3⟩ := h; exact ⟨x, B, e, hx.cell h1, h2.ext hx, h3⟩
theorem OneG.but {own : Option Nat} {fl : List (List ByteArray)} {u : Value} {w w' : World} (h : OneG own fl u w) (hx : Facts.App.But own w w') : OneG own fl u w' := by
  obtain ⟨x, B, e, h1, h2, h3⟩ := h; exact ⟨x, B, e, World.grownBy.cell hx h1 h3, h2.but hx, h3⟩
noncomputable def OneG.x {own : Option Nat} {fl : List (List ByteArray)} {u : Value} {w : World} (h : OneG own fl u w) : Value := Exists.choose h
noncomputable def OneG.B {own : Option Nat} {fl : List (List ByteArray)} {u : Value} {w : World} (h : OneG own fl u w) : Nat := Exists.choose (Exists.choose_spec h)
theorem OneG.spec {own : Option Nat} {fl : List (List ByteArray)} {u : Value} {w : World} (h : OneG own fl u w) : u = .slice (some ⟨h.B, 0, none⟩) 1 1 ∧ w.cell? ⟨h.B, 0, none⟩ = some h.x ∧ FldV own fl h.x w ∧ some h.B ≠ own := Exists.choose_spec (Exists.choose_spec h)
theorem one_cellG {x : Value} (h : ∃ a n c, x = .slice a n c) : ∀ u ∈ [x], u.oneCell' = true := fun u hu => by
  rw [List.mem_singleton] at hu; subst hu
  obtain ⟨a, n, c, rfl⟩ := h; rfl
/-- the first k -/
theorem filter_next (P : List Nat → Bool) (CC : List (List Nat)) (k : Nat) (h : k < CC.length) : (CC.take (k + 1)).filter P = (CC.take k).filter P ++ if P CC[k] then [CC[k]] else [] := by
  rw [List.take_succ_eq_append_getElem h, List.filter_append]
  congr 1
  cases hp : P CC[k] <;> simp [hp]
/-- whether the first k words are those of a shape that is as long -/
def sameTo (S l : List ByteArray) (k : Nat) : Bool := decide (S.length = l.length) && (List.range k).all fun j => takesM ⟨S.getD j ByteArray.empty, false⟩ (l.getD j ByteArray.empty)
theorem sameTo_step (S l : List ByteArray) (k : Nat) : sameTo S l (k + 1) = (sameTo S l k && takesM ⟨S.getD k ByteArray.empty, false⟩ (l.getD k ByteArray.empty)) := by
  unfold sameTo
  rw [List.range_succ, List.all_append, Bool.and_assoc]
  simp
theorem sameTo_all (S l : List ByteArray) : sameTo S l l.length = matchM S l := by
  rw [Bool.eq_iff_iff, match_iff]
  unfold sameTo
  simp
theorem sameTo_no (S l : List ByteArray) {k : Nat} (hk : k ≤ l.length) (h : sameTo S l k = false) : matchM S l = false := by
  rw [Bool.eq_false_iff] at h ⊢
  intro h2
  rw [match_iff] at h2
  apply h
  unfold sameTo
  simp
  exact ⟨h2.1, fun j hj => by simpa using h2.2 j (by omega)⟩
set_option maxRecDepth 100000 in
set_option maxHeartbeats 8000000 in
theorem refAll_any (fv lv : Value) (f : Form) (l : List ByteArray) (w : World) (hV : ValidForm f) (hf : FormV w fv f) (hl : StrsAt w lv l) (h15 : l.length ≤ 15) :
    Calls Tryz.prog 46 #[fv, lv] w fun e w' => ∃ u, e = .returned u ∧ SliceAt 1 fillsLR w' u (allM f.parts l) ∧ Ext w w' := by
  have hf0 := hf
  obtain ⟨pv, rfl, hns, hp⟩ := hf
  obtain ⟨pa, pc, rfl, -⟩ := hp.shape
  obtain ⟨la, lc, rfl, hlc, hlm⟩ := hl.shape
  obtain ⟨j0, hj, hj0, hj1, hj2⟩ := info_parts infoFillsL
  have h5 := hV.n
  have hro := rooms_ok hV.parts
  have hr5 : (roomsM f.parts).length ≤ 5 := Nat.le_trans (List.length_filter_le _ _) h5
  have hfine := cntTo_fine hro (roomsM f.parts).length
  have hclen := cntTo_len hro (roomsM f.parts).length
  have hpow : 4 ^ (roomsM f.parts).length ≤ 4 ^ 5 := Nat.pow_le_pow_right (by decide) hr5
  change (countsM (roomsM f.parts)).length ≤ _ at hclen
  have hsh : ∀ L ∈ countsM (roomsM f.parts), (roomsM f.parts).length = L.length ∧ (∀ x ∈ L, x ≤ 3) := fun L hL => by
    have h := hfine L hL
    exact ⟨h.1.symm, h.2⟩
  have hcnt := fun v w' (h : SpansAt w' v (roomsM f.parts)) => counts_any v (roomsM f.parts) w' h hro hr5
  have hAll : allM f.parts l = ((countsM (roomsM f.parts)).filter fun ms => matchM (shapeR f.parts ms) l).map fun ms => filledR f.parts ms l := rfl
  obtain ⟨CC, hCC⟩ : ∃ CC, CC = countsM (roomsM f.parts) := ⟨_, rfl⟩
  rw [← hCC] at hcnt hclen hsh hAll
  have hcl : CC.length ≤ 1024 := Nat.le_trans hclen hpow
  obtain ⟨P, hP⟩ : ∃ P : List Nat → Bool, P = fun ms => matchM (shapeR f.parts ms) l := ⟨_, rfl⟩
  obtain ⟨F, hF⟩ : ∃ F : List Nat → List (List ByteArray), F = fun ms => filledR f.parts ms l := ⟨_, rfl⟩
  rw [← hP, ← hF] at hAll
  have hPe : ∀ ms, P ms = matchM (shapeR f.parts ms) l := fun ms => by rw [hP]
  have hFe : ∀ ms, F ms = filledR f.parts ms l := fun ms => by rw [hF]
  have hfl : ∀ k, (((CC.take k).filter P).map F).length ≤ 1024 := fun k => by
    rw [List.length_map]
    refine Nat.le_trans (List.length_filter_le _ _) ?_
    rw [List.length_take]; omega
  rw [hAll]
  have Hsh := Lib.hid hsh
  have HPe := Lib.hid hPe
  have HFe := Lib.hid hFe
  have Hfl := Lib.hid hfl
  have HV := Lib.hid hV
  clear hfine hCC hclen hpow hsh hP hF hAll hPe hFe hfl hV
  go_enter Tryz.func46, Tryz.ntmps46
  go_wp2_with fail
  obtain ⟨W, hW⟩ : ∃ W, W = w.alloc (.cells #[.string f.name, .slice pa f.parts.length pc] 55) := ⟨_, rfl⟩
  have xW : Ext w W := by rw [hW]; exact ext_alloc _ _
  have b0 : W.cell? ⟨w.heap.size, 0, none⟩ = some (.string f.name) := by rw [hW]; simp [go_sem]
  have b1 : W.cell? ⟨w.heap.size, 1, none⟩ = some (.slice pa f.parts.length pc) := by rw [hW]; simp [go_sem]
  rw [← hW]
  clear hW
  replace hf0 := hf0.ext xW
  replace hl := hl.ext xW
  refine (refRooms_any _ f h5 _ hf0).mono ?_
  rintro e w1 ⟨u1, rfl, hu1, hx⟩
  obtain ⟨ra, rc, rfl, -⟩ := hu1.shape
  replace b0 := hx.cell b0
  replace b1 := hx.cell b1
  replace xW := xW.trans hx
  replace hf0 := hf0.ext hx
  replace hl := hl.ext hx
  have z1 := cell_lt b0
  clear hx
  go_wp2_with fail
  refine (hcnt _ _ hu1).mono ?_
  rintro e w2 ⟨u2, rfl, hall, hx⟩
  replace b0 := hx.cell b0
  replace b1 := hx.cell b1
  replace xW := xW.trans hx
  replace hf0 := hf0.ext hx
  replace hl := hl.ext hx
  replace z1 := cell_lt b0
  obtain ⟨oa, oc, rfl, -⟩ := hall.shape
  clear hx hu1 hcnt hp
  go_wp2_with fail
  go_loopw [6, 7] (fun ov iv wr => ∃ i : Nat, i ≤ CC.length ∧ iv = .int .i64 i ∧ Ext w2 wr ∧ RowG w2.heap.size (((CC.take i).filter P).map F) ov wr) (fun _ i _ => CC.length - (intOf i).toNat)
  case atStart => exact ⟨0, Nat.zero_le _, rfl, Ext.refl _, [], World.ownsRow_nil _ _ _ _, fun i x L h => by simp at h⟩
  case round =>
    obtain ⟨i, hi, rfl, hxr, hown⟩ := hrel
    obtain ⟨R, hR⟩ : ∃ R : World, R = wr := ⟨_, rfl⟩
    subst hR
    by_cases hlt : i < CC.length
    · have l1 : (i : Int) < (CC.length : Int) := by omega
      obtain ⟨ob, oo, e, si, ci, ii⟩ := hall.get hlt
      subst e
      rw [Nat.mul_one] at ci
      obtain ⟨hs1, hs2⟩ := Hsh.out CC[i] (List.getElem_mem hlt)
      have hnx := filter_next P CC i hlt
      have hPi := HPe.out CC[i]
      have hFi := HFe.out CC[i]
      have hfli := Hfl.out i
      generalize CC[i] = Li at *
      have hslen := shape_len f.parts Li (fun p hp => (HV.out.parts p hp).n) hs2
      have hnx2 : ((CC.take (i + 1)).filter P).map F = ((CC.take i).filter P).map F ++ if P Li then [F Li] else [] := by
        rw [hnx, List.map_append]; cases P Li <;> rfl
      have a0 := hxr.cell b0
      have a1 := hxr.cell b1
      have ci' := hxr.cell ci
      have hl' := hl.ext hxr
      have za := cell_lt a0
      have shp := fun w' (hx' : Ext R w') => shape_any (.agg #[.string f.name, .slice pa f.parts.length pc]) si f Li w' HV.out ((hf0.ext hxr).ext hx') ((ii.ext hxr).ext hx') hs1 hs2
      have fld := fun w' (hx' : Ext R w') (hm : matchM (shapeR f.parts Li) l = true) => refFilled_any (.agg #[.string f.name, .slice pa f.parts.length pc]) si (.slice la l.length lc) f Li l w' HV.out ((hf0.ext hxr).ext hx') ((ii.ext hxr).ext hx') (hl'.ext hx') h15 hs1 hs2 hm
      rw [← hFi] at fld
      obtain ⟨S, hS⟩ : ∃ S, shapeR f.parts Li = S := ⟨_, rfl⟩
      rw [hS] at hslen hPi shp fld
      have Shp := Lib.hid shp
      have Fld := Lib.hid fld
      have HPi := Lib.hid hPi
      have Hnx0 := Lib.hid hnx2
      have Hown := Lib.hid hown
      have Hxr := Lib.hid hxr
      generalize ((CC.take i).filter P).map F = FL at *
      clear shp fld hs1 hs2 hS hnx hPi hFi hnx2 hown ci ii
      go_wp2_with fail
      apply Facts.wp_region [.val _, .val _, .val _, .val _, .val si, .fact (StrV S), .fact (StrV S)] (by kernel_rfl) (by kernel_rfl) ⟨fun u a c hx h => StrsAt.ext h hx, fun u a c hx h => StrsAt.ext h hx, trivial⟩ ?main
      case main =>
        iterate 5 (refine ⟨fun w1 hx hh => ?_, ?_⟩; focus (clear hh; have e0 := hx.cell a0; have e1 := hx.cell a1; have e2 := hx.cell ci'; go_simp; first | exact ⟨Ext.refl _, rfl⟩ | exact Ext.refl _))
        refine ⟨fun w4 hx hh => ?_, ?_⟩
        · clear hh
          go_simp
          refine (Shp.out _ hx).mono ?_
          rintro e w' ⟨u, rfl, hu, hx'⟩
          exact ⟨_, rfl, hx', hu⟩
        intro u5
        refine ⟨fun w4 hx hh => ?_, ?_⟩
        · have h5' : StrV S u5 w4 := hh 5 _ List.mem_cons_self (by kernel_rfl)
          clear hh
          go_simp
          first | exact ⟨Ext.refl _, h5'⟩ | exact Ext.refl _
        intro u6' w4 hx4 hh
        have hSv : StrsAt w4 u6' S := hh 6 _ List.mem_cons_self
        clear hh
        go_simp
        obtain ⟨sa, sc, rfl, -⟩ := hSv.shape
        obtain ⟨bq, hbq⟩ : ∃ bq, ((S.length : Int) == (l.length : Int)) = bq := ⟨_, rfl⟩
        have hs0 : bq = sameTo S l 0 := by
          rw [← hbq]
          unfold sameTo
          by_cases h : S.length = l.length
          · rw [decide_eq_true h, h]; simp
          · rw [decide_eq_false h, beq_eq_false_iff_ne.2 (by omega)]; rfl
        have Hs0 := Lib.hid hs0
        clear hs0
        go_wp2_with fail
        clear hbq
        go_loopw [9, 10] (fun sv kv wq => ∃ k : Nat, k ≤ l.length ∧ kv = .int .i64 k ∧ sv = .bool (sameTo S l k) ∧ Ext w4 wq) (fun _ k _ => l.length - (intOf k).toNat)
        case atStart => exact ⟨0, Nat.zero_le _, rfl, by rw [Hs0.out], Ext.refl _⟩
        case round =>
          obtain ⟨k, hk, rfl, rfl, hxq⟩ := hrel
          have hxk := hx4.trans hxq
          by_cases hkl : k < l.length
          · have k1 : (k : Int) < (l.length : Int) := by omega
            cases hsk : sameTo S l k
            · have hno := sameTo_no S l hk hsk
              have Hnx : Hid (((CC.take (i + 1)).filter P).map F = FL) := Lib.hid (by rw [Hnx0.out, HPi.out, hno]; simp)
              clear hsk hno
              (go_wp2; go_roundw; (case rel => exact ⟨i + 1, by omega, by go_num, Hxr.out.trans hxk, by rw [Hnx.out]; exact Hown.out.ext hxk⟩); (case measure => simp [intOf]; omega))
            · have hst := sameTo_step S l k
              rw [hsk, Bool.true_and] at hst
              have hSl : S.length = l.length := by unfold sameTo at hsk; simp at hsk; exact hsk.1
              have kS : k < S.length := by omega
              have k2 : (k : Int) < (S.length : Int) := by omega
              have e1 : S.getD k ByteArray.empty = S[k] := by rw [List.getD_eq_getElem?_getD, List.getElem?_eq_getElem kS]; rfl
              have e2 : l.getD k ByteArray.empty = l[k] := by rw [List.getD_eq_getElem?_getD, List.getElem?_eq_getElem hkl]; rfl
              rw [e1, e2] at hst
              obtain ⟨sb, so, rfl, d0, -⟩ := SliceAt.get (hSv.ext hxq) kS
              obtain ⟨lb, lo, rfl, d1, -⟩ := SliceAt.get (hl'.ext hxk) hkl
              rw [Nat.mul_one] at d0 d1
              generalize S[k] = sw at *
              generalize l[k] = lw at *
              have Hst := Lib.hid hst
              clear hst e1 e2 hsk hSl
              go_wp2_with fail
              apply Facts.wp_region [.val _, .val _, .val _, .val _, .val _, .val _, .val _, .val _, .val (.bool (takesM ⟨sw, false⟩ lw)), .val _] (by kernel_rfl) (by kernel_rfl) trivial ?main
              case main =>
                iterate 8 (refine ⟨fun w1 hx hh => ?_, ?_⟩; focus (clear hh; have e0 := hx.cell d0; have e1 := hx.cell d1; go_simp; first | exact ⟨Ext.refl _, rfl⟩ | exact Ext.refl _))
                refine ⟨fun w1 hx hh => ?_, ?_⟩
                · clear hh
                  go_simp
                  refine (fits_any sw lw _).mono ?_
                  rintro e w' ⟨rfl, hx'⟩
                  exact ⟨_, rfl, hx', rfl⟩
                (refine ⟨fun w1 hx hh => ?_, ?_⟩; focus (clear hh; skip; go_simp; first | exact ⟨Ext.refl _, rfl⟩ | exact Ext.refl _))
                intro w5 hx5 hh
                clear hh
                go_simp
                go_wp2
                go_roundw
                case rel => exact ⟨k + 1, by omega, by go_num, by rw [Hst.out], hxq.trans hx5⟩
                case measure => simp [intOf]; omega
          · obtain rfl : k = l.length := by omega
            have k1 : ¬ (l.length : Int) < (l.length : Int) := by omega
            rw [sameTo_all]
            cases hm : matchM S l
            · have Hnx : Hid (((CC.take (i + 1)).filter P).map F = FL) := Lib.hid (by rw [Hnx0.out, HPi.out, hm]; simp)
              clear hm
              (go_wp2; go_roundw; (case rel => exact ⟨i + 1, by omega, by go_num, Hxr.out.trans hxk, by rw [Hnx.out]; exact Hown.out.ext hxk⟩); (case measure => simp [intOf]; omega))
            · have Hnx : Hid (((CC.take (i + 1)).filter P).map F = FL ++ [F Li]) := Lib.hid (by rw [Hnx0.out, HPi.out, hm]; simp)
              have hfd := fun w' hx' => Fld.out w' hx' hm
              have Hfd := Lib.hid hfd
              clear hm hfd
              obtain ⟨vals, hv2, hv3⟩ := Hown.out
              have hv2' := Ext.owns hv2 hxk
              have hv3' : ∀ (i : Nat) (x : Value) (fl : List (List ByteArray)), vals[i]? = some x → FL[i]? = some fl → ElemG wr u6.ownBlock x fl := fun i x fl g1 g2 => (hv3 i x fl g1 g2).ext hxk
              have Hv2 := Lib.hid hv2'
              have Hv3 := Lib.hid hv3'
              have b0' := hxk.cell a0
              have b1' := hxk.cell a1
              have c0' := hxk.cell ci'
              have zb' := cell_lt b0'
              have hxk' := Hxr.out.trans hxk
              have hsz := hxk'.size
              have hlt2 := fun b hb => hv2'.lt b hb
              clear hv2 hv3 hv2' hv3'
              go_wp2_with fail
              apply Facts.Dep.Once.wp_region (Facts.App.two_but u6.ownBlock) 9 [.val _, .val _, .val _, .val _, .val _, .val si, .val _, .fact (FldV u6.ownBlock (F Li)), .fact (OneG u6.ownBlock (F Li)), .fact (RowG w2.heap.size (FL ++ [F Li])), .fact (RowG w2.heap.size (FL ++ [F Li]))] (by kernel_rfl) (by kernel_rfl) (by kernel_rfl) ?keep2 ?main2
              case keep2 => exact ⟨fun u a c hx h => h.ext hx, fun _ _ u a c hx h => h.but hx, fun u a c hx h => h.ext hx, fun _ _ u a c hx h => h.but hx, fun u a c hx h => h.ext hx, fun h => absurd rfl h, fun u a c hx h => h.ext hx, fun _ h => (no_falseB h (by kernel_rfl)).elim, trivial⟩
              case main2 =>
                iterate 7 (refine ⟨fun w1 hE hC hh => ?_, ?_⟩; focus (have hx := hE (by kernel_rfl); clear hh hE hC; (have f0 := hx.cell b0'; have f1 := hx.cell b1'; have f2 := hx.cell c0'); go_simp; first | exact ⟨Ext.refl _, rfl⟩ | exact Ext.refl _))
                refine ⟨fun w1 hE hC hh => ?_, ?_⟩
                · have hx := hE (by kernel_rfl)
                  clear hh hE hC
                  have hs1 := hx.size
                  go_simp
                  refine (Hfd.out _ (hxk.trans hx)).mono ?_
                  rintro e w' ⟨u, rfl, hu, hx2⟩
                  exact ⟨_, rfl, hx2, ElemG.of hu (fun b hb => by have := (hlt2 b hb).2; omega), by obtain ⟨vs, h1, -⟩ := hu; rcases h1.2 with ⟨rfl, -⟩ | ⟨g, cap, cur, rfl, -⟩ <;> exact ⟨_, _, _, rfl⟩⟩
                intro u7
                refine ⟨fun w1 hE hC hh => ?_, ?_⟩
                · have h7 : FldV u6.ownBlock (F Li) u7 w1 := hh 7 _ List.mem_cons_self (by kernel_rfl)
                  have hx := hE (by kernel_rfl)
                  have hs1 := hx.size
                  clear hh hE hC
                  have eo := (h7.1.at_).form
                  have hnf : ∃ n, (F Li).length = n := ⟨_, rfl⟩
                  obtain ⟨n, hnf⟩ := hnf
                  rw [hnf] at eo
                  generalize slA u7 = a7 at eo
                  generalize slC u7 = c7 at eo
                  subst eo
                  go_simp
                  exact ⟨ext_alloc _ _, _, w1.heap.size, rfl, by simp [go_sem], h7.ext (ext_alloc _ _), fun e => by have := (hlt2 _ e.symm).2; omega⟩
                intro u8
                refine ⟨fun w1 hE hC hh => ?_, ?_⟩
                · have h8 : OneG u6.ownBlock (F Li) u8 w1 := hh 8 _ List.mem_cons_self (by kernel_rfl)
                  have hx := hE (by kernel_rfl)
                  have hs1 := hx.size
                  clear hh hE hC
                  have s8 := h8.spec
                  generalize h8.x = x at s8
                  generalize h8.B = B at s8
                  have e8 := s8.1
                  subst e8
                  refine Facts.App.stepG_append rfl (.tmp 50) (.tmp 58) 96 rfl w2.heap.size 31 j0 (.slice none 0 0) 1 24 Tryz.underlying96 hj hj0 hj1 hj2 rfl (by decide) u6 FL.length vals (by go_simp) (Ext.owns Hv2.out hx) ⟨B, 0, none⟩ 1 1 [x] (by go_simp) rfl (cell_one_at s8.2.1) (one_cellG s8.2.2.1.2) (by unfold maxLen; omega) (by omega) (by omega) ?_
                  intro v' w' ho hg hb
                  exact ⟨hg, rowG_push (Ext.owns Hv2.out hx) (fun i x fl g1 g2 => (Hv3.out i x fl g1 g2).ext hx) s8.2.2.1.1 ho hg hb⟩
                intro u9
                refine ⟨fun w1 hE hC hh => ?_, ?_⟩
                · have h9 : RowG w2.heap.size (FL ++ [F Li]) u9 w1 := hh 9 _ List.mem_cons_self (by kernel_rfl)
                  clear hh hE hC
                  go_simp
                  exact Ext.refl _
                intro u6' w8 hC hh
                have h11 := hh 10 _ List.mem_cons_self
                clear hh
                have x8 : Ext w2 w8 := Ext.grown hxk' hC fun k hk => (hlt2 k hk).1
                go_simp
                go_wp2
                go_roundw
                case rel => exact ⟨i + 1, by omega, by go_num, x8, by rw [Hnx.out]; exact h11⟩
                case measure => simp [intOf]; omega
    · obtain rfl : i = CC.length := by omega
      rw [List.take_length] at hown
      have hat := hown.at_
      obtain ⟨va, vc, rfl, -⟩ := hat.shape
      go_wp2
      go_ret
      exact ⟨_, rfl, hat, xW.trans hxr⟩
end Go.Proofs.YtcamegaimleomaaGreat
