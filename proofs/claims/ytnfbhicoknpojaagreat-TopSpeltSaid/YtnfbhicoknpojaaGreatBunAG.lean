/-
  THE WORDS OF A LETTER THAT ARE IN THE ROOMS OF A FORM: fills of the program.
  A LETTER's TEXT, plain: the bytes and how wide the last line is, word by word; and what a text's words are.
  A LETTER's TEXT: textOf of the program, over strings.Builder.
  A LETTER's TEXT WRITTEN AND READ: Write and Read of the program.
  THE MAP OF WHAT IS FOUND at places: what is looked up in it, and how it is written.
  WHAT CAN BE DONE AT A PLACE: next, and the functions of the table of kinds by number.
  WHAT CAN BE DONE AT A PLACE: the iterator choices.
  THE FIRST OF SOME CHOICES: best of the program, for whatever iterator that yields a list of choices.
-/
import Derived.Test.YtnfbhicoknpojaaGreatBunAF
import Derived.Laws.IdiomCopy
import Derived.Test.YtnfbhicoknpojaaGreatBunAE
import Derived.Lib.FieldsP
import Derived.Test.YtnfbhicoknpojaaGreatShelf
import Derived.Shelf.Strings.Builder1
import Derived.Shelf.Strings.FieldsFuncGrows
import Derived.Maps.RangeRun
import Derived.MapKept
import Derived.RangeFuncBox
namespace Go.Proofs.YtnfbhicoknpojaaGreat
set_option linter.unusedSimpArgs false
set_option linter.unusedVariables false
open Go.RowKit
set_option linter.unusedVariables false

/-- the fills of the first k parts, and the words that are left -/
def fillsTo (ps : List Part) (c : Nat → Int) (l : List ByteArray) : Nat → List (List ByteArray) × List ByteArray
  | 0 => ([], l)
  | k + 1 => (if roomyM (ps.getD k ⟨[], 0, 0⟩) then (fillsTo ps c l k).1 ++ [(fillsTo ps c l k).2.take (c k).toNat] else (fillsTo ps c l k).1, (fillsTo ps c l k).2.drop (c k).toNat)
def fillsM (ps : List Part) (c : Nat → Int) (l : List ByteArray) : List (List ByteArray) := (fillsTo ps c l ps.length).1
theorem fillsTo_len (ps : List Part) (c : Nat → Int) (l : List ByteArray) : ∀ k, (fillsTo ps c l k).1.length ≤ k
  | 0 => Nat.le_refl _
  | k + 1 => by
    have := fillsTo_len ps c l k
    rw [fillsTo]
    simp only
    split
    · simp; omega
    · omega
theorem fillsTo_left (ps : List Part) (c : Nat → Int) (l : List ByteArray) : ∀ k, (fillsTo ps c l k).2.length ≤ l.length
  | 0 => Nat.le_refl _
  | k + 1 => by
    have := fillsTo_left ps c l k
    rw [fillsTo]
    simp only [List.length_drop]
    omega
/-- no more words are in a part than are left -/
def FitsC (ps : List Part) (c : Nat → Int) (l : List ByteArray) : Prop := ∀ k, k < ps.length → 0 ≤ c k ∧ (c k).toNat ≤ (fillsTo ps c l k).2.length
theorem setCells_below (g : Nat) : ∀ (vs : List Value) (o : Nat) (w : World), Below g w (w.setCells g o vs)
  | [], _, w => Below.refl _ _
  | v :: r, o, w => by
    rw [World.setCells]
    exact ((Below.refl g w).setCell (p := ⟨g, o, none⟩) (Nat.le_refl _) v).trans (setCells_below g r (o + 1) _)
theorem setCells_size (g : Nat) : ∀ (vs : List Value) (o : Nat) (w : World), (w.setCells g o vs).heap.size = w.heap.size
  | [], _, w => rfl
  | v :: r, o, w => by rw [World.setCells, setCells_size g r]; simp [World.setCell]
/-- new words: a slice is made, and so many words are copied into it -/
theorem make_strs (w : World) (n : Nat) (hn : n ≤ 100) (lv : Value) (l : List ByteArray) (hl : StrsAt w lv l) (hnl : n ≤ l.length) :
    ∃ w2 w3, (Instr.makeSlice 48 (.int .i64 (n : Int)) (.int .i64 (n : Int))).run Tryz.prog w = .ok (.slice (some ⟨w.heap.size, 0, none⟩) n n) w2 ∧
      (Builtin.copy_ #[48, 48] 3 #[.slice (some ⟨w.heap.size, 0, none⟩) n n, lv]).run Tryz.prog w2 = .ok (goInt n) w3 ∧ Ext w w2 ∧ Ext w w3 ∧ StrsAt w3 (.slice (some ⟨w.heap.size, 0, none⟩) n n) (l.take n) ∧ w.heap.size < w3.heap.size := by
  obtain ⟨i0, hi, hz0, hz1, hz2⟩ := info_parts infoString
  obtain ⟨w2, h1, h2, h3⟩ := run_makeSlice_full (P := Tryz.prog) w w.heap.size 48 9 i0 (.string ByteArray.empty) 1 Tryz.underlying48 hi hz0 hz1 .i64 .i64 n (by omega) (by rw [hz2]; omega) (by unfold maxLen; omega) (Nat.le_refl _)
  have e : (madeCells (Value.string ByteArray.empty).cells (n * 1)).toList = List.replicate n (.string ByteArray.empty) := by
    rw [Nat.mul_one]; exact toList_madeCells_one _ _
  rw [e] at h2
  have hx : Ext w w2 := Ext.grown (Ext.refl _) h3 fun k hk => by cases hk
  have hcell : ∀ j, j < n → w2.cell? ⟨w.heap.size, 0 + j, none⟩ = some (.string ByteArray.empty) := fun j hj => by
    have := World.ownsRow.cells h2 (g := w.heap.size) rfl j (.string ByteArray.empty) (by rw [List.getElem?_replicate, if_pos hj])
    rwa [show (⟨w.heap.size, 0, none⟩ : Addr).add j = ⟨w.heap.size, 0 + j, none⟩ by unfold Addr.add; split <;> simp_all] at this
  have hfree : ∀ j, w2.frozen? ⟨w.heap.size, 0 + j, none⟩ = false := fun j => by
    rcases h2.2 with ⟨h, -⟩ | ⟨g, cap, cur, hv, hb, hg, -⟩
    · cases h
    · obtain ⟨hg2, -⟩ := Value.slice.inj hv
      obtain rfl : w.heap.size = g := by simpa using hg2
      simp [World.frozen?, hg]
  have hlt2 : w.heap.size < w2.heap.size := (World.ownsRow.lt h2 w.heap.size rfl).2
  by_cases h0 : n = 0
  · subst h0
    refine ⟨w2, w2, h1, ?_, hx, hx, ⟨_, _, rfl, by simp, by decide, fun i hi => by simp at hi⟩, hlt2⟩
    obtain ⟨a, c, rfl, -⟩ := hl.shape
    exact run_copy_none _ _ _ _ 9 _ _ _ _ _ _ Tryz.underlying48 (by kernel_rfl) (by simp)
  · obtain ⟨a, c, rfl, hlc, hcm⟩ := hl.shape
    obtain ⟨b, o, rfl, -⟩ := hl.get (i := 0) (by omega)
    have hlen : ((l.take n).map Value.string).length = n := by simp; omega
    have hcp := run_copy_cells (P := Tryz.prog) w2 48 48 3 9 w.heap.size 0 n n ⟨b, o, none⟩ l.length c ((l.take n).map Value.string) Tryz.underlying48 (by kernel_rfl) (by rw [hlen]; exact (Nat.min_eq_right hnl).symm) (fun j v hv => by
      have hj : j < n := by
        rcases Nat.lt_or_ge j n with h | h
        · exact h
        · rw [List.getElem?_eq_none (by rw [hlen]; exact h)] at hv; cases hv
      obtain ⟨b', o', e', r, -⟩ := (hl.ext hx).get (i := j) (by omega)
      simp only [Option.some.injEq, Addr.mk.injEq, and_true] at e'
      obtain ⟨rfl, rfl⟩ := e'
      rw [List.getElem?_map, List.getElem?_take, if_pos hj, List.getElem?_eq_getElem (by omega)] at hv
      obtain rfl := Option.some.inj hv
      rw [show (⟨b, o, none⟩ : Addr).add j = ⟨b, o + j * 1, none⟩ by unfold Addr.add; split <;> simp_all]
      exact r) (fun j hj => by rw [hlen] at hj; rw [hcell j hj]; rfl) (fun j hj => hfree j) (fun v hv => by
      obtain ⟨x, -, rfl⟩ := List.mem_map.1 hv
      rfl)
    rw [hlen] at hcp
    have hx3 : Ext w (w2.setCells w.heap.size 0 ((l.take n).map Value.string)) := Below.trans hx (setCells_below _ _ _ _)
    refine ⟨w2, _, h1, hcp, hx, hx3, ⟨_, _, by rw [List.length_take, Nat.min_eq_left hnl], by rw [List.length_take]; omega, by omega, fun i hi => ⟨w.heap.size, 0, rfl, ?_, ?_⟩⟩, by rw [setCells_size]; exact hlt2⟩
    · have hin : i < n := by rw [List.length_take] at hi; omega
      have := World.cell?_setCells_in w.heap.size ((l.take n).map Value.string) 0 w2 (fun j hj => by rw [hlen] at hj; rw [hcell j hj]; rfl) i (by rw [hlen]; exact hin)
      rw [Nat.mul_one, this, List.getElem_map]
    · exact hl.sizes _ (List.mem_of_mem_take (List.getElem_mem hi))
theorem infoStrs : (Tryz.prog.info? 48).map (fun i => (i.zero, i.size, i.bytes)) = some (some (.slice none 0 0), 1, 24) := by kernel_rfl
theorem StrsAt.grownBy {w w' : World} {row : Option Nat} {sa : Option Addr} {n sc : Nat} {l : List ByteArray} (h : StrsAt w (.slice sa n sc) l) (hg : w.grownBy w' row) (hne : ∀ ad, sa = some ad → some ad.block ≠ row) : StrsAt w' (.slice sa n sc) l := by
  obtain ⟨a, cap, e, h2, h3, h4⟩ := h
  obtain ⟨rfl, rfl, rfl⟩ := Value.slice.inj e
  refine ⟨_, _, rfl, h2, h3, fun i hi => ?_⟩
  obtain ⟨b, o, rfl, r⟩ := h4 i hi
  exact ⟨b, o, rfl, hg.cell r.1 (show some b ≠ row from hne ⟨b, o, none⟩ rfl), r.2⟩
/-- one element: a slice with these words, not in the row's own block -/
def ElemS (w : World) (own : Option Nat) (x : Value) (L : List ByteArray) : Prop := ∃ sa sc, x = .slice sa L.length sc ∧ StrsAt w (.slice sa L.length sc) L ∧ ∀ ad, sa = some ad → ad.block < w.heap.size ∧ some ad.block ≠ own
/-- a row of fills of the call's own -/
def RowF (base : Nat) (fl : List (List ByteArray)) (u : Value) (w : World) : Prop :=
  ∃ vs : List Value, w.ownsRow base 48 1 u fl.length vs ∧ ∀ (i : Nat) (x : Value) (L : List ByteArray), vs[i]? = some x → fl[i]? = some L → ElemS w u.ownBlock x L
theorem ElemS.ext {w w' : World} {own : Option Nat} {x : Value} {L : List ByteArray} (h : ElemS w own x L) (hx : Ext w w') : ElemS w' own x L := by
  obtain ⟨sa, sc, rfl, h3, h4⟩ := h
  exact ⟨sa, sc, rfl, h3.ext hx, fun ad e => ⟨Nat.lt_of_lt_of_le (h4 ad e).1 hx.size, (h4 ad e).2⟩⟩
theorem RowF.ext {base : Nat} {fl : List (List ByteArray)} {u : Value} {w w' : World} (h : RowF base fl u w) (hx : Ext w w') : RowF base fl u w' := by
  obtain ⟨vs, h1, h2⟩ := h
  exact ⟨vs, Ext.owns h1 hx, fun i x L hi hL => (h2 i x L hi hL).ext hx⟩
theorem RowF.at_ {base : Nat} {fl : List (List ByteArray)} {u : Value} {w : World} (h : RowF base fl u w) : FillsAt w u fl := by
  obtain ⟨vs, h1, h2⟩ := h
  have hlen : vs.length = fl.length := by have := h1.1; omega
  have hcells := fun g hg => h1.cells (g := g) hg
  rcases h1.2 with ⟨rfl, hn⟩ | ⟨g, cap, cur, rfl, hb, hg, hnc, hcm, hcs, htake⟩
  · have : fl = [] := List.eq_nil_of_length_eq_zero hn
    subst this; exact SliceAt.nil
  · refine ⟨_, _, rfl, hnc, by simpa [maxLen] using hcm, fun i hi => ⟨g, 0, rfl, ?_⟩⟩
    have hv : vs[i]? = some vs[i] := List.getElem?_eq_getElem (by omega)
    obtain ⟨sa, sc, e, h3, -⟩ := h2 i vs[i] fl[i] hv (List.getElem?_eq_getElem hi)
    have := hcells g rfl i vs[i] hv
    have ea : (⟨g, 0, none⟩ : Addr).add i = ⟨g, 0 + i * 1, none⟩ := by unfold Addr.add; split <;> simp_all
    rw [ea, e] at this
    exact ⟨_, this, h3⟩
theorem rowF_push {w wA w' : World} {base : Nat} {v v' x : Value} {LL : List (List ByteArray)} {L : List ByteArray} {vs : List Value} (h1 : w.ownsRow base 48 1 v LL.length vs) (h2 : ∀ (i : Nat) (x : Value) (L : List ByteArray), vs[i]? = some x → LL[i]? = some L → ElemS w v.ownBlock x L) (hx : Ext w wA) {t : TypeId}
    (hv : ∃ sa sc, x = .slice sa L.length sc ∧ StrsAt wA x L ∧ ∀ ad, sa = some ad → w.heap.size ≤ ad.block ∧ ad.block < wA.heap.size)
    (hown : w'.ownsRow base 48 1 v' (LL.length + 1) (vs ++ [x])) (hg : (wA.alloc (.cells #[x] t)).grownBy w' v.ownBlock) (hb : v'.ownBlock = v.ownBlock ∨ v'.ownBlock = some (wA.heap.size + 1)) :
    RowF base (LL ++ [L]) v' w' := by
  have hlt := fun k hk => h1.lt k hk
  have hlen : vs.length = LL.length := by have := h1.1; omega
  have hg0 : wA.grownBy (wA.alloc (.cells #[x] t)) v.ownBlock := World.grownBy_alloc _ _ _
  have hsz : (wA.alloc (.cells #[x] t)).heap.size = wA.heap.size + 1 := by simp
  have hsz2 := hg.size
  have keep : ∀ (sa : Option Addr) (n sc : Nat) (l : List ByteArray), StrsAt wA (.slice sa n sc) l → (∀ ad, sa = some ad → ad.block < wA.heap.size ∧ some ad.block ≠ v.ownBlock) → StrsAt w' (.slice sa n sc) l ∧ ∀ ad, sa = some ad → ad.block < w'.heap.size ∧ some ad.block ≠ v'.ownBlock := fun sa n sc l hi hne => by
    refine ⟨(hi.grownBy hg0 fun ad e => (hne ad e).2).grownBy hg fun ad e => (hne ad e).2, fun ad e => ⟨by have := (hne ad e).1; omega, ?_⟩⟩
    rcases hb with hb | hb
    · rw [hb]; exact (hne ad e).2
    · rw [hb]; intro e2; have := (hne ad e).1; have := Option.some.inj e2; omega
  refine ⟨vs ++ [x], by rw [List.length_append]; exact hown, fun i y M hi hM => ?_⟩
  rcases Nat.lt_or_ge i vs.length with h3 | h3
  · rw [List.getElem?_append_left h3] at hi
    rw [List.getElem?_append_left (by omega)] at hM
    obtain ⟨sa, sc, rfl, h4, h5⟩ := (h2 i y M hi hM).ext hx
    obtain ⟨k1, k2⟩ := keep sa _ sc _ h4 h5
    exact ⟨sa, sc, rfl, k1, k2⟩
  · rw [List.getElem?_append_right h3] at hi
    rw [List.getElem?_append_right (by omega)] at hM
    have hi0 : i - vs.length = 0 := by
      rcases Nat.eq_zero_or_pos (i - vs.length) with h6 | h6
      · exact h6
      · rw [List.getElem?_eq_none (by simp; omega)] at hi; cases hi
    rw [hi0] at hi
    rw [show i - LL.length = 0 from by omega] at hM
    obtain rfl : x = y := by simpa using hi
    obtain rfl : L = M := by simpa using hM
    obtain ⟨sa, sc, rfl, h4, h5⟩ := hv
    obtain ⟨k1, k2⟩ := keep sa _ sc _ h4 fun ad e => ⟨(h5 ad e).2, fun e2 => by have := (hlt ad.block e2.symm).2; have := (h5 ad e).1; omega⟩
    exact ⟨sa, sc, rfl, k1, k2⟩
set_option maxRecDepth 100000 in
set_option maxHeartbeats 2000000 in
theorem fills_any (fv lv : Value) (f : Form) (l : List ByteArray) (c : Nat → Int) (hV : ValidForm f) (h15 : l.length ≤ 15) (hC : FitsC f.parts c l) (w : World) (hf : FormV w fv f) (hl : StrsAt w lv l) :
    Calls Tryz.prog 80 #[fv, lv, countsV c] w fun e w' => ∃ u, e = .returned u ∧ FillsAt w' u (fillsM f.parts c l) ∧ Ext w w' := by
  obtain ⟨pv, rfl, hns, hp⟩ := hf
  obtain ⟨a, cap, rfl, hlc, hcm⟩ := hp.shape
  obtain ⟨i0, hi, hz0, hz1, hz2⟩ := info_parts infoStrs
  have h5 := hV.n
  unfold countsV
  obtain ⟨W1, hW1⟩ : ∃ W1, W1 = (w.alloc (.cells #[.string f.name, .slice a f.parts.length cap] 106)).alloc (.cells #[.int .i64 (c 0), .int .i64 (c 1), .int .i64 (c 2), .int .i64 (c 3), .int .i64 (c 4)] 146) := ⟨_, rfl⟩
  have xW : Ext w W1 := by rw [hW1]; exact (ext_alloc _ _).alloc _
  have hcc : CellsC W1 (w.heap.size + 1) c := by
    rw [hW1]; exact cells_five (by simp [go_sem]) (by simp [go_sem]) (by simp [go_sem]) (by simp [go_sem]) (by simp [go_sem])
  have HW := Lib.hid hW1
  clear hW1
  go_enter Tryz.func80, Tryz.ntmps80
  go_wp2_with fail
  rw [← HW.out]
  go_loopw [1, 7, 15] (fun lw v i wr => ∃ k : Nat, k ≤ f.parts.length ∧ i = .int .i64 k ∧ Ext W1 wr ∧ RowF W1.heap.size (fillsTo f.parts c l k).1 v wr ∧ StrsAt w lw (fillsTo f.parts c l k).2) (fun _ _ i _ => f.parts.length - (intOf i).toNat)
  case atStart => exact ⟨0, Nat.zero_le _, rfl, Ext.refl _, ⟨[], World.ownsRow_nil _ _ _ _, fun i x L h => by simp at h⟩, hl⟩
  case round =>
    obtain ⟨k, hk, rfl, hxr, hown, hlw⟩ := hrel
    have hxw := xW.trans hxr
    by_cases hlt : k < f.parts.length
    · have k1 : (k : Int) < (f.parts.length : Int) := by omega
      obtain ⟨b, o, rfl, ⟨u, h1, hs⟩, h2, h3, hlo, hhi⟩ := (hp.ext hxw).get hlt
      have hck := hxr.cell (hcc k (by omega))
      have hck0 := hcc k (by omega)
      have zck := cell_lt hck
      obtain ⟨hc0, hcl⟩ := hC k hlt
      have hst : fillsTo f.parts c l (k + 1) = (if roomyM f.parts[k] then (fillsTo f.parts c l k).1 ++ [(fillsTo f.parts c l k).2.take (c k).toNat] else (fillsTo f.parts c l k).1, (fillsTo f.parts c l k).2.drop (c k).toNat) := by
        rw [fillsTo, List.getD_eq_getElem?_getD, List.getElem?_eq_getElem hlt]; rfl
      have hfl := fillsTo_len f.parts c l k
      obtain ⟨n, hn⟩ : ∃ n : Nat, c k = n := ⟨(c k).toNat, by omega⟩
      rw [hn] at hck hst hcl hck0
      have Hck0 := Lib.hid hck0
      clear hck0
      rw [Int.toNat_natCast] at hst hcl
      have hle : (fillsTo f.parts c l k).2.length ≤ 15 := Nat.le_trans (fillsTo_left f.parts c l k) h15
      generalize f.parts[k] = y at *
      obtain ⟨ua, uc, rfl, -⟩ := hs.shape
      generalize fillsTo f.parts c l k = st at *
      obtain ⟨fs, left⟩ := st
      simp only at hst hfl hcl hle hown hlw
      obtain ⟨la, lcap, rfl, hllc, hlcm⟩ := hlw.shape
      have Hst := Lib.hid hst
      have Hown := Lib.hid hown
      have Hlw := Lib.hid hlw
      have nl : (n : Int) ≤ (left.length : Int) := by omega
      have hszr := hxr.size
      clear hst hown hlw hC
      go_wp2_with fail
      refine (isRoom_any ua _ uc y.lo y.hi _).mono ?_
      rintro e w1 ⟨rfl, hx1⟩
      have x1 : Ext wr w1 := Ext.trans (by first | (with_reducible exact Ext.refl _) | (with_reducible assumption) | (show Below _ _ _; go_grown; done)) hx1
      replace hck := x1.cell hck
      have zck := cell_lt hck
      have hsl := Hlw.out.sliced n hcl
      have Hsl := Lib.hid hsl
      clear hx1 hsl h1 h2 h3
      cases hro : roomyM y
      · have e0 : ((y.words.length : Int) == 0) = false := by
          unfold roomyM at hro
          simp at hro ⊢
          exact hro
        rw [e0]
        have hs2 := Hst.out
        rw [hro] at hs2
        have Hs2 := Lib.hid hs2
        clear e0 hro hs2
        go_wp2
        go_roundw
        case rel => exact ⟨k + 1, by omega, by go_num, hxr.trans x1, by rw [Hs2.out]; exact Hown.out.ext x1, by rw [Hs2.out]; simpa using Hsl.out⟩
        case measure => simp [intOf]; omega
      · have e0 : ((y.words.length : Int) == 0) = true := by
          unfold roomyM at hro
          simp at hro ⊢
          exact hro
        rw [e0]
        have hs2 := Hst.out
        rw [hro] at hs2
        have Hs2 := Lib.hid hs2
        clear e0 hro hs2
        obtain ⟨w2, w3, hmk, hcp, x2, x3, hfill, hlt3⟩ := make_strs w1 n (by omega) _ left (Hlw.out.ext (hxw.trans x1)) hcl
        have Hfill := Lib.hid hfill
        replace hck2 := x2.cell hck
        have hck3 := x3.cell hck
        have zck2 := cell_lt hck2
        have zck3 := cell_lt hck3
        obtain ⟨vals, hv2, hv3⟩ := Hown.out
        have hvn : vals.length = fs.length := by have := hv2.1; omega
        have hx3 := x1.trans x3
        have own3 := Ext.owns hv2 hx3
        have Own3 := Lib.hid own3
        have Hv2 := Lib.hid hv2
        have Hv3 := Lib.hid hv3
        have hsz3 := hx3.size
        have hsz1 := x1.size
        have hsz13 := x3.size
        have hszW := xW.size
        have Hlt3 := Lib.hid hlt3
        clear own3 hv2 hv3 hfill Hown hlt3
        go_wp2_with (at_builtin; go_loud (refine wpList_append_own_at _ rfl _ _ 40 rfl W1.heap.size 48 i0 (.slice none 0 0) 1 24 Tryz.underlying40 hi hz0 hz1 hz2 rfl (by decide) u7 fs.length vals rfl (World.ownsRow.alloc Own3.out _) ⟨w3.heap.size, 0, none⟩ 1 1 [.slice (some ⟨w1.heap.size, 0, none⟩) n n] rfl rfl (cell_one_at (by simp [go_sem])) (by simp [Value.oneCell']) (by unfold maxLen; omega) (by omega) (by simp; omega) ?_; intro v' w4 hown' hgrow _ hblk; have hx4 : Ext W1 w4 := Ext.grown ((hxr.trans hx3).alloc _) hgrow fun k hk => (Own3.out.lt k hk).1; have hck4 := hx4.cell Hck0.out; have zck4 := cell_lt hck4))
        have hrow := rowF_push (L := left.take n) Hv2.out Hv3.out hx3 ⟨some ⟨w1.heap.size, 0, none⟩, n, by rw [List.length_take, Nat.min_eq_left hcl], Hfill.out, fun ad e => by
          obtain rfl := Option.some.inj e
          have := Hlt3.out
          exact ⟨by simp; omega, by simpa using this⟩⟩ hown' hgrow (by simpa using hblk)
        go_roundw
        case rel => exact ⟨k + 1, by omega, by go_num, hx4, by rw [Hs2.out]; exact hrow, by rw [Hs2.out]; simpa using Hsl.out⟩
        case measure => simp [intOf]; omega
    · have hke : k = f.parts.length := by omega
      subst hke
      have hF := hown.at_
      obtain ⟨va, vc, rfl, -⟩ := hF.shape
      go_wp2
      go_ret
      exact ⟨_, rfl, hF, hxw⟩
end Go.Proofs.YtnfbhicoknpojaaGreat

namespace Go.Proofs.YtnfbhicoknpojaaGreat
set_option linter.unusedSimpArgs false
set_option linter.unusedVariables false
set_option linter.unusedVariables false

def bytesL (s : ByteArray) : List UInt8 := s.data.toList
theorem bytesL_len (s : ByteArray) : (bytesL s).length = s.size := rfl
/-- the text, how wide its last line is, and whether there is a word -/
abbrev TextSt := List UInt8 × Nat × Bool
def lineStep (width : Int) (st : TextSt) (x : ByteArray) : TextSt :=
  if st.2.2 = false then (bytesL x, x.size, true)
  else if (st.2.1 : Int) + 1 + x.size ≤ width then (st.1 ++ [32] ++ bytesL x, st.2.1 + 1 + x.size, true)
  else (st.1 ++ [10] ++ bytesL x, x.size, true)
def textSt (width : Int) (l : List ByteArray) : TextSt := l.foldl (lineStep width) ([], 0, false)
def textM (width : Int) (l : List ByteArray) : List UInt8 := if l.length = 0 then [] else (textSt width l).1 ++ [10]
theorem textSt_nil (width : Int) : textSt width [] = ([], 0, false) := rfl
theorem textSt_snoc (width : Int) (l : List ByteArray) (x : ByteArray) : textSt width (l ++ [x]) = lineStep width (textSt width l) x := by simp [textSt]
theorem textSt_some (width : Int) (l : List ByteArray) : (textSt width l).2.2 = decide (l ≠ []) := by
  refine snoc_ind (p := fun l => (textSt width l).2.2 = decide (l ≠ [])) rfl (fun l x ih => ?_) l
  rw [textSt_snoc]
  unfold lineStep
  split
  · simp
  · split <;> simp
theorem textSt_step (width : Int) (l : List ByteArray) (k : Nat) (h : k < l.length) : textSt width (l.take (k + 1)) = lineStep width (textSt width (l.take k)) l[k] := by
  rw [List.take_succ_eq_append_getElem h, textSt_snoc]
/-- no text is longer than its words and one byte for each -/
theorem textSt_len (width : Int) (l : List ByteArray) (N : Nat) (h : ∀ s ∈ l, s.size ≤ N) : (textSt width l).1.length ≤ l.length * (N + 1) ∧ (textSt width l).2.1 ≤ l.length * (N + 1) := by
  revert h
  refine snoc_ind (p := fun l => (∀ s ∈ l, s.size ≤ N) → (textSt width l).1.length ≤ l.length * (N + 1) ∧ (textSt width l).2.1 ≤ l.length * (N + 1)) (by simp [textSt_nil]) (fun l x ih h => ?_) l
  obtain ⟨i1, i2⟩ := ih fun s hs => h s (List.mem_append_left _ hs)
  have hx := h x (by simp)
  have hb := bytesL_len x
  rw [textSt_snoc, List.length_append, List.length_singleton, Nat.succ_mul]
  unfold lineStep
  split
  · simp only; omega
  · split <;> simp only [List.length_append, List.length_singleton] <;> omega
/-- whether a rune stands between words -/
def betweenP (r : Nat) : Bool := r == 32 || r == 10
/-- the words of a text -/
def fieldsM (s : ByteArray) : List ByteArray := Lib.goFieldsP betweenP s
end Go.Proofs.YtnfbhicoknpojaaGreat

namespace Go.Proofs.YtnfbhicoknpojaaGreat
set_option linter.unusedSimpArgs false
set_option linter.unusedVariables false
open Go.RowKit
set_option linter.unusedVariables false

/-- a builder of the call's own, in block b, with these bytes -/
def Bld (w : World) (b : Nat) (l : List UInt8) : Prop := Lib.IsBuilder 177 5 b b (Lib.byteCells l) w
theorem infoU8 : (Tryz.prog.info? 5).map (fun i => (i.zero, i.size, i.bytes)) = some (some (.int .u8 0), 1, 1) := by kernel_rfl
set_option maxRecDepth 100000 in
theorem copyCheck_any (b : Nat) (bs : List Value) (w : World) (h : Lib.IsBuilder 177 5 b b bs w) :
    Calls Tryz.prog 119 #[.pointer (some ⟨b, 0, none⟩)] w fun e w' => e = .returned (.tuple #[]) ∧ Lib.BuilderAt 177 5 b b (.pointer (some ⟨b, 0, none⟩)) bs w' ∧ Below b w w' := by
  obtain ⟨j, hj, hjs⟩ := Option.map_eq_some_iff.1 (show (Tryz.prog.info? 177).map (·.size) = some 2 by kernel_rfl)
  rcases h with h | h
  · have h0 := h.cell0
    have hsh := h.shape
    have hfz := h.frozen0
    go_enter Tryz.func119, Tryz.ntmps119
    go_wp2
    rw [Lib.run_to_unsafe w ⟨b, 0, none⟩ Tryz.underlying175 Tryz.underlying239 hj (by rw [hjs]; decide) hsh (Nat.zero_lt_succ 1)]
    simp only [Result.andThen]
    rw [Oper.upon_value]
    go_wp2
    rw [run_callFunc_extern Tryz.func149 (by kernel_rfl) (by kernel_rfl) (by kernel_rfl) (e := Extern.AbiNoEscape.same) (by kernel_rfl)]
    rw [Lib.run_noEscape]
    simp only [Result.andThen]
    rw [Oper.upon_value]
    go_wp2
    rw [Lib.run_from_unsafe w ⟨b, 0, none⟩ Tryz.underlying239 Tryz.underlying175 hj hsh (by kernel_rfl)]
    simp only [Result.andThen]
    rw [Oper.upon_value]
    go_wp2
    go_end0
    exact ⟨rfl, h.used _, (Below.refl _ _).setCell (p := ⟨b, 0, none⟩) (Nat.le_refl _) _⟩
  · have h0 := h.cell0
    go_enter Tryz.func119, Tryz.ntmps119
    go_wp2
    rw [Lib.run_neq_ptr_same w _ Tryz.underlying175 hj]
    go_wp2
    go_end0
    exact ⟨rfl, h, Below.refl _ _⟩
set_option maxRecDepth 100000 in
set_option maxHeartbeats 1000000 in
theorem writeByte_any (b : Nat) (l : List UInt8) (c : UInt8) (w : World) (h : Bld w b l) (hn : l.length ≤ 100000) (hb : b < w.heap.size) :
    Calls Tryz.prog 95 #[.pointer (some ⟨b, 0, none⟩), .int .u8 (c.toNat : Int)] w fun e w' => e = .returned .nilIface ∧ Bld w' b (l ++ [c]) ∧ Below b w w' := by
  obtain ⟨i0, hi, hz0, hz1, hz2⟩ := info_parts infoU8
  have hcc := copyCheck_any b _ w h
  go_enter Tryz.func95, Tryz.ntmps95
  go_wp2_with fail
  refine hcc.mono ?_
  rintro e w1 ⟨rfl, h1, hb1⟩
  obtain ⟨hB, v, hbk, hown, hne⟩ := h1
  have hsz := hb1.size
  have hlen := Lib.byteCells_length l
  have c0 : w1.cell? ⟨b, 0, none⟩ = some (.pointer (some ⟨b, 0, none⟩)) := by rw [Lib.cell_of_heap hbk]; rfl
  have c1 : w1.cell? ⟨b, 1, none⟩ = some v := by rw [Lib.cell_of_heap hbk]; rfl
  have zb : b < w1.heap.size := cell_lt c0
  go_wp2_with (at_builtin; go_loud (refine wpList_append_own_at _ rfl _ _ 26 rfl b 5 i0 (.int .u8 0) 1 1 Tryz.underlying26 hi hz0 hz1 hz2 rfl (by decide) v (Lib.byteCells l).length (Lib.byteCells l) rfl (World.ownsRow.alloc hown _) ⟨w1.heap.size, 0, none⟩ 1 1 [.int .u8 c.toNat] rfl rfl (cell_one_at (by simp [go_sem])) (by simp [Value.oneCell']) (by unfold maxLen; omega) (by omega) (by simp; omega) ?_; intro v' w2 hown' hgrow _ hblk; obtain ⟨g', cap', rfl⟩ := ownsRow_succ hown'; have hb2 : w2.heap[b]? = some (.cells #[.pointer (some ⟨b, 0, none⟩), v] 177 (0, 0)) := (by rw [hgrow.block b (by simp; omega) (fun e => hne e.symm), Lib.alloc_old w1 _ b zb]; exact hbk); have d0 : w2.cell? ⟨b, 0, none⟩ = some (.pointer (some ⟨b, 0, none⟩)) := (by rw [Lib.cell_of_heap hb2]; rfl); have d1 : w2.cell? ⟨b, 1, none⟩ = some v := (by rw [Lib.cell_of_heap hb2]; rfl); have f1 : w2.frozen? ⟨b, 1, none⟩ = false := Lib.frozen_of_heap hb2 1; have zb2 := cell_lt d0))
  go_ret
  refine ⟨rfl, .inr ?_, ?_⟩
  · have := Lib.BuilderAt.put (T := 177) (e := 5) hB hb2 (bs' := Lib.byteCells l ++ [.int .u8 c.toNat]) (by simpa using hown') (by decide)
    rw [Lib.byteCells_append]
    rw [hlen] at this
    exact this
  · exact ((hb1.alloc (by omega) _).grown hgrow (by simp; omega) (fun k hk => (hown.lt k hk).1)).setCell (p := ⟨b, 1, none⟩) hB _
set_option maxRecDepth 100000 in
set_option maxHeartbeats 1000000 in
theorem writeString_any (b : Nat) (l : List UInt8) (s : ByteArray) (w : World) (h : Bld w b l) (hn : l.length ≤ 100000) (hs : s.size ≤ 100000) (hb : b < w.heap.size) :
    Calls Tryz.prog 96 #[.pointer (some ⟨b, 0, none⟩), .string s] w fun e w' => e = .returned (.tuple #[.int .i64 s.size, .nilIface]) ∧ Bld w' b (l ++ bytesL s) ∧ Below b w w' := by
  obtain ⟨i0, hi, hz0, hz1, hz2⟩ := info_parts infoU8
  have hcc := copyCheck_any b _ w h
  go_enter Tryz.func96, Tryz.ntmps96
  go_wp2_with fail
  refine hcc.mono ?_
  rintro e w1 ⟨rfl, h1, hb1⟩
  obtain ⟨hB, v, hbk, hown, hne⟩ := h1
  have hsz := hb1.size
  have hlen := Lib.byteCells_length l
  have c0 : w1.cell? ⟨b, 0, none⟩ = some (.pointer (some ⟨b, 0, none⟩)) := by rw [Lib.cell_of_heap hbk]; rfl
  have c1 : w1.cell? ⟨b, 1, none⟩ = some v := by rw [Lib.cell_of_heap hbk]; rfl
  have zb : b < w1.heap.size := cell_lt c0
  go_wp2_with (at_builtin; go_loud (refine Lib.wpList_append_own_string _ rfl _ _ 26 9 rfl b 5 i0 Tryz.underlying26 Tryz.underlying9 hi hz0 hz1 hz2 v (Lib.byteCells l).length (Lib.byteCells l) rfl hown s rfl (by unfold maxLen; omega) (by omega) (by omega) ?_; intro v' w2 hown' hgrow _; obtain ⟨ao, n', cap', rfl⟩ : ∃ ao n' cap', v' = .slice ao n' cap' := (by rcases hown'.2 with ⟨hv, _⟩ | ⟨g, cap, cur, hv, _⟩; exact ⟨_, _, _, hv⟩; exact ⟨_, _, _, hv⟩); have hb2 : w2.heap[b]? = some (.cells #[.pointer (some ⟨b, 0, none⟩), v] 177 (0, 0)) := (by rw [hgrow.block b (by omega) (fun e => hne e.symm)]; exact hbk); have d0 : w2.cell? ⟨b, 0, none⟩ = some (.pointer (some ⟨b, 0, none⟩)) := (by rw [Lib.cell_of_heap hb2]; rfl); have d1 : w2.cell? ⟨b, 1, none⟩ = some v := (by rw [Lib.cell_of_heap hb2]; rfl); have f1 : w2.frozen? ⟨b, 1, none⟩ = false := Lib.frozen_of_heap hb2 1; have zb2 := cell_lt d0))
  go_ret2
  refine ⟨rfl, .inr ?_, ?_⟩
  · have := Lib.BuilderAt.put (T := 177) (e := 5) hB hb2 (bs' := Lib.byteCells l ++ Lib.strCells s) (by simpa [Lib.strCells_length] using hown') (by decide)
    rw [Lib.byteCells_append]
    exact this
  · exact (hb1.grown hgrow (by omega) (fun k hk => (hown.lt k hk).1)).setCell (p := ⟨b, 1, none⟩) hB _
theorem Bld.below {w w' : World} {b : Nat} {l : List UInt8} (h : Bld w b l) : b < w.heap.size := by
  rcases h with h | h
  · exact cell_lt h.cell0
  · exact cell_lt h.cell0
set_option maxRecDepth 100000 in
set_option maxHeartbeats 2000000 in
theorem textOf_any (v : Value) (l : List ByteArray) (width : Int) (hw : -1000 ≤ width ∧ width ≤ 1000) (hn : l.length ≤ 100) (hs : ∀ s ∈ l, s.size ≤ 100) (w : World) (hl : StrsAt w v l) :
    Calls Tryz.prog 52 #[v, .int .i64 width] w fun e w' => e = .returned (.string ⟨(textM width l).toArray⟩) ∧ Ext w w' := by
  obtain ⟨a, cap, rfl, hlc, hcm⟩ := hl.shape
  have Hs := Lib.hid hs
  clear hs
  go_enter Tryz.func52, Tryz.ntmps52
  go_wp2_with fail
  go_loopw [6, 11] (fun ln i wr => ∃ k : Nat, k ≤ l.length ∧ i = .int .i64 k ∧ Ext w wr ∧ ln = .int .i64 (textSt width (l.take k)).2.1 ∧ Bld wr w.heap.size (textSt width (l.take k)).1) (fun _ i _ => l.length - (intOf i).toNat)
  case atStart => exact ⟨0, Nat.zero_le _, rfl, ext_alloc _ _, rfl, Lib.fresh_isBuilder _ _ w⟩
  case round =>
    obtain ⟨k, hk, rfl, hxr, rfl, hB⟩ := hrel
    have zb := hB.below (w' := wr)
    by_cases hlt : k < l.length
    · have k1 : (k : Int) < (l.length : Int) := by omega
      obtain ⟨b, o, rfl, h1, -⟩ := (hl.ext hxr).get hlt
      rw [Nat.mul_one] at h1
      have hst := textSt_step width l k hlt
      have hlen := textSt_len width (l.take k) 100 fun s h => Hs.out s (List.mem_of_mem_take h)
      have hsome := textSt_some width (l.take k)
      have hx100 := Hs.out _ (List.getElem_mem hlt)
      have hlk : (l.take k).length = k := by rw [List.length_take]; omega
      rw [hlk] at hlen
      generalize l[k] = x at *
      generalize hts : textSt width (l.take k) = ts at *
      obtain ⟨out, line, sm⟩ := ts
      simp only at hst hlen hsome hB
      have k101 : k * 101 ≤ 10100 := by omega
      have wl1 : IntKind.i64.wrap ((line : Int) + 1) = (line : Int) + 1 := IntWalk.i64_in _ (by omega)
      have wl2 : IntKind.i64.wrap ((line : Int) + 1 + x.size) = (line : Int) + 1 + x.size := IntWalk.i64_in _ (by omega)
      have wl3 : IntKind.i64.wrap ((line : Int) + x.size) = (line : Int) + x.size := IntWalk.i64_in _ (by omega)
      have wl4 : IntKind.i64.wrap ((0 : Int) + x.size) = (x.size : Int) := by rw [Int.zero_add]; exact IntWalk.i64_in _ (by omega)
      have Hst := Lib.hid hst
      have HB := Lib.hid hB
      have Hts := Lib.hid hts
      by_cases h0 : k = 0
      · subst h0
        have hsm : sm = false := by rw [hsome]; simp
        have ho : out = [] ∧ line = 0 := by
          have : textSt width (l.take 0) = ([], 0, false) := rfl
          rw [this] at hts
          cases hts
          exact ⟨rfl, rfl⟩
        obtain ⟨rfl, rfl⟩ := ho
        subst hsm
        have hst2 := Hst.out
        unfold lineStep at hst2
        rw [if_pos rfl] at hst2
        have Hst2 := Lib.hid hst2
        clear hst hts hst2 hsome hB
        rw [Nat.add_zero] at h1
        go_wp2_with fail
        refine (writeString_any _ [] x _ HB.out (by first | (simp; omega) | simp) (by omega) zb).mono ?_
        rintro e w3 ⟨rfl, hB3, hb3⟩
        have x3 : Ext w w3 := Below.trans hxr hb3
        have zb3 := hB3.below (w' := w3)
        go_wp2
        go_roundw
        case rel => exact ⟨1, by omega, by go_num, x3, by rw [Hst2.out] <;> simp, by rw [Hst2.out]; exact hB3⟩
        case measure => simp [intOf]; omega
      · have hsm : sm = true := by
          rw [hsome]; simp; exact ⟨h0, fun h => by rw [h] at hlt; simp at hlt⟩
        subst hsm
        have kk : ((k : Int) == 0) = false := by simpa using h0
        have hst2 := Hst.out
        unfold lineStep at hst2
        rw [if_neg (by simp)] at hst2
        simp only at hst2
        clear hst hts hsome hB
        by_cases hfit : (line : Int) + 1 + x.size ≤ width
        · rw [if_pos hfit] at hst2
          have Hst2 := Lib.hid hst2
          clear hst2
          have hwb := writeByte_any w.heap.size out 32 wr HB.out (by omega) zb
          rw [show (((32 : UInt8).toNat : Nat) : Int) = 32 from rfl] at hwb
          go_wp2_with fail
          refine hwb.mono ?_
          rintro e w2 ⟨rfl, hB2, hb2⟩
          have x2 : Ext w w2 := Below.trans hxr hb2
          have zb2 := hB2.below (w' := w2)
          clear hwb
          go_wp2_with fail
          refine (writeString_any _ (out ++ [32]) x _ hB2 (by first | (simp; omega) | simp) (by omega) zb2).mono ?_
          rintro e w3 ⟨rfl, hB3, hb3⟩
          have x3 : Ext w w3 := Below.trans x2 hb3
          have zb3 := hB3.below (w' := w3)
          go_wp2
          go_roundw
          case rel => exact ⟨k + 1, by omega, by go_num, x3, by rw [Hst2.out] <;> simp, by rw [Hst2.out]; exact hB3⟩
          case measure => simp [intOf]; omega
        · rw [if_neg hfit] at hst2
          have Hst2 := Lib.hid hst2
          clear hst2
          have hwb := writeByte_any w.heap.size out 10 wr HB.out (by omega) zb
          rw [show (((10 : UInt8).toNat : Nat) : Int) = 10 from rfl] at hwb
          go_wp2_with fail
          refine hwb.mono ?_
          rintro e w2 ⟨rfl, hB2, hb2⟩
          have x2 : Ext w w2 := Below.trans hxr hb2
          have zb2 := hB2.below (w' := w2)
          clear hwb
          go_wp2_with fail
          refine (writeString_any _ (out ++ [10]) x _ hB2 (by first | (simp; omega) | simp) (by omega) zb2).mono ?_
          rintro e w3 ⟨rfl, hB3, hb3⟩
          have x3 : Ext w w3 := Below.trans x2 hb3
          have zb3 := hB3.below (w' := w3)
          go_wp2
          go_roundw
          case rel => exact ⟨k + 1, by omega, by go_num, x3, by rw [Hst2.out] <;> simp, by rw [Hst2.out]; exact hB3⟩
          case measure => simp [intOf]; omega
    · have hke : k = l.length := by omega
      subst hke
      rw [List.take_length] at hB
      have hlen := textSt_len width l 100 Hs.out
      by_cases h0 : l.length = 0
      · have k0 : ¬ (0 : Int) < (l.length : Int) := by omega
        have hl0 : l = [] := List.eq_nil_of_length_eq_zero h0
        have htx : textM width l = [] := by rw [textM, if_pos h0]
        have hst0 : (textSt width l).1 = [] := by rw [hl0]; rfl
        rw [hst0] at hB
        have hstr := Tryz.Builder_String_any w.heap.size w.heap.size [] wr hB (by omega)
        have Htx := Lib.hid htx
        clear htx hst0 h0 hl0
        go_wp2_with fail
        refine hstr.mono ?_
        rintro e w2 ⟨rfl, hb2⟩
        go_wp2
        go_ret
        exact ⟨by rw [Htx.out] <;> rfl, Below.trans hxr hb2⟩
      · have k0 : (0 : Int) < (l.length : Int) := by omega
        have htx : textM width l = (textSt width l).1 ++ [10] := by rw [textM, if_neg h0]
        have Htx := Lib.hid htx
        clear htx h0
        have hwb := writeByte_any w.heap.size (textSt width l).1 10 wr hB (by omega) zb
        rw [show (((10 : UInt8).toNat : Nat) : Int) = 10 from rfl] at hwb
        go_wp2_with fail
        refine hwb.mono ?_
        rintro e w2 ⟨rfl, hB2, hb2⟩
        have zb2 := hB2.below (w' := w2)
        have hstr := Tryz.Builder_String_any w.heap.size w.heap.size _ w2 hB2 (by omega)
        go_wp2_with fail
        refine hstr.mono ?_
        rintro e w3 ⟨rfl, hb3⟩
        go_wp2
        go_ret
        exact ⟨by rw [Htx.out] <;> rfl, Below.trans hxr (Below.trans hb2 hb3)⟩
end Go.Proofs.YtnfbhicoknpojaaGreat

namespace Go.Proofs.YtnfbhicoknpojaaGreat
set_option linter.unusedSimpArgs false
set_option linter.unusedVariables false
open Go.RowKit
set_option linter.unusedVariables false

theorem lettErr_ok {l : List ByteArray} (h : letterErrL l = 0) : l.length ≤ 15 ∧ ∀ s ∈ l, wordM s = true := by
  unfold letterErrL at h
  split at h
  · cases h
  rename_i h1
  split at h
  · cases h
  rename_i h2
  refine ⟨by omega, ?_⟩
  have h3 : wordsM l = true := by simpa using h2
  unfold wordsM at h3
  rw [List.all_eq_true] at h3
  exact h3
theorem word_size {s : ByteArray} (h : wordM s = true) : 1 ≤ s.size ∧ s.size ≤ 8 := by
  unfold wordM at h
  rw [Bool.and_eq_true] at h
  have := inM_true (by rw [h.1]; decide)
  omega
theorem shelfErr_ok {s : Shelf} {l : List ByteArray} (h : shelfErrM s l = 0) : ValidShelf s ∧ letterErrL l = 0 := by
  unfold shelfErrM at h
  split at h
  · rename_i h1; exact absurd h h1
  · rename_i h1; exact ⟨errS_ok (by simpa using h1), h⟩
def writeM (s : Shelf) (l : List ByteArray) : ByteArray := if shelfErrM s l = 0 then ⟨(textM s.width l).toArray⟩ else ⟨#[]⟩
set_option maxRecDepth 100000 in
set_option maxHeartbeats 1000000 in
theorem write_any (sv lv : Value) (s : Shelf) (l : List ByteArray) (w : World) (hs : ShelfAt w sv s) (hl : StrsAt w lv l) :
    Calls Tryz.prog 13 #[sv, lv] w fun e w' => e = .returned (.tuple #[.string (writeM s l), .int .i64 (shelfErrM s l)]) ∧ Ext w w' := by
  have hs0 := hs
  obtain ⟨a, c, rfl, hw, hc1, hc2, hf⟩ := hs.open
  obtain ⟨la, lc, rfl, -⟩ := hl.shape
  go_enter Tryz.func13, Tryz.ntmps13
  go_wp2_with fail
  refine (shelfError_any _ _ s l _ (hs0.ext (by first | (with_reducible exact Ext.refl _) | (with_reducible assumption) | (show Below _ _ _; go_grown; done))) (hl.ext (by first | (with_reducible exact Ext.refl _) | (with_reducible assumption) | (show Below _ _ _; go_grown; done)))).mono ?_
  rintro e w1 ⟨rfl, hx1⟩
  have x1 : Ext w w1 := Ext.trans (by first | (with_reducible exact Ext.refl _) | (with_reducible assumption) | (show Below _ _ _; go_grown; done)) hx1
  have q0 : w1.cell? ⟨w.heap.size, 0, none⟩ = some (.int .i64 s.width) := hx1.cell (by simp [go_sem])
  have zq : w.heap.size < w1.heap.size := cell_lt q0
  clear hx1
  obtain ⟨er, herr⟩ : ∃ er, shelfErrM s l = er := ⟨_, rfl⟩
  rw [herr]
  have Herr := Lib.hid herr
  by_cases h0 : er = 0
  · subst h0
    obtain ⟨hV, hL⟩ := shelfErr_ok herr
    obtain ⟨h15, hwd⟩ := lettErr_ok hL
    have hws := hV.w
    have htx := textOf_any (.slice la l.length lc) l s.width (by omega) (by omega) (fun s hs => by have := word_size (hwd s hs); omega) w1 (hl.ext x1)
    have hwr : writeM s l = ⟨(textM s.width l).toArray⟩ := by rw [writeM, if_pos herr]
    have Hwr := Lib.hid hwr
    clear herr hV hL hwd hwr
    go_wp2_with fail
    refine htx.mono ?_
    rintro e w2 ⟨rfl, hx2⟩
    go_wp2
    go_ret2
    exact ⟨by rw [Hwr.out, Herr.out]; rfl, x1.trans hx2⟩
  · have h0' : (er != 0) = true := by simpa using h0
    have hwr : writeM s l = ⟨#[]⟩ := by rw [writeM, if_neg (by rw [herr]; exact h0)]
    have Hwr := Lib.hid hwr
    clear h0 hwr herr
    go_wp2_with fail
    go_ret2
    exact ⟨by rw [Hwr.out, Herr.out]; rfl, x1⟩
theorem between_any (r : Nat) (w : World) : Calls Tryz.prog 54 #[.int .i32 (r : Int)] w fun e w' => e = .returned (.bool (betweenP r)) ∧ Ext w w' := by
  unfold betweenP
  by_cases h1 : r = 32
  · have e1 : ((r : Int) == 32) = true := by simp [h1]
    have hr : (r == 32 || r == 10) = true := by simp [h1]
    rw [hr]
    clear h1 hr
    go_enter Tryz.func54, Tryz.ntmps54
    go_wp2
    go_ret
    exact ⟨rfl, (by first | (with_reducible exact Ext.refl _) | (with_reducible assumption) | (show Below _ _ _; go_grown; done))⟩
  · have e1 : ((r : Int) == 32) = false := by simp; omega
    by_cases h2 : r = 10
    · have e2 : ((r : Int) == 10) = true := by simp [h2]
      have hr : (r == 32 || r == 10) = true := by simp [h2]
      rw [hr]
      clear h1 h2 hr
      go_enter Tryz.func54, Tryz.ntmps54
      go_wp2
      go_ret
      exact ⟨rfl, (by first | (with_reducible exact Ext.refl _) | (with_reducible assumption) | (show Below _ _ _; go_grown; done))⟩
    · have e2 : ((r : Int) == 10) = false := by simp; omega
      have hr : (r == 32 || r == 10) = false := by simp [h1, h2]
      rw [hr]
      clear h1 h2 hr
      go_enter Tryz.func54, Tryz.ntmps54
      go_wp2
      go_ret
      exact ⟨rfl, (by first | (with_reducible exact Ext.refl _) | (with_reducible assumption) | (show Below _ _ _; go_grown; done))⟩
theorem fields_size (s : ByteArray) : ∀ x ∈ fieldsM s, x.size ≤ s.size := by
  intro x hx
  unfold fieldsM Lib.goFieldsP at hx
  obtain ⟨p, -, rfl⟩ := List.mem_map.1 hx
  rw [ByteArray.size_extract]
  omega
theorem fieldsFunc_any (s : ByteArray) (hs : s.size ≤ 4294967296) (w : World) :
    Calls Tryz.prog 53 #[.string s, .func (.func 54) #[] #[]] w fun e w' => ∃ A, e = .returned (.slice (some ⟨A, 0, none⟩) (fieldsM s).length (fieldsM s).length) ∧ StrsAt w' (.slice (some ⟨A, 0, none⟩) (fieldsM s).length (fieldsM s).length) (fieldsM s) ∧ Ext w w' := by
  refine (Tryz.strings_FieldsFunc_grows 54 #[] (enters_of Tryz.func54 (by kernel_rfl) rfl) betweenP s w hs (fun W x _ _ => between_any x W)).mono ?_
  rintro e w' ⟨A, rfl, hA, hown, hb⟩
  refine ⟨A, rfl, ?_, hb⟩
  have hr : RowW w.heap.size (fieldsM s) (.slice (some ⟨A, 0, none⟩) (fieldsM s).length (fieldsM s).length) w' := hown
  exact hr.at_ fun x hx => by have := fields_size s x hx; omega
/-- the letter that a text is of -/
def readM (s : Shelf) (t : ByteArray) : List ByteArray × Int :=
  if shelfErrM s [] ≠ 0 then ([], shelfErrM s []) else if 160 < t.size then ([], 3) else if letterErrL (fieldsM t) ≠ 0 then ([], 6) else if textM s.width (fieldsM t) = bytesL t then (fieldsM t, 0) else ([], 6)
/-- words, if there is no error -/
def WordsE (w : World) (r : List ByteArray × Int) (v : Value) : Prop := ∃ u, v = .tuple #[u, .int .i64 r.2] ∧ StrsAt w u r.1 ∧ (r.2 ≠ 0 → u = .slice none 0 0)
set_option maxRecDepth 100000 in
set_option maxHeartbeats 1000000 in
theorem read_any (sv : Value) (s : Shelf) (t : ByteArray) (ht : t.size ≤ 9223372036854775807) (w : World) (hs : ShelfAt w sv s) :
    Calls Tryz.prog 14 #[sv, .string t] w fun e w' => ∃ u, e = .returned u ∧ WordsE w' (readM s t) u ∧ Ext w w' := by
  have hs0 := hs
  obtain ⟨a, c, rfl, hw, hc1, hc2, hf⟩ := hs.open
  go_enter Tryz.func14, Tryz.ntmps14
  go_wp2_with fail
  refine (shelfError_any _ _ s [] _ (hs0.ext (by first | (with_reducible exact Ext.refl _) | (with_reducible assumption) | (show Below _ _ _; go_grown; done))) SliceAt.nil).mono ?_
  rintro e w1 ⟨rfl, hx1⟩
  have x1 : Ext w w1 := Ext.trans (by first | (with_reducible exact Ext.refl _) | (with_reducible assumption) | (show Below _ _ _; go_grown; done)) hx1
  have q0 : w1.cell? ⟨w.heap.size, 0, none⟩ = some (.int .i64 s.width) := hx1.cell (by simp [go_sem])
  have zq : w.heap.size < w1.heap.size := cell_lt q0
  clear hx1
  obtain ⟨er, herr⟩ : ∃ er, shelfErrM s [] = er := ⟨_, rfl⟩
  rw [herr]
  by_cases h0 : er = 0
  · subst h0
    obtain ⟨hV, -⟩ := shelfErr_ok herr
    have hws := hV.w
    have hr1 : readM s t = if 160 < t.size then ([], 3) else if letterErrL (fieldsM t) ≠ 0 then ([], 6) else if textM s.width (fieldsM t) = bytesL t then (fieldsM t, 0) else ([], 6) := by rw [readM, if_neg (by rw [herr]; simp)]
    clear herr hV
    by_cases h160 : 160 < t.size
    · have k1 : (160 : Int) < (t.size : Int) := by omega
      rw [if_pos h160] at hr1
      have Hr1 := Lib.hid hr1
      clear hr1 h160
      go_wp2_with fail
      go_ret2
      exact ⟨_, rfl, ⟨.slice none 0 0, by rw [Hr1.out]; rfl, by rw [Hr1.out]; exact SliceAt.nil, fun _ => rfl⟩, x1⟩
    · have k1 : ¬ (160 : Int) < (t.size : Int) := by omega
      rw [if_neg h160] at hr1
      go_wp2_with fail
      refine (fieldsFunc_any t (by omega) w1).mono ?_
      rintro e w2 ⟨A, rfl, hA, hx2⟩
      have x2 := x1.trans hx2
      replace q0 := hx2.cell q0
      replace zq : w.heap.size < w2.heap.size := cell_lt q0
      clear h160
      generalize fieldsM t = fl at *
      by_cases hle : letterErrL fl = 0
      · obtain ⟨h15, hwd⟩ := lettErr_ok hle
        rw [if_neg (by simp [hle])] at hr1
        have hlr := letterError_any' _ fl w2 hA
        rw [hle] at hlr
        have htx := fun w h => textOf_any (.slice (some ⟨A, 0, none⟩) fl.length fl.length) fl s.width (by omega) (by omega) (fun s hs => by have := word_size (hwd s hs); omega) w h
        clear hle hwd
        go_wp2_with fail
        refine hlr.mono ?_
        rintro e w3 ⟨rfl, hx3⟩
        have x3 := x2.trans hx3
        have hA3 := hA.ext hx3
        replace q0 := hx3.cell q0
        replace zq : w.heap.size < w3.heap.size := cell_lt q0
        clear hlr
        go_wp2_with fail
        refine (htx w3 hA3).mono ?_
        rintro e w4 ⟨rfl, hx4⟩
        have x4 := x3.trans hx4
        have hA4 := hA3.ext hx4
        clear htx
        have Hr1 := Lib.hid hr1
        clear hr1
        go_wp2_with fail
        · rename_i hq
          have hne : textM s.width fl ≠ bytesL t := fun h => by
            rw [ByteArray.toList_eq, h] at hq
            simp [bytesL] at hq
          have hr1 := Hr1.out
          rw [if_neg hne] at hr1
          go_ret2
          exact ⟨_, rfl, ⟨.slice none 0 0, by rw [hr1]; rfl, by rw [hr1]; exact SliceAt.nil, fun _ => rfl⟩, x4⟩
        · rename_i hq
          have heq : textM s.width fl = bytesL t := by
            rw [ByteArray.toList_eq] at hq
            simpa [bytesL] using hq
          have hr1 := Hr1.out
          rw [if_pos heq] at hr1
          go_ret2
          exact ⟨_, rfl, ⟨.slice (some ⟨A, 0, none⟩) fl.length fl.length, by rw [hr1]; rfl, by rw [hr1]; exact hA4, fun h => absurd (by rw [hr1]) h⟩, x4⟩
      · have hlr := letterError_any' _ fl w2 hA
        rw [if_pos hle] at hr1
        have Hr1 := Lib.hid hr1
        generalize letterErrL fl = le at *
        have kle : (le != 0) = true := by simpa using hle
        clear hr1 hle
        go_wp2_with fail
        refine hlr.mono ?_
        rintro e w3 ⟨rfl, hx3⟩
        go_wp2_with fail
        go_ret2
        exact ⟨_, rfl, ⟨.slice none 0 0, by rw [Hr1.out]; rfl, by rw [Hr1.out]; exact SliceAt.nil, fun _ => rfl⟩, x2.trans hx3⟩
  · have h0' : (er != 0) = true := by simpa using h0
    have hr1 : readM s t = ([], er) := by rw [readM, if_pos (by rw [herr]; exact h0), herr]
    have Hr1 := Lib.hid hr1
    clear h0 hr1 herr
    go_wp2_with fail
    go_ret2
    exact ⟨_, rfl, ⟨.slice none 0 0, by rw [Hr1.out]; rfl, by rw [Hr1.out]; exact SliceAt.nil, fun _ => rfl⟩, x1⟩
end Go.Proofs.YtnfbhicoknpojaaGreat

namespace Go.Proofs.YtnfbhicoknpojaaGreat
set_option linter.unusedSimpArgs false
set_option linter.unusedVariables false
set_option linter.unusedVariables false
set_option linter.unusedSimpArgs false
open Go.RowKit
open Go.ChangeMaps (setBlock)

def placeV (p : Nat × Nat) : Value := .agg #[.int .i64 (p.1 : Nat), .int .i64 (p.2 : Nat)]
def chV (c : Ch) : Value := .agg #[.int .i64 (c.1 : Nat), .int .i64 (c.2 : Nat)]
abbrev Tab := List ((Nat × Nat) × Ch)
def findP (k : Nat × Nat) : Tab → Nat → Option (Nat × Ch)
  | [], _ => none
  | p :: M, i => if p.1 = k then some (i, p.2) else findP k M (i + 1)
def getP (k : Nat × Nat) : Tab → Option Ch
  | [] => none
  | p :: M => if p.1 = k then some p.2 else getP k M
theorem findP_get (k : Nat × Nat) : ∀ (M : Tab) (i : Nat), (findP k M i).map (·.2) = getP k M
  | [], _ => rfl
  | p :: M, i => by
    simp only [findP, getP]
    split
    · rfl
    · exact findP_get k M (i + 1)
theorem getP_snoc (k q : Nat × Nat) (c : Ch) : ∀ M : Tab, getP k (M ++ [(q, c)]) = (getP k M).or (if q = k then some c else none)
  | [] => by simp [getP]
  | p :: M => by
    simp only [List.cons_append, getP]
    split
    · rfl
    · exact getP_snoc k q c M
def entsP (M : Tab) : List (Value × Value) := M.map fun p => (placeV p.1, chV p.2)
/-- the map in block B is this one -/
def MapP (w : World) (B : Nat) (M : Tab) : Prop := ∃ es n, w.heap[B]? = some (.map es n) ∧ es.toList.map (fun e => (e.key, e.val)) = entsP M
theorem MapP.kept {w w' : World} {B : Nat} {M : Tab} (h : MapP w B M) (e : w'.heap[B]? = w.heap[B]?) : MapP w' B M := by
  obtain ⟨es, n, hb, h1⟩ := h; exact ⟨es, n, e.trans hb, h1⟩
theorem MapP.lt {w : World} {B : Nat} {M : Tab} (h : MapP w B M) : B < w.heap.size := by
  obtain ⟨es, n, hb, -⟩ := h; exact (Array.getElem?_eq_some_iff.1 hb).1
theorem place_fields : ∃ f g, (Tryz.prog.fieldsOf 189).toList = [f, g] ∧ f.type = 3 ∧ f.offset = 0 ∧ g.type = 3 ∧ g.offset = 1 ∧ f.name = "word" ∧ g.name = "slot" := by
  have hf : ((Tryz.prog.fieldsOf 189).toList.map fun f => (f.name, f.type, f.offset)) = [("word", 3, 0), ("slot", 3, 1)] := by kernel_rfl
  generalize (Tryz.prog.fieldsOf 189).toList = fs at *
  obtain ⟨f, g, rfl⟩ : ∃ f g, fs = [f, g] := by
    rcases fs with _ | ⟨f, _ | ⟨g, _ | ⟨h, r⟩⟩⟩
    · simp at hf
    · simp at hf
    · exact ⟨f, g, rfl⟩
    · simp at hf
  simp only [List.map_cons, List.map_nil, List.cons.injEq, Prod.mk.injEq, and_true] at hf
  obtain ⟨⟨h1, h2, h3⟩, h4, h5, h6⟩ := hf
  exact ⟨f, g, rfl, h2, h3, h5, h6, h1, h4⟩
theorem equal_place (k m : Nat × Nat) (w : World) : (Op.equal 189 (placeV k) (placeV m)).run Tryz.prog w = .ok (decide (k = m)) w := by
  have hop : ∀ x y : Value, Op.equal 189 x y = Op.equalIn Op.maxDepth 189 x y := fun _ _ => rfl
  obtain ⟨m0, hd⟩ : ∃ m0, Op.maxDepth = m0 + 2 := ⟨9998, by decide⟩
  have ha : ∀ w, (isAgg 3).run Tryz.prog w = .ok false w := fun _ => by kernel_rfl
  rw [hop, hd]
  unfold placeV
  rw [run_equalIn_struct _ _ _ _ _ (by kernel_rfl) (by kernel_rfl)]
  obtain ⟨f, g, hfs, h2, h3, h5, h6, n1, n2⟩ := place_fields
  rw [hfs]
  obtain ⟨a, b⟩ := k
  obtain ⟨c, d⟩ := m
  simp [Op.eqFields, h2, h3, h5, h6, n1, n2, part, ha, go_sem]
  by_cases e1 : a = c <;> by_cases e2 : b = d <;> simp [e1, e2] <;> omega
theorem run_findAsking_p (k : Nat × Nat) (w : World) : ∀ (es : List MapEntry) (M : Tab) (i : Nat), es.map (fun e => (e.key, e.val)) = entsP M →
    (Instr.findAsking 189 (placeV k) es i).run Tryz.prog w = .ok ((findP k M i).map fun q => (q.1, chV q.2)) w
  | [], M, i, h => by
    cases M with
    | nil => simp [Instr.findAsking, findP]
    | cons p M => simp [entsP] at h
  | e :: es, M, i, h => by
    cases M with
    | nil => simp [entsP] at h
    | cons p M =>
      simp only [entsP, List.map_cons, List.cons.injEq, Prod.mk.injEq] at h
      obtain ⟨⟨h1, h2⟩, h3⟩ := h
      have ih := run_findAsking_p k w es M (i + 1) h3
      unfold Instr.findAsking
      simp only [Sem.run_bind, h1, equal_place k p.1, Result.andThen, findP]
      by_cases hp : p.1 = k
      · rw [if_pos hp, decide_eq_true hp.symm]
        simp [h2, Sem.run]
      · rw [if_neg hp, decide_eq_false (fun x => hp x.symm)]
        simpa using ih
theorem run_findKey_p (k : Nat × Nat) (w : World) (es : List MapEntry) (M : Tab) (h : es.map (fun e => (e.key, e.val)) = entsP M) :
    (Instr.findKey 189 (placeV k) es).run Tryz.prog w = .ok ((findP k M 0).map fun q => (q.1, chV q.2)) w := by
  have hask := run_findAsking_p k w es M 0 h
  obtain ⟨fs, hu⟩ : ∃ fs, Tryz.prog.underlying 189 = some (.struct fs) := ⟨_, Tryz.underlying189⟩
  unfold Instr.findKey
  simp only [Sem.run_bind, run_underlying hu, Result.andThen]
  cases es with
  | nil =>
    cases M with
    | nil => simp [Instr.findNow, findP, Sem.run]
    | cons p M => simp [entsP] at h
  | cons e es => simpa [Instr.findNow, Instr.sameNow] using hask
theorem run_check_p (k : Nat × Nat) (em : Bool) (w : World) : (Instr.checkKey em 10000 189 (placeV k)).run Tryz.prog w = .ok () w := by
  have ha : ∀ w, (isAgg 3).run Tryz.prog w = .ok false w := fun _ => by kernel_rfl
  have hs1 : ∀ w, (sizeOf 3).run Tryz.prog w = .ok 1 w := fun _ => by kernel_rfl
  have hi : Tryz.prog.underlying 3 = some (.int .i64) := Tryz.underlying3
  have hint : ∀ (m : Nat) (x : Int) (w : World), (Instr.checkKey em (m + 1) 3 (.int .i64 x)).run Tryz.prog w = .ok () w := fun m x w => by
    simp [Instr.checkKey, run_underlying hi]
  obtain ⟨fs, hu⟩ : ∃ fs, Tryz.prog.underlying 189 = some (.struct fs) := ⟨_, Tryz.underlying189⟩
  have hfs : Tryz.prog.fieldsOf 189 = fs := by simp [Program.fieldsOf, hu]
  obtain ⟨f, g, hf, h2, h3, h5, h6, n1, n2⟩ := place_fields
  rw [hfs] at hf
  obtain ⟨fl⟩ := fs
  simp only at hf
  subst hf
  rw [Instr.checkKey]
  have hint' := hint 9998
  unfold placeV
  simp [run_underlying hu, Result.andThen, h2, h3, h5, h6, part, ha, go_sem, hint', hs1]
/-- WHAT IS LOOKED UP -/
theorem run_lookup_p {w : World} {B : Nat} {M : Tab} (k : Nat × Nat) (h : MapP w B M) (ok : Bool) :
    (Instr.lookup 118 (.map (some B)) (placeV k) ok).run Tryz.prog w = .ok (if ok then .tuple #[chV ((getP k M).getD (0, 0)), .bool (getP k M).isSome] else chV ((getP k M).getD (0, 0))) w := by
  obtain ⟨es, n, hb, hE⟩ := h
  have hu : Tryz.prog.underlying 118 = some (.map 189 155) := Tryz.underlying118
  have hz : (zeroValue 155).run Tryz.prog w = .ok (chV (0, 0)) w := Tryz.zeroValue155 w
  have hf := run_findKey_p k w es.toList M hE
  have hg := findP_get k M 0
  unfold Instr.lookup
  simp only [Sem.run_bind, run_underlying hu, MapKept.run_getObj_map hb, run_check_p, hf, Result.andThen, Sem.run_pure]
  cases hq : findP k M 0 with
  | none =>
    rw [hq] at hg
    cases ok <;> simp [hz, ← hg, Sem.run, Result.andThen]
  | some q =>
    rw [hq] at hg
    cases ok <;> simp [← hg, Sem.run, Result.andThen]
/-- WHAT IS WRITTEN, at a place that is not there yet -/
theorem run_update_p {w : World} {B : Nat} {M : Tab} (k : Nat × Nat) (c : Ch) (h : MapP w B M) (hn : getP k M = none) :
    ∃ w', (Instr.mapUpdate 118 (.map (some B)) (placeV k) (chV c)).run Tryz.prog w = .ok () w' ∧ MapP w' B (M ++ [(k, c)]) ∧ w.grownBy w' (some B) ∧ w'.heap.size = w.heap.size := by
  obtain ⟨es, n, hb, hE⟩ := h
  have hlt := (Array.getElem?_eq_some_iff.1 hb).1
  have hu : Tryz.prog.underlying 118 = some (.map 189 155) := Tryz.underlying118
  have hf := run_findKey_p k w es.toList M hE
  have hg := findP_get k M 0
  rw [hn] at hg
  have hq : findP k M 0 = none := by
    cases hq : findP k M 0 with
    | none => rfl
    | some q => rw [hq] at hg; cases hg
  rw [hq] at hf
  refine ⟨setBlock w B (.map (es.push { key := placeV k, val := chV c, born := n }) (n + 1)), ?_, ⟨_, _, by simp [setBlock, hlt]; exact ⟨rfl, rfl⟩, by simp [hE, entsP]⟩, grownBy_putObj' w B _, by simp [setBlock]⟩
  unfold Instr.mapUpdate
  simp [run_underlying hu, MapKept.run_getObj_map hb, run_check_p, hf, Result.andThen, MapKept.run_setObj_map _ hb, setBlock]
end Go.Proofs.YtnfbhicoknpojaaGreat

namespace Go.Proofs.YtnfbhicoknpojaaGreat
set_option linter.unusedSimpArgs false
set_option linter.unusedVariables false
open Go.RowKit
set_option linter.unusedVariables false

def canF : Nat → Nat
  | 0 => 124
  | 1 => 126
  | 2 => 120
  | 3 => 120
  | _ => 127
def becF : Nat → Nat
  | 0 => 121
  | 1 => 123
  | 2 => 122
  | 3 => 123
  | _ => 122
theorem kindV_eq (k : Nat) (h : k < 5) : kindV k = [.int .i64 (kW k : Nat), .int .i64 (kS k : Nat), .int .i64 (kC k : Nat), .bool (kWr k), .func (.func (canF k)) #[] #[], .func (.func (becF k)) #[] #[]] := by
  have : k = 0 ∨ k = 1 ∨ k = 2 ∨ k = 3 ∨ k = 4 := by omega
  rcases this with rfl | rfl | rfl | rfl | rfl <;> rfl
/-- the six cells of a kind -/
structure KindAt (w : World) (b o k : Nat) : Prop where
  c0 : w.cell? ⟨b, o, none⟩ = some (.int .i64 (kW k : Nat))
  c1 : w.cell? ⟨b, o + 1, none⟩ = some (.int .i64 (kS k : Nat))
  c2 : w.cell? ⟨b, o + 2, none⟩ = some (.int .i64 (kC k : Nat))
  c3 : w.cell? ⟨b, o + 3, none⟩ = some (.bool (kWr k))
  c4 : w.cell? ⟨b, o + 4, none⟩ = some (.func (.func (canF k)) #[] #[])
  c5 : w.cell? ⟨b, o + 5, none⟩ = some (.func (.func (becF k)) #[] #[])
theorem KindsAt.get {w : World} {B : Nat} (h : KindsAt w B) (k : Nat) (hk : k < 5) : KindAt w B (k * 6) k := by
  have h' := fun j u => h k j u hk
  rw [kindV_eq k hk] at h'
  exact ⟨h' 0 _ rfl, h' 1 _ rfl, h' 2 _ rfl, h' 3 _ rfl, h' 4 _ rfl, h' 5 _ rfl⟩
theorem kW_le (k : Nat) : kW k ≤ 1 := by unfold kW; split <;> omega
theorem kS_le (k : Nat) : kS k ≤ 1 := by unfold kS; split <;> omega
theorem kC_le (k : Nat) : kC k ≤ 1 := by unfold kC; split <;> omega
def kindVal (k : Nat) : Value := .agg #[.int .i64 (kW k : Nat), .int .i64 (kS k : Nat), .int .i64 (kC k : Nat), .bool (kWr k), .func (.func (canF k)) #[] #[], .func (.func (becF k)) #[] #[]]
set_option maxRecDepth 100000 in
set_option maxHeartbeats 1000000 in
theorem next_any (p : Nat × Nat) (hp : p.1 ≤ 1000 ∧ p.2 ≤ 1000) (k : Nat) (w : World) :
    Calls Tryz.prog 100 #[placeV p, kindVal k] w fun e w' => e = .returned (placeV (p.1 + kW k, p.2 + kS k)) ∧ Ext w w' := by
  obtain ⟨i, j⟩ := p
  have hw := kW_le k
  have hs := kS_le k
  simp only at hp
  unfold placeV kindVal
  simp only
  generalize kW k = a at *
  generalize kS k = b at *
  generalize kC k = c at *
  generalize kWr k = d at *
  generalize canF k = cf at *
  generalize becF k = bf at *
  have w1 : IntKind.i64.wrap ((i : Int) + a) = ((i + a : Nat) : Int) := by rw [Int.natCast_add]; exact IntWalk.i64_in _ (by omega)
  have w2 : IntKind.i64.wrap ((j : Int) + b) = ((j + b : Nat) : Int) := by rw [Int.natCast_add]; exact IntWalk.i64_in _ (by omega)
  go_enter Tryz.func100, Tryz.ntmps100
  go_wp2
  refine bodyPost_ret (v := .agg #[.int .i64 ((i + a : Nat) : Int), .int .i64 ((j + b : Nat) : Int)]) (by simp [results, Tryz.results100, go_sem]) rfl ⟨rfl, (by first | (with_reducible exact Ext.refl _) | (with_reducible assumption) | (show Below _ _ _; go_grown; done))⟩
theorem SliceAt.cut {α : Type} {R : World → Nat → Nat → α → Prop} {sz : Nat} {w : World} {a : Option Addr} {m c : Nat} {l : List α} (h : SliceAt sz R w (.slice a m c) l) (i t : Nat) (hi : i + t ≤ l.length) : SliceAt sz R w (.slice (if c = i then a else a.map fun x => x.add (i * sz)) t (c - i)) ((l.drop i).take t) := by
  obtain ⟨a', c', e, h2, h3, h4⟩ := h
  obtain ⟨rfl, rfl, rfl⟩ := Value.slice.inj e
  have hlen : ((l.drop i).take t).length = t := by rw [List.length_take, List.length_drop]; omega
  refine ⟨_, _, by rw [hlen], by rw [hlen]; omega, by omega, fun j hj => ?_⟩
  rw [hlen] at hj
  obtain ⟨b, o, rfl, r⟩ := h4 (i + j) (by omega)
  refine ⟨b, o + i * sz, ?_, ?_⟩
  · rw [if_neg (by omega)]
    simp [Addr.add]
  · rw [List.getElem_take, List.getElem_drop, show o + i * sz + j * sz = o + (i + j) * sz by rw [Nat.add_mul]; omega]
    exact r
theorem headD_take {α : Type} (l : List α) (d : α) : (l.take 1).headD d = l.headD d := by cases l <;> rfl
/-- whether a kind can be done -/
theorem can_any (k : Nat) (hk : k < 5) (u v : Value) (ws : List ByteArray) (ss : List Slot) (w : World) (hu : StrsAt w u (ws.take (kW k))) (hv : SlotsAt w v (ss.take (kS k))) (h1 : kW k ≤ ws.length) (h2 : kS k ≤ ss.length) :
    Calls Tryz.prog (canF k) #[u, v] w fun e w' => e = .returned (.bool (canM' k ws ss)) ∧ Ext w w' := by
  have : k = 0 ∨ k = 1 ∨ k = 2 ∨ k = 3 ∨ k = 4 := by omega
  rcases this with rfl | rfl | rfl | rfl | rfl
  · have := keepCan_any u v _ _ w hu hv (by simp [kW] at *; omega) (by simp [kS] at *; omega)
    simpa only [canM', kW, kS, headD_take, canF] using this
  · have := turnCan_any u v _ _ w hu hv (by simp [kW] at *; omega) (by simp [kS] at *; omega)
    simpa only [canM', kW, kS, headD_take, canF] using this
  · exact always_any u v w
  · exact always_any u v w
  · have := passCan_any u v _ w hv (by simp [kS] at *; omega)
    simpa only [canM', kW, kS, headD_take, canF] using this
end Go.Proofs.YtnfbhicoknpojaaGreat

namespace Go.Proofs.YtnfbhicoknpojaaGreat
set_option linter.unusedSimpArgs false
set_option linter.unusedVariables false
open Go.RowKit
set_option linter.unusedVariables false

/-- .. and what is no cells, below lo, lies as it lay -/
structure KeptM (lo hi : Nat) (w w' : World) : Prop where
  o : KeptO lo hi w w'
  n : ∀ k x, k < lo → w.heap[k]? = some x → x.isCells = false → w'.heap[k]? = some x
theorem KeptM.refl (lo hi : Nat) (w : World) : KeptM lo hi w w := ⟨KeptO.refl _ _ _, fun _ _ _ h _ => h⟩
theorem KeptM.trans {lo hi : Nat} {a b c : World} (h : KeptM lo hi a b) (k : KeptM lo hi b c) : KeptM lo hi a c := ⟨h.o.trans k.o, fun i x hi hx hc => k.n i x hi (h.n i x hi hx hc) hc⟩
theorem Ext.keptM {w w' : World} (lo hi : Nat) (h : Ext w w') : KeptM lo hi w w' := ⟨h.kept lo hi, fun k x _ hx _ => (h.below.block k (Array.getElem?_eq_some_iff.1 hx).1).trans hx⟩
theorem KeptM.map {lo hi : Nat} {w w' : World} {B : Nat} {M : Tab} (h : KeptM lo hi w w') (hB : B < lo) (hm : MapP w B M) : MapP w' B M := by
  obtain ⟨es, n, hb, h1⟩ := hm
  exact ⟨es, n, h.n B _ hB hb rfl, h1⟩
theorem SlotsAt.lies {w w' : World} {v : Value} {l : List Slot} (h : SlotsAt w v l) (hx : Lies w w') : SlotsAt w' v l :=
  SliceAt.lies (fun _ _ _ _ _ hx h => ⟨hx _ _ h.1, hx _ _ h.2.1, h.2.2⟩) h hx
theorem KindsAt.lies {w w' : World} {B : Nat} (h : KindsAt w B) (hx : Lies w w') : KindsAt w' B := fun k j u hk hu => hx _ _ (h k j u hk hu)
/-- a mending, as it is handed on: words, slots, kinds, what is found -/
def mendV (uv sv : Value) (kb B : Nat) : Value := .agg #[uv, sv, .slice (some ⟨kb, 0, none⟩) 5 5, .map (some B)]
def tabF (M : Tab) : Nat → Nat → Option Ch := fun a b => getP (a, b) M

theorem canF_enters (k : Nat) (hk : k < 5) : ∀ args w, (callFunc (canF k) args).run Tryz.prog w = .ok (.enter (canF k) args) w := by
  have : k = 0 ∨ k = 1 ∨ k = 2 ∨ k = 3 ∨ k = 4 := by omega
  rcases this with rfl | rfl | rfl | rfl | rfl
  · exact enters_of Tryz.func124 (by kernel_rfl) rfl
  · exact enters_of Tryz.func126 (by kernel_rfl) rfl
  · exact enters_of Tryz.func120 (by kernel_rfl) rfl
  · exact enters_of Tryz.func120 (by kernel_rfl) rfl
  · exact enters_of Tryz.func127 (by kernel_rfl) rfl
theorem choicesTo_mono (F : Nat → Nat → Option Ch) (ws : List ByteArray) (ss : List Slot) (i j : Nat) {k m : Nat} (h : k ≤ m) : choicesTo F ws ss i j k <+: choicesTo F ws ss i j m := by
  obtain ⟨d, rfl⟩ := Nat.exists_eq_add_of_le h
  clear h
  induction d with
  | zero => exact List.prefix_rfl
  | succ d ih => exact ih.trans ⟨_, rfl⟩
set_option maxRecDepth 100000 in
set_option maxHeartbeats 4000000 in
theorem choices_seq (n lo hi mb pb kb B : Nat) (uv sv : Value) (ws : List ByteArray) (ss : List Slot) (M : Tab) (i j : Nat) (Wd w : World) (hWd : Wd.heap.size ≤ lo) (hlh : lo ≤ hi) (hhw : hi ≤ w.heap.size) (hK : KeptM lo hi Wd w)
    (hu : StrsAt Wd uv ws) (hs : SlotsAt Wd sv ss) (hk : KindsAt Wd kb) (hM : MapP Wd B M) (hmb : mb < lo) (hpb : pb < lo)
    (m0 : w.cell? ⟨mb, 0, none⟩ = some uv) (m1 : w.cell? ⟨mb, 1, none⟩ = some sv) (m2 : w.cell? ⟨mb, 2, none⟩ = some (.slice (some ⟨kb, 0, none⟩) 5 5)) (m3 : w.cell? ⟨mb, 3, none⟩ = some (.map (some B)))
    (p0 : w.cell? ⟨pb, 0, none⟩ = some (.int .i64 (i : Nat))) (p1 : w.cell? ⟨pb, 1, none⟩ = some (.int .i64 (j : Nat))) (hij : i ≤ ws.length ∧ j ≤ ss.length) (h1000 : ws.length ≤ 900 ∧ ss.length ≤ 900)
    (hF : ∀ a b c, getP (a, b) M = some c → a ≤ ws.length ∧ b ≤ ss.length ∧ c.2 ≤ 100000) :
    SeqOwn n Tryz.prog 128 #[.pointer (some ⟨mb, 0, none⟩), .pointer (some ⟨pb, 0, none⟩)] (fun c => #[chV c]) (KeptM lo hi) (choicesM (tabF M) ws ss i j) w := by
  intro y J W hW hJ hY h0
  have hxW : Ext w W := hW
  have hzW := hxW.size
  have hKW := hK.trans (hxW.keptM _ _)
  have hBlt := hM.lt
  obtain ⟨ua, uc, rfl, huc, hum⟩ := hu.shape
  obtain ⟨sa, sc, rfl, hsc, hsm⟩ := hs.shape
  refine callsIn_wide.2 ?_
  simp only [List.append_toArray, List.cons_append, List.nil_append]
  replace m0 := hxW.cell m0
  replace m1 := hxW.cell m1
  replace m2 := hxW.cell m2
  replace m3 := hxW.cell m3
  replace p0 := hxW.cell p0
  replace p1 := hxW.cell p1
  have zm := cell_lt m0
  have zp := cell_lt p0
  go_enter Tryz.func128, Tryz.ntmps128
  go_wp2_with fail
  go_loopw [12] (fun ix wr => ∃ k : Nat, k ≤ 5 ∧ ix = .int .i64 k ∧ KeptM lo hi W wr ∧ W.heap.size ≤ wr.heap.size ∧ J (choicesTo (tabF M) ws ss i j k) wr) (fun ix _ => 5 - (intOf ix).toNat)
  case atStart => exact ⟨0, Nat.zero_le _, rfl, KeptM.refl _ _ _, Nat.le_refl _, h0⟩
  case round =>
    obtain ⟨k, hk5, rfl, hxr, hzr, hj⟩ := hrel
    have c0 := hxr.o.cell (.inl hmb) m0
    have c1 := hxr.o.cell (.inl hmb) m1
    have c2 := hxr.o.cell (.inl hmb) m2
    have c3 := hxr.o.cell (.inl hmb) m3
    have q0 := hxr.o.cell (.inl hpb) p0
    have q1 := hxr.o.cell (.inl hpb) p1
    have z0 := cell_lt c0
    have z1 := cell_lt q0
    by_cases hlt : k < 5
    · have k1 : (k : Int) < 5 := by omega
      have hKr := hKW.trans hxr
      obtain ⟨d0, d1, d2, d3, d4, d5⟩ := (hk.lies (hKr.o.lies hWd)).get k hlt
      have hnx := fun w => next_any (i, j) ⟨by simp; omega, by simp; omega⟩ k w
      have hcl := hKr
      have hstep : choicesTo (tabF M) ws ss i j (k + 1) = choicesTo (tabF M) ws ss i j k ++ choiceK (tabF M) ws ss i j k := rfl
      have hKc : choiceK (tabF M) ws ss i j k = match getP (i + kW k, j + kS k) M with | none => [] | some b => if canM' k (ws.drop i) (ss.drop j) then [(k, kC k + b.2)] else [] := rfl
      have hmono := choicesTo_mono (tabF M) ws ss i j (k := k + 1) (m := 5) (by omega)
      have hkC := kC_le k
      have hkW := kW_le k
      have hkS := kS_le k
      have hFk := hF (i + kW k) (j + kS k)
      have hcan := fun u v w h1 h2 h3 h4 => can_any k hlt u v (ws.drop i) (ss.drop j) w h1 h2 h3 h4
      have hent := canF_enters k hlt
      unfold placeV kindVal at hnx
      simp only at hnx
      generalize hA : kW k = kw at *
      generalize hBb : kS k = ks at *
      generalize hCc : kC k = kc at *
      generalize kWr k = kr at *
      generalize canF k = cf at *
      generalize becF k = bf at *
      obtain ⟨ni, hni⟩ : ∃ ni, i + kw = ni := ⟨_, rfl⟩
      obtain ⟨nj, hnj⟩ : ∃ nj, j + ks = nj := ⟨_, rfl⟩
      rw [hni, hnj] at hKc hFk
      simp only [hni, hnj] at hnx
      have Hni := Lib.hid hni
      have Hnj := Lib.hid hnj
      obtain ⟨g, hg⟩ : ∃ g, getP (ni, nj) M = g := ⟨_, rfl⟩
      rw [hg] at hKc hFk
      rw [hKc] at hstep
      have Hstep := Lib.hid hstep
      have Hmono := Lib.hid hmono
      have Hg := Lib.hid hg
      clear hstep hmono hg hKc hA hBb hCc hni hnj
      go_wp2_with fail
      refine (hnx _).mono ?_
      rintro e w1 ⟨rfl, hx1⟩
      have xr : Ext wr w1 := Ext.trans (ext_alloc _ _) hx1
      have b0 : w1.cell? ⟨wr.heap.size, 0, none⟩ = some (.int .i64 (kw : Nat)) := hx1.cell (by simp [go_sem])
      have b2 : w1.cell? ⟨wr.heap.size, 2, none⟩ = some (.int .i64 (kc : Nat)) := hx1.cell (by simp [go_sem])
      have b4 : w1.cell? ⟨wr.heap.size, 4, none⟩ = some (.func (.func cf) #[] #[]) := hx1.cell (by simp [go_sem])
      replace c0 := xr.cell c0
      replace c1 := xr.cell c1
      replace c3 := xr.cell c3
      replace q0 := xr.cell q0
      replace q1 := xr.cell q1
      have z0 := cell_lt c0
      have z1 := cell_lt q0
      have z2 := cell_lt b0
      clear hx1 c2 d0 d1 d2 d3 d4 d5 hnx
      obtain ⟨W2, hW2⟩ : ∃ W2, W2 = w1.alloc (.cells #[.int .i64 (ni : Int), .int .i64 (nj : Int)] 189) := ⟨_, rfl⟩
      have xr2 : Ext wr W2 := by rw [hW2]; exact xr.trans (ext_alloc _ _)
      have hM2 : MapP W2 B M := (hcl.trans (xr2.keptM _ _)).map (by omega) hM
      have hlk := run_lookup_p (ni, nj) hM2 true
      rw [Hg.out, hW2] at hlk
      unfold placeV at hlk
      simp only [if_true] at hlk
      have n0 : W2.cell? ⟨w1.heap.size, 0, none⟩ = some (.int .i64 (ni : Int)) := by rw [hW2]; simp [go_sem]
      have n1 : W2.cell? ⟨w1.heap.size, 1, none⟩ = some (.int .i64 (nj : Int)) := by rw [hW2]; simp [go_sem]
      have x12 : Ext w1 W2 := by rw [hW2]; exact ext_alloc _ _
      have HW2 := Lib.hid hW2
      clear hW2 hM2
      cases g with
      | none =>
        simp only [Option.getD_none, Option.isSome_none] at hlk
        unfold chV at hlk
        have hst2 := Hstep.out
        simp only [List.append_nil] at hst2
        have Hst2 := Lib.hid hst2
        clear hst2
        have xr3 : Ext wr (W2.alloc (.cells #[.int .i64 0, .int .i64 0] 155)) := xr2.trans (ext_alloc _ _)
        rw [HW2.out] at xr3
        clear hcan
        go_wp2_with fail
        apply Facts.wp_region [.val _, .val _, .val _, .val _, .val _, .val _, .val _, .val _, .val _, .val _, .val _, .val _, .val _, .val _, .val _, .val _, .val _, .val _, .val _, .val _, .val _, .val _] (by kernel_rfl) (by kernel_rfl) trivial ?main
        case main =>
          iterate 22 (refine ⟨fun w1 hx hh => ?_, ?_⟩; focus (clear hh; skip; go_simp; first | exact ⟨Ext.refl _, rfl⟩ | exact Ext.refl _))
          intro w2 hx2 hh
          clear hh
          have hxx := xr3.trans hx2
          go_simp
          go_wp2
          go_roundw
          case rel => exact ⟨k + 1, by omega, by go_num, hxr.trans (hxx.keptM _ _), Nat.le_trans hzr hxx.size, by rw [Hst2.out]; exact hJ _ _ _ (hxx.below.mono hzr) hj⟩
          case measure => simp [intOf]; omega
      | some c =>
        simp only [Option.getD_some, Option.isSome_some] at hlk
        unfold chV at hlk
        have hc := hFk c rfl
        have hkw : kw ≤ (ws.drop i).length := by rw [List.length_drop]; have := Hni.out; omega
        have hks : ks ≤ (ss.drop j).length := by rw [List.length_drop]; have := Hnj.out; omega
        have i1 : (i : Int) ≤ (ni : Int) := by have := Hni.out; omega
        have i2 : (ni : Int) ≤ (uc : Int) := by omega
        have j1 : (j : Int) ≤ (nj : Int) := by have := Hnj.out; omega
        have j2 : (nj : Int) ≤ (sc : Int) := by omega
        have i3 : ni - i = kw := by have := Hni.out; omega
        have j3 : nj - j = ks := by have := Hnj.out; omega
        have hcutu := (hu.lies (hcl.o.lies hWd)).cut i kw (by have := Hni.out; omega)
        have hcuts := (hs.lies (hcl.o.lies hWd)).cut j ks (by have := Hnj.out; omega)
        have Hcu := Lib.hid hcutu
        have Hcs := Lib.hid hcuts
        have xr3 : Ext wr (W2.alloc (.cells #[.int .i64 (c.1 : Nat), .int .i64 (c.2 : Nat)] 155)) := xr2.trans (ext_alloc _ _)
        have x23 : Ext W2 (W2.alloc (.cells #[.int .i64 (c.1 : Nat), .int .i64 (c.2 : Nat)] 155)) := ext_alloc _ _
        have e0 := x23.cell (x12.cell c0)
        have e1 := x23.cell (x12.cell c1)
        have e2 := x23.cell (x12.cell q0)
        have e3 := x23.cell (x12.cell q1)
        have e4 := x23.cell (x12.cell b4)
        have e5 := x23.cell n0
        have e6 := x23.cell n1
        have e7 := x23.cell (x12.cell b2)
        have e8 : (W2.alloc (.cells #[.int .i64 (c.1 : Nat), .int .i64 (c.2 : Nat)] 155)).cell? ⟨W2.heap.size, 1, none⟩ = some (.int .i64 (c.2 : Nat)) := by simp [go_sem]
        rw [HW2.out] at xr3 e0 e1 e2 e3 e4 e5 e6 e7 e8
        simp only [World.size_alloc] at e8
        clear hcutu hcuts hFk x23
        have hcv := hcan
        generalize hcb : canM' k (ws.drop i) (ss.drop j) = cb at *
        go_wp2_with fail
        apply Facts.wp_region [.val _, .val _, .val _, .val _, .val _, .val _, .val _, .val _, .val _, .val _, .val _, .val _, .val _, .val _, .val _, .val _, .val _, .val _, .val _, .val (.bool cb), .val (.bool !cb), .val (.bool !cb)] (by kernel_rfl) (by kernel_rfl) trivial ?main
        case main =>
          iterate 19 (refine ⟨fun w1 hx hh => ?_, ?_⟩; focus (clear hh; (have f0 := hx.cell e0; have f1 := hx.cell e1; have f2 := hx.cell e2; have f3 := hx.cell e3; have f4 := hx.cell e4; have f5 := hx.cell e5; have f6 := hx.cell e6); go_simp; first | exact ⟨Ext.refl _, rfl⟩ | exact Ext.refl _))
          refine ⟨fun w2 hx hh => ?_, ?_⟩
          · clear hh
            go_simp
            refine (hcan _ _ _ ?_ ?_ hkw hks).mono ?_
            · simpa [i3] using StrsAt.ext Hcu.out (xr3.trans hx)
            · simpa [j3] using SlotsAt.ext Hcs.out (xr3.trans hx)
            · rintro e w' ⟨rfl, hx2⟩
              exact ⟨_, rfl, hx2, rfl⟩
          iterate 2 (refine ⟨fun w1 hx hh => ?_, ?_⟩; focus (clear hh; skip; go_simp; first | exact ⟨Ext.refl _, rfl⟩ | exact Ext.refl _))
          intro w2 hx2 hh
          clear hh
          have hxx := xr3.trans hx2
          have hJ2 := hJ _ _ _ (hxx.below.mono hzr) hj
          have hst2 := Hstep.out
          have f7 := hx2.cell e7
          have f8 := hx2.cell e8
          have zf7 := cell_lt f7
          have zf8 := cell_lt f8
          clear hcan hcv
          cases cb
          · have hst3 : choicesTo (tabF M) ws ss i j (k + 1) = choicesTo (tabF M) ws ss i j k := by simpa using hst2
            have Hst3 := Lib.hid hst3
            clear hst2 hst3
            go_simp
            go_wp2
            go_roundw
            case rel => exact ⟨k + 1, by omega, by go_num, hxr.trans (hxx.keptM _ _), Nat.le_trans hzr hxx.size, by rw [Hst3.out]; exact hJ2⟩
            case measure => simp [intOf]; omega
          · have hst3 : choicesTo (tabF M) ws ss i j (k + 1) = choicesTo (tabF M) ws ss i j k ++ [(k, kc + c.2)] := by simpa using hst2
            have hm := Hmono.out
            rw [hst3] at hm
            obtain ⟨fn, tmps, assign, body, hy, hR⟩ := hY _ (k, kc + c.2) w2 hJ2 hm
            have Hst3 := Lib.hid hst3
            have wsum : IntKind.i64.wrap ((kc : Int) + (c.2 : Int)) = (kc : Int) + (c.2 : Int) := IntWalk.i64_in _ (by omega)
            unfold chV at hy
            simp only [Int.natCast_add] at hy
            clear hst2 hst3 hm
            go_simp
            generalize Value.slice (if uc = i then ua else Option.map (fun x => x.add i) ua) kw (uc - i) = v38
            generalize Value.slice (if sc = j then sa else Option.map (fun x => x.add (j * 2)) sa) ks (sc - j) = v45
            apply_assumption
            refine (wpIn_wide (n := n - 1 + 1)).1 ?_
            gi_wp2
            refine (wpIn_wide (n := n - 1 + 1)).1 ?_
            gi_wp2
            refine hR.mono ?_
            rintro e W3 ⟨rfl, hJ3, hk3⟩
            gi_wp2
            go_wp2
            go_roundw
            case rel => exact ⟨k + 1, by omega, by go_num, (hxr.trans (hxx.keptM _ _)).trans hk3, Nat.le_trans hzr (Nat.le_trans hxx.size hk3.o.size), by rw [Hst3.out]; exact hJ3⟩
            case measure => simp [intOf]; omega
    · have hke : k = 5 := by omega
      subst hke
      go_wp2
      go_end0
      exact ⟨⟨_, rfl⟩, hj⟩
end Go.Proofs.YtnfbhicoknpojaaGreat

namespace Go.Proofs.YtnfbhicoknpojaaGreat
set_option linter.unusedSimpArgs false
set_option linter.unusedVariables false
open Go.RowKit
set_option linter.unusedVariables false
attribute [local go_sem] Oper.semAt_some

theorem fewCh_any (c o : Ch) (w : World) : Calls Tryz.prog 86 #[chV c, chV o] w fun e w' => e = .returned (.bool (fewCh c o)) ∧ Ext w w' := by
  obtain ⟨a, b⟩ := c
  obtain ⟨d, f⟩ := o
  have hd : fewCh (a, b) (d, f) = decide ((b : Int) < (f : Int)) := by unfold fewCh; simp
  unfold chV
  simp only
  go_enter Tryz.func86, Tryz.ntmps86
  go_wp2
  all_goals (go_ret; exact ⟨by rw [hd] <;> simp_all, (by first | (with_reducible exact Ext.refl _) | (with_reducible assumption) | (show Below _ _ _; go_grown; done))⟩)
structure Cells2 (w : World) (b : Nat) (c : Ch) : Prop where
  c0 : w.cell? ⟨b, 0, none⟩ = some (.int .i64 (c.1 : Nat))
  c1 : w.cell? ⟨b, 1, none⟩ = some (.int .i64 (c.2 : Nat))
def set2 (w : World) (b : Nat) (c : Ch) : World := (w.setCell ⟨b, 0, none⟩ (.int .i64 (c.1 : Nat))).setCell ⟨b, 1, none⟩ (.int .i64 (c.2 : Nat))
theorem set2_cells {w : World} {b : Nat} {c : Ch} (h : Cells2 w b c) (d : Ch) : Cells2 (set2 w b d) b d :=
  ⟨(World.cell?_setCell_other _ _ _ _ (fun e => by have := (Addr.mk.inj e).2.1; omega)).trans (World.cell?_setCell_same _ _ _ h.c0), World.cell?_setCell_same _ _ _ ((World.cell?_setCell_other _ _ _ _ (fun e => by have := (Addr.mk.inj e).2.1; omega)).trans h.c1)⟩
theorem set2_other {w : World} {b : Nat} {c : Ch} {k : Nat} (h : k ≠ b) : (set2 w b c).heap[k]? = w.heap[k]? := by
  unfold set2
  rw [Below.heap_setCell _ _ _ _ (by simpa using h)]
  exact Below.heap_setCell _ _ _ _ (by simpa using h)
theorem cell_set2_other {w : World} {b : Nat} {c : Ch} {p : Addr} (h : p.block ≠ b) : (set2 w b c).cell? p = w.cell? p := World.cell?_of_block (set2_other h)
theorem frozen_set2 {w : World} {b : Nat} {c : Ch} (p : Addr) : (set2 w b c).frozen? p = w.frozen? p := by simp [set2, go_sem]
theorem KeptM.setIn {lo hi : Nat} {a w : World} (h : KeptM lo hi a w) {p : Addr} (h1 : lo ≤ p.block) (h2 : p.block < hi) (v : Value) : KeptM lo hi a (w.setCell p v) :=
  ⟨h.o.setIn h1 h2 v, fun k x hk hx hc => (Below.heap_setCell w p v k (by omega)).trans (h.n k x hk hx hc)⟩
theorem set2_kept {lo hi : Nat} {a w : World} (h : KeptM lo hi a w) {b : Nat} (h1 : lo ≤ b) (h2 : b < hi) (c : Ch) : KeptM lo hi a (set2 w b c) :=
  (h.setIn (p := ⟨b, 0, none⟩) h1 h2 _).setIn (p := ⟨b, 1, none⟩) h1 h2 _
theorem set2_keeps {B : Nat} {w : World} {b : Nat} {c : Ch} : KeepsFrom B w (set2 w b c) :=
  ((KeepsOthers.setCell w ⟨b, 0, none⟩ (.int .i64 (c.1 : Nat))).trans (KeepsOthers.setCell _ ⟨b, 1, none⟩ (.int .i64 (c.2 : Nat)))) |>.from B
theorem KeptM.putObj {lo hi : Nat} {W : World} {l : Nat} {o o' : Obj} (h : W.heap[l]? = some o) (hc : o.isCells = false) (hl : lo ≤ l) : KeptM lo hi W (W.putObj l o') :=
  ⟨KeptO.putObj h hc, fun k x hk hx _ => (World.putObj_heap_other (by omega)).trans hx⟩
structure BestJ (w0 : World) (bb fb mb : Nat) (bf : Value) (s : Ch × Nat) (W : World) : Prop where
  first : Cells2 W fb s.1
  ffree : ∀ o, W.frozen? ⟨fb, o, none⟩ = false
  many : W.cell? ⟨mb, 0, none⟩ = some (.int .i64 s.2)
  mfree : W.frozen? ⟨mb, 0, none⟩ = false
  fn : W.cell? ⟨bb, 0, none⟩ = some bf
  ext : Below fb w0 W
theorem BestJ.later {w0 : World} {bb fb mb B : Nat} {bf : Value} {s : Ch × Nat} {A W : World} (h : BestJ w0 bb fb mb bf s A) (hx : Below B A W) (h1 : bb < B) (h2 : fb < B) (h3 : mb < B) : BestJ w0 bb fb mb bf s W :=
  ⟨⟨(hx.cell (p := ⟨fb, 0, none⟩) h2).trans h.first.c0, (hx.cell (p := ⟨fb, 1, none⟩) h2).trans h.first.c1⟩, fun o => (hx.frozen (p := ⟨fb, o, none⟩) h2).trans (h.ffree o), (hx.cell (p := ⟨mb, 0, none⟩) h3).trans h.many, (hx.frozen (p := ⟨mb, 0, none⟩) h3).trans h.mfree, (hx.cell (p := ⟨bb, 0, none⟩) h1).trans h.fn, h.ext.trans (hx.mono (Nat.le_of_lt h2))⟩
theorem BestJ.kept {w0 : World} {bb fb mb : Nat} {bf : Value} {s : Ch × Nat} {W : World} (h : BestJ w0 bb fb mb bf s W) (h1 : bb < fb) (h2 : fb < mb) : BestJ w0 bb fb mb bf (s.1, s.2 + 1) (W.setCell ⟨mb, 0, none⟩ (.int .i64 ((s.2 : Int) + 1))) :=
  ⟨⟨(World.cell?_setCell_other _ _ _ _ (fun e => by have := (Addr.mk.inj e).1; omega)).trans h.first.c0, (World.cell?_setCell_other _ _ _ _ (fun e => by have := (Addr.mk.inj e).1; omega)).trans h.first.c1⟩, fun o => by simpa [go_sem] using h.ffree o, World.cell?_setCell_same _ _ _ h.many, by simpa [go_sem] using h.mfree, (World.cell?_setCell_other _ _ _ _ (fun e => by have := (Addr.mk.inj e).1; omega)).trans h.fn, h.ext.setCell (p := ⟨mb, 0, none⟩) (Nat.le_of_lt h2) _⟩
theorem BestJ.took {w0 : World} {bb fb mb : Nat} {bf : Value} {s : Ch × Nat} {W : World} (h : BestJ w0 bb fb mb bf s W) (h1 : bb < fb) (h2 : fb < mb) (x : Ch) : BestJ w0 bb fb mb bf (x, s.2) (set2 W fb x) :=
  ⟨set2_cells h.first x, fun o => (frozen_set2 _).trans (h.ffree o), (cell_set2_other (p := ⟨mb, 0, none⟩) (Nat.ne_of_gt h2)).trans h.many, (frozen_set2 _).trans h.mfree, (cell_set2_other (p := ⟨bb, 0, none⟩) (Nat.ne_of_lt h1)).trans h.fn, (h.ext.setCell (p := ⟨fb, 0, none⟩) (Nat.le_refl _) _).setCell (p := ⟨fb, 1, none⟩) (Nat.le_refl _) _⟩
def fewerF : Value := .func (.func 86) #[] #[]
abbrev zeroCh : Ch := (0, 0)

set_option maxRecDepth 100000 in
set_option maxHeartbeats 1000000 in
theorem bestH_any (gf : Nat) (lb : Array Value) (xs : List Ch) (hxs : xs.length ≤ 100000) (w : World) (heg : ∀ args w, (callFunc gf args).run Tryz.prog w = .ok (.enter gf args) w)
    (hseq : ∀ w', Ext w w' → w.heap.size + 4 ≤ w'.heap.size → SeqOwn 3 Tryz.prog gf lb (fun c => #[chV c]) (KeptM (w.heap.size + 2) (w.heap.size + 4)) xs w') :
    Calls Tryz.prog 83 #[.func (.func gf) #[] lb, fewerF] w fun e w' => e = .returned (.tuple #[chV (pickB fewCh zeroCh xs).1, .int .i64 xs.length]) ∧ Ext w w' := by
  refine (callsIn_wide (n := 4)).1 (callsIn_of_wp_marks Tryz.func83 rfl trivial ?_ rfl)
  simp only [Tryz.ntmps83, List.size_toArray, List.length_cons, List.length_nil, Nat.reduceAdd, Nat.reduceSub, Array.replicate_succ, Array.replicate_zero, List.push_toArray, List.append_toArray, List.nil_append, List.cons_append]
  refine wpIn_wide.2 ?_
  unfold fewerF
  go_wp2
  obtain ⟨W0, hW0⟩ : ∃ W0, W0 = ((((w.alloc (.cells #[.func (.func 86) #[] #[]] 163)).alloc (.cells #[.int .i64 0, .int .i64 0] 155)).alloc (.cells #[.int .i64 0, .int .i64 0] 155)).alloc (.cells #[.int .i64 0] 3)) := ⟨_, rfl⟩
  have x0 : Ext w W0 := by rw [hW0]; exact (((ext_alloc _ _).alloc _).alloc _).alloc _
  have z0 : W0.heap.size = w.heap.size + 4 := by rw [hW0]; simp
  have c0 : BestJ W0 w.heap.size (w.heap.size + 2) (w.heap.size + 3) fewerF (pickB fewCh zeroCh []) W0 :=
    ⟨⟨by rw [hW0]; simp [go_sem, pickB], by rw [hW0]; simp [go_sem, pickB]⟩, fun o => by rw [hW0]; simp [go_sem], by rw [hW0]; simp [go_sem, pickB], by rw [hW0]; simp [go_sem], by rw [hW0]; simp [go_sem, fewerF], Below.refl _ _⟩
  have r0 : Cells2 W0 (w.heap.size + 1) zeroCh := ⟨by rw [hW0]; simp [go_sem], by rw [hW0]; simp [go_sem]⟩
  have rf : ∀ o, W0.frozen? ⟨w.heap.size + 1, o, none⟩ = false := fun o => by rw [hW0]; simp [go_sem]
  rw [← hW0]
  clear hW0
  have hsq := hseq W0 x0 (by omega)
  refine (wpIn_wide (n := 4)).1 ?_
  refine wpIn_seqOwn (by omega) rfl heg hsq (fun h k => KeptM.trans h k) ?kb (Below.refl _ _) (fun _ => rfl)
    (fun pre W => BestJ W0 w.heap.size (w.heap.size + 2) (w.heap.size + 3) fewerF (pickB fewCh zeroCh pre) W) ?hI c0
    (fun x a' W => ∃ tb, w.heap.size + 4 ≤ tb ∧ a' = { tmps := #[.func (.func gf) #[] lb, .func (.func 86) #[] #[], undef, .pointer (some ⟨w.heap.size, 0, none⟩), .pointer (some ⟨w.heap.size + 1, 0, none⟩), .int .i64 0, .pointer (some ⟨w.heap.size + 1 + 1, 0, none⟩), .pointer (some ⟨w.heap.size + 1 + 1 + 1, 0, none⟩), .pointer (some ⟨tb, 0, none⟩), .func (.func gf) #[] lb, chV x, undef, undef, undef, undef, undef, undef, undef, undef, undef, undef, undef, undef, undef], defers := [] } ∧ Cells2 W tb x) ?hAx ?assign ?body ?done
  case kb => exact fun W l o o' hl h hc _ => KeptM.putObj h hc (by omega)
  case hI => exact fun s A B hx h => h.later hx (by omega) (by omega) (by omega)
  case hAx =>
    rintro x a' A l o' hl ⟨o, ho, hc⟩ ⟨tb, h1, h2, h3⟩
    have hk : KeptO 0 0 A (A.putObj l o') := KeptO.putObj ho hc
    exact ⟨tb, h1, h2, hk.cell (.inr (Nat.zero_le _)) h3.c0, hk.cell (.inr (Nat.zero_le _)) h3.c1⟩
  case assign =>
    intro l pre x W K hI hK
    have hz := hI.ext.size
    unfold chV
    gi_wp2
    refine hK _ _ ((KeepsOthers.alloc _ _).from _) ((ext_alloc _ _).keptM _ _) (hI.later ((ext_alloc _ _).below) (by omega) (by omega) (by omega)) ⟨W.heap.size, by omega, rfl, ⟨by simp [go_sem], by simp [go_sem]⟩⟩
  case body =>
    rintro l pre x a' W hI ⟨tb, htb, rfl, htc⟩ hpre
    have hz := hI.ext.size
    have hple : pre.length < xs.length := by have := hpre.length_le; simp at this; omega
    have hpm := pickB_many fewCh zeroCh pre
    have hnext := pickB_snoc fewCh zeroCh pre x
    generalize hs : pickB fewCh zeroCh pre = st at *
    obtain ⟨sf, sm⟩ := st
    simp only at hpm hnext
    subst hpm
    have Hnext := Lib.hid hnext
    have Hpre := Lib.hid hpre
    have hIk := hI
    obtain ⟨⟨h1, h1'⟩, h2, h3, h4, h5, h6⟩ := hI
    simp only at h1 h1' h3
    have f0 : W.cell? ⟨w.heap.size + 1 + 1, 0, none⟩ = some (.int .i64 (sf.1 : Nat)) := h1
    have f1 : W.cell? ⟨w.heap.size + 1 + 1, 1, none⟩ = some (.int .i64 (sf.2 : Nat)) := h1'
    have ff : ∀ o, W.frozen? ⟨w.heap.size + 1 + 1, o, none⟩ = false := h2
    have g0 : W.cell? ⟨w.heap.size + 1 + 1 + 1, 0, none⟩ = some (.int .i64 pre.length) := h3
    have gf' : W.frozen? ⟨w.heap.size + 1 + 1 + 1, 0, none⟩ = false := h4
    obtain ⟨t0, t1⟩ := htc
    have wp : IntKind.i64.wrap ((pre.length : Int) + 1) = (pre.length : Int) + 1 := IntWalk.i64_in _ (by omega)
    clear hnext hpre hs h1 h1' h2 h3 h4 hseq hsq c0 r0 rf hxs
    unfold chV fewerF at *
    by_cases hp0 : pre.length = 0
    · have k0 : ((pre.length : Int) == 0) = true := by simp [hp0]
      have Hp0 := Lib.hid hp0
      clear hp0
      gi_wp2
      refine ⟨fun _ h => (by cases h), ?_⟩
      gi_wp2
      show goesOn _ _ _ _ _ .normal _ ((set2 W (w.heap.size + 2) x).setCell ⟨w.heap.size + 3, 0, none⟩ (.int .i64 ((pre.length : Int) + 1)))
      refine ⟨set2_keeps.trans ((KeepsOthers.setCell _ _ _).from _), (set2_kept (KeptM.refl _ _ _) (by omega) (by omega) x).setIn (by simp) (by simp) _, ?_⟩
      show BestJ _ _ _ _ _ (pickB fewCh zeroCh (pre ++ [x])) _
      rw [Hnext.out, if_pos (.inl Hp0.out)]
      exact (hIk.took (by omega) (by omega) x).kept (by omega) (by omega)
    · have k0 : ((pre.length : Int) == 0) = false := by simpa using hp0
      have Hp0 := Lib.hid hp0
      clear hp0
      have hbf := fun w => fewCh_any x sf w
      unfold chV at hbf
      gi_wp2_with fail
      refine ⟨trivial, ?_⟩
      refine (CallsIn.inRound l (callsIn_wide.2 (hbf W))).mono ?_
      rintro e w1 ⟨rfl, hx1⟩
      replace f0 := hx1.cell f0
      replace f1 := hx1.cell f1
      replace t0 := hx1.cell t0
      replace t1 := hx1.cell t1
      replace ff : ∀ o, w1.frozen? ⟨w.heap.size + 1 + 1, o, none⟩ = false := fun o => (hx1.frozen (p := ⟨w.heap.size + 1 + 1, o, none⟩) (by have := cell_lt g0; simp at this ⊢; omega)).trans (ff o)
      replace g0 := hx1.cell g0
      replace gf' : w1.frozen? ⟨w.heap.size + 1 + 1 + 1, 0, none⟩ = false := (hx1.frozen (p := ⟨w.heap.size + 1 + 1 + 1, 0, none⟩) (by simp; omega)).trans gf'
      have hI1 := hIk.later hx1.below (by omega) (by omega) (by omega)
      have hz1 := hx1.size
      cases hb : fewCh x sf
      · have Hb := Lib.hid hb
        clear hb hbf
        gi_wp2
        show goesOn _ _ _ _ _ .normal _ (w1.setCell ⟨w.heap.size + 3, 0, none⟩ (.int .i64 ((pre.length : Int) + 1)))
        refine ⟨(hx1.keepsFrom _).trans ((KeepsOthers.setCell _ _ _).from _), (hx1.keptM _ _).setIn (by simp) (by simp) _, ?_⟩
        show BestJ _ _ _ _ _ (pickB fewCh zeroCh (pre ++ [x])) _
        rw [Hnext.out, if_neg (by rintro (h | h); exact Hp0.out h; rw [Hb.out] at h; cases h)]
        exact hI1.kept (by omega) (by omega)
      · have Hb := Lib.hid hb
        clear hb hbf
        gi_wp2
        show goesOn _ _ _ _ _ .normal _ ((set2 w1 (w.heap.size + 2) x).setCell ⟨w.heap.size + 3, 0, none⟩ (.int .i64 ((pre.length : Int) + 1)))
        refine ⟨(hx1.keepsFrom _).trans (set2_keeps.trans ((KeepsOthers.setCell _ _ _).from _)), (set2_kept (hx1.keptM _ _) (by omega) (by omega) x).setIn (by simp) (by simp) _, ?_⟩
        show BestJ _ _ _ _ _ (pickB fewCh zeroCh (pre ++ [x])) _
        rw [Hnext.out, if_pos (.inr Hb.out)]
        exact (hI1.took (by omega) (by omega) x).kept (by omega) (by omega)
  case done =>
    intro D W hD hI hDm
    have hz := hI.ext.size
    have hpm := pickB_many fewCh zeroCh xs
    generalize hs : pickB fewCh zeroCh xs = st at *
    obtain ⟨sf, sm⟩ := st
    simp only at hpm
    subst hpm
    obtain ⟨⟨h1, h1'⟩, h2, h3, h4, h5, h6⟩ := hI
    simp only at h1 h1' h3
    have f0 : W.cell? ⟨w.heap.size + 1 + 1, 0, none⟩ = some (.int .i64 (sf.1 : Nat)) := h1
    have f1 : W.cell? ⟨w.heap.size + 1 + 1, 1, none⟩ = some (.int .i64 (sf.2 : Nat)) := h1'
    have g0 : W.cell? ⟨w.heap.size + 1 + 1 + 1, 0, none⟩ = some (.int .i64 xs.length) := h3
    have hr : Cells2 W (w.heap.size + 1) zeroCh := ⟨(h6.cell (p := ⟨w.heap.size + 1, 0, none⟩) (by simp)).trans r0.c0, (h6.cell (p := ⟨w.heap.size + 1, 1, none⟩) (by simp)).trans r0.c1⟩
    have q0 := hr.c0
    have q1 := hr.c1
    have hrf : ∀ o, W.frozen? ⟨w.heap.size + 1, o, none⟩ = false := fun o => (h6.frozen (p := ⟨w.heap.size + 1, o, none⟩) (by simp)).trans (rf o)
    have xW : Ext w W := ⟨h6.os.trans x0.os, h6.tape.trans x0.tape, h6.output.trans x0.output, by omega, fun k hk => (h6.block k (by omega)).trans (x0.block k hk)⟩
    have hset := set2_cells hr sf
    have hDs : ((set2 W (w.heap.size + 1) sf).drew).heap[D]? = some (.deferred (some [])) := (set2_other (by omega)).trans hDm
    have xs5 : Ext w (set2 W (w.heap.size + 1) sf) := (xW.setCell (p := ⟨w.heap.size + 1, 0, none⟩) (by simp) _).setCell (p := ⟨w.heap.size + 1, 1, none⟩) (by simp) _
    obtain ⟨Ws, hWs⟩ : ∃ Ws, set2 W (w.heap.size + 1) sf = Ws := ⟨_, rfl⟩
    rw [hWs] at hset hDs xs5
    have hgr := grownBy_putObj' Ws.drew D (.deferred none)
    have E0 := Lib.hid (cell_kept (show Ws.drew.cell? ⟨w.heap.size + 1, 0, none⟩ = _ from hset.c0) hgr (fun r e => by cases e; exact ⟨_, hDs, rfl⟩))
    have E1 := Lib.hid (cell_kept (show Ws.drew.cell? ⟨w.heap.size + 1, 1, none⟩ = _ from hset.c1) hgr (fun r e => by cases e; exact ⟨_, hDs, rfl⟩))
    have x5 : Ext w (Ws.drew.putObj D (.deferred none)) := Ext.grown xs5.drew hgr (fun r e => by cases e; omega)
    have HD := Lib.hid hDs
    have HX := Lib.hid x5
    unfold set2 at hWs
    have HWs := Lib.hid hWs
    clear hset hDs hgr xs5 x5 hseq hsq c0 r0 rf h1 h1' h2 h3 h4 h5 h6 hr hWs
    simp only [Int.natCast_zero] at q0 q1
    go_wp2_with fail
    go_region
    go_wp2
    rw [HWs.out]
    refine ⟨by simp, .inl ⟨D, _, rfl, run_takeDeferred HD.out, ?_⟩⟩
    have e0 := E0.out
    have e1 := E1.out
    have hx := HX.out
    generalize (Ws.drew.putObj D (.deferred none)) = Wf at *
    refine ⟨.tuple #[chV sf, .int .i64 xs.length], by simp [results, Tryz.results83, go_sem, e0, e1, chV], by rw [hs], hx⟩
end Go.Proofs.YtnfbhicoknpojaaGreat
