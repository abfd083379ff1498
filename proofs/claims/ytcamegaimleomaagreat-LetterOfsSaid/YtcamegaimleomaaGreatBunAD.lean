/-
  WHAT letters RETURNS: the letters of a spelling, one behind the other. In a book without an error.
  THE ROOMS OF A FORM: rooms of the program.
  A LIST OF WORDS APPENDED to a row of words of the call's own; and the letter of a form and fills: filled of the program.
  THE LETTER OF A FORM AND FILLS: filled of the program.
  THE ERROR OF WHAT IS PUT INTO THE ROOMS OF A FORM: fillsError of the program.
  WHAT shortest RETURNS: for each sound the first letter that gives it.
  WHAT IS SO OF A BOOK WITHOUT AN ERROR. Plain facts.
  WHAT IS SO OF A SHELF WITHOUT AN ERROR. Plain facts.
  A LETTER THAT IS MADE: Make of the program.
  WHERE THE WORDS OF A LETTER CAN STAND: given and part.slots of the program.
  WHERE THE WORDS OF A PART CAN STAND: part.slots of the program.
-/
import Derived.Test.YtcamegaimleomaaGreatBunAC
import Derived.Laws.OwnMore
import Derived.Maps.AppendAt
import Derived.Outline
import Derived.Laws.IdiomStrings
namespace Go.Proofs.YtcamegaimleomaaGreat
set_option linter.unusedSimpArgs false
set_option linter.unusedVariables false
open Go.RowKit
set_option linter.unusedSimpArgs false

def letterOf (ls : List Letter) (s : ByteArray) (k : Nat) : Letter := (ls.find? fun y => y.c == byteAt s k).getD ⟨0, 0, true⟩
def lettersTo (ls : List Letter) (s : ByteArray) (k : Nat) : List Letter := (List.range k).map fun j => letterOf ls s j
def lettersM (ls : List Letter) (s : ByteArray) : List Letter := lettersTo ls s s.size
theorem lettersTo_succ (ls : List Letter) (s : ByteArray) (k : Nat) : lettersTo ls s (k + 1) = lettersTo ls s k ++ [letterOf ls s k] := by
  simp [lettersTo, List.range_succ]
theorem lettersTo_len (ls : List Letter) (s : ByteArray) (k : Nat) : (lettersTo ls s k).length = k := by simp [lettersTo]
/-- the place of a letter that is known -/
theorem idxM_known (ls : List Letter) (s : ByteArray) (k : Nat) (h : knownB ls s k = true) :
    ∃ p : Nat, ∃ hp : p < ls.length, idxM (fun y => y.c == byteAt s k) ls = p ∧ ls[p] = letterOf ls s k := by
  unfold knownB at h
  cases hf : ls.findIdx? (fun y => y.c == byteAt s k) with
  | none =>
    rw [List.findIdx?_eq_none_iff] at hf
    rw [List.any_eq_true] at h
    obtain ⟨x, hx, hc⟩ := h
    rw [hf x hx] at hc; cases hc
  | some p =>
    have hf' := hf
    rw [List.findIdx?_eq_some_iff_getElem] at hf'
    obtain ⟨hp, h1, h2⟩ := hf'
    refine ⟨p, hp, by simp [idxM, hf], ?_⟩
    have : ls.find? (fun y => y.c == byteAt s k) = some ls[p] := by
      rw [List.find?_eq_some_iff_getElem]
      exact ⟨h1, p, hp, rfl, fun j hj => by simpa using h2 j hj⟩
    rw [letterOf, this]; rfl
def cellsL (l : List Letter) : List Value := l.flatMap fun x => [.int .u8 x.c, .int .i64 x.sounds, .bool x.silent]
theorem cellsL_len (l : List Letter) : (cellsL l).length = l.length * 3 := by
  induction l with
  | nil => rfl
  | cons x l ih => simp only [cellsL, List.flatMap_cons, List.length_append, List.length_cons, List.length_nil] at *; omega
theorem cellsL_snoc (l : List Letter) (x : Letter) : cellsL (l ++ [x]) = cellsL l ++ [.int .u8 x.c, .int .i64 x.sounds, .bool x.silent] := by simp [cellsL]
theorem cellsL_get (l : List Letter) (i : Nat) (h : i < l.length) : (cellsL l)[i * 3]? = some (.int .u8 l[i].c) ∧ (cellsL l)[i * 3 + 1]? = some (.int .i64 l[i].sounds) ∧ (cellsL l)[i * 3 + 2]? = some (.bool l[i].silent) := by
  induction l generalizing i with
  | nil => simp at h
  | cons x l ih =>
    cases i with
    | zero => simp [cellsL]
    | succ i =>
      have := ih i (by simpa using h)
      have e : (i + 1) * 3 = i * 3 + 3 := by omega
      rw [e]
      simpa [cellsL] using this
theorem LettersAt.of_own {w : World} {B : Nat} {e : TypeId} {v : Value} {l : List Letter} (h : w.ownsRow B e 3 v l.length (cellsL l)) (hI : ∀ x ∈ l, U8 x.c ∧ I64 x.sounds) : LettersAt w v l := by
  rcases h.2 with ⟨rfl, hn⟩ | ⟨g, cap, cur, rfl, hb, hg, hnc, hcm, hcs, htake⟩
  · have : l = [] := List.eq_nil_of_length_eq_zero hn
    subst this; exact SliceAt.nil
  · refine ⟨_, _, rfl, hnc, by simpa [maxLen] using hcm, fun i hi => ⟨g, 0, rfl, ?_⟩⟩
    obtain ⟨c0, c1, c2⟩ := cellsL_get l i hi
    have hh := fun j u hu => h.cells (g := g) rfl j u hu
    have e : ∀ j, (⟨g, 0, none⟩ : Addr).add j = ⟨g, 0 + j, none⟩ := fun j => by unfold Addr.add; split <;> simp_all
    have r0 := hh _ _ c0
    have r1 := hh _ _ c1
    have r2 := hh _ _ c2
    rw [e] at r0 r1 r2
    exact ⟨r0, r1, r2, hI _ (List.getElem_mem hi)⟩

theorem LettersAt.fine {w : World} {v : Value} {ls : List Letter} (h : LettersAt w v ls) : ∀ x ∈ ls, U8 x.c ∧ I64 x.sounds := by
  intro x hx
  obtain ⟨i, hi, rfl⟩ := List.getElem_of_mem hx
  obtain ⟨_, _, -, -, -, hh⟩ := h
  obtain ⟨_, _, -, -, -, -, hu⟩ := hh i hi
  exact hu
theorem lettersTo_all (P : Letter → Prop) (ls : List Letter) (s : ByteArray) (k : Nat) (h : ∀ x ∈ ls, P x) (h0 : P ⟨0, 0, true⟩) : ∀ x ∈ lettersTo ls s k, P x := by
  intro x hx
  simp only [lettersTo, List.mem_map, letterOf] at hx
  obtain ⟨j, -, rfl⟩ := hx
  cases hf : ls.find? fun y => y.c == byteAt s j with
  | none => exact h0
  | some y => exact h y (List.mem_of_find?_eq_some hf)
theorem Ext.grownBy {w w' : World} (h : Ext w w') : w.grownBy w' none := ⟨Below.os h, Below.tape h, Below.output h, Below.size h, fun k hk _ => Below.block h k hk⟩
theorem Ext.owns {w w' : World} {B : Nat} {e : TypeId} {size : Nat} {v : Value} {n : Nat} {xs : List Value} (h : w.ownsRow B e size v n xs) (hx : Ext w w') : w'.ownsRow B e size v n xs :=
  h.kept hx.grownBy (by cases v.ownBlock <;> simp)
theorem cell_three_new (w : World) (a b c : Value) (t : TypeId) : ∀ j u, [a, b, c][j]? = some u → (w.alloc (.cells #[a, b, c] t)).cell? ((⟨w.heap.size, 0, none⟩ : Addr).add j) = some u := by
  intro j u hj
  match j, hj with
  | 0, hj => simp at hj; subst hj; simp [go_sem, Addr.add]
  | 1, hj => simp at hj; subst hj; simp [go_sem, Addr.add]
  | 2, hj => simp at hj; subst hj; simp [go_sem, Addr.add]
theorem snoc_letters {w : World} {B : Nat} {e : TypeId} {v : Value} {l l' : List Letter} {x : Letter} (hb : l' = l ++ [x]) (h : w.ownsRow B e 3 v (l.length + 1) (cellsL l ++ [.int .u8 x.c, .int .i64 x.sounds, .bool x.silent])) :
    w.ownsRow B e 3 v l'.length (cellsL l') := by
  subst hb
  rw [cellsL_snoc, List.length_append]
  exact h
theorem infoLetter : (Tryz.prog.info? 204).map (fun i => (i.zero, i.size, i.bytes)) = some (some (.agg #[.int .u8 0, .int .i64 0, .bool false]), 3, 24) := by kernel_rfl

set_option maxRecDepth 100000 in
set_option maxHeartbeats 1000000 in
theorem letters_any (bv : Value) (b : Book) (n : Nat) (hn : n < b.spellings.length) (hal : 0 ≤ (b.spellings[n]).alphabet ∧ (b.spellings[n]).alphabet < b.alphabets.length)
    (hsz : (b.spellings[n]).text.size ≤ 5) (hok : ∀ k, k < (b.spellings[n]).text.size → knownB (lettersOf b.alphabets (b.spellings[n]).alphabet) (b.spellings[n]).text k = true) (w : World) (hb : BookAt w bv b) :
    Calls Tryz.prog 162 #[bv, .int .i64 n] w
      fun e w' => ∃ v, e = .returned v ∧ LettersAt w' v (lettersM (lettersOf b.alphabets (b.spellings[n]).alphabet) (b.spellings[n]).text) ∧ Ext w w' := by
  obtain ⟨ba, bc, bs, bd, rfl, -, hbl, hbc, hsl, hsc, -, hA, hP⟩ := hb.open
  obtain ⟨_, _, he, -, -, hh⟩ := hP
  obtain ⟨sb, so, rfl, s0, s1, hai, hts⟩ := hh n hn
  cases he
  clear hh
  generalize b.spellings[n] = x at *
  have hlt : x.alphabet.toNat < b.alphabets.length := by omega
  obtain ⟨_, _, he, -, -, hh⟩ := hA
  obtain ⟨ab, ao, rfl, -, -, lv, a1, hlv⟩ := hh x.alphabet.toNat hlt
  cases he
  clear hh
  have hls : lettersOf b.alphabets x.alphabet = (b.alphabets[x.alphabet.toNat]).letters := by rw [lettersOf, List.getElem?_eq_getElem hlt]
  rw [← hls] at hlv
  generalize lettersOf b.alphabets x.alphabet = ls at *
  clear hls
  have Hok := Lib.hid hok
  clear hok
  obtain ⟨la, lc, rfl, hllc, hlcm⟩ := hlv.shape
  have z1 := cell_lt s0
  have z2 := cell_lt a1
  have Hfine := Lib.hid (lettersTo_all (fun x => U8 x.c ∧ I64 x.sounds) ls x.text x.text.size hlv.fine (by simp [U8, I64]))
  obtain ⟨i0, hi, hz0, hz1, hz2⟩ := info_parts infoLetter
  go_enter Tryz.func162, Tryz.ntmps162
  go_wp2
  go_loopw [7, 26] (fun v i wr => ∃ k : Nat, k ≤ x.text.size ∧ i = .int .i64 k ∧ Ext w wr ∧ wr.cell? ⟨w.heap.size + 1, 1, none⟩ = some (.string x.text) ∧
    wr.ownsRow (w.heap.size + 2) 204 3 v (lettersTo ls x.text k).length (cellsL (lettersTo ls x.text k))) (fun _ i _ => x.text.size - (intOf i).toNat)
  case atStart => exact ⟨0, Nat.zero_le _, rfl, (by first | (with_reducible exact Ext.refl _) | (with_reducible assumption) | (show Below _ _ _; go_grown; done)), by simp [go_sem], World.ownsRow_nil _ _ _ _⟩
  case round =>
    obtain ⟨k, hk, rfl, hx, ht, hown⟩ := hrel
    by_cases hkt : k < x.text.size
    · have hbe := byteAt_eq x.text k hkt
      obtain ⟨p, hp, hidx, hpl⟩ := idxM_known ls x.text k (Hok.out k hkt)
      rw [hbe] at hidx
      obtain ⟨_, _, he, -, -, hh⟩ := hlv.ext hx
      obtain ⟨lb, lo, rfl, c0, c1, c2, hu, hI⟩ := hh p hp
      cases he
      rw [hpl] at c0 c1 c2 hu hI
      have hst := lettersTo_succ ls x.text k
      have hlen := lettersTo_len ls x.text k
      generalize letterOf ls x.text k = y at *
      have Hst := Lib.hid hst
      have Hidx := Lib.hid hidx
      have Hlen := Lib.hid hlen
      clear hst hidx hlen hbe hh hpl
      go_wp2_with fail
      refine (letterAt_any ls _ _ _ (hlv.ext hx)).mono ?_
      rintro e w1 ⟨rfl, hx1⟩
      rw [Hidx.out]
      replace c0 := hx1.cell c0
      replace c1 := hx1.cell c1
      replace c2 := hx1.cell c2
      replace ht := hx1.cell ht
      have z3 := cell_lt c0
      have z4 := cell_lt ht
      have hx2 := hx.trans hx1
      have hpl : (p : Int) < ls.length := by omega
      have hown1 := Ext.owns hown hx1
      have hml : (lettersTo ls x.text k).length ≤ 5 := by rw [Hlen.out]; omega
      clear hown
      have hU := Lib.hid hu
      have hII := Lib.hid hI
      clear hu hI hlv
      go_wp2_with ((at_builtin; refine wpList_append_own _ rfl _ _ 245 rfl (w.heap.size + 2) 204 i0 (.agg #[.int .u8 0, .int .i64 0, .bool false]) 3 24 Tryz.underlying245 hi hz0 hz1 hz2 rfl (by decide) _ _ _ rfl (hown1.alloc _) ⟨w1.heap.size, 0, none⟩ 1 1 [.int .u8 y.c, .int .i64 y.sounds, .bool y.silent] rfl rfl (cell_three_new _ _ _ _ _) (by simp [Value.oneCell']) (by unfold maxLen; omega) (by omega) (by simp; omega) ?_; intro v' w2 hown' hgrow _))
      have hx3 : Ext w w2 := Ext.grown (hx2.alloc _) hgrow fun k hk => Nat.le_trans (by omega) (hown1.lt k hk).1
      have ht2 : w2.cell? ⟨w.heap.size + 1, 1, none⟩ = some (.string x.text) := hgrow.cell (by simpa [go_sem, z4] using ht) (fun e => by
        have := (hown1.lt (w.heap.size + 1) e.symm).1
        omega)
      go_roundw
      case rel => exact ⟨k + 1, by omega, by go_num, hx3, ht2, snoc_letters Hst.out hown'⟩
      case measure => simp [intOf]; omega
    · have hke : k = x.text.size := by omega
      subst hke
      go_wp2
      go_ret
      exact ⟨_, rfl, LettersAt.of_own hown Hfine.out, hx⟩
end Go.Proofs.YtcamegaimleomaaGreat

namespace Go.Proofs.YtcamegaimleomaaGreat
set_option linter.unusedSimpArgs false
set_option linter.unusedVariables false
open Go.RowKit
set_option linter.unusedVariables false

abbrev EntP := Value × Int × Int
def cellsP (es : List EntP) : List Value := es.flatMap fun e => [e.1, .int .i64 e.2.1, .int .i64 e.2.2]
theorem cellsP_len (l : List EntP) : (cellsP l).length = l.length * 3 := by
  induction l with
  | nil => rfl
  | cons x l ih => simp only [cellsP, List.flatMap_cons, List.length_append, List.length_cons, List.length_nil] at *; omega
theorem cellsP_get (l : List EntP) (i : Nat) (h : i < l.length) : (cellsP l)[i * 3]? = some l[i].1 ∧ (cellsP l)[i * 3 + 1]? = some (.int .i64 l[i].2.1) ∧ (cellsP l)[i * 3 + 2]? = some (.int .i64 l[i].2.2) := by
  induction l generalizing i with
  | nil => simp at h
  | cons x l ih =>
    cases i with
    | zero => simp [cellsP]
    | succ i =>
      have := ih i (by simpa using h)
      have e : (i + 1) * 3 = i * 3 + 3 := by omega
      rw [e]
      simpa [cellsP] using this
theorem cellsP_snoc (l : List EntP) (u : Value) (a b : Int) : cellsP (l ++ [(u, a, b)]) = cellsP l ++ [u, .int .i64 a, .int .i64 b] := by simp [cellsP]
/-- what a row of parts holds -/
def EntsP (w : World) (es : List EntP) (l : List Part) : Prop := es.length = l.length ∧ ∀ i (h : i < l.length) (h' : i < es.length), StrsAt w es[i].1 l[i].words ∧ es[i].2 = (l[i].lo, l[i].hi) ∧ I64 l[i].lo ∧ I64 l[i].hi
theorem EntsP.nil {w : World} : EntsP w [] [] := ⟨rfl, fun i h => by simp at h⟩
theorem EntsP.ext {w w' : World} {es : List EntP} {l : List Part} (h : EntsP w es l) (hx : Ext w w') : EntsP w' es l := ⟨h.1, fun i h1 h2 => by obtain ⟨a, b⟩ := h.2 i h1 h2; exact ⟨a.ext hx, b⟩⟩
theorem EntsP.snoc {w : World} {es : List EntP} {l : List Part} (h : EntsP w es l) {x : Part} {u : Value} (hs : StrsAt w u x.words) (h1 : I64 x.lo) (h2 : I64 x.hi) : EntsP w (es ++ [(u, x.lo, x.hi)]) (l ++ [x]) := by
  refine ⟨by simp [h.1], fun i g1 g2 => ?_⟩
  have hle := h.1
  by_cases e : i < l.length
  · rw [List.getElem_append_left (by omega), List.getElem_append_left e]
    exact h.2 i e (by omega)
  · have ei : i = l.length := by simp at g1; omega
    subst ei
    have e1 : (es ++ [(u, x.lo, x.hi)])[l.length] = (u, x.lo, x.hi) := by rw [List.getElem_append_right (by omega)]; simp [hle]
    have e2 : (l ++ [x])[l.length] = x := by rw [List.getElem_append_right (by omega)]; simp
    simp only [e1, e2]
    exact ⟨hs, trivial, h1, h2⟩
theorem PartsAt.of_own {w W : World} {base : Nat} {e : TypeId} {v : Value} {es : List EntP} {l : List Part} (h : W.ownsRow base e 3 v l.length (cellsP es)) (hE : EntsP W es l) : PartsAt W v l := by
  have hcells := fun g hg => h.cells (g := g) hg
  rcases h.2 with ⟨rfl, hn⟩ | ⟨g, cap, cur, rfl, hb, hg, hnc, hcm, hcs, htake⟩
  · have : l = [] := List.eq_nil_of_length_eq_zero hn
    subst this; exact SliceAt.nil
  · refine ⟨_, _, rfl, hnc, by simpa [maxLen] using hcm, fun i hi => ⟨g, 0, rfl, ?_⟩⟩
    have hi2 : i < es.length := by rw [hE.1]; exact hi
    obtain ⟨hs, h2, h3, h4⟩ := hE.2 i hi hi2
    obtain ⟨c0, c1, c2⟩ := cellsP_get es i hi2
    have r0 := hcells g rfl _ _ c0
    have r1 := hcells g rfl _ _ c1
    have r2 := hcells g rfl _ _ c2
    have ea : ∀ j, (⟨g, 0, none⟩ : Addr).add j = ⟨g, 0 + j, none⟩ := fun j => by unfold Addr.add; split <;> simp_all
    rw [ea] at r0 r1 r2
    rw [h2] at r1 r2
    exact ⟨⟨_, r0, hs⟩, r1, r2, h3, h4⟩
theorem infoPart : (Tryz.prog.info? 182).map (fun i => (i.zero, i.size, i.bytes)) = some (some (.agg #[.slice none 0 0, .int .i64 0, .int .i64 0]), 3, 40) := by kernel_rfl
def roomsM (l : List Part) : List Part := l.filter roomyM
theorem rooms_yes (l : List Part) (k : Nat) (h : k < l.length) (hr : roomyM l[k] = true) : roomsM (l.take (k + 1)) = roomsM (l.take k) ++ [l[k]] := by
  unfold roomsM
  rw [List.take_succ_eq_append_getElem h, List.filter_append]
  simp [hr]
theorem rooms_no (l : List Part) (k : Nat) (h : k < l.length) (hr : roomyM l[k] = false) : roomsM (l.take (k + 1)) = roomsM (l.take k) := by
  unfold roomsM
  rw [List.take_succ_eq_append_getElem h, List.filter_append]
  simp [hr]

set_option maxRecDepth 100000 in
set_option maxHeartbeats 2000000 in
theorem rooms_any (fv : Value) (f : Form) (h5 : f.parts.length ≤ 5) (w : World) (hf : FormV w fv f) :
    Calls Tryz.prog 131 #[fv] w fun e w' => ∃ v, e = .returned v ∧ PartsAt w' v (roomsM f.parts) ∧ Ext w w' := by
  obtain ⟨pv, rfl, hns, hp⟩ := hf
  obtain ⟨a, cap, rfl, hlc, hcm⟩ := hp.shape
  obtain ⟨i0, hi, hz0, hz1, hz2⟩ := info_parts infoPart
  go_enter Tryz.func131, Tryz.ntmps131
  go_wp2_with fail
  go_loopw [3, 11] (fun v i wr => ∃ k : Nat, ∃ es : List EntP, k ≤ f.parts.length ∧ i = .int .i64 k ∧ Ext w wr ∧ wr.ownsRow w.heap.size 182 3 v es.length (cellsP es) ∧ EntsP w es (roomsM (f.parts.take k)) ∧ es.length ≤ k) (fun _ i _ => f.parts.length - (intOf i).toNat)
  case atStart => exact ⟨0, [], Nat.zero_le _, rfl, ext_alloc _ _, World.ownsRow_nil _ _ _ _, EntsP.nil, Nat.le_refl _⟩
  case round =>
    obtain ⟨k, es, hk, rfl, hxr, hown, hE, hel⟩ := hrel
    by_cases hlt : k < f.parts.length
    · have k1 : (k : Int) < (f.parts.length : Int) := by omega
      obtain ⟨b, o, rfl, ⟨u, h1, hs⟩, h2, h3, hlo, hhi⟩ := hp.get hlt
      replace h1 := hxr.cell h1
      replace h2 := hxr.cell h2
      replace h3 := hxr.cell h3
      have hyes := rooms_yes f.parts k hlt
      have hno := rooms_no f.parts k hlt
      generalize f.parts[k] = y at *
      obtain ⟨ua, uc, rfl, -⟩ := hs.shape
      have Hyes := Lib.hid hyes
      have Hno := Lib.hid hno
      have HE := Lib.hid hE
      have Hown := Lib.hid hown
      have Hs := Lib.hid hs
      have hszr := hxr.size
      clear hyes hno hE hown hs
      go_wp2_with fail
      refine (isRoom_any ua _ uc y.lo y.hi _).mono ?_
      rintro e w1 ⟨rfl, hx1⟩
      have hx2 : Ext w w1 := ((hxr.alloc _).alloc _).trans hx1
      have d0 : w1.cell? ⟨wr.heap.size + 1, 0, none⟩ = some (.slice ua y.words.length uc) := hx1.cell (by simp [go_sem])
      have d1 : w1.cell? ⟨wr.heap.size + 1, 1, none⟩ = some (.int .i64 y.lo) := hx1.cell (by simp [go_sem])
      have d2 : w1.cell? ⟨wr.heap.size + 1, 2, none⟩ = some (.int .i64 y.hi) := hx1.cell (by simp [go_sem])
      have own1 := Ext.owns (World.ownsRow.alloc (World.ownsRow.alloc Hown.out _) _) hx1
      have hz := hx2.size
      cases hr : roomyM y
      · have e0 : ((y.words.length : Int) == 0) = false := by
          unfold roomyM at hr
          simp at hr ⊢
          exact hr
        rw [e0]
        have Hn := Lib.hid (Hno.out hr)
        clear hr d0 d1 d2
        go_wp2
        go_roundw
        case rel => exact ⟨k + 1, es, by omega, by go_num, hx2, own1, by rw [Hn.out]; exact HE.out, by omega⟩
        case measure => simp [intOf]; omega
      · have e0 : ((y.words.length : Int) == 0) = true := by
          unfold roomyM at hr
          simp at hr ⊢
          exact hr
        rw [e0]
        have Hn := Lib.hid (Hyes.out hr)
        clear hr h1 h2 h3
        go_wp2_with (at_builtin; go_loud (refine wpList_append_own_at _ rfl _ _ 212 rfl w.heap.size 182 i0 (.agg #[.slice none 0 0, .int .i64 0, .int .i64 0]) 3 40 Tryz.underlying212 hi hz0 hz1 hz2 rfl (by decide) u3 es.length (cellsP es) rfl (World.ownsRow.alloc own1 _) ⟨w1.heap.size, 0, none⟩ 1 1 [.slice ua y.words.length uc, .int .i64 y.lo, .int .i64 y.hi] rfl rfl (cell_three_new _ _ _ _ _) (by simp [Value.oneCell']) (by unfold maxLen; omega) (by omega) (by simp; omega) ?_; intro v' w2 hown' hgrow _ _))
        have hx3 : Ext w w2 := Ext.grown (hx2.alloc _) hgrow fun k hk => (own1.lt k hk).1
        go_roundw
        case rel => exact ⟨k + 1, es ++ [(.slice ua y.words.length uc, y.lo, y.hi)], by omega, by go_num, hx3, by rw [List.length_append, cellsP_snoc]; exact hown', by rw [Hn.out]; exact HE.out.snoc Hs.out hlo hhi, by simp; omega⟩
        case measure => simp [intOf]; omega
    · have hke : k = f.parts.length := by omega
      subst hke
      rw [List.take_length] at hE
      have hl := hE.1
      go_wp2
      go_ret
      exact ⟨_, rfl, PartsAt.of_own (w := w) (by rw [← hl]; exact hown) (hE.ext hxr), hxr⟩
end Go.Proofs.YtcamegaimleomaaGreat

namespace Go.Proofs.YtcamegaimleomaaGreat
set_option linter.unusedSimpArgs false
set_option linter.unusedVariables false
open Go.RowKit
set_option linter.unusedVariables false

theorem infoString : (Tryz.prog.info? 9).map (fun i => (i.zero, i.size, i.bytes)) = some (some (.string ByteArray.empty), 1, 16) := by kernel_rfl
/-- a row of words of the call's own -/
def RowW (base : Nat) (l : List ByteArray) (u : Value) (w : World) : Prop := w.ownsRow base 9 1 u l.length (l.map Value.string)
theorem RowW.ext {base : Nat} {l : List ByteArray} {u : Value} {w w' : World} (h : RowW base l u w) (hx : Ext w w') : RowW base l u w' := Ext.owns h hx
theorem RowW.nil {base : Nat} {w : World} : RowW base [] (.slice none 0 0) w := World.ownsRow_nil _ _ _ _
theorem RowW.at_ {base : Nat} {l : List ByteArray} {u : Value} {w : World} (h : RowW base l u w) (hI : ∀ s ∈ l, s.size ≤ 9223372036854775807) : StrsAt w u l := by
  have hcells := fun g hg => h.cells (g := g) hg
  rcases h.2 with ⟨rfl, hn⟩ | ⟨g, cap, cur, rfl, hb, hg, hnc, hcm, hcs, htake⟩
  · have : l = [] := List.eq_nil_of_length_eq_zero hn
    subst this; exact SliceAt.nil
  · refine ⟨_, _, rfl, hnc, by simpa [maxLen] using hcm, fun i hi => ⟨g, 0, rfl, ?_, hI _ (List.getElem_mem hi)⟩⟩
    have := hcells g rfl i (.string l[i]) (by rw [List.getElem?_eq_getElem (by simpa using hi), List.getElem_map])
    rw [show (⟨g, 0, none⟩ : Addr).add i = ⟨g, 0 + i, none⟩ by unfold Addr.add; split <;> simp_all] at this
    simpa using this
theorem StrsAt.sizes {w : World} {v : Value} {l : List ByteArray} (h : StrsAt w v l) : ∀ s ∈ l, s.size ≤ 9223372036854775807 := fun s hs => by
  obtain ⟨i, hi, rfl⟩ := List.getElem_of_mem hs
  obtain ⟨_, _, -, -, -, hh⟩ := h
  obtain ⟨_, _, -, -, h2⟩ := hh i hi
  exact h2
theorem run_append_strs {w : World} (base : Nat) (t ty : TypeId) (i : TypeInfo) (ht : Tryz.prog.underlying t = some (.slice 9)) (hi : Tryz.prog.info? 9 = some i) (hz : i.zero = some (.string ByteArray.empty)) (hsize : i.size = 1) (hby : i.bytes = 16)
    (v : Value) (l0 : List ByteArray) (hown : RowW base l0 v w) (sv : Value) (l : List ByteArray) (hs : StrsAt w sv l) (hb : (l0.length + l.length) * 16 ≤ 140737488355328) (hbase : base ≤ w.heap.size) :
    ∃ v' w', (Builtin.append_ #[t, t] ty #[v, sv]).run Tryz.prog w = .ok v' w' ∧ RowW base (l0 ++ l) v' w' ∧ w.grownBy w' v.ownBlock ∧ (v'.ownBlock = v.ownBlock ∨ v'.ownBlock = some w.heap.size) := by
  obtain ⟨a, cap, rfl, hlc, hcm⟩ := hs.shape
  cases a with
  | none =>
    have hl : l = [] := by
      rcases Nat.eq_zero_or_pos l.length with h | h
      · exact List.eq_nil_of_length_eq_zero h
      · obtain ⟨b, o, e, -⟩ := hs.get h
        cases e
    subst hl
    refine ⟨v, w, ?_, by rw [List.append_nil]; exact hown, World.grownBy.refl _ _, .inl rfl⟩
    rcases hown.2 with ⟨rfl, hn⟩ | ⟨g, cp, cur, rfl, _, _, hnc, _⟩
    · simp [Builtin.append_, run_underlying ht, sizeOf, typeInfo, hi, Builtin.lenOf, Builtin.firstCells]
    · simp [Builtin.append_, run_underlying ht, sizeOf, typeInfo, hi, Builtin.lenOf, Builtin.firstCells, hnc, storeCells]
  | some ad =>
    obtain ⟨v', w', hr, h2, h3, -, h5⟩ := run_append_own_at (P := Tryz.prog) w base t ty 9 i (.string ByteArray.empty) 1 16 ht hi hz hsize hby (by rfl) (by decide) v l0.length (l0.map Value.string) hown ad l.length cap (l.map Value.string) (by simp) (fun j u hu => by
      have hj : j < l.length := by
        rcases Nat.lt_or_ge j l.length with h | h
        · exact h
        · rw [List.getElem?_eq_none (by simpa using h)] at hu; cases hu
      obtain ⟨b, o, e, h1, -⟩ := hs.get hj
      obtain rfl := Option.some.inj e
      rw [List.getElem?_eq_getElem (by simpa using hj), List.getElem_map] at hu
      obtain rfl := Option.some.inj hu
      rw [show (⟨b, o, none⟩ : Addr).add j = ⟨b, o + j * 1, none⟩ by unfold Addr.add; split <;> simp_all]
      exact h1) (fun u hu => by
      obtain ⟨x, -, rfl⟩ := List.mem_map.1 hu
      simp [Value.oneCell']) (by unfold maxLen; omega) hb hbase
    exact ⟨v', w', hr, by unfold RowW; rw [List.length_append, List.map_append]; exact h2, h3, h5⟩
theorem wpList_append_strs {w : World} {ops : Array Oper} {rest : List Oper} {o : Oper} {a : Act} {Q : Exit → Act → World → Prop} (hgd : o.guard = none) (s x : Operand) (t : TypeId)
    (ho : o.op = .call { callee := .builtin .append, args := #[s, x], argTypes := #[t, t] })
    (base : Nat) (i : TypeInfo) (ht : Tryz.prog.underlying t = some (.slice 9)) (hi : Tryz.prog.info? 9 = some i) (hz : i.zero = some (.string ByteArray.empty)) (hsize : i.size = 1) (hby : i.bytes = 16)
    (v : Value) (l0 : List ByteArray) (hs : a.eval s = v) (hown : RowW base l0 v w) (sv : Value) (hxv : a.eval x = sv) (l : List ByteArray) (hl : StrsAt w sv l) (hb : (l0.length + l.length) * 16 ≤ 140737488355328) (hbase : base ≤ w.heap.size)
    (h : ∀ v' w', RowW base (l0 ++ l) v' w' → w.grownBy w' v.ownBlock → (v'.ownBlock = v.ownBlock ∨ v'.ownBlock = some w.heap.size) → wpList Tryz.prog ops Q rest (a.put o.dst v') w') :
    wpList Tryz.prog ops Q (o :: rest) a w := by
  refine wpList_plain hgd fun K hK => ?_
  obtain ⟨v', w', hr, h2, h3, h5⟩ := run_append_strs base t o.type i ht hi hz hsize hby v l0 hown sv l hl hb hbase
  unfold Oper.wp execOp
  simp only [ho, resolve, invoke, builtin, Sem.run_bind, Sem.run_pure, Result.andThen_ok, List.map_toArray, List.map_cons, List.map_nil, hs, hxv, hr]
  exact hK _ _ (h v' w' h2 h3 h5)
end Go.Proofs.YtcamegaimleomaaGreat

namespace Go.Proofs.YtcamegaimleomaaGreat
set_option linter.unusedSimpArgs false
set_option linter.unusedVariables false
open Go.RowKit
set_option linter.unusedVariables false

def stepB (ps : List Part) (k : Nat) (st : List ByteArray × List (List ByteArray)) : List ByteArray × List (List ByteArray) :=
  if roomyM (ps.getD k ⟨[], 0, 0⟩) then (st.1 ++ st.2.headD [], st.2.tail) else (st.1 ++ (ps.getD k ⟨[], 0, 0⟩).words, st.2)
def builtTo (ps : List Part) (fs : List (List ByteArray)) : Nat → List ByteArray × List (List ByteArray)
  | 0 => ([], fs)
  | k + 1 => stepB ps k (builtTo ps fs k)
/-- the letter of a form and fills -/
def builtM (ps : List Part) (fs : List (List ByteArray)) : List ByteArray := (builtTo ps fs ps.length).1
theorem FillsAt.tail {w : World} {b o n c : Nat} {x : List ByteArray} {r : List (List ByteArray)} (h : FillsAt w (.slice (some ⟨b, o, none⟩) n c) (x :: r)) : FillsAt w (.slice (some ⟨b, o + 1, none⟩) r.length (c - 1)) r := by
  obtain ⟨a', cap', e, h2, h3, h4⟩ := h
  obtain ⟨rfl, rfl, rfl⟩ := Value.slice.inj e
  have hc : r.length + 1 ≤ c := h2
  refine ⟨_, _, rfl, by omega, by omega, fun i hi => ⟨b, o + 1, rfl, ?_⟩⟩
  obtain ⟨b', o', e', hr⟩ := h4 (i + 1) (by simp; omega)
  simp only [Option.some.injEq, Addr.mk.injEq, and_true] at e'
  obtain ⟨rfl, rfl⟩ := e'
  rw [show o + 1 + i * 1 = o + (i + 1) * 1 by omega]
  exact hr
theorem FillsAt.none_left {w : World} {v : Value} {a : Option Addr} {c : Nat} (hc : c ≤ 9223372036854775807) : FillsAt w (.slice a 0 c) [] := ⟨a, c, rfl, Nat.zero_le _, hc, fun i h => by simp at h⟩
theorem rooms_count (ps : List Part) (k : Nat) (h : k < ps.length) : (roomsM (ps.take (k + 1))).length = (roomsM (ps.take k)).length + if roomyM ps[k] = true then 1 else 0 := by
  cases hr : roomyM ps[k]
  · rw [rooms_no ps k h hr]; simp
  · rw [rooms_yes ps k h hr]; simp

set_option maxRecDepth 100000 in
set_option maxHeartbeats 2000000 in
theorem filled_any (fv v : Value) (f : Form) (fs : List (List ByteArray)) (h5 : f.parts.length ≤ 5) (h3 : ∀ p ∈ f.parts, p.words.length ≤ 3) (hf3 : ∀ l ∈ fs, l.length ≤ 3) (hn : (roomsM f.parts).length = fs.length) (w : World) (hf : FormV w fv f) (hfs : FillsAt w v fs) :
    Calls Tryz.prog 91 #[fv, v] w fun e w' => ∃ u, e = .returned u ∧ StrsAt w' u (builtM f.parts fs) ∧ Ext w w' := by
  obtain ⟨pv, rfl, hns, hp⟩ := hf
  obtain ⟨a, cap, rfl, hlc, hcm⟩ := hp.shape
  obtain ⟨i0, hi, hz0, hz1, hz2⟩ := info_parts infoString
  go_enter Tryz.func91, Tryz.ntmps91
  go_wp2_with fail
  go_loopw [1, 5, 12] (fun r u i wr => ∃ k : Nat, k ≤ f.parts.length ∧ i = .int .i64 k ∧ Ext w wr ∧ RowW w.heap.size (builtTo f.parts fs k).1 u wr ∧ FillsAt w r (builtTo f.parts fs k).2 ∧ (builtTo f.parts fs k).2.length + (roomsM (f.parts.take k)).length = fs.length ∧ (builtTo f.parts fs k).1.length ≤ 3 * k ∧ (∀ l ∈ (builtTo f.parts fs k).2, l.length ≤ 3) ∧ ∀ s ∈ (builtTo f.parts fs k).1, s.size ≤ 9223372036854775807) (fun _ _ i _ => f.parts.length - (intOf i).toNat)
  case atStart => exact ⟨0, Nat.zero_le _, rfl, ext_alloc _ _, RowW.nil, hfs, by simp [builtTo, roomsM], by simp [builtTo], hf3, by simp [builtTo]⟩
  case round =>
    obtain ⟨k, hk, rfl, hxr, hown, hr, hcnt, hlen, hr3, hsz⟩ := hrel
    by_cases hlt : k < f.parts.length
    · have k1 : (k : Int) < (f.parts.length : Int) := by omega
      obtain ⟨b, o, rfl, ⟨u, h1, hs⟩, h2, h3', hlo, hhi⟩ := hp.get hlt
      replace h1 := hxr.cell h1
      replace h2 := hxr.cell h2
      replace h3' := hxr.cell h3'
      have hy3 := h3 f.parts[k] (List.getElem_mem hlt)
      have hst : builtTo f.parts fs (k + 1) = stepB f.parts k (builtTo f.parts fs k) := rfl
      have hgd : f.parts.getD k ⟨[], 0, 0⟩ = f.parts[k] := by rw [List.getD_eq_getElem?_getD, List.getElem?_eq_getElem hlt]; rfl
      have hrc := rooms_count f.parts k hlt
      unfold stepB at hst
      rw [hgd] at hst
      have hmono : (roomsM (f.parts.take (k + 1))).length ≤ fs.length := by
        rw [← hn]
        unfold roomsM
        exact List.Sublist.length_le (List.Sublist.filter _ (List.take_sublist _ _))
      generalize f.parts[k] = y at *
      obtain ⟨ua, uc, rfl, -⟩ := hs.shape
      have hszr := hxr.size
      generalize hbt : builtTo f.parts fs k = bt at *
      obtain ⟨ws, rs⟩ := bt
      simp only at hown hr hcnt hlen hr3 hsz hst
      have Hbt := Lib.hid hbt
      have Hst := Lib.hid hst
      have Hrc := Lib.hid hrc
      have Hs := Lib.hid hs
      have Hr := Lib.hid hr
      have Hcnt := Lib.hid hcnt
      have Hr3 := Lib.hid hr3
      have Hsz := Lib.hid hsz
      have Hmono := Lib.hid hmono
      clear hbt hst hgd hrc hs hcnt hr3 hsz hmono
      cases hro : roomyM y
      · have e0 : ((y.words.length : Int) == 0) = false := by
          unfold roomyM at hro
          simp at hro ⊢
          exact hro
        have Hs2 : Hid (builtTo f.parts fs (k + 1) = (ws ++ y.words, rs)) := Lib.hid (by rw [Hst.out, hro]; rfl)
        have Hc2 : Hid ((roomsM (f.parts.take (k + 1))).length = (roomsM (f.parts.take k)).length) := Lib.hid (by rw [Hrc.out, hro]; simp)
        have Hyz := Lib.hid Hs.out.sizes
        clear hro hr
        go_wp2_with fail
        refine (isRoom_any ua _ uc y.lo y.hi _).mono ?_
        rintro e w1 ⟨rfl, hx1⟩
        rw [e0]
        have hx2 : Ext w w1 := (hxr.alloc _).trans hx1
        have d0 : w1.cell? ⟨wr.heap.size, 0, none⟩ = some (.slice ua y.words.length uc) := hx1.cell (by simp [go_sem])
        have own1 := RowW.ext hown (Ext.trans (ext_alloc _ _) hx1)
        have hs1 := Hs.out.ext hx2
        have hz := hx2.size
        clear e0 h1 h2 h3' hown
        go_wp2_with ((at_builtin; go_loud (refine wpList_append_strs rfl _ _ 25 rfl w.heap.size i0 Tryz.underlying25 hi hz0 hz1 hz2 u5 _ rfl own1 (.slice ua y.words.length uc) rfl y.words hs1 (by omega) (by omega) ?_; intro v' w2 hown' hgrow _)))
        have hx3 : Ext w w2 := Ext.grown hx2 hgrow fun k hk => (World.ownsRow.lt own1 k hk).1
        go_roundw
        case rel => exact ⟨k + 1, by omega, by go_num, hx3, by rw [Hs2.out]; exact hown', by rw [Hs2.out]; exact Hr.out, by rw [Hs2.out, Hc2.out]; exact Hcnt.out, by rw [Hs2.out]; simp only [List.length_append]; omega, by rw [Hs2.out]; exact Hr3.out, by
          rw [Hs2.out]
          intro s hs
          rcases List.mem_append.1 hs with h | h
          · exact Hsz.out s h
          · exact Hyz.out s h⟩
        case measure => simp [intOf]; omega
      · have e0 : ((y.words.length : Int) == 0) = true := by
          unfold roomyM at hro
          simp at hro ⊢
          exact hro
        obtain ⟨x, r2, rfl⟩ : ∃ x r2, rs = x :: r2 := by
          cases rs with
          | nil =>
            exfalso
            have h7 := Hcnt.out
            have h8 := Hmono.out
            rw [Hrc.out, hro] at h8
            simp at h7 h8
            omega
          | cons x r2 => exact ⟨x, r2, rfl⟩
        have Hs2 : Hid (builtTo f.parts fs (k + 1) = (ws ++ x, r2)) := Lib.hid (by rw [Hst.out, hro]; rfl)
        have Hc2 : Hid ((roomsM (f.parts.take (k + 1))).length = (roomsM (f.parts.take k)).length + 1) := Lib.hid (by rw [Hrc.out, hro]; simp)
        have hx3l := Hr3.out x (by simp)
        clear hro
        have hr' := hr
        obtain ⟨ra, rc, rfl, hrl, hrm⟩ := hr'.shape
        obtain ⟨rb, ro, rfl, ⟨xv, g1, hxs⟩⟩ := hr.get (show 0 < (x :: r2).length by simp)
        replace g1 := hxr.cell g1
        simp only [Nat.zero_mul, Nat.add_zero] at g1
        have hrl1 : (x :: r2).length = r2.length + 1 := by simp
        have htail := hr.tail
        rw [hrl1] at hrl ⊢
        have Hxz := Lib.hid hxs.sizes
        have Hxs := Lib.hid hxs
        have Htail := Lib.hid htail
        clear hr hxs htail hrl1
        obtain ⟨xa, xc, rfl, -⟩ := Hxs.out.shape
        go_wp2_with fail
        refine (isRoom_any ua _ uc y.lo y.hi _).mono ?_
        rintro e w1 ⟨rfl, hx1⟩
        rw [e0]
        have hx2 : Ext w w1 := (hxr.alloc _).trans hx1
        have own1 := RowW.ext hown (Ext.trans (ext_alloc _ _) hx1)
        have hs1 := Hxs.out.ext hx2
        have hz := hx2.size
        replace g1 := ((ext_alloc _ _).trans hx1).cell g1
        have kr : (0 : Int) < ((r2.length + 1 : Nat) : Int) := by omega
        clear e0 h1 h2 h3' hown
        by_cases hc1 : rc = 1
        · subst hc1
          obtain rfl : r2 = [] := List.eq_nil_of_length_eq_zero (by omega)
          go_wp2_with ((at_builtin; go_loud (refine wpList_append_strs rfl _ _ 25 rfl w.heap.size i0 Tryz.underlying25 hi hz0 hz1 hz2 u5 _ rfl own1 (.slice xa x.length xc) rfl x hs1 (by omega) (by omega) ?_; intro v' w2 hown' hgrow _)))
          have hx3 : Ext w w2 := Ext.grown hx2 hgrow fun k hk => (World.ownsRow.lt own1 k hk).1
          go_roundw
          case rel => exact ⟨k + 1, by omega, by go_num, hx3, by rw [Hs2.out]; exact hown', by rw [Hs2.out]; exact FillsAt.none_left (v := .slice none 0 0) (by omega), by rw [Hs2.out, Hc2.out]; have := Hcnt.out; simp at this ⊢; omega, by rw [Hs2.out]; simp only [List.length_append]; omega, by rw [Hs2.out]; exact fun l hl => Hr3.out l (List.mem_cons_of_mem _ hl), by
            rw [Hs2.out]
            intro s hs
            rcases List.mem_append.1 hs with h | h
            · exact Hsz.out s h
            · exact Hxz.out s h⟩
          case measure => simp [intOf]; omega
        · go_wp2_with ((at_builtin; go_loud (refine wpList_append_strs rfl _ _ 25 rfl w.heap.size i0 Tryz.underlying25 hi hz0 hz1 hz2 u5 _ rfl own1 (.slice xa x.length xc) rfl x hs1 (by omega) (by omega) ?_; intro v' w2 hown' hgrow _)))
          have hx3 : Ext w w2 := Ext.grown hx2 hgrow fun k hk => (World.ownsRow.lt own1 k hk).1
          go_roundw
          case rel => exact ⟨k + 1, by omega, by go_num, hx3, by rw [Hs2.out]; exact hown', by rw [Hs2.out]; exact Htail.out, by rw [Hs2.out, Hc2.out]; have := Hcnt.out; simp at this ⊢; omega, by rw [Hs2.out]; simp only [List.length_append]; omega, by rw [Hs2.out]; exact fun l hl => Hr3.out l (List.mem_cons_of_mem _ hl), by
            rw [Hs2.out]
            intro s hs
            rcases List.mem_append.1 hs with h | h
            · exact Hsz.out s h
            · exact Hxz.out s h⟩
          case measure => simp [intOf]; omega
    · have hke : k = f.parts.length := by omega
      subst hke
      go_wp2
      go_ret
      exact ⟨_, rfl, RowW.at_ hown hsz, hxr⟩
end Go.Proofs.YtcamegaimleomaaGreat

namespace Go.Proofs.YtcamegaimleomaaGreat
set_option linter.unusedSimpArgs false
set_option linter.unusedVariables false
open Go.RowKit
set_option linter.unusedVariables false

/-- the error of one fill, by how many come before it -/
def fillErrM (rooms : List Part) (before : List (List ByteArray)) (x : List ByteArray) : Int :=
  if inM x.length (rooms.getD before.length ⟨[], 0, 0⟩).lo (rooms.getD before.length ⟨[], 0, 0⟩).hi = false then 7 else if wordsM x = false then 6 else 0
set_option maxHeartbeats 1000000 in
set_option maxRecDepth 100000 in
theorem fillError1_any (rv v u : Value) (rooms : List Part) (l : List (List ByteArray)) (x : List ByteArray) (p : Addr) (w : World) (hr : PartsAt w rv rooms) (hc : w.cell? p = some rv) (hl : FillsAt w v l) (hk : l.length < rooms.length) (hu : StrsAt w u x) :
    Calls Tryz.prog 133 #[v, u, .pointer (some p)] w fun e w' => e = .returned (.int .i64 (fillErrM rooms l x)) ∧ Ext w w' := by
  obtain ⟨ra, rc, rfl, hrc, hrm⟩ := hr.shape
  obtain ⟨a, cap, rfl, hlc, hcm⟩ := hl.shape
  obtain ⟨ua, uc, rfl, huc, hum⟩ := hu.shape
  obtain ⟨b, off, rfl, -, h1, h2, i1, i2⟩ := hr.get hk
  have hd : rooms.getD l.length ⟨[], 0, 0⟩ = rooms[l.length] := by simp [hk]
  have he : fillErrM rooms l x = if inM x.length rooms[l.length].lo rooms[l.length].hi = false then 7 else if wordsM x = false then 6 else 0 := by rw [fillErrM, hd]
  have He := Lib.hid he
  clear he hd
  generalize hy : rooms[l.length] = y at *
  clear hy
  have hxl : I64 (x.length : Int) := ⟨by omega, by omega⟩
  have k1 : (l.length : Int) < (rooms.length : Int) := by omega
  have zp := cell_lt hc
  have zb := cell_lt h1
  go_enter Tryz.func133, Tryz.ntmps133
  go_wp2_with fail
  refine (within_any _ _ _ [(x.length : Int)] _ (IntsAt.oneAt (by simp) hxl)).mono ?_
  rintro e w' ⟨rfl, rfl⟩
  rw [withinM_one]
  cases h3 : inM x.length y.lo y.hi
  · have ho : fillErrM rooms l x = 7 := by rw [He.out, if_pos h3]
    clear h3
    go_wp2
    go_ret
    exact ⟨ret_int ho.symm, (by first | (with_reducible exact Ext.refl _) | (with_reducible assumption) | (show Below _ _ _; go_grown; done))⟩
  · have ho : fillErrM rooms l x = if wordsM x = false then 6 else 0 := by rw [He.out, if_neg (by rw [h3]; decide)]
    have Ho := Lib.hid ho
    clear h3 ho
    go_wp2_with fail
    refine (areWords_any _ x _ (hu.ext (by first | (with_reducible exact Ext.refl _) | (with_reducible assumption) | (show Below _ _ _; go_grown; done)))).mono ?_
    rintro e w1 ⟨rfl, hx1⟩
    have hx2 : Ext w w1 := Ext.trans (by first | (with_reducible exact Ext.refl _) | (with_reducible assumption) | (show Below _ _ _; go_grown; done)) hx1
    clear hx1
    cases h4 : wordsM x
    · have ho : fillErrM rooms l x = 6 := by rw [Ho.out, if_pos h4]
      clear h4
      go_wp2
      go_ret
      exact ⟨ret_int ho.symm, hx2⟩
    · have ho : fillErrM rooms l x = 0 := by rw [Ho.out, if_neg (by rw [h4]; decide)]
      clear h4
      go_wp2
      go_ret
      exact ⟨ret_int ho.symm, hx2⟩

set_option maxHeartbeats 1000000 in
set_option maxRecDepth 100000 in
theorem firstFill_any (rv v : Value) (rooms : List Part) (l : List (List ByteArray)) (p : Addr) (w : World) (hr : PartsAt w rv rooms) (hp : w.cell? p = some rv) (hl : FillsAt w v l) (hle : l.length ≤ rooms.length) :
    Calls Tryz.prog 132 #[v, .func (.func 133) #[] #[.pointer (some p)]] w
      fun e w' => e = .returned (.tuple #[.int .i64 (firstErr (fillErrM rooms) l).1, .int .i64 (firstErr (fillErrM rooms) l).2]) ∧ Ext w w' := by
  obtain ⟨a, cap, rfl, hlc, hcm⟩ := hl.shape
  go_enter Tryz.func132, Tryz.ntmps132
  go_wp2
  go_loopw [11] (fun i wr => ∃ k : Nat, k ≤ l.length ∧ i = .int .i64 k ∧ firstErrFrom (fillErrM rooms) (l.take k) (l.drop k) = firstErr (fillErrM rooms) l ∧ Ext w wr) (fun i _ => l.length - (intOf i).toNat)
  case atStart => exact ⟨0, Nat.zero_le _, rfl, rfl, Ext.refl _⟩
  case round =>
    obtain ⟨k, hk, rfl, hd, hx⟩ := hrel
    have Hd := Lib.hid hd; clear hd
    by_cases hlt : k < l.length
    · have hls := hl.ext hx
      have hkc : k ≤ cap := by omega
      obtain ⟨bb, off, rfl, u, h2, hy2⟩ := hls.get hlt
      rw [Nat.mul_one] at h2
      generalize hy : l[k] = y at *
      have Hy := Lib.hid hy; clear hy
      obtain ⟨ua, uc, rfl, -⟩ := hy2.shape
      have htl : (l.take k).length < rooms.length := by rw [List.length_take]; omega
      have Htl := Lib.hid htl; clear htl
      go_wp2_with fail
      refine (fillError1_any rv _ _ rooms (l.take k) y p _ (hr.ext hx) (hx.cell hp) (hls.take k (by omega)) Htl.out hy2).mono ?_
      rintro e w1 ⟨rfl, hx1⟩
      have hx3 := hx.trans hx1
      by_cases h0 : fillErrM rooms (l.take k) y = 0
      · have H0 := Lib.hid h0
        rw [h0]; clear h0
        go_wp2
        go_roundw
        case rel => exact ⟨k + 1, by omega, by go_num, (firstErrFrom_step (fillErrM rooms) l k hlt y Hy.out H0.out).trans Hd.out, hx3⟩
        case measure => simp [intOf]; omega
      · have H0 := Lib.hid h0
        have h1 : (fillErrM rooms (l.take k) y != 0) = true := by simpa using h0
        clear h0
        go_wp2
        go_ret2
        have := Hd.out
        rw [firstErrFrom_hit (fillErrM rooms) l k hlt y Hy.out H0.out] at this
        exact ⟨ret_two (by rw [← this]), hx3⟩
    · go_wp2
      go_ret2
      have := Hd.out
      rw [firstErrFrom_end _ _ _ (by omega)] at this
      exact ⟨ret_two (by rw [← this]), hx⟩

/-- the error of what is put into a form's rooms -/
def fillsErrM (ps : List Part) (fs : List (List ByteArray)) : Int := if fs.length ≠ (roomsM ps).length then 3 else (firstErr (fillErrM (roomsM ps)) fs).2
set_option maxHeartbeats 1000000 in
set_option maxRecDepth 100000 in
theorem fillsError_any (fv v : Value) (f : Form) (fs : List (List ByteArray)) (h5 : f.parts.length ≤ 5) (w : World) (hf : FormV w fv f) (hfs : FillsAt w v fs) :
    Calls Tryz.prog 90 #[fv, v] w fun e w' => e = .returned (.int .i64 (fillsErrM f.parts fs)) ∧ Ext w w' := by
  have hfv := hf
  obtain ⟨pv, rfl, hns, hp⟩ := hf
  obtain ⟨a, cap, rfl, hlc, hcm⟩ := hfs.shape
  go_enter Tryz.func90, Tryz.ntmps90
  go_wp2_with fail
  refine (rooms_any _ f h5 _ (hfv.ext (by first | (with_reducible exact Ext.refl _) | (with_reducible assumption) | (show Below _ _ _; go_grown; done)))).mono ?_
  rintro e w1 ⟨rv, rfl, hrv, hx1⟩
  have x1 : Ext w w1 := Ext.trans (by first | (with_reducible exact Ext.refl _) | (with_reducible assumption) | (show Below _ _ _; go_grown; done)) hx1
  clear hx1 hfv hp
  obtain ⟨ra, rc, rfl, hrc, hrm⟩ := hrv.shape
  have hR := hrv
  by_cases he : fs.length = (roomsM f.parts).length
  · have ho : fillsErrM f.parts fs = (firstErr (fillErrM (roomsM f.parts)) fs).2 := by rw [fillsErrM, if_neg (fun h => h he)]
    have hne : ((fs.length : Int) != ((roomsM f.parts).length : Int)) = false := by simp [he]
    have Ho := Lib.hid ho
    have He := Lib.hid he
    clear ho he
    go_wp2_with fail
    refine (firstFill_any _ _ (roomsM f.parts) fs ⟨w1.heap.size, 0, none⟩ _ (hrv.ext (by first | (with_reducible exact Ext.refl _) | (with_reducible assumption) | (show Below _ _ _; go_grown; done))) (by simp [go_sem]) (hfs.ext (Ext.trans x1 (by first | (with_reducible exact Ext.refl _) | (with_reducible assumption) | (show Below _ _ _; go_grown; done)))) (by rw [He.out]; exact Nat.le_refl _)).mono ?_
    rintro e w2 ⟨rfl, hx2⟩
    have x2 : Ext w w2 := Ext.trans x1 (Ext.trans (by first | (with_reducible exact Ext.refl _) | (with_reducible assumption) | (show Below _ _ _; go_grown; done)) hx2)
    clear hx2
    go_wp2
    go_ret
    exact ⟨ret_int Ho.out.symm, x2⟩
  · have ho : fillsErrM f.parts fs = 3 := by rw [fillsErrM, if_pos he]
    have hne : ((fs.length : Int) != ((roomsM f.parts).length : Int)) = true := by
      simp only [bne_iff_ne, ne_eq]
      omega
    clear he
    go_wp2_with fail
    go_ret
    exact ⟨ret_int ho.symm, Ext.trans x1 (by first | (with_reducible exact Ext.refl _) | (with_reducible assumption) | (show Below _ _ _; go_grown; done))⟩
end Go.Proofs.YtcamegaimleomaaGreat

namespace Go.Proofs.YtcamegaimleomaaGreat
set_option linter.unusedSimpArgs false
set_option linter.unusedVariables false
open Go.RowKit
set_option linter.unusedSimpArgs false

def wantedM (heard : List Int) : List Int := if heard = [] then [-1] else heard
def giver (ls : List Letter) (s : Int) : Option Letter := ls.find? fun x => givesM x s
def shortM (ls : List Letter) : List Int → Option (List Int)
  | [] => some []
  | s :: r => match giver ls s, shortM ls r with
    | some x, some l => some (x.c :: l)
    | _, _ => none
/-- the text of the first sounds -/
def textTo (ls : List Letter) (l : List Int) (k : Nat) : List Int := (l.take k).filterMap fun s => (giver ls s).map (·.c)

theorem infoByte : (Tryz.prog.info? 5).map (fun i => (i.zero, i.size, i.bytes)) = some (some (.int .u8 0), 1, 1) := by kernel_rfl
def bytesOf (l : List Int) : List Value := l.map (Value.int .u8)

theorem textTo_succ (ls : List Letter) (l : List Int) (k : Nat) (hk : k < l.length) (x : Letter) (h : giver ls l[k] = some x) : textTo ls l (k + 1) = textTo ls l k ++ [x.c] := by
  unfold textTo
  rw [List.take_succ_eq_append_getElem hk, List.filterMap_append]
  simp [h]
theorem textTo_len (ls : List Letter) (l : List Int) (k : Nat) : (textTo ls l k).length ≤ k := by
  unfold textTo
  have h1 := List.length_filterMap_le (fun s => (giver ls s).map (·.c)) (l.take k)
  have h2 := List.length_take_le k l
  omega
theorem giver_at (ls : List Letter) (s : Int) (m : Nat) (hm : m < ls.length) (h : ∀ j (_ : j < m) (hj : j < ls.length), givesM ls[j] s = false) (hy : givesM ls[m] s = true) : giver ls s = some ls[m] := by
  rw [giver, List.find?_eq_some_iff_getElem]
  exact ⟨hy, m, hm, rfl, fun j hj => by simpa using h j hj (by omega)⟩
theorem giver_none (ls : List Letter) (s : Int) (h : ∀ j (hj : j < ls.length), givesM ls[j] s = false) : giver ls s = none := by
  rw [giver, List.find?_eq_none]
  intro x hx
  obtain ⟨j, hj, rfl⟩ := List.getElem_of_mem hx
  simp [h j hj]
def shortE (ls : List Letter) (l : List Int) : Int := if l.all fun s => (giver ls s).isSome then 0 else 9
def shortS (ls : List Letter) (l : List Int) : List Int := if l.all fun s => (giver ls s).isSome then textTo ls l l.length else []
theorem shortE_no (ls : List Letter) (l : List Int) (k : Nat) (hk : k < l.length) (h : giver ls l[k] = none) : shortE ls l = 9 ∧ shortS ls l = [] := by
  have : (l.all fun s => (giver ls s).isSome) = false := by
    rw [List.all_eq_false]
    exact ⟨l[k], List.getElem_mem hk, by simp [h]⟩
  simp [shortE, shortS, this]
theorem shortE_yes (ls : List Letter) (l : List Int) (h : ∀ j (hj : j < l.length), (giver ls l[j]).isSome = true) : shortE ls l = 0 ∧ shortS ls l = textTo ls l l.length := by
  have : (l.all fun s => (giver ls s).isSome) = true := by
    rw [List.all_eq_true]
    intro x hx
    obtain ⟨j, hj, rfl⟩ := List.getElem_of_mem hx
    exact h j hj
  simp [shortE, shortS, this]
def strOf (l : List Int) : ByteArray := ⟨(l.map fun n => UInt8.ofNat n.toNat).toArray⟩
theorem textTo_full (ls : List Letter) (l : List Int) (k : Nat) (hk : k ≤ l.length) (h : ∀ j (_ : j < k) (hj : j < l.length), (giver ls l[j]).isSome = true) : (textTo ls l k).length = k := by
  induction k with
  | zero => simp [textTo]
  | succ k ih =>
    obtain ⟨x, hx⟩ := Option.isSome_iff_exists.1 (h k (by omega) (by omega))
    rw [textTo_succ ls l k (by omega) x hx, List.length_append, ih (by omega) fun j hj hl => h j (by omega) hl]; rfl
theorem textTo_U8 (ls : List Letter) (l : List Int) (k : Nat) (h : ∀ x ∈ ls, U8 x.c) : ∀ n ∈ textTo ls l k, U8 n := by
  intro n hn
  simp only [textTo, List.mem_filterMap, Option.map_eq_some_iff] at hn
  obtain ⟨s, -, x, hx, rfl⟩ := hn
  exact h x (List.mem_of_find?_eq_some hx)
theorem byte_back (n : Int) (h : U8 n) : ((UInt8.ofNat n.toNat).toNat : Int) = n := by
  obtain ⟨h0, h1⟩ := h
  rw [UInt8.toNat_ofNat', Nat.mod_eq_of_lt (by omega)]; omega
/-- bytes that are owned, as a string -/
theorem convert_own {w : World} {B : Nat} {v : Value} {l : List Int} (hl : l ≠ []) (hU : ∀ n ∈ l, U8 n) (h : w.ownsRow B 5 1 v l.length (bytesOf l)) :
    (convert 68 9 v).run Tryz.prog w = .ok (.string (strOf l)) w := by
  rcases h.2 with ⟨rfl, hn⟩ | ⟨g, cap, cur, rfl, hb, hg, hnc, hcm, hcs, htake⟩
  · exact absurd (List.eq_nil_of_length_eq_zero hn) hl
  · have := run_convert_bytes_back (P := Tryz.prog) w 68 9 5 ⟨g, 0, none⟩ cap (l.map fun n => UInt8.ofNat n.toNat) Tryz.underlying68 Tryz.underlying5 Tryz.underlying9 (fun j hj => by
      have hj' : j < l.length := by simpa using hj
      rw [h.cells (g := g) rfl j (.int .u8 l[j]) (by simp [bytesOf, hj'])]
      rw [List.getElem_map, byte_back _ (hU _ (List.getElem_mem hj'))])
    rw [List.length_map] at this
    exact this
theorem ret_strInt {a b : ByteArray} {c d : Int} (h : a = b) (h2 : c = d) : Ending.returned (.tuple #[.string a, .int .i64 c]) = .returned (.tuple #[.string b, .int .i64 d]) := by rw [h, h2]
theorem snoc_bytes {w : World} {B : Nat} {e : TypeId} {v : Value} {l l' : List Int} {x : Int} (hb : l' = l ++ [x]) (h : w.ownsRow B e 1 v (l.length + 1) (bytesOf l ++ [.int .u8 x])) :
    w.ownsRow B e 1 v l'.length (bytesOf l') := by
  subst hb
  simpa [bytesOf] using h

set_option maxRecDepth 100000 in
set_option maxHeartbeats 1000000 in
theorem shortest_any (bv hv : Value) (b : Book) (n : Nat) (hn : n < b.alphabets.length) (heard : List Int) (hS : ∀ s ∈ heard, 0 ≤ s ∧ s ≤ 3) (h5 : heard.length ≤ 5) (hf : ∀ x ∈ (b.alphabets[n]).letters, FineL x) (w : World) (hb : BookAt w bv b) (hh : IntsAt w hv heard) :
    Calls Tryz.prog 76 #[bv, .int .i64 n, hv] w
      fun e w' => e = .returned (.tuple #[.string (strOf (shortS (b.alphabets[n]).letters (wantedM heard))), .int .i64 (shortE (b.alphabets[n]).letters (wantedM heard))]) ∧ Ext w w' := by
  obtain ⟨ba, bc, bs, bd, rfl, -, hbl, hbc, hsl, hsc, -, hA, hP⟩ := hb.open
  obtain ⟨_, _, he, -, -, hq⟩ := hA
  obtain ⟨ab, ao, rfl, -, -, lv, a1, hlv⟩ := hq n hn
  cases he
  clear hq
  generalize (b.alphabets[n]).letters = ls at *
  obtain ⟨la, lc, rfl, hllc, hlcm⟩ := hlv.shape
  obtain ⟨ha, hc, rfl, hhc, hhm⟩ := hh.shape
  have z1 := cell_lt a1
  have HU : Hid (∀ x ∈ ls, U8 x.c) := Lib.hid fun x hx => (hlv.fine x hx).1
  have Hf := Lib.hid hf
  have HS := Lib.hid hS
  clear hf hS
  obtain ⟨i0, hi, hz0, hz1, hz2⟩ := info_parts infoByte
  by_cases hnil : heard.length = 0
  · have h0 : heard = [] := List.eq_nil_of_length_eq_zero hnil
    subst h0
    obtain ⟨wl, hwl⟩ : ∃ wl : List Int, wl = [-1] := ⟨_, rfl⟩
    have Hlen : Hid (wl.length = 1) := Lib.hid (by rw [hwl]; rfl)
    have Hwm : Hid (wantedM [] = wl) := Lib.hid (by rw [hwl]; rfl)
    have Hrange : Hid (∀ x ∈ wl, -1 ≤ x ∧ x ≤ 3) := Lib.hid (fun x hx => by rw [hwl] at hx; simp at hx; omega)
    have Hwant : Hid (IntsAt ((w.alloc (.cells #[.int .i64 b.sounds, .slice (some ⟨ab, ao, none⟩) b.alphabets.length bc, .slice bs b.spellings.length bd] 139)).alloc (.cells #[.int .i64 (-1)] 3)) (.slice (some ⟨w.heap.size + 1, 0, none⟩) 1 1) wl) := Lib.hid (by rw [hwl]; exact IntsAt.oneAt (by simp) (by omega))
    clear hwl
    go_enter Tryz.func76, Tryz.ntmps76
    go_wp2
    go_step3
    go_wp2
    go_step3
    go_wp2
    have hx0 : Ext w ((w.alloc (.cells #[.int .i64 b.sounds, .slice (some ⟨ab, ao, none⟩) b.alphabets.length bc, .slice bs b.spellings.length bd] 139)).alloc (.cells #[.int .i64 (-1)] 3)) := (by first | (with_reducible exact Ext.refl _) | (with_reducible assumption) | (show Below _ _ _; go_grown; done))
    have hbx : ((w.alloc (.cells #[.int .i64 b.sounds, .slice (some ⟨ab, ao, none⟩) b.alphabets.length bc, .slice bs b.spellings.length bd] 139)).alloc (.cells #[.int .i64 (-1)] 3)).cell? ⟨w.heap.size, 1, none⟩ = some (.slice (some ⟨ab, ao, none⟩) b.alphabets.length bc) := by simp [go_sem]
    go_loopw [9, 21] (fun t i wr => ∃ k : Nat, k ≤ 1 ∧ i = .int .i64 k ∧ Ext ((w.alloc (.cells #[.int .i64 b.sounds, .slice (some ⟨ab, ao, none⟩) b.alphabets.length bc, .slice bs b.spellings.length bd] 139)).alloc (.cells #[.int .i64 (-1)] 3)) wr ∧
      wr.ownsRow (w.heap.size + 2) 5 1 t (textTo ls (wl) k).length (bytesOf (textTo ls (wl) k)) ∧ ∀ j (_ : j < k) (hj : j < wl.length), (giver ls (wl)[j]).isSome = true) (fun _ i _ => 1 - (intOf i).toNat)
    case atStart => exact ⟨0, Nat.zero_le _, rfl, Ext.refl _, World.ownsRow_nil _ _ _ _, fun j hj => absurd hj (Nat.not_lt_zero _)⟩
    case round =>
      obtain ⟨k, hk, rfl, hx, hown, hall⟩ := hrel
      have Hall := Lib.hid hall
      clear hall
      have hx1 := hx0.trans hx
      have hbx1 := hx.cell hbx
      have a11 := hx1.cell a1
      have z2 := cell_lt hbx1
      by_cases hkt : k < 1
      · have hkl : k < wl.length := by rw [Hlen.out]; exact hkt
        obtain rfl : k = 0 := by omega
        obtain ⟨_, _, he, -, -, hq⟩ := Hwant.out.ext hx
        obtain ⟨wb, wo, ew, w1, ws⟩ := hq 0 hkl
        rw [ew] at he
        simp only [Value.slice.injEq, Option.some.injEq, Addr.mk.injEq, and_true] at he
        obtain ⟨⟨rfl, rfl⟩, -, -⟩ := he
        clear hq
        have hsr : -1 ≤ (wl)[0] ∧ (wl)[0] ≤ 3 := Hrange.out _ (List.getElem_mem hkl)
        generalize hs : (wl)[0] = s at *
        have Hs := Lib.hid hs
        clear hs
        simp only [Nat.zero_mul, Nat.add_zero] at w1
        go_wp2
        go_step3
        go_wp2
        go_step3
        go_wp2
        obtain ⟨wo, hwo⟩ : ∃ wo : World, wo = wr := ⟨_, rfl⟩
        subst hwo
        obtain ⟨tv, htv⟩ : ∃ tv : Value, tv = u9 := ⟨_, rfl⟩
        rw [← htv] at hown
        go_loopw [9, 33] (fun t j wq => ∃ m : Nat, m ≤ ls.length ∧ t = tv ∧ j = .int .i64 m ∧ Ext wo wq ∧ ∀ j (_ : j < m) (hj : j < ls.length), givesM ls[j] s = false) (fun _ j _ => ls.length - (intOf j).toNat)
        case atStart => exact ⟨0, Nat.zero_le _, htv.symm, rfl, Ext.refl _, fun j hj => absurd hj (Nat.not_lt_zero _)⟩
        case round =>
          clear htv
          obtain ⟨m, hm, rfl, rfl, hxq, hno⟩ := hrel
          have Hno := Lib.hid hno
          clear hno
          by_cases hmt : m < ls.length
          · obtain ⟨_, _, he, -, -, hq⟩ := (hlv.ext hx1).ext hxq
            obtain ⟨lb, lo, rfl, c0, c1, c2, hu, hI⟩ := hq m hmt
            cases he
            clear hq
            have hfy := Hf.out _ (List.getElem_mem hmt)
            generalize hy : ls[m] = y at *
            have Hy := Lib.hid hy
            have HI := Lib.hid hI
            clear hy hI
            go_wp2_with fail
            refine (gives_any _ y s ⟨rfl, hu, HI.out⟩ hfy hsr _).mono ?_
            rintro e w2 ⟨rfl, hg⟩
            have hxg : Ext wo w2 := hxq.trans hg.of_alloc
            have hwq := cell_lt c0
            have p0 : w2.cell? ⟨wr.heap.size, 0, none⟩ = some (.int .u8 y.c) := hg.cell (by simp [go_sem])
            cases hgv : givesM y s
            · have Hgv := Lib.hid hgv
              clear hgv
              go_wp2_with fail
              go_roundw
              case rel => exact ⟨m + 1, by omega, rfl, by go_num, hxg, fun j hj hl => by
                rcases Nat.lt_or_ge j m with hjm | hjm
                · exact Hno.out j hjm hl
                · obtain rfl : j = m := by omega
                  rw [Hy.out]; exact Hgv.out⟩
              case measure => simp [intOf]; omega
            · have Hgv := Lib.hid hgv
              clear hgv
              have hown2 := Ext.owns hown hxg
              have hml : (textTo ls wl 0).length ≤ 5 := by have := textTo_len ls wl 0; omega
              have hsz2 := hxg.size
              go_wp2_with ((at_builtin; refine wpList_append_own _ rfl _ _ 68 rfl (w.heap.size + 2) 5 i0 (.int .u8 0) 1 1 Tryz.underlying68 hi hz0 hz1 hz2 rfl (by decide) _ _ _ rfl (hown2.alloc _) ⟨w2.heap.size, 0, none⟩ 1 1 [.int .u8 y.c] rfl rfl (cell_one_new _ _ _) (by simp [Value.oneCell']) (by unfold maxLen; omega) (by omega) (by simp; omega) ?_; intro v' w3 hown' hgrow _))
              have hx3 : Ext ((w.alloc (.cells #[.int .i64 b.sounds, .slice (some ⟨ab, ao, none⟩) b.alphabets.length bc, .slice bs b.spellings.length bd] 139)).alloc (.cells #[.int .i64 (-1)] 3)) w3 :=
                Ext.grown ((hx.trans hxg).alloc _) hgrow fun k hk => by have := (hown2.lt k hk).1; simpa using this
              have hgs := giver_at ls s m hmt Hno.out (by rw [Hy.out]; exact Hgv.out)
              rw [Hy.out] at hgs
              have Hgs := Lib.hid hgs
              clear hgs
              simp only [Exit.noGoto, Exit.inBlock, if_true]
              go_wp2
              go_roundw
              case rel => exact ⟨1, by omega, rfl, hx3, snoc_bytes (textTo_succ ls wl 0 hkl y (by rw [Hs.out]; exact Hgs.out)) hown', fun j hj hl => by
                rcases Nat.lt_or_ge j 0 with hjk | hjk
                · exact Hall.out j hjk hl
                · obtain rfl : j = 0 := by omega
                  rw [Hs.out, Hgs.out]; rfl⟩
              case measure => simp [intOf]
          · have hgs := giver_none ls s fun j hj => Hno.out j (by omega) hj
            have hsh := shortE_no ls wl 0 hkl (by rw [Hs.out]; exact hgs)
            have Hsh := Lib.hid hsh
            clear hgs hsh
            go_wp2
            simp +zetaDelta only [Exit.noGoto, Exit.inBlock, Exit.then]
            go_ret2
            exact ⟨ret_strInt (by rw [Hwm.out, Hsh.out.2]; rfl) (by rw [Hwm.out, Hsh.out.1]), hx1.trans hxq⟩
      · have hke : k = 1 := by omega
        have hfull := textTo_full ls wl k (by rw [Hlen.out]; exact hk) Hall.out
        have hcv := convert_own (l := textTo ls wl k) (fun e => absurd hfull (by rw [e, hke]; decide)) (textTo_U8 ls wl k HU.out) hown
        have hsh := shortE_yes ls wl fun j hj => Hall.out j (by rw [Hlen.out] at hj; omega) hj
        rw [Hlen.out] at hsh
        have Hsh := Lib.hid hsh
        clear hsh hfull
        go_wp2
        go_ret2
        exact ⟨ret_strInt (by rw [Hwm.out, Hsh.out.2]) (by rw [Hwm.out, Hsh.out.1]), hx1⟩
  · have hne : ((heard.length : Int) == 0) = false := by simpa using hnil
    have Hwm : Hid (wantedM heard = heard) := Lib.hid (by rw [wantedM, if_neg (fun e => hnil (by rw [e]; rfl))])
    have Hrange : Hid (∀ x ∈ heard, -1 ≤ x ∧ x ≤ 3) := Lib.hid (fun x hx => by have := HS.out x hx; omega)
    have hwant := hh.ext (ext_alloc w (.cells #[.int .i64 b.sounds, .slice (some ⟨ab, ao, none⟩) b.alphabets.length bc, .slice bs b.spellings.length bd] 139))
    go_enter Tryz.func76, Tryz.ntmps76
    go_wp2
    go_step3
    go_wp2
    go_step3
    go_wp2
    have hx0 : Ext w (w.alloc (.cells #[.int .i64 b.sounds, .slice (some ⟨ab, ao, none⟩) b.alphabets.length bc, .slice bs b.spellings.length bd] 139)) := (by first | (with_reducible exact Ext.refl _) | (with_reducible assumption) | (show Below _ _ _; go_grown; done))
    have hbx : (w.alloc (.cells #[.int .i64 b.sounds, .slice (some ⟨ab, ao, none⟩) b.alphabets.length bc, .slice bs b.spellings.length bd] 139)).cell? ⟨w.heap.size, 1, none⟩ = some (.slice (some ⟨ab, ao, none⟩) b.alphabets.length bc) := by simp [go_sem]
    go_loopw [9, 21] (fun t i wr => ∃ k : Nat, k ≤ (heard).length ∧ i = .int .i64 k ∧ Ext (w.alloc (.cells #[.int .i64 b.sounds, .slice (some ⟨ab, ao, none⟩) b.alphabets.length bc, .slice bs b.spellings.length bd] 139)) wr ∧
      wr.ownsRow (w.heap.size + 1) 5 1 t (textTo ls (heard) k).length (bytesOf (textTo ls (heard) k)) ∧ ∀ j (_ : j < k) (hj : j < (heard).length), (giver ls (heard)[j]).isSome = true) (fun _ i _ => (heard).length - (intOf i).toNat)
    case atStart => exact ⟨0, Nat.zero_le _, rfl, Ext.refl _, World.ownsRow_nil _ _ _ _, fun j hj => absurd hj (Nat.not_lt_zero _)⟩
    case round =>
      obtain ⟨k, hk, rfl, hx, hown, hall⟩ := hrel
      have Hall := Lib.hid hall
      clear hall
      have hx1 := hx0.trans hx
      have hbx1 := hx.cell hbx
      have a11 := hx1.cell a1
      have z2 := cell_lt hbx1
      by_cases hkt : k < (heard).length
      · obtain ⟨_, _, he, -, -, hq⟩ := hwant.ext hx
        obtain ⟨wb, wo, rfl, w1, ws⟩ := hq k hkt
        cases he
        clear hq
        have hsr : -1 ≤ (heard)[k] ∧ (heard)[k] ≤ 3 := Hrange.out _ (List.getElem_mem hkt)
        generalize hs : (heard)[k] = s at *
        have Hs := Lib.hid hs
        clear hs
        simp only [Nat.mul_one] at w1
        go_wp2
        go_step3
        go_wp2
        go_step3
        go_wp2
        obtain ⟨wo, hwo⟩ : ∃ wo : World, wo = wr := ⟨_, rfl⟩
        subst hwo
        obtain ⟨tv, htv⟩ : ∃ tv : Value, tv = u9 := ⟨_, rfl⟩
        rw [← htv] at hown
        go_loopw [9, 33] (fun t j wq => ∃ m : Nat, m ≤ ls.length ∧ t = tv ∧ j = .int .i64 m ∧ Ext wo wq ∧ ∀ j (_ : j < m) (hj : j < ls.length), givesM ls[j] s = false) (fun _ j _ => ls.length - (intOf j).toNat)
        case atStart => exact ⟨0, Nat.zero_le _, htv.symm, rfl, Ext.refl _, fun j hj => absurd hj (Nat.not_lt_zero _)⟩
        case round =>
          clear htv
          obtain ⟨m, hm, rfl, rfl, hxq, hno⟩ := hrel
          have Hno := Lib.hid hno
          clear hno
          by_cases hmt : m < ls.length
          · obtain ⟨_, _, he, -, -, hq⟩ := (hlv.ext hx1).ext hxq
            obtain ⟨lb, lo, rfl, c0, c1, c2, hu, hI⟩ := hq m hmt
            cases he
            clear hq
            have hfy := Hf.out _ (List.getElem_mem hmt)
            generalize hy : ls[m] = y at *
            have Hy := Lib.hid hy
            have HI := Lib.hid hI
            clear hy hI
            go_wp2_with fail
            refine (gives_any _ y s ⟨rfl, hu, HI.out⟩ hfy hsr _).mono ?_
            rintro e w2 ⟨rfl, hg⟩
            have hxg : Ext wo w2 := hxq.trans hg.of_alloc
            have hwq := cell_lt c0
            have p0 : w2.cell? ⟨wr.heap.size, 0, none⟩ = some (.int .u8 y.c) := hg.cell (by simp [go_sem])
            cases hgv : givesM y s
            · have Hgv := Lib.hid hgv
              clear hgv
              go_wp2_with fail
              go_roundw
              case rel => exact ⟨m + 1, by omega, rfl, by go_num, hxg, fun j hj hl => by
                rcases Nat.lt_or_ge j m with hjm | hjm
                · exact Hno.out j hjm hl
                · obtain rfl : j = m := by omega
                  rw [Hy.out]; exact Hgv.out⟩
              case measure => simp [intOf]; omega
            · have Hgv := Lib.hid hgv
              clear hgv
              have hown2 := Ext.owns hown hxg
              have hml : (textTo ls heard k).length ≤ 5 := by have := textTo_len ls heard k; omega
              have hsz2 := hxg.size
              go_wp2_with ((at_builtin; refine wpList_append_own _ rfl _ _ 68 rfl (w.heap.size + 1) 5 i0 (.int .u8 0) 1 1 Tryz.underlying68 hi hz0 hz1 hz2 rfl (by decide) _ _ _ rfl (hown2.alloc _) ⟨w2.heap.size, 0, none⟩ 1 1 [.int .u8 y.c] rfl rfl (cell_one_new _ _ _) (by simp [Value.oneCell']) (by unfold maxLen; omega) (by omega) (by simp; omega) ?_; intro v' w3 hown' hgrow _))
              have hx3 : Ext (w.alloc (.cells #[.int .i64 b.sounds, .slice (some ⟨ab, ao, none⟩) b.alphabets.length bc, .slice bs b.spellings.length bd] 139)) w3 :=
                Ext.grown ((hx.trans hxg).alloc _) hgrow fun k hk => by have := (hown2.lt k hk).1; simpa using this
              have hgs := giver_at ls s m hmt Hno.out (by rw [Hy.out]; exact Hgv.out)
              rw [Hy.out] at hgs
              have Hgs := Lib.hid hgs
              clear hgs
              simp only [Exit.noGoto, Exit.inBlock, if_true]
              go_wp2
              go_roundw
              case rel => exact ⟨k + 1, by omega, by go_num, hx3, snoc_bytes (textTo_succ ls heard k hkt y (by rw [Hs.out]; exact Hgs.out)) hown', fun j hj hl => by
                rcases Nat.lt_or_ge j k with hjk | hjk
                · exact Hall.out j hjk hl
                · obtain rfl : j = k := by omega
                  rw [Hs.out, Hgs.out]; rfl⟩
              case measure => simp [intOf]; omega
          · have hgs := giver_none ls s fun j hj => Hno.out j (by omega) hj
            have hsh := shortE_no ls heard k hkt (by rw [Hs.out]; exact hgs)
            have Hsh := Lib.hid hsh
            clear hgs hsh
            go_wp2
            simp +zetaDelta only [Exit.noGoto, Exit.inBlock, Exit.then]
            go_ret2
            exact ⟨ret_strInt (by rw [Hwm.out, Hsh.out.2]; rfl) (by rw [Hwm.out, Hsh.out.1]), hx1.trans hxq⟩
      · have hke : k = heard.length := by omega
        have hfull := textTo_full ls heard k hk Hall.out
        have hcv := convert_own (l := textTo ls heard k) (fun e => hnil (by rw [e] at hfull; simp only [List.length_nil] at hfull; omega)) (textTo_U8 ls heard k HU.out) hown
        have hsh := shortE_yes ls heard fun j hj => Hall.out j (by omega) hj
        rw [← hke] at hsh
        have Hsh := Lib.hid hsh
        clear hsh hfull hke
        go_wp2
        go_ret2
        exact ⟨ret_strInt (by rw [Hwm.out, Hsh.out.2]) (by rw [Hwm.out, Hsh.out.1]), hx1⟩
end Go.Proofs.YtcamegaimleomaaGreat

namespace Go.Proofs.YtcamegaimleomaaGreat
set_option linter.unusedSimpArgs false
set_option linter.unusedVariables false
open Go.RowKit

theorem firstErrFrom_ok {α : Type} (f : List α → α → Int) : ∀ (r pre : List α), (firstErrFrom f pre r).2 = 0 → ∀ k (hk : k < r.length), f (pre ++ r.take k) r[k] = 0
  | [], _, _, k, hk => by simp at hk
  | x :: r, pre, h, k, hk => by
    unfold firstErrFrom at h
    split at h
    · rename_i h0
      cases k with
      | zero => simpa using h0
      | succ k =>
        have := firstErrFrom_ok f r (pre ++ [x]) h k (by simpa using hk)
        simpa using this
    · rename_i h0
      exact absurd h h0
theorem firstErr_ok {α : Type} (f : List α → α → Int) (l : List α) (h : (firstErr f l).2 = 0) : ∀ k (hk : k < l.length), f (l.take k) l[k] = 0 := by
  intro k hk
  have := firstErrFrom_ok f l [] h k hk
  simpa using this

theorem inM_iff (n lo hi : Int) : inM n lo hi = true ↔ lo ≤ n ∧ n ≤ hi := by simp [inM]
theorem inM_true {n lo hi : Int} (h : ¬ inM n lo hi = false) : lo ≤ n ∧ n ≤ hi := by
  rw [← inM_iff]; simpa using h

structure ValidLetter (S : Int) (x : Letter) : Prop where
  c : 97 ≤ x.c ∧ x.c ≤ 122
  s : 0 ≤ x.sounds ∧ x.sounds ≤ maskM S
  g : x.sounds ≠ 0 ∨ x.silent = true
theorem letterErr_ok {S : Int} {l : List Letter} {x : Letter} (h : letterErrM S l x = 0) : ValidLetter S x ∧ (l.any fun y => y.c == x.c) = false := by
  unfold letterErrM at h
  split at h
  · cases h
  rename_i h1
  split at h
  · cases h
  rename_i h2
  split at h
  · cases h
  rename_i h3
  split at h
  · cases h
  rename_i h4
  exact ⟨⟨inM_true h1, inM_true h3, by
    simp only [Bool.and_eq_true, beq_iff_eq, Bool.not_eq_true', not_and, Bool.not_eq_false] at h4
    by_cases e : x.sounds = 0
    · exact .inr (h4 e)
    · exact .inl e⟩, by simpa using h2⟩
structure ValidAlphabet (S : Int) (x : Alphabet) : Prop where
  n : nameM x.name = true
  l : 1 ≤ x.letters.length ∧ x.letters.length ≤ 6
  fine : ∀ k (hk : k < x.letters.length), ValidLetter S x.letters[k] ∧ ((x.letters.take k).any fun y => y.c == (x.letters[k]).c) = false
theorem alphabetErr_ok {S : Int} {l : List Alphabet} {x : Alphabet} (h : alphabetErrM S l x = 0) : ValidAlphabet S x ∧ (l.any fun y => y.name.toList == x.name.toList) = false := by
  unfold alphabetErrM at h
  split at h
  · cases h
  rename_i h1
  split at h
  · cases h
  rename_i h2
  split at h
  · cases h
  rename_i h3
  have h3 := inM_true h3
  exact ⟨⟨by simpa using h1, by omega, fun k hk => letterErr_ok (firstErr_ok _ _ h k hk)⟩, by simpa using h2⟩
structure ValidSpelling (al : List Alphabet) (x : Spelling) : Prop where
  a : 0 ≤ x.alphabet ∧ x.alphabet < al.length
  t : 1 ≤ x.text.size ∧ x.text.size ≤ 5
  k : ∀ j, j < x.text.size → knownB (lettersOf al x.alphabet) x.text j = true
theorem textOk_spec {ls : List Letter} {s : ByteArray} (h : textOk ls s = true) : ∀ j, j < s.size → knownB ls s j = true := by
  unfold textOk at h
  rw [List.all_eq_true] at h
  exact fun j hj => h j (List.mem_range.2 hj)
theorem spellingErr_ok {al : List Alphabet} {x : Spelling} (h : spellingErrM al x = 0) : ValidSpelling al x := by
  unfold spellingErrM at h
  split at h
  · cases h
  rename_i h1
  split at h
  · cases h
  rename_i h2
  split at h
  · cases h
  rename_i h3
  have h1 := inM_true h1
  have h2 := inM_true h2
  exact ⟨by omega, by omega, textOk_spec (by simpa using h3)⟩
structure Valid (b : Book) : Prop where
  s : 1 ≤ b.sounds ∧ b.sounds ≤ 4
  a : 1 ≤ b.alphabets.length ∧ b.alphabets.length ≤ 3
  al : ∀ k (hk : k < b.alphabets.length), ValidAlphabet b.sounds b.alphabets[k] ∧ ((b.alphabets.take k).any fun y => y.name.toList == (b.alphabets[k]).name.toList) = false
  n : b.spellings.length ≤ 5
  sp : ∀ k (hk : k < b.spellings.length), ValidSpelling b.alphabets b.spellings[k]
theorem valid_of {b : Book} (h : errM b = 0) : Valid b := by
  unfold errM checkM at h
  split at h
  · cases h
  rename_i h1
  split at h
  · cases h
  rename_i h2
  split at h
  · rename_i h3; exact absurd h h3
  rename_i h3
  split at h
  · cases h
  rename_i h4
  split at h
  · rename_i h5; exact absurd h h5
  rename_i h5
  have h1 := inM_true h1
  have h2 := inM_true h2
  have h3 : (alphErr b).2 = 0 := by simpa using h3
  have h5 : (spelErr b).2 = 0 := by simpa using h5
  exact ⟨h1, by omega, fun k hk => alphabetErr_ok (firstErr_ok _ _ h3 k hk), by omega, fun k hk => spellingErr_ok (firstErr_ok _ _ h5 k hk)⟩
theorem mask_le {S : Int} (h : 1 ≤ S ∧ S ≤ 4) : maskM S ≤ 15 := by
  have h4 : S = 1 ∨ S = 2 ∨ S = 3 ∨ S = 4 := by omega
  rcases h4 with rfl | rfl | rfl | rfl <;> decide
theorem Valid.fine {b : Book} (h : Valid b) (k : Nat) (hk : k < b.alphabets.length) : ∀ x ∈ (b.alphabets[k]).letters, FineL x := by
  intro x hx
  obtain ⟨j, hj, rfl⟩ := List.getElem_of_mem hx
  have := ((h.al k hk).1.fine j hj).1.s
  have := mask_le h.s
  exact ⟨by omega, by omega⟩
theorem withinM_spec {lo hi : Int} {l : List Int} (h : withinM lo hi l = true) : ∀ x ∈ l, lo ≤ x ∧ x ≤ hi := by
  unfold withinM at h
  rw [List.all_eq_true] at h
  exact fun x hx => (inM_iff _ _ _).1 (h x hx)
end Go.Proofs.YtcamegaimleomaaGreat

namespace Go.Proofs.YtcamegaimleomaaGreat
set_option linter.unusedSimpArgs false
set_option linter.unusedVariables false
open Go.RowKit

structure ValidPart (p : Part) : Prop where
  n : p.words.length ≤ 3
  w : wordsM p.words = true
  z : p.words ≠ [] → p.lo = 0 ∧ p.hi = 0
  r : p.words = [] → 0 ≤ p.lo ∧ p.lo ≤ p.hi ∧ 1 ≤ p.hi ∧ p.hi ≤ 3
theorem partErr_ok {p : Part} (h : partErrM p = 0) : ValidPart p := by
  unfold partErrM at h
  split at h
  · cases h
  rename_i h1
  split at h
  · cases h
  rename_i h2
  have hw : wordsM p.words = true := by simpa using h2
  split at h
  · rename_i h3
    split at h
    · rename_i h4
      exact ⟨by omega, hw, fun _ => h4, fun e => absurd (by rw [e]; rfl) h3⟩
    · cases h
  · rename_i h3
    split at h
    · cases h
    rename_i h4
    split at h
    · cases h
    rename_i h5
    have a := inM_true (fun e => h4 (.inl e))
    have b := inM_true (fun e => h4 (.inr (.inl e)))
    have c : p.hi ≠ 0 := fun e => h4 (.inr (.inr e))
    exact ⟨by omega, hw, fun e => absurd (List.eq_nil_of_length_eq_zero (by omega)) e, fun _ => ⟨a.1, by omega, by omega, b.2⟩⟩
theorem ValidPart.room {p : Part} (h : ValidPart p) (hr : roomyM p = true) : 0 ≤ p.lo ∧ p.lo ≤ p.hi ∧ 1 ≤ p.hi ∧ p.hi ≤ 3 :=
  h.r (List.eq_nil_of_length_eq_zero (by simpa [roomyM] using hr))

structure ValidForm (f : Form) : Prop where
  name : nameM f.name = true
  n : f.parts.length ≤ 5
  parts : ∀ p ∈ f.parts, ValidPart p
theorem formErr_ok {l : List Form} {f : Form} (h : formErrM l f = 0) : ValidForm f ∧ (l.any fun y => y.name.toList == f.name.toList) = false := by
  unfold formErrM at h
  split at h
  · cases h
  rename_i h1
  split at h
  · cases h
  rename_i h2
  split at h
  · cases h
  rename_i h3
  refine ⟨⟨by simpa using h1, by omega, fun p hp => ?_⟩, by simpa using h2⟩
  obtain ⟨k, hk, rfl⟩ := List.getElem_of_mem hp
  exact partErr_ok (firstErr_ok _ _ h k hk)

structure ValidShelf (s : Shelf) : Prop where
  w : 8 ≤ s.width ∧ s.width ≤ 30
  n : s.forms.length ≤ 4
  forms : ∀ f ∈ s.forms, ValidForm f
theorem errS_ok {s : Shelf} (h : errS s = 0) : ValidShelf s := by
  unfold errS checkS at h
  split at h
  · cases h
  rename_i h1
  split at h
  · cases h
  rename_i h2
  split at h
  · rename_i h3
    exact absurd h h3
  rename_i h3
  refine ⟨inM_true h1, by omega, fun f hf => ?_⟩
  obtain ⟨k, hk, rfl⟩ := List.getElem_of_mem hf
  exact (formErr_ok (firstErr_ok _ _ (by simpa using h3) k hk)).1
theorem openErr_ok {s : Shelf} {n : Int} (h : openErrM s n = 0) : ValidShelf s ∧ 0 ≤ n ∧ n < s.forms.length := by
  unfold openErrM at h
  split at h
  · rename_i h1; exact absurd h h1
  rename_i h1
  split at h
  · cases h
  rename_i h2
  have := inM_true h2
  exact ⟨errS_ok (by simpa using h1), by omega, by omega⟩
theorem fillsErr_ok {ps : List Part} {fs : List (List ByteArray)} (hv : ∀ p ∈ ps, ValidPart p) (h : fillsErrM ps fs = 0) : fs.length = (roomsM ps).length ∧ ∀ l ∈ fs, l.length ≤ 3 ∧ wordsM l = true := by
  unfold fillsErrM at h
  split at h
  · cases h
  rename_i h1
  have hl : fs.length = (roomsM ps).length := by simpa using h1
  refine ⟨hl, fun l hm => ?_⟩
  obtain ⟨k, hk, rfl⟩ := List.getElem_of_mem hm
  have h2 := firstErr_ok _ _ h k hk
  have hk2 : k < (roomsM ps).length := by omega
  have e : (fs.take k).length = k := by rw [List.length_take]; omega
  unfold fillErrM at h2
  rw [e, show (roomsM ps).getD k ⟨[], 0, 0⟩ = (roomsM ps)[k] by simp [hk2]] at h2
  split at h2
  · cases h2
  rename_i h3
  split at h2
  · cases h2
  rename_i h4
  have hin := inM_true h3
  have hmem := List.getElem_mem hk2
  have hmf := List.mem_filter.mp (show (roomsM ps)[k] ∈ ps.filter roomyM from hmem)
  have hr := (hv _ hmf.1).room hmf.2
  exact ⟨by omega, by simpa using h4⟩
end Go.Proofs.YtcamegaimleomaaGreat

namespace Go.Proofs.YtcamegaimleomaaGreat
set_option linter.unusedSimpArgs false
set_option linter.unusedVariables false
open Go.RowKit
set_option linter.unusedVariables false

def formOf (s : Shelf) (n : Int) : Form := s.forms.getD n.toNat ⟨⟨#[]⟩, []⟩
/-- the error of a shelf, a form and fills -/
def makeErrM (s : Shelf) (n : Int) (fs : List (List ByteArray)) : Int := if openErrM s n ≠ 0 then openErrM s n else fillsErrM (formOf s n).parts fs
/-- a letter, if there is no error -/
def MadeL (w : World) (l : List ByteArray) (e : Int) (v : Value) : Prop := ∃ u, v = .tuple #[u, .int .i64 e] ∧ (e = 0 → StrsAt w u l) ∧ (e ≠ 0 → u = .slice none 0 0)
set_option maxHeartbeats 1000000 in
set_option maxRecDepth 100000 in
theorem make_any (sv v : Value) (s : Shelf) (n : Int) (hn : I64 n) (fs : List (List ByteArray)) (w : World) (hs : ShelfAt w sv s) (hfs : FillsAt w v fs) :
    Calls Tryz.prog 38 #[sv, .int .i64 n, v] w fun e w' => ∃ u, e = .returned u ∧ MadeL w' (builtM (formOf s n).parts fs) (makeErrM s n fs) u ∧ Ext w w' := by
  have hsW := hs
  obtain ⟨a, c, rfl, hw, hc1, hc2, hf⟩ := hs.open
  obtain ⟨fa, fc, rfl, hfc, hfm⟩ := hfs.shape
  clear hf hs
  go_enter Tryz.func38, Tryz.ntmps38
  go_wp2_with fail
  refine (openF_any _ s n hn w _ (by first | (with_reducible exact Ext.refl _) | (with_reducible assumption) | (show Below _ _ _; go_grown; done)) hsW).mono ?_
  rintro e w1 ⟨uu, rfl, ⟨u, rfl, h1, h2⟩, hx1⟩
  have x1 : Ext w w1 := Ext.trans (by first | (with_reducible exact Ext.refl _) | (with_reducible assumption) | (show Below _ _ _; go_grown; done)) hx1
  clear hx1
  obtain ⟨nm, pa, pn, pc, rfl⟩ : ∃ nm pa pn pc, u = .agg #[.string nm, .slice pa pn pc] := by
    by_cases h : openErrM s n = 0
    · obtain ⟨i, hi, -, uu, rfl, -, hp⟩ := h1 h
      obtain ⟨pa, pc, rfl, -⟩ := hp.shape
      exact ⟨_, _, _, _, rfl⟩
    · exact ⟨_, _, _, _, h2 h⟩
  clear h2
  by_cases h0 : openErrM s n = 0
  · have ho : makeErrM s n fs = fillsErrM (formOf s n).parts fs := by rw [makeErrM, if_neg (by simpa using h0)]
    obtain ⟨hV, -, -⟩ := openErr_ok h0
    obtain ⟨i, hi, rfl, hfv⟩ := h1 h0
    have hfo : formOf s (i : Int) = s.forms[i] := by unfold formOf; simp [hi]
    have hv := hV.forms _ (List.getElem_mem hi)
    rw [hfo] at ho
    rw [h0]
    have Ho := Lib.hid ho
    clear ho hV h0 h1
    generalize s.forms[i] = f at *
    have Hfo := Lib.hid hfo
    clear hfo
    have Hv := Lib.hid hv
    clear hv
    go_wp2_with fail
    refine (fillsError_any _ _ f fs Hv.out.n _ ((hfv.ext x1).ext (by first | (with_reducible exact Ext.refl _) | (with_reducible assumption) | (show Below _ _ _; go_grown; done))) (hfs.ext (Ext.trans x1 (by first | (with_reducible exact Ext.refl _) | (with_reducible assumption) | (show Below _ _ _; go_grown; done))))).mono ?_
    rintro e w2 ⟨rfl, hx2⟩
    have x2 : Ext w1 w2 := Ext.trans (by first | (with_reducible exact Ext.refl _) | (with_reducible assumption) | (show Below _ _ _; go_grown; done)) hx2
    have b0 : w2.cell? ⟨w1.heap.size, 0, none⟩ = some (.string nm) := hx2.cell (by simp [go_sem])
    have b1 : w2.cell? ⟨w1.heap.size, 1, none⟩ = some (.slice pa pn pc) := hx2.cell (by simp [go_sem])
    clear hx2
    by_cases h3 : fillsErrM f.parts fs = 0
    · have hm : makeErrM s i fs = 0 := Ho.out.trans h3
      obtain ⟨g1, g2⟩ := fillsErr_ok Hv.out.parts h3
      have G1 := Lib.hid g1
      have G2 := Lib.hid g2
      have Hm := Lib.hid hm
      rw [h3]
      clear h3 hm g1 g2 Ho
      go_wp2_with fail
      refine (filled_any _ _ f fs Hv.out.n (fun p hp => (Hv.out.parts p hp).n) (fun l hl => (G2.out l hl).1) G1.out.symm w2 (hfv.ext (Ext.trans x1 x2)) (hfs.ext (Ext.trans x1 x2))).mono ?_
      rintro e w3 ⟨u, rfl, hu, hx3⟩
      obtain ⟨ua, uc, rfl, -⟩ := hu.shape
      go_wp2
      go_ret2
      exact ⟨_, rfl, ⟨.slice ua (builtM f.parts fs).length uc, by rw [Hm.out]; rfl, fun _ => by rw [Hfo.out]; exact hu, fun h => absurd Hm.out h⟩, Ext.trans x1 (Ext.trans x2 hx3)⟩
    · have hm : makeErrM s i fs = fillsErrM f.parts fs := Ho.out
      have h3' : (fillsErrM f.parts fs != 0) = true := by simpa using h3
      have Hm := Lib.hid hm
      have H3 := Lib.hid h3
      clear h3 hm Ho
      go_wp2_with fail
      go_ret2
      exact ⟨_, rfl, ⟨.slice none 0 0, by rw [Hm.out]; rfl, fun h => absurd (Hm.out.symm.trans h) H3.out, fun _ => rfl⟩, Ext.trans x1 x2⟩
  · have ho : makeErrM s n fs = openErrM s n := by rw [makeErrM, if_pos h0]
    have h0' : (openErrM s n != 0) = true := by simpa using h0
    have Ho := Lib.hid ho
    have H0 := Lib.hid h0
    clear h0 ho h1
    go_wp2_with fail
    go_ret2
    exact ⟨_, rfl, ⟨.slice none 0 0, by rw [Ho.out]; rfl, fun h => absurd (Ho.out.symm.trans h) H0.out, fun _ => rfl⟩, Ext.trans x1 (by first | (with_reducible exact Ext.refl _) | (with_reducible assumption) | (show Below _ _ _; go_grown; done))⟩
end Go.Proofs.YtcamegaimleomaaGreat

namespace Go.Proofs.YtcamegaimleomaaGreat
set_option linter.unusedSimpArgs false
set_option linter.unusedVariables false
open Go.RowKit
set_option linter.unusedVariables false

structure Slot where
  word : ByteArray
  free : Bool
def slotR (w : World) (b o : Nat) (s : Slot) : Prop := w.cell? ⟨b, o, none⟩ = some (.string s.word) ∧ w.cell? ⟨b, o + 1, none⟩ = some (.bool s.free) ∧ s.word.size ≤ 9223372036854775807
theorem slotR.keeps : Keeps slotR := fun _ _ _ _ _ hx h => ⟨hx.cell h.1, hx.cell h.2.1, h.2.2⟩
abbrev SlotsAt : World → Value → List Slot → Prop := SliceAt 2 slotR
theorem SlotsAt.ext {w w' : World} {v : Value} {l : List Slot} (h : SlotsAt w v l) (hx : Ext w w') : SlotsAt w' v l := SliceAt.ext slotR.keeps h hx
def cellsS (l : List Slot) : List Value := l.flatMap fun s => [.string s.word, .bool s.free]
theorem cellsS_len (l : List Slot) : (cellsS l).length = l.length * 2 := by
  induction l with
  | nil => rfl
  | cons x l ih => simp only [cellsS, List.flatMap_cons, List.length_append, List.length_cons, List.length_nil] at *; omega
theorem cellsS_get (l : List Slot) (i : Nat) (h : i < l.length) : (cellsS l)[i * 2]? = some (.string l[i].word) ∧ (cellsS l)[i * 2 + 1]? = some (.bool l[i].free) := by
  induction l generalizing i with
  | nil => simp at h
  | cons x l ih =>
    cases i with
    | zero => simp [cellsS]
    | succ i =>
      have := ih i (by simpa using h)
      have e : (i + 1) * 2 = i * 2 + 2 := by omega
      rw [e]
      simpa [cellsS] using this
theorem cellsS_app (l r : List Slot) : cellsS (l ++ r) = cellsS l ++ cellsS r := by simp [cellsS]
/-- a row of slots of the call's own -/
def RowS (base : Nat) (l : List Slot) (u : Value) (w : World) : Prop := w.ownsRow base 189 2 u l.length (cellsS l)
theorem RowS.ext {base : Nat} {l : List Slot} {u : Value} {w w' : World} (h : RowS base l u w) (hx : Ext w w') : RowS base l u w' := Ext.owns h hx
theorem RowS.nil {base : Nat} {w : World} : RowS base [] (.slice none 0 0) w := World.ownsRow_nil _ _ _ _
theorem RowS.snoc {base : Nat} {l : List Slot} {a : ByteArray} {b : Bool} {u : Value} {w : World} (h : w.ownsRow base 189 2 u (l.length + 1) (cellsS l ++ [.string a, .bool b])) : RowS base (l ++ [⟨a, b⟩]) u w := by
  unfold RowS
  rw [cellsS_app, List.length_append]
  exact h
theorem RowS.lower {base base' : Nat} {l : List Slot} {u : Value} {w : World} (h : RowS base l u w) (hb : base' ≤ base) : RowS base' l u w := by
  refine ⟨h.1, ?_⟩
  rcases h.2 with h | ⟨g, cap, cur, e, h1, h2⟩
  · exact .inl h
  · exact .inr ⟨g, cap, cur, e, Nat.le_trans hb h1, h2⟩
theorem RowS.at_ {base : Nat} {l : List Slot} {u : Value} {w : World} (h : RowS base l u w) (hI : ∀ s ∈ l, s.word.size ≤ 9223372036854775807) : SlotsAt w u l := by
  have hcells := fun g hg => h.cells (g := g) hg
  rcases h.2 with ⟨rfl, hn⟩ | ⟨g, cap, cur, rfl, hb, hg, hnc, hcm, hcs, htake⟩
  · have : l = [] := List.eq_nil_of_length_eq_zero hn
    subst this; exact SliceAt.nil
  · refine ⟨_, _, rfl, hnc, by simpa [maxLen] using hcm, fun i hi => ⟨g, 0, rfl, ?_⟩⟩
    obtain ⟨c0, c1⟩ := cellsS_get l i hi
    have r0 := hcells g rfl _ _ c0
    have r1 := hcells g rfl _ _ c1
    have ea : ∀ j, (⟨g, 0, none⟩ : Addr).add j = ⟨g, 0 + j, none⟩ := fun j => by unfold Addr.add; split <;> simp_all
    rw [ea] at r0 r1
    exact ⟨r0, r1, hI _ (List.getElem_mem hi)⟩
theorem cell_two_newS (w : World) (a b : Value) (t : TypeId) : ∀ j u, [a, b][j]? = some u → (w.alloc (.cells #[a, b] t)).cell? ((⟨w.heap.size, 0, none⟩ : Addr).add j) = some u := by
  intro j u h
  match j, h with
  | 0, h => simp at h; subst h; simp [go_sem]
  | 1, h => simp at h; subst h; simp [go_sem]
  | j + 2, h => simp at h
theorem infoSlot : (Tryz.prog.info? 189).map (fun i => (i.zero, i.size, i.bytes)) = some (some (.agg #[.string ByteArray.empty, .bool false]), 2, 24) := by kernel_rfl
/-- the slots of words that are given -/
def givenM (l : List ByteArray) : List Slot := l.map fun s => ⟨s, false⟩

set_option maxRecDepth 100000 in
set_option maxHeartbeats 2000000 in
theorem given_any (v : Value) (l : List ByteArray) (h5 : l.length ≤ 1000) (w : World) (hl : StrsAt w v l) :
    Calls Tryz.prog 55 #[v] w fun e w' => ∃ u, e = .returned u ∧ RowS w.heap.size (givenM l) u w' ∧ Ext w w' := by
  obtain ⟨a, cap, rfl, hlc, hcm⟩ := hl.shape
  obtain ⟨i0, hi, hz0, hz1, hz2⟩ := info_parts infoSlot
  go_enter Tryz.func55, Tryz.ntmps55
  go_wp2_with fail
  go_loopw [3, 8] (fun v i wr => ∃ k : Nat, k ≤ l.length ∧ i = .int .i64 k ∧ Ext w wr ∧ RowS w.heap.size (givenM (l.take k)) v wr) (fun _ i _ => l.length - (intOf i).toNat)
  case atStart => exact ⟨0, Nat.zero_le _, rfl, Ext.refl _, RowS.nil⟩
  case round =>
    obtain ⟨k, hk, rfl, hxr, hown⟩ := hrel
    by_cases hlt : k < l.length
    · have k1 : (k : Int) < (l.length : Int) := by omega
      obtain ⟨b, o, rfl, h1, -⟩ := hl.get hlt
      replace h1 := hxr.cell h1
      rw [Nat.mul_one] at h1
      have hst : givenM (l.take (k + 1)) = givenM (l.take k) ++ [⟨l[k], false⟩] := by rw [List.take_succ_eq_append_getElem hlt]; unfold givenM; rw [List.map_append]; rfl
      have hlen : (givenM (l.take k)).length = k := by simp [givenM]; omega
      generalize l[k] = y at *
      have Hst := Lib.hid hst
      have Hlen := Lib.hid hlen
      have Hown := Lib.hid hown
      have hszr := hxr.size
      clear hst hlen hown
      have hc2 := cellsS_len (givenM (l.take k))
      generalize hG : givenM (l.take k) = G at *
      have HG := Lib.hid hG
      clear hG
      have hGk : G.length ≤ 1000 := by have := Hlen.out; omega
      go_wp2_with (at_builtin; go_loud (refine wpList_append_own_at _ rfl _ _ 104 rfl w.heap.size 189 i0 (.agg #[.string ByteArray.empty, .bool false]) 2 24 Tryz.underlying104 hi hz0 hz1 hz2 rfl (by decide) u3 G.length (cellsS G) rfl (World.ownsRow.alloc Hown.out _) ⟨wr.heap.size, 0, none⟩ 1 1 [.string y, .bool false] rfl rfl (cell_two_newS _ _ _ _) (by simp [Value.oneCell']) (by unfold maxLen; omega) (by omega) (by simp; omega) ?_; intro v' w2 hown' hgrow _ _))
      have hx3 : Ext w w2 := Ext.grown (hxr.alloc _) hgrow fun k hk => (Hown.out.lt k hk).1
      go_roundw
      case rel => exact ⟨k + 1, by omega, by go_num, hx3, by rw [Hst.out]; exact RowS.snoc hown'⟩
      case measure => simp [intOf]; omega
    · have hke : k = l.length := by omega
      subst hke
      rw [List.take_length] at hown
      go_wp2
      go_ret
      exact ⟨_, rfl, hown, hxr⟩
end Go.Proofs.YtcamegaimleomaaGreat

namespace Go.Proofs.YtcamegaimleomaaGreat
set_option linter.unusedSimpArgs false
set_option linter.unusedVariables false
open Go.RowKit
set_option linter.unusedVariables false

/-- the slots of a room -/
def roomSlotsM (lo : Int) (n : Nat) : List Slot := (List.range n).map fun (k : Nat) => ⟨ByteArray.empty, decide (lo ≤ (k : Int))⟩
/-- the slots of a part -/
def partSlotsM (p : Part) : List Slot := givenM p.words ++ roomSlotsM p.lo p.hi.toNat
theorem roomSlots_step (lo : Int) (n : Nat) : roomSlotsM lo (n + 1) = roomSlotsM lo n ++ [⟨ByteArray.empty, decide (lo ≤ (n : Int))⟩] := by
  unfold roomSlotsM
  rw [List.range_succ, List.map_append]; rfl

set_option maxRecDepth 100000 in
set_option maxHeartbeats 2000000 in
theorem partSlots_any (pv : Value) (p : Part) (hn : p.words.length ≤ 3) (h3 : p.hi ≤ 3) (w : World) (hp : PartV w pv p) :
    Calls Tryz.prog 114 #[pv] w fun e w' => ∃ u, e = .returned u ∧ RowS w.heap.size (partSlotsM p) u w' ∧ Ext w w' := by
  obtain ⟨u, rfl, hs, hlo, hhi⟩ := hp
  obtain ⟨a, cap, rfl, hlc, hcm⟩ := hs.shape
  obtain ⟨i0, hi, hz0, hz1, hz2⟩ := info_parts infoSlot
  have hlo' : -9223372036854775808 ≤ p.lo ∧ p.lo ≤ 9223372036854775807 := hlo
  go_enter Tryz.func114, Tryz.ntmps114
  go_wp2_with fail
  refine (given_any _ p.words (by omega) _ (hs.ext (by first | (with_reducible exact Ext.refl _) | (with_reducible assumption) | (show Below _ _ _; go_grown; done)))).mono ?_
  rintro e w1 ⟨gv, rfl, hg, hx1⟩
  have x1 : Ext ((w.alloc (.cells #[.slice a p.words.length cap, .int .i64 p.lo, .int .i64 p.hi] 182))) w1 := hx1
  have b2 : w1.cell? ⟨w.heap.size, 2, none⟩ = some (.int .i64 p.hi) := hx1.cell (by simp [go_sem])
  have hg' : RowS (w.heap.size + 1) (givenM p.words) gv w1 := hg.lower (by simp)
  clear hx1 hg
  have hz0' : ((w.alloc (.cells #[.slice a p.words.length cap, .int .i64 p.lo, .int .i64 p.hi] 182))).heap.size = w.heap.size + 1 := by simp [go_sem]
  have Hg := Lib.hid hg'
  clear hg'
  go_wp2_with fail
  go_loopw [3, 13] (fun v i wr => ∃ k : Nat, k ≤ p.hi.toNat ∧ i = .int .i64 k ∧ Ext ((w.alloc (.cells #[.slice a p.words.length cap, .int .i64 p.lo, .int .i64 p.hi] 182))) wr ∧ RowS (w.heap.size + 1) (givenM p.words ++ roomSlotsM p.lo k) v wr) (fun _ i _ => p.hi.toNat - (intOf i).toNat)
  case atStart => exact ⟨0, Nat.zero_le _, rfl, x1, by simpa [roomSlotsM] using Hg.out⟩
  case round =>
    obtain ⟨k, hk, rfl, hxr, hown⟩ := hrel
    have b1 : wr.cell? ⟨w.heap.size, 1, none⟩ = some (.int .i64 p.lo) := hxr.cell (by simp [go_sem])
    by_cases hlt : k < p.hi.toNat
    · have k1 : (k : Int) < p.hi := by omega
      have hst : givenM p.words ++ roomSlotsM p.lo (k + 1) = (givenM p.words ++ roomSlotsM p.lo k) ++ [⟨ByteArray.empty, decide (p.lo ≤ (k : Int))⟩] := by rw [roomSlots_step, List.append_assoc]
      have hlen : (givenM p.words ++ roomSlotsM p.lo k).length ≤ 6 := by simp [givenM, roomSlotsM]; omega
      have hszr := hxr.size
      have hc2 := cellsS_len (givenM p.words ++ roomSlotsM p.lo k)
      generalize hG : givenM p.words ++ roomSlotsM p.lo k = G at *
      have Hst := Lib.hid hst
      have Hown := Lib.hid hown
      clear hG hst hown Hg
      generalize hbd : decide (p.lo ≤ (k : Int)) = bd at *
      go_wp2_with (at_builtin; go_loud (refine wpList_append_own_at _ rfl _ _ 104 rfl (w.heap.size + 1) 189 i0 (.agg #[.string ByteArray.empty, .bool false]) 2 24 Tryz.underlying104 hi hz0 hz1 hz2 rfl (by decide) u3 G.length (cellsS G) rfl (World.ownsRow.alloc Hown.out _) ⟨wr.heap.size, 0, none⟩ 1 1 [.string ByteArray.empty, .bool _] rfl rfl (cell_two_newS _ _ _ _) (by simp [Value.oneCell']) (by unfold maxLen; omega) (by omega) (by simp; omega) ?_; intro v' w2 hown' hgrow _ _))
      have hx3 : Ext ((w.alloc (.cells #[.slice a p.words.length cap, .int .i64 p.lo, .int .i64 p.hi] 182))) w2 := Ext.grown (hxr.alloc _) hgrow fun k hk => by rw [hz0']; exact (Hown.out.lt k hk).1
      go_roundw
      case rel => exact ⟨k + 1, by omega, by go_num, hx3, by rw [Hst.out]; exact RowS.snoc hown'⟩
      case measure => simp [intOf]; omega
    · have hke : k = p.hi.toNat := by omega
      subst hke
      have k1 : ¬ ((p.hi.toNat : Int) < p.hi) := by omega
      go_wp2
      go_ret
      exact ⟨_, rfl, hown.lower (by omega), hxr.of_alloc⟩
end Go.Proofs.YtcamegaimleomaaGreat
