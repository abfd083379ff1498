/-
  WHAT letters RETURNS: the letters of a spelling, one behind the other. In a book without an error.
-/
import Derived.Test.YtbodmgilcohfjaaList
namespace Go.Proofs.Ytbodmgilcohfjaa
open Go.RowKit
set_option linter.unusedSimpArgs false

def letterOf (ls : List Letter) (s : ByteArray) (k : Nat) : Letter := (ls.find? fun y => y.c == byteAt s k).getD ⟨0, 0, true⟩
def lettersTo (ls : List Letter) (s : ByteArray) (k : Nat) : List Letter := (List.range k).map fun j => letterOf ls s j
def lettersM (ls : List Letter) (s : ByteArray) : List Letter := lettersTo ls s s.size
theorem lettersTo_succ (ls : List Letter) (s : ByteArray) (k : Nat) : lettersTo ls s (k + 1) = lettersTo ls s k ++ [letterOf ls s k] := by
  simp [lettersTo, List.range_succ]
theorem lettersTo_len (ls : List Letter) (s : ByteArray) (k : Nat) : (lettersTo ls s k).length = k := by simp [lettersTo]
/-- the place of a letter that is known -/
theorem idxM_known (ls : List Letter) (s : ByteArray) (k : Nat) (h : knownB ls s k = true) :
    ∃ p : Nat, ∃ hp : p < ls.length, idxM (fun y => y.c == byteAt s k) ls = p ∧ ls[p] = letterOf ls s k := by
  unfold knownB at h
  cases hf : ls.findIdx? (fun y => y.c == byteAt s k) with
  | none =>
    rw [List.findIdx?_eq_none_iff] at hf
    rw [List.any_eq_true] at h
    obtain ⟨x, hx, hc⟩ := h
    rw [hf x hx] at hc; cases hc
  | some p =>
    have hf' := hf
    rw [List.findIdx?_eq_some_iff_getElem] at hf'
    obtain ⟨hp, h1, h2⟩ := hf'
    refine ⟨p, hp, by simp [idxM, hf], ?_⟩
    have : ls.find? (fun y => y.c == byteAt s k) = some ls[p] := by
      rw [List.find?_eq_some_iff_getElem]
      exact ⟨h1, p, hp, rfl, fun j hj => by simpa using h2 j hj⟩
    rw [letterOf, this]; rfl
def cellsL (l : List Letter) : List Value := l.flatMap fun x => [.int .u8 x.c, .int .i64 x.sounds, .bool x.silent]
theorem cellsL_len (l : List Letter) : (cellsL l).length = l.length * 3 := by
  induction l with
  | nil => rfl
  | cons x l ih => simp only [cellsL, List.flatMap_cons, List.length_append, List.length_cons, List.length_nil] at *; omega
theorem cellsL_snoc (l : List Letter) (x : Letter) : cellsL (l ++ [x]) = cellsL l ++ [.int .u8 x.c, .int .i64 x.sounds, .bool x.silent] := by simp [cellsL]
theorem cellsL_get (l : List Letter) (i : Nat) (h : i < l.length) : (cellsL l)[i * 3]? = some (.int .u8 l[i].c) ∧ (cellsL l)[i * 3 + 1]? = some (.int .i64 l[i].sounds) ∧ (cellsL l)[i * 3 + 2]? = some (.bool l[i].silent) := by
  induction l generalizing i with
  | nil => simp at h
  | cons x l ih =>
    cases i with
    | zero => simp [cellsL]
    | succ i =>
      have := ih i (by simpa using h)
      have e : (i + 1) * 3 = i * 3 + 3 := by omega
      rw [e]
      simpa [cellsL] using this
theorem LettersAt.of_own {w : World} {B : Nat} {e : TypeId} {v : Value} {l : List Letter} (h : w.ownsRow B e 3 v l.length (cellsL l)) (hI : ∀ x ∈ l, U8 x.c ∧ I64 x.sounds) : LettersAt w v l := by
  rcases h.2 with ⟨rfl, hn⟩ | ⟨g, cap, cur, rfl, hb, hg, hnc, hcm, hcs, htake⟩
  · have : l = [] := List.eq_nil_of_length_eq_zero hn
    subst this; exact SliceAt.nil
  · refine ⟨_, _, rfl, hnc, by simpa [maxLen] using hcm, fun i hi => ⟨g, 0, rfl, ?_⟩⟩
    obtain ⟨c0, c1, c2⟩ := cellsL_get l i hi
    have hh := fun j u hu => h.cells (g := g) rfl j u hu
    have e : ∀ j, (⟨g, 0, none⟩ : Addr).add j = ⟨g, 0 + j, none⟩ := fun j => by unfold Addr.add; split <;> simp_all
    have r0 := hh _ _ c0
    have r1 := hh _ _ c1
    have r2 := hh _ _ c2
    rw [e] at r0 r1 r2
    exact ⟨r0, r1, r2, hI _ (List.getElem_mem hi)⟩

theorem LettersAt.fine {w : World} {v : Value} {ls : List Letter} (h : LettersAt w v ls) : ∀ x ∈ ls, U8 x.c ∧ I64 x.sounds := by
  intro x hx
  obtain ⟨i, hi, rfl⟩ := List.getElem_of_mem hx
  obtain ⟨_, _, -, -, -, hh⟩ := h
  obtain ⟨_, _, -, -, -, -, hu⟩ := hh i hi
  exact hu
theorem lettersTo_all (P : Letter → Prop) (ls : List Letter) (s : ByteArray) (k : Nat) (h : ∀ x ∈ ls, P x) (h0 : P ⟨0, 0, true⟩) : ∀ x ∈ lettersTo ls s k, P x := by
  intro x hx
  simp only [lettersTo, List.mem_map, letterOf] at hx
  obtain ⟨j, -, rfl⟩ := hx
  cases hf : ls.find? fun y => y.c == byteAt s j with
  | none => exact h0
  | some y => exact h y (List.mem_of_find?_eq_some hf)
theorem Ext.grownBy {w w' : World} (h : Ext w w') : w.grownBy w' none := ⟨Below.os h, Below.tape h, Below.output h, Below.size h, fun k hk _ => Below.block h k hk⟩
theorem Ext.owns {w w' : World} {B : Nat} {e : TypeId} {size : Nat} {v : Value} {n : Nat} {xs : List Value} (h : w.ownsRow B e size v n xs) (hx : Ext w w') : w'.ownsRow B e size v n xs :=
  h.kept hx.grownBy (by cases v.ownBlock <;> simp)
theorem cell_three_new (w : World) (a b c : Value) (t : TypeId) : ∀ j u, [a, b, c][j]? = some u → (w.alloc (.cells #[a, b, c] t)).cell? ((⟨w.heap.size, 0, none⟩ : Addr).add j) = some u := by
  intro j u hj
  match j, hj with
  | 0, hj => simp at hj; subst hj; simp [go_sem, Addr.add]
  | 1, hj => simp at hj; subst hj; simp [go_sem, Addr.add]
  | 2, hj => simp at hj; subst hj; simp [go_sem, Addr.add]
theorem snoc_letters {w : World} {B : Nat} {e : TypeId} {v : Value} {l l' : List Letter} {x : Letter} (hb : l' = l ++ [x]) (h : w.ownsRow B e 3 v (l.length + 1) (cellsL l ++ [.int .u8 x.c, .int .i64 x.sounds, .bool x.silent])) :
    w.ownsRow B e 3 v l'.length (cellsL l') := by
  subst hb
  rw [cellsL_snoc, List.length_append]
  exact h
theorem infoLetter : (Try.prog.info? 135).map (fun i => (i.zero, i.size, i.bytes)) = some (some (.agg #[.int .u8 0, .int .i64 0, .bool false]), 3, 24) := by kernel_rfl

set_option maxRecDepth 100000 in
set_option maxHeartbeats 1000000 in
theorem letters_any (bv : Value) (b : Book) (n : Nat) (hn : n < b.spellings.length) (hal : 0 ≤ (b.spellings[n]).alphabet ∧ (b.spellings[n]).alphabet < b.alphabets.length)
    (hsz : (b.spellings[n]).text.size ≤ 5) (hok : ∀ k, k < (b.spellings[n]).text.size → knownB (lettersOf b.alphabets (b.spellings[n]).alphabet) (b.spellings[n]).text k = true) (w : World) (hb : BookAt w bv b) :
    Calls Try.prog 101 #[bv, .int .i64 n] w
      fun e w' => ∃ v, e = .returned v ∧ LettersAt w' v (lettersM (lettersOf b.alphabets (b.spellings[n]).alphabet) (b.spellings[n]).text) ∧ Ext w w' := by
  obtain ⟨ba, bc, bs, bd, rfl, -, hbl, hbc, hsl, hsc, -, hA, hP⟩ := hb.open
  obtain ⟨_, _, he, -, -, hh⟩ := hP
  obtain ⟨sb, so, rfl, s0, s1, hai, hts⟩ := hh n hn
  cases he
  clear hh
  generalize b.spellings[n] = x at *
  have hlt : x.alphabet.toNat < b.alphabets.length := by omega
  obtain ⟨_, _, he, -, -, hh⟩ := hA
  obtain ⟨ab, ao, rfl, -, -, lv, a1, hlv⟩ := hh x.alphabet.toNat hlt
  cases he
  clear hh
  have hls : lettersOf b.alphabets x.alphabet = (b.alphabets[x.alphabet.toNat]).letters := by rw [lettersOf, List.getElem?_eq_getElem hlt]
  rw [← hls] at hlv
  generalize lettersOf b.alphabets x.alphabet = ls at *
  clear hls
  have Hok := Lib.hid hok
  clear hok
  obtain ⟨la, lc, rfl, hllc, hlcm⟩ := hlv.shape
  have z1 := cell_lt s0
  have z2 := cell_lt a1
  have Hfine := Lib.hid (lettersTo_all (fun x => U8 x.c ∧ I64 x.sounds) ls x.text x.text.size hlv.fine (by simp [U8, I64]))
  obtain ⟨i0, hi, hz0, hz1, hz2⟩ := info_parts infoLetter
  go_enter Try.func101, Try.ntmps101
  go_wp2
  go_loopw [7, 26] (fun v i wr => ∃ k : Nat, k ≤ x.text.size ∧ i = .int .i64 k ∧ Ext w wr ∧ wr.cell? ⟨w.heap.size + 1, 1, none⟩ = some (.string x.text) ∧
    wr.ownsRow (w.heap.size + 2) 135 3 v (lettersTo ls x.text k).length (cellsL (lettersTo ls x.text k))) (fun _ i _ => x.text.size - (intOf i).toNat)
  case atStart => exact ⟨0, Nat.zero_le _, rfl, (by first | (with_reducible exact Ext.refl _) | (with_reducible assumption) | (show Below _ _ _; go_grown; done)), by simp [go_sem], World.ownsRow_nil _ _ _ _⟩
  case round =>
    obtain ⟨k, hk, rfl, hx, ht, hown⟩ := hrel
    by_cases hkt : k < x.text.size
    · have hbe := byteAt_eq x.text k hkt
      obtain ⟨p, hp, hidx, hpl⟩ := idxM_known ls x.text k (Hok.out k hkt)
      rw [hbe] at hidx
      obtain ⟨_, _, he, -, -, hh⟩ := hlv.ext hx
      obtain ⟨lb, lo, rfl, c0, c1, c2, hu, hI⟩ := hh p hp
      cases he
      rw [hpl] at c0 c1 c2 hu hI
      have hst := lettersTo_succ ls x.text k
      have hlen := lettersTo_len ls x.text k
      generalize letterOf ls x.text k = y at *
      have Hst := Lib.hid hst
      have Hidx := Lib.hid hidx
      have Hlen := Lib.hid hlen
      clear hst hidx hlen hbe hh hpl
      go_wp2_with fail
      refine (letterAt_any ls _ _ _ (hlv.ext hx)).mono ?_
      rintro e w1 ⟨rfl, hx1⟩
      rw [Hidx.out]
      replace c0 := hx1.cell c0
      replace c1 := hx1.cell c1
      replace c2 := hx1.cell c2
      replace ht := hx1.cell ht
      have z3 := cell_lt c0
      have z4 := cell_lt ht
      have hx2 := hx.trans hx1
      have hpl : (p : Int) < ls.length := by omega
      have hown1 := Ext.owns hown hx1
      have hml : (lettersTo ls x.text k).length ≤ 5 := by rw [Hlen.out]; omega
      clear hown
      have hU := Lib.hid hu
      have hII := Lib.hid hI
      clear hu hI hlv
      go_wp2_with ((at_builtin; refine wpList_append_own _ rfl _ _ 144 rfl (w.heap.size + 2) 135 i0 (.agg #[.int .u8 0, .int .i64 0, .bool false]) 3 24 Try.underlying144 hi hz0 hz1 hz2 rfl (by decide) _ _ _ rfl (hown1.alloc _) ⟨w1.heap.size, 0, none⟩ 1 1 [.int .u8 y.c, .int .i64 y.sounds, .bool y.silent] rfl rfl (cell_three_new _ _ _ _ _) (by simp [Value.oneCell']) (by unfold maxLen; omega) (by omega) (by simp; omega) ?_; intro v' w2 hown' hgrow _))
      have hx3 : Ext w w2 := Ext.grown (hx2.alloc _) hgrow fun k hk => Nat.le_trans (by omega) (hown1.lt k hk).1
      have ht2 : w2.cell? ⟨w.heap.size + 1, 1, none⟩ = some (.string x.text) := hgrow.cell (by simpa [go_sem, z4] using ht) (fun e => by
        have := (hown1.lt (w.heap.size + 1) e.symm).1
        omega)
      go_roundw
      case rel => exact ⟨k + 1, by omega, by go_num, hx3, ht2, snoc_letters Hst.out hown'⟩
      case measure => simp [intOf]; omega
    · have hke : k = x.text.size := by omega
      subst hke
      go_wp2
      go_ret
      exact ⟨_, rfl, LettersAt.of_own hown Hfine.out, hx⟩
end Go.Proofs.Ytbodmgilcohfjaa
