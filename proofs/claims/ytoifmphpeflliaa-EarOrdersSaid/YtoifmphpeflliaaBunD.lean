/-
  WHAT letters RETURNS: the letters of a spelling, one behind the other. In a book without an error.
  WHAT shortest RETURNS: for each sound the first letter that gives it.
  WHAT IS SO OF A BOOK WITHOUT AN ERROR. Plain facts.
  WHAT ear.Spell RETURNS, for any book, number and list: the text and the error that the document says.
-/
import Derived.Test.YtoifmphpeflliaaBunC
import Derived.Laws.IdiomStrings
namespace Go.Proofs.Ytoifmphpeflliaa
open Go.RowKit
set_option linter.unusedSimpArgs false

def letterOf (ls : List Letter) (s : ByteArray) (k : Nat) : Letter := (ls.find? fun y => y.c == byteAt s k).getD ⟨0, 0, true⟩
def lettersTo (ls : List Letter) (s : ByteArray) (k : Nat) : List Letter := (List.range k).map fun j => letterOf ls s j
def lettersM (ls : List Letter) (s : ByteArray) : List Letter := lettersTo ls s s.size
theorem lettersTo_succ (ls : List Letter) (s : ByteArray) (k : Nat) : lettersTo ls s (k + 1) = lettersTo ls s k ++ [letterOf ls s k] := by
  simp [lettersTo, List.range_succ]
theorem lettersTo_len (ls : List Letter) (s : ByteArray) (k : Nat) : (lettersTo ls s k).length = k := by simp [lettersTo]
/-- the place of a letter that is known -/
theorem idxM_known (ls : List Letter) (s : ByteArray) (k : Nat) (h : knownB ls s k = true) :
    ∃ p : Nat, ∃ hp : p < ls.length, idxM (fun y => y.c == byteAt s k) ls = p ∧ ls[p] = letterOf ls s k := by
  unfold knownB at h
  cases hf : ls.findIdx? (fun y => y.c == byteAt s k) with
  | none =>
    rw [List.findIdx?_eq_none_iff] at hf
    rw [List.any_eq_true] at h
    obtain ⟨x, hx, hc⟩ := h
    rw [hf x hx] at hc; cases hc
  | some p =>
    have hf' := hf
    rw [List.findIdx?_eq_some_iff_getElem] at hf'
    obtain ⟨hp, h1, h2⟩ := hf'
    refine ⟨p, hp, by simp [idxM, hf], ?_⟩
    have : ls.find? (fun y => y.c == byteAt s k) = some ls[p] := by
      rw [List.find?_eq_some_iff_getElem]
      exact ⟨h1, p, hp, rfl, fun j hj => by simpa using h2 j hj⟩
    rw [letterOf, this]; rfl
def cellsL (l : List Letter) : List Value := l.flatMap fun x => [.int .u8 x.c, .int .i64 x.sounds, .bool x.silent]
theorem cellsL_len (l : List Letter) : (cellsL l).length = l.length * 3 := by
  induction l with
  | nil => rfl
  | cons x l ih => simp only [cellsL, List.flatMap_cons, List.length_append, List.length_cons, List.length_nil] at *; omega
theorem cellsL_snoc (l : List Letter) (x : Letter) : cellsL (l ++ [x]) = cellsL l ++ [.int .u8 x.c, .int .i64 x.sounds, .bool x.silent] := by simp [cellsL]
theorem cellsL_get (l : List Letter) (i : Nat) (h : i < l.length) : (cellsL l)[i * 3]? = some (.int .u8 l[i].c) ∧ (cellsL l)[i * 3 + 1]? = some (.int .i64 l[i].sounds) ∧ (cellsL l)[i * 3 + 2]? = some (.bool l[i].silent) := by
  induction l generalizing i with
  | nil => simp at h
  | cons x l ih =>
    cases i with
    | zero => simp [cellsL]
    | succ i =>
      have := ih i (by simpa using h)
      have e : (i + 1) * 3 = i * 3 + 3 := by omega
      rw [e]
      simpa [cellsL] using this
theorem LettersAt.of_own {w : World} {B : Nat} {e : TypeId} {v : Value} {l : List Letter} (h : w.ownsRow B e 3 v l.length (cellsL l)) (hI : ∀ x ∈ l, U8 x.c ∧ I64 x.sounds) : LettersAt w v l := by
  rcases h.2 with ⟨rfl, hn⟩ | ⟨g, cap, cur, rfl, hb, hg, hnc, hcm, hcs, htake⟩
  · have : l = [] := List.eq_nil_of_length_eq_zero hn
    subst this; exact SliceAt.nil
  · refine ⟨_, _, rfl, hnc, by simpa [maxLen] using hcm, fun i hi => ⟨g, 0, rfl, ?_⟩⟩
    obtain ⟨c0, c1, c2⟩ := cellsL_get l i hi
    have hh := fun j u hu => h.cells (g := g) rfl j u hu
    have e : ∀ j, (⟨g, 0, none⟩ : Addr).add j = ⟨g, 0 + j, none⟩ := fun j => by unfold Addr.add; split <;> simp_all
    have r0 := hh _ _ c0
    have r1 := hh _ _ c1
    have r2 := hh _ _ c2
    rw [e] at r0 r1 r2
    exact ⟨r0, r1, r2, hI _ (List.getElem_mem hi)⟩

theorem LettersAt.fine {w : World} {v : Value} {ls : List Letter} (h : LettersAt w v ls) : ∀ x ∈ ls, U8 x.c ∧ I64 x.sounds := by
  intro x hx
  obtain ⟨i, hi, rfl⟩ := List.getElem_of_mem hx
  obtain ⟨_, _, -, -, -, hh⟩ := h
  obtain ⟨_, _, -, -, -, -, hu⟩ := hh i hi
  exact hu
theorem lettersTo_all (P : Letter → Prop) (ls : List Letter) (s : ByteArray) (k : Nat) (h : ∀ x ∈ ls, P x) (h0 : P ⟨0, 0, true⟩) : ∀ x ∈ lettersTo ls s k, P x := by
  intro x hx
  simp only [lettersTo, List.mem_map, letterOf] at hx
  obtain ⟨j, -, rfl⟩ := hx
  cases hf : ls.find? fun y => y.c == byteAt s j with
  | none => exact h0
  | some y => exact h y (List.mem_of_find?_eq_some hf)
theorem Ext.grownBy {w w' : World} (h : Ext w w') : w.grownBy w' none := ⟨Below.os h, Below.tape h, Below.output h, Below.size h, fun k hk _ => Below.block h k hk⟩
theorem Ext.owns {w w' : World} {B : Nat} {e : TypeId} {size : Nat} {v : Value} {n : Nat} {xs : List Value} (h : w.ownsRow B e size v n xs) (hx : Ext w w') : w'.ownsRow B e size v n xs :=
  h.kept hx.grownBy (by cases v.ownBlock <;> simp)
theorem cell_three_new (w : World) (a b c : Value) (t : TypeId) : ∀ j u, [a, b, c][j]? = some u → (w.alloc (.cells #[a, b, c] t)).cell? ((⟨w.heap.size, 0, none⟩ : Addr).add j) = some u := by
  intro j u hj
  match j, hj with
  | 0, hj => simp at hj; subst hj; simp [go_sem, Addr.add]
  | 1, hj => simp at hj; subst hj; simp [go_sem, Addr.add]
  | 2, hj => simp at hj; subst hj; simp [go_sem, Addr.add]
theorem snoc_letters {w : World} {B : Nat} {e : TypeId} {v : Value} {l l' : List Letter} {x : Letter} (hb : l' = l ++ [x]) (h : w.ownsRow B e 3 v (l.length + 1) (cellsL l ++ [.int .u8 x.c, .int .i64 x.sounds, .bool x.silent])) :
    w.ownsRow B e 3 v l'.length (cellsL l') := by
  subst hb
  rw [cellsL_snoc, List.length_append]
  exact h
theorem infoLetter : (Try.prog.info? 157).map (fun i => (i.zero, i.size, i.bytes)) = some (some (.agg #[.int .u8 0, .int .i64 0, .bool false]), 3, 24) := by kernel_rfl

set_option maxRecDepth 100000 in
set_option maxHeartbeats 1000000 in
theorem letters_any (bv : Value) (b : Book) (n : Nat) (hn : n < b.spellings.length) (hal : 0 ≤ (b.spellings[n]).alphabet ∧ (b.spellings[n]).alphabet < b.alphabets.length)
    (hsz : (b.spellings[n]).text.size ≤ 5) (hok : ∀ k, k < (b.spellings[n]).text.size → knownB (lettersOf b.alphabets (b.spellings[n]).alphabet) (b.spellings[n]).text k = true) (w : World) (hb : BookAt w bv b) :
    Calls Try.prog 130 #[bv, .int .i64 n] w
      fun e w' => ∃ v, e = .returned v ∧ LettersAt w' v (lettersM (lettersOf b.alphabets (b.spellings[n]).alphabet) (b.spellings[n]).text) ∧ Ext w w' := by
  obtain ⟨ba, bc, bs, bd, rfl, -, hbl, hbc, hsl, hsc, -, hA, hP⟩ := hb.open
  obtain ⟨_, _, he, -, -, hh⟩ := hP
  obtain ⟨sb, so, rfl, s0, s1, hai, hts⟩ := hh n hn
  cases he
  clear hh
  generalize b.spellings[n] = x at *
  have hlt : x.alphabet.toNat < b.alphabets.length := by omega
  obtain ⟨_, _, he, -, -, hh⟩ := hA
  obtain ⟨ab, ao, rfl, -, -, lv, a1, hlv⟩ := hh x.alphabet.toNat hlt
  cases he
  clear hh
  have hls : lettersOf b.alphabets x.alphabet = (b.alphabets[x.alphabet.toNat]).letters := by rw [lettersOf, List.getElem?_eq_getElem hlt]
  rw [← hls] at hlv
  generalize lettersOf b.alphabets x.alphabet = ls at *
  clear hls
  have Hok := Lib.hid hok
  clear hok
  obtain ⟨la, lc, rfl, hllc, hlcm⟩ := hlv.shape
  have z1 := cell_lt s0
  have z2 := cell_lt a1
  have Hfine := Lib.hid (lettersTo_all (fun x => U8 x.c ∧ I64 x.sounds) ls x.text x.text.size hlv.fine (by simp [U8, I64]))
  obtain ⟨i0, hi, hz0, hz1, hz2⟩ := info_parts infoLetter
  go_enter Try.func130, Try.ntmps130
  go_wp2
  go_loopw [7, 26] (fun v i wr => ∃ k : Nat, k ≤ x.text.size ∧ i = .int .i64 k ∧ Ext w wr ∧ wr.cell? ⟨w.heap.size + 1, 1, none⟩ = some (.string x.text) ∧
    wr.ownsRow (w.heap.size + 2) 157 3 v (lettersTo ls x.text k).length (cellsL (lettersTo ls x.text k))) (fun _ i _ => x.text.size - (intOf i).toNat)
  case atStart => exact ⟨0, Nat.zero_le _, rfl, (by first | (with_reducible exact Ext.refl _) | (with_reducible assumption) | (show Below _ _ _; go_grown; done)), by simp [go_sem], World.ownsRow_nil _ _ _ _⟩
  case round =>
    obtain ⟨k, hk, rfl, hx, ht, hown⟩ := hrel
    by_cases hkt : k < x.text.size
    · have hbe := byteAt_eq x.text k hkt
      obtain ⟨p, hp, hidx, hpl⟩ := idxM_known ls x.text k (Hok.out k hkt)
      rw [hbe] at hidx
      obtain ⟨_, _, he, -, -, hh⟩ := hlv.ext hx
      obtain ⟨lb, lo, rfl, c0, c1, c2, hu, hI⟩ := hh p hp
      cases he
      rw [hpl] at c0 c1 c2 hu hI
      have hst := lettersTo_succ ls x.text k
      have hlen := lettersTo_len ls x.text k
      generalize letterOf ls x.text k = y at *
      have Hst := Lib.hid hst
      have Hidx := Lib.hid hidx
      have Hlen := Lib.hid hlen
      clear hst hidx hlen hbe hh hpl
      go_wp2_with fail
      refine (letterAt_any ls _ _ _ (hlv.ext hx)).mono ?_
      rintro e w1 ⟨rfl, hx1⟩
      rw [Hidx.out]
      replace c0 := hx1.cell c0
      replace c1 := hx1.cell c1
      replace c2 := hx1.cell c2
      replace ht := hx1.cell ht
      have z3 := cell_lt c0
      have z4 := cell_lt ht
      have hx2 := hx.trans hx1
      have hpl : (p : Int) < ls.length := by omega
      have hown1 := Ext.owns hown hx1
      have hml : (lettersTo ls x.text k).length ≤ 5 := by rw [Hlen.out]; omega
      clear hown
      have hU := Lib.hid hu
      have hII := Lib.hid hI
      clear hu hI hlv
      go_wp2_with ((at_builtin; refine wpList_append_own _ rfl _ _ 220 rfl (w.heap.size + 2) 157 i0 (.agg #[.int .u8 0, .int .i64 0, .bool false]) 3 24 Try.underlying220 hi hz0 hz1 hz2 rfl (by decide) _ _ _ rfl (hown1.alloc _) ⟨w1.heap.size, 0, none⟩ 1 1 [.int .u8 y.c, .int .i64 y.sounds, .bool y.silent] rfl rfl (cell_three_new _ _ _ _ _) (by simp [Value.oneCell']) (by unfold maxLen; omega) (by omega) (by simp; omega) ?_; intro v' w2 hown' hgrow _))
      have hx3 : Ext w w2 := Ext.grown (hx2.alloc _) hgrow fun k hk => Nat.le_trans (by omega) (hown1.lt k hk).1
      have ht2 : w2.cell? ⟨w.heap.size + 1, 1, none⟩ = some (.string x.text) := hgrow.cell (by simpa [go_sem, z4] using ht) (fun e => by
        have := (hown1.lt (w.heap.size + 1) e.symm).1
        omega)
      go_roundw
      case rel => exact ⟨k + 1, by omega, by go_num, hx3, ht2, snoc_letters Hst.out hown'⟩
      case measure => simp [intOf]; omega
    · have hke : k = x.text.size := by omega
      subst hke
      go_wp2
      go_ret
      exact ⟨_, rfl, LettersAt.of_own hown Hfine.out, hx⟩
end Go.Proofs.Ytoifmphpeflliaa

namespace Go.Proofs.Ytoifmphpeflliaa
open Go.RowKit
set_option linter.unusedSimpArgs false

def wantedM (heard : List Int) : List Int := if heard = [] then [-1] else heard
def giver (ls : List Letter) (s : Int) : Option Letter := ls.find? fun x => givesM x s
def shortM (ls : List Letter) : List Int → Option (List Int)
  | [] => some []
  | s :: r => match giver ls s, shortM ls r with
    | some x, some l => some (x.c :: l)
    | _, _ => none
/-- the text of the first sounds -/
def textTo (ls : List Letter) (l : List Int) (k : Nat) : List Int := (l.take k).filterMap fun s => (giver ls s).map (·.c)

theorem infoByte : (Try.prog.info? 5).map (fun i => (i.zero, i.size, i.bytes)) = some (some (.int .u8 0), 1, 1) := by kernel_rfl
def bytesOf (l : List Int) : List Value := l.map (Value.int .u8)

theorem textTo_succ (ls : List Letter) (l : List Int) (k : Nat) (hk : k < l.length) (x : Letter) (h : giver ls l[k] = some x) : textTo ls l (k + 1) = textTo ls l k ++ [x.c] := by
  unfold textTo
  rw [List.take_succ_eq_append_getElem hk, List.filterMap_append]
  simp [h]
theorem textTo_len (ls : List Letter) (l : List Int) (k : Nat) : (textTo ls l k).length ≤ k := by
  unfold textTo
  have h1 := List.length_filterMap_le (fun s => (giver ls s).map (·.c)) (l.take k)
  have h2 := List.length_take_le k l
  omega
theorem giver_at (ls : List Letter) (s : Int) (m : Nat) (hm : m < ls.length) (h : ∀ j (_ : j < m) (hj : j < ls.length), givesM ls[j] s = false) (hy : givesM ls[m] s = true) : giver ls s = some ls[m] := by
  rw [giver, List.find?_eq_some_iff_getElem]
  exact ⟨hy, m, hm, rfl, fun j hj => by simpa using h j hj (by omega)⟩
theorem giver_none (ls : List Letter) (s : Int) (h : ∀ j (hj : j < ls.length), givesM ls[j] s = false) : giver ls s = none := by
  rw [giver, List.find?_eq_none]
  intro x hx
  obtain ⟨j, hj, rfl⟩ := List.getElem_of_mem hx
  simp [h j hj]
def shortE (ls : List Letter) (l : List Int) : Int := if l.all fun s => (giver ls s).isSome then 0 else 9
def shortS (ls : List Letter) (l : List Int) : List Int := if l.all fun s => (giver ls s).isSome then textTo ls l l.length else []
theorem shortE_no (ls : List Letter) (l : List Int) (k : Nat) (hk : k < l.length) (h : giver ls l[k] = none) : shortE ls l = 9 ∧ shortS ls l = [] := by
  have : (l.all fun s => (giver ls s).isSome) = false := by
    rw [List.all_eq_false]
    exact ⟨l[k], List.getElem_mem hk, by simp [h]⟩
  simp [shortE, shortS, this]
theorem shortE_yes (ls : List Letter) (l : List Int) (h : ∀ j (hj : j < l.length), (giver ls l[j]).isSome = true) : shortE ls l = 0 ∧ shortS ls l = textTo ls l l.length := by
  have : (l.all fun s => (giver ls s).isSome) = true := by
    rw [List.all_eq_true]
    intro x hx
    obtain ⟨j, hj, rfl⟩ := List.getElem_of_mem hx
    exact h j hj
  simp [shortE, shortS, this]
def strOf (l : List Int) : ByteArray := ⟨(l.map fun n => UInt8.ofNat n.toNat).toArray⟩
theorem textTo_full (ls : List Letter) (l : List Int) (k : Nat) (hk : k ≤ l.length) (h : ∀ j (_ : j < k) (hj : j < l.length), (giver ls l[j]).isSome = true) : (textTo ls l k).length = k := by
  induction k with
  | zero => simp [textTo]
  | succ k ih =>
    obtain ⟨x, hx⟩ := Option.isSome_iff_exists.1 (h k (by omega) (by omega))
    rw [textTo_succ ls l k (by omega) x hx, List.length_append, ih (by omega) fun j hj hl => h j (by omega) hl]; rfl
theorem textTo_U8 (ls : List Letter) (l : List Int) (k : Nat) (h : ∀ x ∈ ls, U8 x.c) : ∀ n ∈ textTo ls l k, U8 n := by
  intro n hn
  simp only [textTo, List.mem_filterMap, Option.map_eq_some_iff] at hn
  obtain ⟨s, -, x, hx, rfl⟩ := hn
  exact h x (List.mem_of_find?_eq_some hx)
theorem byte_back (n : Int) (h : U8 n) : ((UInt8.ofNat n.toNat).toNat : Int) = n := by
  obtain ⟨h0, h1⟩ := h
  rw [UInt8.toNat_ofNat', Nat.mod_eq_of_lt (by omega)]; omega
/-- bytes that are owned, as a string -/
theorem convert_own {w : World} {B : Nat} {v : Value} {l : List Int} (hl : l ≠ []) (hU : ∀ n ∈ l, U8 n) (h : w.ownsRow B 5 1 v l.length (bytesOf l)) :
    (convert 32 9 v).run Try.prog w = .ok (.string (strOf l)) w := by
  rcases h.2 with ⟨rfl, hn⟩ | ⟨g, cap, cur, rfl, hb, hg, hnc, hcm, hcs, htake⟩
  · exact absurd (List.eq_nil_of_length_eq_zero hn) hl
  · have := run_convert_bytes_back (P := Try.prog) w 32 9 5 ⟨g, 0, none⟩ cap (l.map fun n => UInt8.ofNat n.toNat) Try.underlying32 Try.underlying5 Try.underlying9 (fun j hj => by
      have hj' : j < l.length := by simpa using hj
      rw [h.cells (g := g) rfl j (.int .u8 l[j]) (by simp [bytesOf, hj'])]
      rw [List.getElem_map, byte_back _ (hU _ (List.getElem_mem hj'))])
    rw [List.length_map] at this
    exact this
theorem ret_strInt {a b : ByteArray} {c d : Int} (h : a = b) (h2 : c = d) : Ending.returned (.tuple #[.string a, .int .i64 c]) = .returned (.tuple #[.string b, .int .i64 d]) := by rw [h, h2]
theorem snoc_bytes {w : World} {B : Nat} {e : TypeId} {v : Value} {l l' : List Int} {x : Int} (hb : l' = l ++ [x]) (h : w.ownsRow B e 1 v (l.length + 1) (bytesOf l ++ [.int .u8 x])) :
    w.ownsRow B e 1 v l'.length (bytesOf l') := by
  subst hb
  simpa [bytesOf] using h

set_option maxRecDepth 100000 in
set_option maxHeartbeats 1000000 in
theorem shortest_any (bv hv : Value) (b : Book) (n : Nat) (hn : n < b.alphabets.length) (heard : List Int) (hS : ∀ s ∈ heard, 0 ≤ s ∧ s ≤ 3) (h5 : heard.length ≤ 5) (hf : ∀ x ∈ (b.alphabets[n]).letters, FineL x) (w : World) (hb : BookAt w bv b) (hh : IntsAt w hv heard) :
    Calls Try.prog 42 #[bv, .int .i64 n, hv] w
      fun e w' => e = .returned (.tuple #[.string (strOf (shortS (b.alphabets[n]).letters (wantedM heard))), .int .i64 (shortE (b.alphabets[n]).letters (wantedM heard))]) ∧ Ext w w' := by
  obtain ⟨ba, bc, bs, bd, rfl, -, hbl, hbc, hsl, hsc, -, hA, hP⟩ := hb.open
  obtain ⟨_, _, he, -, -, hq⟩ := hA
  obtain ⟨ab, ao, rfl, -, -, lv, a1, hlv⟩ := hq n hn
  cases he
  clear hq
  generalize (b.alphabets[n]).letters = ls at *
  obtain ⟨la, lc, rfl, hllc, hlcm⟩ := hlv.shape
  obtain ⟨ha, hc, rfl, hhc, hhm⟩ := hh.shape
  have z1 := cell_lt a1
  have HU : Hid (∀ x ∈ ls, U8 x.c) := Lib.hid fun x hx => (hlv.fine x hx).1
  have Hf := Lib.hid hf
  have HS := Lib.hid hS
  clear hf hS
  obtain ⟨i0, hi, hz0, hz1, hz2⟩ := info_parts infoByte
  by_cases hnil : heard.length = 0
  · have h0 : heard = [] := List.eq_nil_of_length_eq_zero hnil
    subst h0
    obtain ⟨wl, hwl⟩ : ∃ wl : List Int, wl = [-1] := ⟨_, rfl⟩
    have Hlen : Hid (wl.length = 1) := Lib.hid (by rw [hwl]; rfl)
    have Hwm : Hid (wantedM [] = wl) := Lib.hid (by rw [hwl]; rfl)
    have Hrange : Hid (∀ x ∈ wl, -1 ≤ x ∧ x ≤ 3) := Lib.hid (fun x hx => by rw [hwl] at hx; simp at hx; omega)
    have Hwant : Hid (IntsAt ((w.alloc (.cells #[.int .i64 b.sounds, .slice (some ⟨ab, ao, none⟩) b.alphabets.length bc, .slice bs b.spellings.length bd] 86)).alloc (.cells #[.int .i64 (-1)] 3)) (.slice (some ⟨w.heap.size + 1, 0, none⟩) 1 1) wl) := Lib.hid (by rw [hwl]; exact IntsAt.oneAt (by simp) (by omega))
    clear hwl
    go_enter Try.func42, Try.ntmps42
    go_wp2
    go_step3
    go_wp2
    go_step3
    go_wp2
    have hx0 : Ext w ((w.alloc (.cells #[.int .i64 b.sounds, .slice (some ⟨ab, ao, none⟩) b.alphabets.length bc, .slice bs b.spellings.length bd] 86)).alloc (.cells #[.int .i64 (-1)] 3)) := (by first | (with_reducible exact Ext.refl _) | (with_reducible assumption) | (show Below _ _ _; go_grown; done))
    have hbx : ((w.alloc (.cells #[.int .i64 b.sounds, .slice (some ⟨ab, ao, none⟩) b.alphabets.length bc, .slice bs b.spellings.length bd] 86)).alloc (.cells #[.int .i64 (-1)] 3)).cell? ⟨w.heap.size, 1, none⟩ = some (.slice (some ⟨ab, ao, none⟩) b.alphabets.length bc) := by simp [go_sem]
    go_loopw [9, 21] (fun t i wr => ∃ k : Nat, k ≤ 1 ∧ i = .int .i64 k ∧ Ext ((w.alloc (.cells #[.int .i64 b.sounds, .slice (some ⟨ab, ao, none⟩) b.alphabets.length bc, .slice bs b.spellings.length bd] 86)).alloc (.cells #[.int .i64 (-1)] 3)) wr ∧
      wr.ownsRow (w.heap.size + 2) 5 1 t (textTo ls (wl) k).length (bytesOf (textTo ls (wl) k)) ∧ ∀ j (_ : j < k) (hj : j < wl.length), (giver ls (wl)[j]).isSome = true) (fun _ i _ => 1 - (intOf i).toNat)
    case atStart => exact ⟨0, Nat.zero_le _, rfl, Ext.refl _, World.ownsRow_nil _ _ _ _, fun j hj => absurd hj (Nat.not_lt_zero _)⟩
    case round =>
      obtain ⟨k, hk, rfl, hx, hown, hall⟩ := hrel
      have Hall := Lib.hid hall
      clear hall
      have hx1 := hx0.trans hx
      have hbx1 := hx.cell hbx
      have a11 := hx1.cell a1
      have z2 := cell_lt hbx1
      by_cases hkt : k < 1
      · have hkl : k < wl.length := by rw [Hlen.out]; exact hkt
        obtain rfl : k = 0 := by omega
        obtain ⟨_, _, he, -, -, hq⟩ := Hwant.out.ext hx
        obtain ⟨wb, wo, ew, w1, ws⟩ := hq 0 hkl
        rw [ew] at he
        simp only [Value.slice.injEq, Option.some.injEq, Addr.mk.injEq, and_true] at he
        obtain ⟨⟨rfl, rfl⟩, -, -⟩ := he
        clear hq
        have hsr : -1 ≤ (wl)[0] ∧ (wl)[0] ≤ 3 := Hrange.out _ (List.getElem_mem hkl)
        generalize hs : (wl)[0] = s at *
        have Hs := Lib.hid hs
        clear hs
        simp only [Nat.zero_mul, Nat.add_zero] at w1
        go_wp2
        go_step3
        go_wp2
        go_step3
        go_wp2
        obtain ⟨wo, hwo⟩ : ∃ wo : World, wo = wr := ⟨_, rfl⟩
        subst hwo
        obtain ⟨tv, htv⟩ : ∃ tv : Value, tv = u9 := ⟨_, rfl⟩
        rw [← htv] at hown
        go_loopw [9, 33] (fun t j wq => ∃ m : Nat, m ≤ ls.length ∧ t = tv ∧ j = .int .i64 m ∧ Ext wo wq ∧ ∀ j (_ : j < m) (hj : j < ls.length), givesM ls[j] s = false) (fun _ j _ => ls.length - (intOf j).toNat)
        case atStart => exact ⟨0, Nat.zero_le _, htv.symm, rfl, Ext.refl _, fun j hj => absurd hj (Nat.not_lt_zero _)⟩
        case round =>
          clear htv
          obtain ⟨m, hm, rfl, rfl, hxq, hno⟩ := hrel
          have Hno := Lib.hid hno
          clear hno
          by_cases hmt : m < ls.length
          · obtain ⟨_, _, he, -, -, hq⟩ := (hlv.ext hx1).ext hxq
            obtain ⟨lb, lo, rfl, c0, c1, c2, hu, hI⟩ := hq m hmt
            cases he
            clear hq
            have hfy := Hf.out _ (List.getElem_mem hmt)
            generalize hy : ls[m] = y at *
            have Hy := Lib.hid hy
            have HI := Lib.hid hI
            clear hy hI
            go_wp2_with fail
            refine (gives_any _ y s ⟨rfl, hu, HI.out⟩ hfy hsr _).mono ?_
            rintro e w2 ⟨rfl, hg⟩
            have hxg : Ext wo w2 := hxq.trans hg.of_alloc
            have hwq := cell_lt c0
            have p0 : w2.cell? ⟨wr.heap.size, 0, none⟩ = some (.int .u8 y.c) := hg.cell (by simp [go_sem])
            cases hgv : givesM y s
            · have Hgv := Lib.hid hgv
              clear hgv
              go_wp2_with fail
              go_roundw
              case rel => exact ⟨m + 1, by omega, rfl, by go_num, hxg, fun j hj hl => by
                rcases Nat.lt_or_ge j m with hjm | hjm
                · exact Hno.out j hjm hl
                · obtain rfl : j = m := by omega
                  rw [Hy.out]; exact Hgv.out⟩
              case measure => simp [intOf]; omega
            · have Hgv := Lib.hid hgv
              clear hgv
              have hown2 := Ext.owns hown hxg
              have hml : (textTo ls wl 0).length ≤ 5 := by have := textTo_len ls wl 0; omega
              have hsz2 := hxg.size
              go_wp2_with ((at_builtin; refine wpList_append_own _ rfl _ _ 32 rfl (w.heap.size + 2) 5 i0 (.int .u8 0) 1 1 Try.underlying32 hi hz0 hz1 hz2 rfl (by decide) _ _ _ rfl (hown2.alloc _) ⟨w2.heap.size, 0, none⟩ 1 1 [.int .u8 y.c] rfl rfl (cell_one_new _ _ _) (by simp [Value.oneCell']) (by unfold maxLen; omega) (by omega) (by simp; omega) ?_; intro v' w3 hown' hgrow _))
              have hx3 : Ext ((w.alloc (.cells #[.int .i64 b.sounds, .slice (some ⟨ab, ao, none⟩) b.alphabets.length bc, .slice bs b.spellings.length bd] 86)).alloc (.cells #[.int .i64 (-1)] 3)) w3 :=
                Ext.grown ((hx.trans hxg).alloc _) hgrow fun k hk => by have := (hown2.lt k hk).1; simpa using this
              have hgs := giver_at ls s m hmt Hno.out (by rw [Hy.out]; exact Hgv.out)
              rw [Hy.out] at hgs
              have Hgs := Lib.hid hgs
              clear hgs
              simp only [Exit.noGoto, Exit.inBlock, if_true]
              go_wp2
              go_roundw
              case rel => exact ⟨1, by omega, rfl, hx3, snoc_bytes (textTo_succ ls wl 0 hkl y (by rw [Hs.out]; exact Hgs.out)) hown', fun j hj hl => by
                rcases Nat.lt_or_ge j 0 with hjk | hjk
                · exact Hall.out j hjk hl
                · obtain rfl : j = 0 := by omega
                  rw [Hs.out, Hgs.out]; rfl⟩
              case measure => simp [intOf]
          · have hgs := giver_none ls s fun j hj => Hno.out j (by omega) hj
            have hsh := shortE_no ls wl 0 hkl (by rw [Hs.out]; exact hgs)
            have Hsh := Lib.hid hsh
            clear hgs hsh
            go_wp2
            simp +zetaDelta only [Exit.noGoto, Exit.inBlock, Exit.then]
            go_ret2
            exact ⟨ret_strInt (by rw [Hwm.out, Hsh.out.2]; rfl) (by rw [Hwm.out, Hsh.out.1]), hx1.trans hxq⟩
      · have hke : k = 1 := by omega
        have hfull := textTo_full ls wl k (by rw [Hlen.out]; exact hk) Hall.out
        have hcv := convert_own (l := textTo ls wl k) (fun e => absurd hfull (by rw [e, hke]; decide)) (textTo_U8 ls wl k HU.out) hown
        have hsh := shortE_yes ls wl fun j hj => Hall.out j (by rw [Hlen.out] at hj; omega) hj
        rw [Hlen.out] at hsh
        have Hsh := Lib.hid hsh
        clear hsh hfull
        go_wp2
        go_ret2
        exact ⟨ret_strInt (by rw [Hwm.out, Hsh.out.2]) (by rw [Hwm.out, Hsh.out.1]), hx1⟩
  · have hne : ((heard.length : Int) == 0) = false := by simpa using hnil
    have Hwm : Hid (wantedM heard = heard) := Lib.hid (by rw [wantedM, if_neg (fun e => hnil (by rw [e]; rfl))])
    have Hrange : Hid (∀ x ∈ heard, -1 ≤ x ∧ x ≤ 3) := Lib.hid (fun x hx => by have := HS.out x hx; omega)
    have hwant := hh.ext (ext_alloc w (.cells #[.int .i64 b.sounds, .slice (some ⟨ab, ao, none⟩) b.alphabets.length bc, .slice bs b.spellings.length bd] 86))
    go_enter Try.func42, Try.ntmps42
    go_wp2
    go_step3
    go_wp2
    go_step3
    go_wp2
    have hx0 : Ext w (w.alloc (.cells #[.int .i64 b.sounds, .slice (some ⟨ab, ao, none⟩) b.alphabets.length bc, .slice bs b.spellings.length bd] 86)) := (by first | (with_reducible exact Ext.refl _) | (with_reducible assumption) | (show Below _ _ _; go_grown; done))
    have hbx : (w.alloc (.cells #[.int .i64 b.sounds, .slice (some ⟨ab, ao, none⟩) b.alphabets.length bc, .slice bs b.spellings.length bd] 86)).cell? ⟨w.heap.size, 1, none⟩ = some (.slice (some ⟨ab, ao, none⟩) b.alphabets.length bc) := by simp [go_sem]
    go_loopw [9, 21] (fun t i wr => ∃ k : Nat, k ≤ (heard).length ∧ i = .int .i64 k ∧ Ext (w.alloc (.cells #[.int .i64 b.sounds, .slice (some ⟨ab, ao, none⟩) b.alphabets.length bc, .slice bs b.spellings.length bd] 86)) wr ∧
      wr.ownsRow (w.heap.size + 1) 5 1 t (textTo ls (heard) k).length (bytesOf (textTo ls (heard) k)) ∧ ∀ j (_ : j < k) (hj : j < (heard).length), (giver ls (heard)[j]).isSome = true) (fun _ i _ => (heard).length - (intOf i).toNat)
    case atStart => exact ⟨0, Nat.zero_le _, rfl, Ext.refl _, World.ownsRow_nil _ _ _ _, fun j hj => absurd hj (Nat.not_lt_zero _)⟩
    case round =>
      obtain ⟨k, hk, rfl, hx, hown, hall⟩ := hrel
      have Hall := Lib.hid hall
      clear hall
      have hx1 := hx0.trans hx
      have hbx1 := hx.cell hbx
      have a11 := hx1.cell a1
      have z2 := cell_lt hbx1
      by_cases hkt : k < (heard).length
      · obtain ⟨_, _, he, -, -, hq⟩ := hwant.ext hx
        obtain ⟨wb, wo, rfl, w1, ws⟩ := hq k hkt
        cases he
        clear hq
        have hsr : -1 ≤ (heard)[k] ∧ (heard)[k] ≤ 3 := Hrange.out _ (List.getElem_mem hkt)
        generalize hs : (heard)[k] = s at *
        have Hs := Lib.hid hs
        clear hs
        simp only [Nat.mul_one] at w1
        go_wp2
        go_step3
        go_wp2
        go_step3
        go_wp2
        obtain ⟨wo, hwo⟩ : ∃ wo : World, wo = wr := ⟨_, rfl⟩
        subst hwo
        obtain ⟨tv, htv⟩ : ∃ tv : Value, tv = u9 := ⟨_, rfl⟩
        rw [← htv] at hown
        go_loopw [9, 33] (fun t j wq => ∃ m : Nat, m ≤ ls.length ∧ t = tv ∧ j = .int .i64 m ∧ Ext wo wq ∧ ∀ j (_ : j < m) (hj : j < ls.length), givesM ls[j] s = false) (fun _ j _ => ls.length - (intOf j).toNat)
        case atStart => exact ⟨0, Nat.zero_le _, htv.symm, rfl, Ext.refl _, fun j hj => absurd hj (Nat.not_lt_zero _)⟩
        case round =>
          clear htv
          obtain ⟨m, hm, rfl, rfl, hxq, hno⟩ := hrel
          have Hno := Lib.hid hno
          clear hno
          by_cases hmt : m < ls.length
          · obtain ⟨_, _, he, -, -, hq⟩ := (hlv.ext hx1).ext hxq
            obtain ⟨lb, lo, rfl, c0, c1, c2, hu, hI⟩ := hq m hmt
            cases he
            clear hq
            have hfy := Hf.out _ (List.getElem_mem hmt)
            generalize hy : ls[m] = y at *
            have Hy := Lib.hid hy
            have HI := Lib.hid hI
            clear hy hI
            go_wp2_with fail
            refine (gives_any _ y s ⟨rfl, hu, HI.out⟩ hfy hsr _).mono ?_
            rintro e w2 ⟨rfl, hg⟩
            have hxg : Ext wo w2 := hxq.trans hg.of_alloc
            have hwq := cell_lt c0
            have p0 : w2.cell? ⟨wr.heap.size, 0, none⟩ = some (.int .u8 y.c) := hg.cell (by simp [go_sem])
            cases hgv : givesM y s
            · have Hgv := Lib.hid hgv
              clear hgv
              go_wp2_with fail
              go_roundw
              case rel => exact ⟨m + 1, by omega, rfl, by go_num, hxg, fun j hj hl => by
                rcases Nat.lt_or_ge j m with hjm | hjm
                · exact Hno.out j hjm hl
                · obtain rfl : j = m := by omega
                  rw [Hy.out]; exact Hgv.out⟩
              case measure => simp [intOf]; omega
            · have Hgv := Lib.hid hgv
              clear hgv
              have hown2 := Ext.owns hown hxg
              have hml : (textTo ls heard k).length ≤ 5 := by have := textTo_len ls heard k; omega
              have hsz2 := hxg.size
              go_wp2_with ((at_builtin; refine wpList_append_own _ rfl _ _ 32 rfl (w.heap.size + 1) 5 i0 (.int .u8 0) 1 1 Try.underlying32 hi hz0 hz1 hz2 rfl (by decide) _ _ _ rfl (hown2.alloc _) ⟨w2.heap.size, 0, none⟩ 1 1 [.int .u8 y.c] rfl rfl (cell_one_new _ _ _) (by simp [Value.oneCell']) (by unfold maxLen; omega) (by omega) (by simp; omega) ?_; intro v' w3 hown' hgrow _))
              have hx3 : Ext (w.alloc (.cells #[.int .i64 b.sounds, .slice (some ⟨ab, ao, none⟩) b.alphabets.length bc, .slice bs b.spellings.length bd] 86)) w3 :=
                Ext.grown ((hx.trans hxg).alloc _) hgrow fun k hk => by have := (hown2.lt k hk).1; simpa using this
              have hgs := giver_at ls s m hmt Hno.out (by rw [Hy.out]; exact Hgv.out)
              rw [Hy.out] at hgs
              have Hgs := Lib.hid hgs
              clear hgs
              simp only [Exit.noGoto, Exit.inBlock, if_true]
              go_wp2
              go_roundw
              case rel => exact ⟨k + 1, by omega, by go_num, hx3, snoc_bytes (textTo_succ ls heard k hkt y (by rw [Hs.out]; exact Hgs.out)) hown', fun j hj hl => by
                rcases Nat.lt_or_ge j k with hjk | hjk
                · exact Hall.out j hjk hl
                · obtain rfl : j = k := by omega
                  rw [Hs.out, Hgs.out]; rfl⟩
              case measure => simp [intOf]; omega
          · have hgs := giver_none ls s fun j hj => Hno.out j (by omega) hj
            have hsh := shortE_no ls heard k hkt (by rw [Hs.out]; exact hgs)
            have Hsh := Lib.hid hsh
            clear hgs hsh
            go_wp2
            simp +zetaDelta only [Exit.noGoto, Exit.inBlock, Exit.then]
            go_ret2
            exact ⟨ret_strInt (by rw [Hwm.out, Hsh.out.2]; rfl) (by rw [Hwm.out, Hsh.out.1]), hx1.trans hxq⟩
      · have hke : k = heard.length := by omega
        have hfull := textTo_full ls heard k hk Hall.out
        have hcv := convert_own (l := textTo ls heard k) (fun e => hnil (by rw [e] at hfull; simp only [List.length_nil] at hfull; omega)) (textTo_U8 ls heard k HU.out) hown
        have hsh := shortE_yes ls heard fun j hj => Hall.out j (by omega) hj
        rw [← hke] at hsh
        have Hsh := Lib.hid hsh
        clear hsh hfull hke
        go_wp2
        go_ret2
        exact ⟨ret_strInt (by rw [Hwm.out, Hsh.out.2]) (by rw [Hwm.out, Hsh.out.1]), hx1⟩
end Go.Proofs.Ytoifmphpeflliaa

namespace Go.Proofs.Ytoifmphpeflliaa
open Go.RowKit

theorem firstErrFrom_ok {α : Type} (f : List α → α → Int) : ∀ (r pre : List α), (firstErrFrom f pre r).2 = 0 → ∀ k (hk : k < r.length), f (pre ++ r.take k) r[k] = 0
  | [], _, _, k, hk => by simp at hk
  | x :: r, pre, h, k, hk => by
    unfold firstErrFrom at h
    split at h
    · rename_i h0
      cases k with
      | zero => simpa using h0
      | succ k =>
        have := firstErrFrom_ok f r (pre ++ [x]) h k (by simpa using hk)
        simpa using this
    · rename_i h0
      exact absurd h h0
theorem firstErr_ok {α : Type} (f : List α → α → Int) (l : List α) (h : (firstErr f l).2 = 0) : ∀ k (hk : k < l.length), f (l.take k) l[k] = 0 := by
  intro k hk
  have := firstErrFrom_ok f l [] h k hk
  simpa using this

theorem inM_iff (n lo hi : Int) : inM n lo hi = true ↔ lo ≤ n ∧ n ≤ hi := by simp [inM]
theorem inM_true {n lo hi : Int} (h : ¬ inM n lo hi = false) : lo ≤ n ∧ n ≤ hi := by
  rw [← inM_iff]; simpa using h

structure ValidLetter (S : Int) (x : Letter) : Prop where
  c : 97 ≤ x.c ∧ x.c ≤ 122
  s : 0 ≤ x.sounds ∧ x.sounds ≤ maskM S
  g : x.sounds ≠ 0 ∨ x.silent = true
theorem letterErr_ok {S : Int} {l : List Letter} {x : Letter} (h : letterErrM S l x = 0) : ValidLetter S x ∧ (l.any fun y => y.c == x.c) = false := by
  unfold letterErrM at h
  split at h
  · cases h
  rename_i h1
  split at h
  · cases h
  rename_i h2
  split at h
  · cases h
  rename_i h3
  split at h
  · cases h
  rename_i h4
  exact ⟨⟨inM_true h1, inM_true h3, by
    simp only [Bool.and_eq_true, beq_iff_eq, Bool.not_eq_true', not_and, Bool.not_eq_false] at h4
    by_cases e : x.sounds = 0
    · exact .inr (h4 e)
    · exact .inl e⟩, by simpa using h2⟩
structure ValidAlphabet (S : Int) (x : Alphabet) : Prop where
  n : nameM x.name = true
  l : 1 ≤ x.letters.length ∧ x.letters.length ≤ 6
  fine : ∀ k (hk : k < x.letters.length), ValidLetter S x.letters[k] ∧ ((x.letters.take k).any fun y => y.c == (x.letters[k]).c) = false
theorem alphabetErr_ok {S : Int} {l : List Alphabet} {x : Alphabet} (h : alphabetErrM S l x = 0) : ValidAlphabet S x ∧ (l.any fun y => y.name.toList == x.name.toList) = false := by
  unfold alphabetErrM at h
  split at h
  · cases h
  rename_i h1
  split at h
  · cases h
  rename_i h2
  split at h
  · cases h
  rename_i h3
  have h3 := inM_true h3
  exact ⟨⟨by simpa using h1, by omega, fun k hk => letterErr_ok (firstErr_ok _ _ h k hk)⟩, by simpa using h2⟩
structure ValidSpelling (al : List Alphabet) (x : Spelling) : Prop where
  a : 0 ≤ x.alphabet ∧ x.alphabet < al.length
  t : 1 ≤ x.text.size ∧ x.text.size ≤ 5
  k : ∀ j, j < x.text.size → knownB (lettersOf al x.alphabet) x.text j = true
theorem textOk_spec {ls : List Letter} {s : ByteArray} (h : textOk ls s = true) : ∀ j, j < s.size → knownB ls s j = true := by
  unfold textOk at h
  rw [List.all_eq_true] at h
  exact fun j hj => h j (List.mem_range.2 hj)
theorem spellingErr_ok {al : List Alphabet} {x : Spelling} (h : spellingErrM al x = 0) : ValidSpelling al x := by
  unfold spellingErrM at h
  split at h
  · cases h
  rename_i h1
  split at h
  · cases h
  rename_i h2
  split at h
  · cases h
  rename_i h3
  have h1 := inM_true h1
  have h2 := inM_true h2
  exact ⟨by omega, by omega, textOk_spec (by simpa using h3)⟩
structure Valid (b : Book) : Prop where
  s : 1 ≤ b.sounds ∧ b.sounds ≤ 4
  a : 1 ≤ b.alphabets.length ∧ b.alphabets.length ≤ 3
  al : ∀ k (hk : k < b.alphabets.length), ValidAlphabet b.sounds b.alphabets[k] ∧ ((b.alphabets.take k).any fun y => y.name.toList == (b.alphabets[k]).name.toList) = false
  n : b.spellings.length ≤ 5
  sp : ∀ k (hk : k < b.spellings.length), ValidSpelling b.alphabets b.spellings[k]
theorem valid_of {b : Book} (h : errM b = 0) : Valid b := by
  unfold errM checkM at h
  split at h
  · cases h
  rename_i h1
  split at h
  · cases h
  rename_i h2
  split at h
  · rename_i h3; exact absurd h h3
  rename_i h3
  split at h
  · cases h
  rename_i h4
  split at h
  · rename_i h5; exact absurd h h5
  rename_i h5
  have h1 := inM_true h1
  have h2 := inM_true h2
  have h3 : (alphErr b).2 = 0 := by simpa using h3
  have h5 : (spelErr b).2 = 0 := by simpa using h5
  exact ⟨h1, by omega, fun k hk => alphabetErr_ok (firstErr_ok _ _ h3 k hk), by omega, fun k hk => spellingErr_ok (firstErr_ok _ _ h5 k hk)⟩
theorem mask_le {S : Int} (h : 1 ≤ S ∧ S ≤ 4) : maskM S ≤ 15 := by
  have h4 : S = 1 ∨ S = 2 ∨ S = 3 ∨ S = 4 := by omega
  rcases h4 with rfl | rfl | rfl | rfl <;> decide
theorem Valid.fine {b : Book} (h : Valid b) (k : Nat) (hk : k < b.alphabets.length) : ∀ x ∈ (b.alphabets[k]).letters, FineL x := by
  intro x hx
  obtain ⟨j, hj, rfl⟩ := List.getElem_of_mem hx
  have := ((h.al k hk).1.fine j hj).1.s
  have := mask_le h.s
  exact ⟨by omega, by omega⟩
theorem withinM_spec {lo hi : Int} {l : List Int} (h : withinM lo hi l = true) : ∀ x ∈ l, lo ≤ x ∧ x ≤ hi := by
  unfold withinM at h
  rw [List.all_eq_true] at h
  exact fun x hx => (inM_iff _ _ _).1 (h x hx)
end Go.Proofs.Ytoifmphpeflliaa

namespace Go.Proofs.Ytoifmphpeflliaa
open Go.RowKit
set_option linter.unusedSimpArgs false

def spellM (b : Book) (a : Int) (heard : List Int) : ByteArray × Int :=
  if errM b ≠ 0 then (⟨#[]⟩, errM b) else match b.alphabets[a.toNat]? with
    | none => (⟨#[]⟩, 4)
    | some x => if a < 0 then (⟨#[]⟩, 4) else if heardErrM b.sounds heard ≠ 0 then (⟨#[]⟩, heardErrM b.sounds heard) else (strOf (shortS x.letters (wantedM heard)), shortE x.letters (wantedM heard))
theorem openM_nil (b : Book) : openM b [] = errM b := by
  unfold openM
  split
  · rfl
  · rename_i h
    rw [if_neg (by simp [withinM])]
    have : errM b = 0 := by simpa using h
    exact this.symm

set_option maxRecDepth 100000 in
set_option maxHeartbeats 1000000 in
theorem spell_any (bv hv : Value) (b : Book) (a : Int) (ha : I64 a) (heard : List Int) (w : World) (hb : BookAt w bv b) (hh : IntsAt w hv heard) :
    Calls Try.prog 11 #[bv, .int .i64 a, hv] w fun e w' => e = .returned (.tuple #[.string (spellM b a heard).1, .int .i64 (spellM b a heard).2]) ∧ Ext w w' := by
  obtain ⟨ba, bc, bs, bd, rfl, -⟩ := hb.open
  go_enter Try.func11, Try.ntmps11
  go_wp2_with fail
  refine (open_any _ _ b [] _ (hb.ext (by first | (with_reducible exact Ext.refl _) | (with_reducible assumption) | (show Below _ _ _; go_grown; done))) SliceAt.nil).mono ?_
  rintro e w1 ⟨u, rfl, ⟨uv, rfl, hok, hbad⟩, hx1⟩
  have x1 : Ext w w1 := Ext.trans (by first | (with_reducible exact Ext.refl _) | (with_reducible assumption) | (show Below _ _ _; go_grown; done)) hx1
  rw [openM_nil] at hok hbad ⊢
  generalize herr : errM b = er at *
  have Herr := Lib.hid herr
  clear herr
  by_cases h0 : er = 0
  rotate_left
  · have h0' : (er != 0) = true := by simpa using h0
    have hu := hbad h0
    subst hu
    have H0 := Lib.hid h0
    clear h0 hok hbad
    unfold emptyBook
    go_wp2_with fail
    go_ret2
    exact ⟨ret_strInt (by rw [spellM, Herr.out, if_pos H0.out]) (by rw [spellM, Herr.out, if_pos H0.out]), x1.alloc _⟩
  have hub := hok h0
  clear hbad hok
  subst h0
  have hval := valid_of Herr.out
  obtain ⟨ca, cc, cs, cd, rfl, -, hcl, hcc, -, -, hub', -, -⟩ := hub.open
  have hns := hval.a
  have hSS := hval.s
  have Hval := Lib.hid hval
  clear hval hub
  go_wp2_with fail
  refine (within_any _ _ _ [a] _ (IntsAt.oneAt (by simp) ha)).mono ?_
  rintro e w' ⟨rfl, rfl⟩
  rw [withinM_one]
  cases h1 : inM a 0 (b.alphabets.length - 1)
  · have hn : ¬ (0 ≤ a ∧ a ≤ b.alphabets.length - 1) := fun h => by rw [(inM_iff _ _ _).2 h] at h1; cases h1
    have hsp : spellM b a heard = (⟨#[]⟩, 4) := by
      rw [spellM, Herr.out, if_neg (by decide)]
      by_cases hneg : a < 0
      · cases b.alphabets[a.toNat]? <;> simp [hneg]
      · rw [List.getElem?_eq_none (by omega)]
    have Hsp := Lib.hid hsp
    clear hsp h1 hn
    go_wp2_with fail
    go_ret2
    exact ⟨ret_strInt (by rw [Hsp.out]) (by rw [Hsp.out]), (x1.alloc _).alloc _⟩
  have hin := (inM_iff _ _ _).1 h1
  have H1 := Lib.hid h1
  clear h1
  go_wp2_with fail
  have x2 : Ext w ((w1.alloc (.cells #[.int .i64 b.sounds, .slice ca b.alphabets.length cc, .slice cs b.spellings.length cd] 86)).alloc (.cells #[.int .i64 a] 3)) := (x1.alloc _).alloc _
  refine (heardError_any _ _ b hSS heard _ (hub'.ext ((ext_alloc _ _).alloc _)) (hh.ext x2)).mono ?_
  rintro e w3 ⟨rfl, hx3⟩
  have x3 := x2.trans hx3
  have q0 : w3.cell? ⟨w1.heap.size, 0, none⟩ = some (.int .i64 b.sounds) := hx3.cell (by simp [go_sem])
  have q1 : w3.cell? ⟨w1.heap.size, 1, none⟩ = some (.slice ca b.alphabets.length cc) := hx3.cell (by simp [go_sem])
  have q2 : w3.cell? ⟨w1.heap.size, 2, none⟩ = some (.slice cs b.spellings.length cd) := hx3.cell (by simp [go_sem])
  have hlt : a.toNat < b.alphabets.length := by omega
  have hsp : spellM b a heard = if heardErrM b.sounds heard ≠ 0 then (⟨#[]⟩, heardErrM b.sounds heard) else (strOf (shortS (b.alphabets[a.toNat]).letters (wantedM heard)), shortE (b.alphabets[a.toNat]).letters (wantedM heard)) := by
    rw [spellM, Herr.out, if_neg (by decide), List.getElem?_eq_getElem hlt]
    simp only
    rw [if_neg (by omega)]
  have Hsp := Lib.hid hsp
  clear hsp
  generalize hhe : heardErrM b.sounds heard = he at *
  have Hhe := Lib.hid hhe
  clear hhe
  by_cases h2 : he = 0
  rotate_left
  · have h2' : (he != 0) = true := by simpa using h2
    have H2 := Lib.hid h2
    clear h2
    go_wp2_with fail
    go_ret2
    exact ⟨ret_strInt (by rw [Hsp.out, if_pos H2.out]) (by rw [Hsp.out, if_pos H2.out]), x3⟩
  subst h2
  have hlen : heard.length ≤ 5 ∧ withinM 0 (b.sounds - 1) heard = true := by
    have := Hhe.out
    unfold heardErrM at this
    split at this
    · cases this
    split at this
    · cases this
    rename_i g1 g2
    exact ⟨by omega, by simpa using g2⟩
  have hrange : ∀ s ∈ heard, 0 ≤ s ∧ s ≤ 3 := fun s hs => by
    have := withinM_spec hlen.2 s hs
    omega
  have Hr := Lib.hid hrange
  clear hrange
  obtain ⟨n, hn⟩ : ∃ n : Nat, a = n := ⟨a.toNat, by omega⟩
  have hsub : a.toNat = n := by omega
  go_wp2_with fail
  subst hn
  have hnl : n < b.alphabets.length := by omega
  refine (shortest_any _ _ b n hnl heard Hr.out hlen.1 (Hval.out.fine n hnl) w3 (hub'.ext (Ext.trans ((ext_alloc _ _).alloc _) hx3)) (hh.ext x3)).mono ?_
  rintro e w4 ⟨rfl, hx4⟩
  have Hfin : Hid (spellM b n heard = (strOf (shortS (b.alphabets[n]).letters (wantedM heard)), shortE (b.alphabets[n]).letters (wantedM heard))) := Lib.hid (by
    have := Hsp.out
    rw [if_neg (by decide)] at this
    simpa using this)
  go_wp2
  go_ret2
  exact ⟨ret_strInt (by rw [Hfin.out]) (by rw [Hfin.out]), x3.trans hx4⟩
end Go.Proofs.Ytoifmphpeflliaa
