/-
  THE FIRST ERROR of parts, and of forms: check.First, formError, and what they call. Of the program.
  WHAT alphabetError AND check.First RETURN: the first error of an alphabet; the first alphabet with an error.
  WHAT spellingError AND check.First RETURN: the first error of a spelling; the first spelling with an error.
  WHAT check.First RETURNS at the spellings of a book.
  WHAT ear.Check AND open RETURN, for any book: the part, the index and the error that the document says; the book, and its error, or that of an index.
  THE ERROR OF A SHELF, of a shelf and a letter, and a form that is opened: Check, shelfError, open and openFor of the program.
  A FORM THAT IS OPENED: open and openFor of the program.
  WHAT THE SMALL FUNCTIONS ON LISTS OF NUMBERS RETURN: the error of something heard, whether numbers are ascending, the bits of some indices, the indices of some bits.
  WHAT bits AND members RETURN: the bits of some indices below 5, the indices of bits below 32.
  WHAT members RETURNS: the indices of bits below 32, ascending.
  WHAT THE FUNCTIONS ON A SOUND STRING RETURN: with one more sound; whether a letter gives a sound.
  WHAT slices.Compare, compare, heardAs AND list RETURN: how sound strings are compared, made and handed out.
  HOW TWO ARRAYS OF FIVE NUMBERS, AND TWO SOUND STRINGS, ARE COMPARED.
  WHAT compare RETURNS: shorter sound strings first, then sound by sound.
  WHAT compare, heardAs AND list RETURN, said of lists.
  WHAT list RETURNS: the sounds of a sound string, in new memory.
  WHAT letters RETURNS: the letters of a spelling, one behind the other. In a book without an error.
  THE ROOMS OF A FORM: rooms of the program.
  A LIST OF WORDS APPENDED to a row of words of the call's own; and the letter of a form and fills: filled of the program.
  THE LETTER OF A FORM AND FILLS: filled of the program.
  THE ERROR OF WHAT IS PUT INTO THE ROOMS OF A FORM: fillsError of the program.
-/
import Derived.Test.YtgcibmdohifiaaaBunAA
import Derived.Outline
import Derived.Maps.AppendAt
import Derived.Laws.OwnMore
namespace Go.Proofs.Ytgcibmdohifiaaa
set_option linter.unusedSimpArgs false
set_option linter.unusedVariables false
open Go.RowKit
set_option linter.unusedVariables false

set_option maxHeartbeats 1000000 in
set_option maxRecDepth 100000 in
theorem firstPart_any (v : Value) (l : List Part) (w : World) (hl : PartsAt w v l) :
    Calls Try.prog 99 #[v, .func (.func 94) #[] #[]] w
      fun e w' => e = .returned (.tuple #[.int .i64 (firstErr (fun _ => partErrM) l).1, .int .i64 (firstErr (fun _ => partErrM) l).2]) ∧ Ext w w' := by
  obtain ⟨a, cap, rfl, hlc, hcm⟩ := hl.shape
  go_enter Try.func99, Try.ntmps99
  go_wp2
  go_loopw [11] (fun i wr => ∃ k : Nat, k ≤ l.length ∧ i = .int .i64 k ∧ firstErrFrom (fun _ => partErrM) (l.take k) (l.drop k) = firstErr (fun _ => partErrM) l ∧ Ext w wr) (fun i _ => l.length - (intOf i).toNat)
  case atStart => exact ⟨0, Nat.zero_le _, rfl, rfl, Ext.refl _⟩
  case round =>
    obtain ⟨k, hk, rfl, hd, hx⟩ := hrel
    have Hd := Lib.hid hd; clear hd
    by_cases hlt : k < l.length
    · have hls := hl.ext hx
      have hkc : k ≤ cap := by omega
      obtain ⟨bb, off, rfl, ⟨u, h1, hu⟩, h2, h3, hlo, hhi⟩ := hls.get hlt
      generalize hy : l[k] = y at *
      have Hy := Lib.hid hy; clear hy
      obtain ⟨ua, uc, rfl, -⟩ := hu.shape
      go_wp2_with fail
      have c0 : (wr.alloc (.cells #[.slice ua y.words.length uc, .int .i64 y.lo, .int .i64 y.hi] 56)).cell? ⟨wr.heap.size, 0, none⟩ = some (.slice ua y.words.length uc) := by simp [go_sem]
      have c1 : (wr.alloc (.cells #[.slice ua y.words.length uc, .int .i64 y.lo, .int .i64 y.hi] 56)).cell? ⟨wr.heap.size, 1, none⟩ = some (.int .i64 y.lo) := by simp [go_sem]
      have c2 : (wr.alloc (.cells #[.slice ua y.words.length uc, .int .i64 y.lo, .int .i64 y.hi] 56)).cell? ⟨wr.heap.size, 2, none⟩ = some (.int .i64 y.hi) := by simp [go_sem]
      have hpv : PartV (wr.alloc (.cells #[.slice ua y.words.length uc, .int .i64 y.lo, .int .i64 y.hi] 56)) (.agg #[.slice ua y.words.length uc, .int .i64 y.lo, .int .i64 y.hi]) y := ⟨_, rfl, hu.ext (ext_alloc _ _), hlo, hhi⟩
      apply Facts.wp_region [.val _, .val _, .val _, .val _, .val _, .val (.int .i64 (partErrM y)), .val _] (by kernel_rfl) (by kernel_rfl) trivial ?main
      case main =>
        iterate 5 (refine ⟨fun w1 hx hh => ?_, ?_⟩; focus (clear hh; have e0 := hx.cell c0; have e1 := hx.cell c1; have e2 := hx.cell c2; go_simp; exact ⟨Ext.refl _, rfl⟩))
        refine ⟨fun w1 hx hh => ?_, ?_⟩
        · clear hh
          go_simp
          refine (partError_any _ _ y w1 (hpv.ext hx)).mono ?_
          rintro e w' ⟨rfl, hx2⟩
          exact ⟨_, rfl, hx2, rfl⟩
        iterate 1 (refine ⟨fun w1 hx hh => ?_, ?_⟩; focus (clear hh; skip; go_simp; exact ⟨Ext.refl _, rfl⟩))
        intro w1 hx1 hh
        have hx3 := hx.trans hx1.of_alloc
        clear hh hx1 c0 c1 c2 hpv
        by_cases h0 : partErrM y = 0
        · have H0 := Lib.hid h0
          rw [h0]; clear h0
          go_wp2
          go_roundw
          case rel => exact ⟨k + 1, by omega, by go_num, (firstErrFrom_step (fun _ => partErrM) l k hlt y Hy.out H0.out).trans Hd.out, hx3⟩
          case measure => simp [intOf]; omega
        · have H0 := Lib.hid h0
          have h1 : (partErrM y != 0) = true := by simpa using h0
          clear h0
          go_wp2
          go_ret2
          have := Hd.out
          rw [firstErrFrom_hit (fun _ => partErrM) l k hlt y Hy.out H0.out] at this
          exact ⟨ret_two (by rw [← this]), hx3⟩
    · go_wp2
      go_ret2
      have := Hd.out
      rw [firstErrFrom_end _ _ _ (by omega)] at this
      exact ⟨ret_two (by rw [← this]), hx⟩
set_option maxHeartbeats 1000000 in
set_option maxRecDepth 100000 in
theorem listPart_any (v : Value) (l : List Part) (w : World) (hl : PartsAt w v l) :
    Calls Try.prog 93 #[.int .i64 5, v, .func (.func 94) #[] #[]] w
      fun e w' => (∃ i, e = .returned (.tuple #[.int .i64 i, .int .i64 (if 5 < l.length then 3 else (firstErr (fun _ => partErrM) l).2)])) ∧ Ext w w' := by
  obtain ⟨a, cap, rfl, hlc, hcm⟩ := hl.shape
  by_cases h : 5 < l.length
  · rw [if_pos h]
    have k1 : (5 : Int) < (l.length : Int) := by omega
    go_enter Try.func93, Try.ntmps93
    go_wp2_with fail
    go_ret2
    exact ⟨⟨0, rfl⟩, (by first | (with_reducible exact Ext.refl _) | (with_reducible assumption) | (show Below _ _ _; go_grown; done))⟩
  · rw [if_neg h]
    have k1 : ¬ (5 : Int) < (l.length : Int) := by omega
    go_enter Try.func93, Try.ntmps93
    go_wp2_with fail
    refine (firstPart_any _ l _ (hl.ext (by first | (with_reducible exact Ext.refl _) | (with_reducible assumption) | (show Below _ _ _; go_grown; done)))).mono ?_
    rintro e w1 ⟨rfl, hx1⟩
    go_wp2
    go_ret2
    exact ⟨⟨_, rfl⟩, Ext.trans (by first | (with_reducible exact Ext.refl _) | (with_reducible assumption) | (show Below _ _ _; go_grown; done)) hx1⟩
theorem formName_any (a : Form) (v : Value) (w : World) (hv : FormV w v a) :
    Calls Try.prog 92 #[v] w fun e w' => e = .returned (.string a.name) ∧ Ext w w' := by
  obtain ⟨u, rfl, -, -⟩ := hv
  go_enter Try.func92, Try.ntmps92
  go_wp2
  go_ret
  exact ⟨rfl, (by first | (with_reducible exact Ext.refl _) | (with_reducible assumption) | (show Below _ _ _; go_grown; done))⟩
def nameOfForm : Value := .func (.func 92) #[] #[]
set_option maxHeartbeats 1000000 in
set_option maxRecDepth 100000 in
theorem nameErr1_any (a : Form) (s : ByteArray) (p q : Addr) (v : Value) (w : World) (hv : FormV w v a) (hq : w.cell? q = some nameOfForm) (hc : w.cell? p = some (.string s)) :
    Calls Try.prog 98 #[v, .pointer (some q), .pointer (some p)] w fun e w' => e = .returned (.bool (a.name.toList == s.toList)) ∧ Ext w w' := by
  have hv0 := hv
  obtain ⟨u, rfl, -, hp⟩ := hv
  obtain ⟨pa, pc, rfl, -⟩ := hp.shape
  unfold nameOfForm at hq
  have b0 : (w.alloc (.cells #[.string a.name, .slice pa a.parts.length pc] 61)).cell? ⟨w.heap.size, 0, none⟩ = some (.string a.name) := by simp [go_sem]
  have b1 : (w.alloc (.cells #[.string a.name, .slice pa a.parts.length pc] 61)).cell? ⟨w.heap.size, 1, none⟩ = some (.slice pa a.parts.length pc) := by simp [go_sem]
  have x0 := ext_alloc w (.cells #[.string a.name, .slice pa a.parts.length pc] 61)
  have q1 := x0.cell hq
  have c1 := x0.cell hc
  go_enter Try.func98, Try.ntmps98
  go_wp2_with fail
  apply Facts.wp_region [.val _, .val _, .val (.string a.name), .val _, .val _, .val _] (by kernel_rfl) (by kernel_rfl) trivial ?main
  case main =>
    iterate 2 (refine ⟨fun w1 hx hh => ?_, ?_⟩; focus (clear hh; have e0 := hx.cell b0; have e1 := hx.cell b1; have e2 := hx.cell q1; have e3 := hx.cell c1; go_simp; exact ⟨Ext.refl _, rfl⟩))
    refine ⟨fun w1 hx hh => ?_, ?_⟩
    · clear hh
      go_simp
      refine (formName_any a _ w1 ((hv0.ext x0).ext hx)).mono ?_
      rintro e w' ⟨rfl, hx2⟩
      exact ⟨_, rfl, hx2, rfl⟩
    iterate 3 (refine ⟨fun w1 hx hh => ?_, ?_⟩; focus (clear hh; have e0 := hx.cell b0; have e1 := hx.cell b1; have e2 := hx.cell q1; have e3 := hx.cell c1; go_simp; exact ⟨Ext.refl _, rfl⟩))
    intro w1 hx1 hh
    clear hh
    go_simp
    go_wp2
    go_ret
    exact ⟨rfl, x0.trans hx1⟩
theorem indexForm_any (l : List Form) (s : ByteArray) (p q : Addr) (v : Value) (w : World) (h : FormsAt w v l) (hq : w.cell? q = some nameOfForm) (hc : w.cell? p = some (.string s)) :
    Calls Try.prog 103 #[v, .func (.func 98) #[] #[.pointer (some q), .pointer (some p)]] w
      fun e w' => e = .returned (.int .i64 (idxM (fun y => y.name.toList == s.toList) l)) ∧ Ext w w' := by
  obtain ⟨a, cap, rfl, hlc, hcm⟩ := h.shape
  go_enter Try.func103, Try.ntmps103
  go_wp2
  go_loopw [8] (fun i wr => ∃ k : Nat, k ≤ l.length ∧ i = .int .i64 k ∧ (∀ j (_ : j < k) (hj : j < l.length), (l[j].name.toList == s.toList) = false) ∧ Ext w wr) (fun i _ => l.length - (intOf i).toNat)
  case atStart => exact ⟨0, Nat.zero_le _, rfl, fun _ h => by omega, Ext.refl _⟩
  case round =>
    obtain ⟨k, hk, rfl, hno, hx⟩ := hrel
    have Hno := Lib.hid hno; clear hno
    by_cases hlt : k < l.length
    · obtain ⟨b, off, rfl, h1, hu, u, h2, hl⟩ := (h.ext hx).get hlt
      generalize hy : l[k] = y at *
      have Hy := Lib.hid hy; clear hy
      go_wp2_with fail
      refine (nameErr1_any y s p q _ _ ⟨u, rfl, hu, hl⟩ (hx.cell hq) (hx.cell hc)).mono ?_
      rintro e w1 ⟨rfl, hx1⟩
      have hx2 := hx.trans hx1
      cases hb : (y.name.toList == s.toList)
      · have Hb := Lib.hid hb; clear hb
        go_wp2
        go_roundw
        case rel => exact ⟨k + 1, by omega, by go_num, fun j hj hl => by
          rcases Nat.lt_or_ge j k with hjk | hjk
          · exact Hno.out j hjk hl
          · obtain rfl : j = k := by omega
            rw [Hy.out]; exact Hb.out, hx2⟩
        case measure => simp [intOf]; omega
      · have Hb := Lib.hid hb; clear hb
        go_wp2
        go_ret
        exact ⟨ret_int (idxM_some _ _ k hlt (fun i hi hl => Hno.out i hi hl) (by rw [Hy.out]; exact Hb.out)).symm, hx2⟩
    · go_wp2
      go_ret
      exact ⟨ret_int (idxM_none _ _ fun i hi => Hno.out i (by omega) hi).symm, hx⟩
theorem containsForm_any (l : List Form) (s : ByteArray) (p q : Addr) (v : Value) (w : World) (h : FormsAt w v l) (hq : w.cell? q = some nameOfForm) (hc : w.cell? p = some (.string s)) :
    Calls Try.prog 97 #[v, .func (.func 98) #[] #[.pointer (some q), .pointer (some p)]] w
      fun e w' => e = .returned (.bool (l.any fun y => y.name.toList == s.toList)) ∧ Ext w w' := by
  go_enter Try.func97, Try.ntmps97
  go_wp2_with fail
  refine (indexForm_any l s p q v _ h hq hc).mono ?_
  rintro e w1 ⟨rfl, hx1⟩
  go_wp2
  go_ret
  exact ⟨ret_bool (idxM_ge _ _), hx1⟩
/-- the error of a thing's name, which those before it must not have -/
def nameErrM (names : List ByteArray) (s : ByteArray) : Int := if nameM s = false then 6 else if (names.any fun y => y.toList == s.toList) = true then 5 else 0
set_option maxHeartbeats 1000000 in
set_option maxRecDepth 100000 in
theorem namesError_any (v u : Value) (l : List Form) (f : Form) (w : World) (hl : FormsAt w v l) (hu : FormV w u f) :
    Calls Try.prog 91 #[v, u, nameOfForm] w fun e w' => e = .returned (.int .i64 (nameErrM (l.map (·.name)) f.name)) ∧ Ext w w' := by
  have hu0 := hu
  obtain ⟨pv, rfl, hns, hp⟩ := hu
  have hany : ((l.map (·.name)).any fun y => y.toList == f.name.toList) = l.any fun y => y.name.toList == f.name.toList := by rw [List.any_map]; rfl
  have Hany := Lib.hid hany
  clear hany
  obtain ⟨pa, pc, rfl, -⟩ := hp.shape
  unfold nameOfForm
  go_enter Try.func91, Try.ntmps91
  go_wp2_with fail
  refine (formName_any f _ _ (hu0.ext (by first | (with_reducible exact Ext.refl _) | (with_reducible assumption) | (show Below _ _ _; go_grown; done)))).mono ?_
  rintro e w0 ⟨rfl, hx0⟩
  have x0 : Ext w w0 := Ext.trans (by first | (with_reducible exact Ext.refl _) | (with_reducible assumption) | (show Below _ _ _; go_grown; done)) hx0
  have q0 : w0.cell? ⟨w.heap.size + 1, 0, none⟩ = some nameOfForm := hx0.cell (by simp [go_sem, nameOfForm])
  have z0 : w.heap.size + 1 < w0.heap.size := cell_lt q0
  go_wp2_with fail
  refine (name_any f.name _ hns).mono ?_
  rintro e w1 ⟨rfl, hx1⟩
  have x1 : Ext w w1 := Ext.trans x0 (Ext.trans (by first | (with_reducible exact Ext.refl _) | (with_reducible assumption) | (show Below _ _ _; go_grown; done)) hx1)
  have q1 : w1.cell? ⟨w.heap.size + 1, 0, none⟩ = some nameOfForm := hx1.cell ((ext_alloc _ _).cell q0)
  have p1 : w1.cell? ⟨w0.heap.size, 0, none⟩ = some (.string f.name) := hx1.cell (by simp [go_sem])
  clear hx1 q0 z0
  cases hn : nameM f.name
  · have Hn := Lib.hid hn; clear hn
    go_wp2_with fail
    go_ret
    exact ⟨ret_int (by rw [nameErrM, if_pos Hn.out]), x1⟩
  have Hn := Lib.hid hn; clear hn
  go_wp2_with fail
  refine (containsForm_any l f.name _ _ v w1 (hl.ext x1) q1 p1).mono ?_
  rintro e w2 ⟨rfl, hx2⟩
  have x2 := x1.trans hx2
  cases ha : l.any fun y => y.name.toList == f.name.toList
  · have Ha := Lib.hid ha; clear ha
    go_wp2_with fail
    go_ret
    exact ⟨ret_int (by rw [nameErrM, if_neg (by rw [Hn.out]; decide), Hany.out, if_neg (by rw [Ha.out]; decide)]), x2⟩
  · have Ha := Lib.hid ha; clear ha
    go_wp2_with fail
    go_ret
    exact ⟨ret_int (by rw [nameErrM, if_neg (by rw [Hn.out]; decide), Hany.out, if_pos Ha.out]), x2⟩
def formErrM (before : List Form) (f : Form) : Int :=
  if nameM f.name = false then 6 else if (before.any fun y => y.name.toList == f.name.toList) = true then 5 else if 5 < f.parts.length then 3 else (firstErr (fun _ => partErrM) f.parts).2
theorem formErr_name (before : List Form) (f : Form) : formErrM before f = if nameErrM (before.map (·.name)) f.name ≠ 0 then nameErrM (before.map (·.name)) f.name else if 5 < f.parts.length then 3 else (firstErr (fun _ => partErrM) f.parts).2 := by
  have hany : ((before.map (·.name)).any fun y => y.toList == f.name.toList) = before.any fun y => y.name.toList == f.name.toList := by rw [List.any_map]; rfl
  unfold formErrM nameErrM
  rw [hany]
  cases nameM f.name <;> cases (before.any fun y => y.name.toList == f.name.toList) <;> simp
set_option maxHeartbeats 1000000 in
set_option maxRecDepth 100000 in
theorem formError_any (v u : Value) (l : List Form) (f : Form) (w : World) (hl : FormsAt w v l) (hu : FormV w u f) :
    Calls Try.prog 69 #[v, u] w fun e w' => e = .returned (.int .i64 (formErrM l f)) ∧ Ext w w' := by
  have hu0 := hu
  obtain ⟨pv, rfl, hns, hp⟩ := hu
  obtain ⟨a, cap, rfl, hlc, hcm⟩ := hp.shape
  have hne := formErr_name l f
  have Hne := Lib.hid hne
  clear hne
  have hnm := fun (w : World) (h1 : FormsAt w v l) (h2 : FormV w (.agg #[.string f.name, .slice a f.parts.length cap]) f) => namesError_any v _ l f w h1 h2
  unfold nameOfForm at hnm
  go_enter Try.func69, Try.ntmps69
  go_wp2_with fail
  refine (hnm _ (hl.ext (by first | (with_reducible exact Ext.refl _) | (with_reducible assumption) | (show Below _ _ _; go_grown; done))) (hu0.ext (by first | (with_reducible exact Ext.refl _) | (with_reducible assumption) | (show Below _ _ _; go_grown; done)))).mono ?_
  rintro e w1 ⟨rfl, hx1⟩
  have x1 : Ext w w1 := Ext.trans (by first | (with_reducible exact Ext.refl _) | (with_reducible assumption) | (show Below _ _ _; go_grown; done)) hx1
  have p1 : w1.cell? ⟨w.heap.size, 1, none⟩ = some (.slice a f.parts.length cap) := hx1.cell (by simp [go_sem])
  have z0 : w.heap.size < w1.heap.size := cell_lt p1
  clear hx1 hnm
  generalize nameErrM (l.map (·.name)) f.name = ne at *
  by_cases h0 : ne = 0
  · subst h0
    go_wp2_with fail
    refine (listPart_any _ f.parts _ (hp.ext x1)).mono ?_
    rintro e w4 ⟨⟨i, rfl⟩, hx4⟩
    obtain ⟨z, hz⟩ : ∃ z : Int, (if 5 < f.parts.length then 3 else (firstErr (fun _ => partErrM) f.parts).2) = z := ⟨_, rfl⟩
    rw [hz]
    have Hz := Lib.hid hz
    clear hz
    go_wp2
    go_ret
    exact ⟨ret_int (by rw [Hne.out, if_neg (fun h => h rfl), Hz.out]), x1.trans hx4⟩
  · have h1 : (ne != 0) = true := by simpa using h0
    have H0 := Lib.hid h0
    clear h0
    go_wp2_with fail
    go_ret
    exact ⟨ret_int (by rw [Hne.out, if_pos H0.out]), x1⟩
end Go.Proofs.Ytgcibmdohifiaaa

namespace Go.Proofs.Ytgcibmdohifiaaa
set_option linter.unusedSimpArgs false
set_option linter.unusedVariables false
open Go.RowKit

def alphabetErrM (S : Int) (before : List Alphabet) (x : Alphabet) : Int :=
  if nameM x.name = false then 6 else if (before.any fun y => y.name.toList == x.name.toList) = true then 5 else if inM x.letters.length 1 6 = false then 3 else (firstErr (letterErrM S) x.letters).2

end Go.Proofs.Ytgcibmdohifiaaa

namespace Go.Proofs.Ytgcibmdohifiaaa
set_option linter.unusedSimpArgs false
set_option linter.unusedVariables false
open Go.RowKit

def lettersOf (al : List Alphabet) (i : Int) : List Letter := match al[i.toNat]? with | some a => a.letters | none => []
def knownB (ls : List Letter) (s : ByteArray) (k : Nat) : Bool := ls.any fun y => y.c == byteAt s k
def textOk (ls : List Letter) (s : ByteArray) : Bool := (List.range s.size).all fun k => knownB ls s k
def spellingErrM (al : List Alphabet) (x : Spelling) : Int :=
  if inM x.alphabet 0 (al.length - 1) = false then 4 else if inM x.text.size 1 5 = false then 3 else if textOk (lettersOf al x.alphabet) x.text = false then 6 else 0
theorem textOk_no (ls : List Letter) (s : ByteArray) (k : Nat) (hk : k < s.size) (h : knownB ls s k = false) : textOk ls s = false := by
  unfold textOk
  rw [List.all_eq_false]
  exact ⟨k, List.mem_range.2 hk, by simp [h]⟩
theorem textOk_yes (ls : List Letter) (s : ByteArray) (h2 : ∀ j, j < s.size → knownB ls s j = true) : textOk ls s = true := by
  unfold textOk
  rw [List.all_eq_true]
  exact fun k hk => h2 k (List.mem_range.1 hk)
theorem idxM_lt {α : Type} (p : α → Bool) (l : List α) : decide (idxM p l < 0) = !l.any p := by
  rw [← idxM_ge, ← decide_not]; congr 1; rw [Int.not_le]
def SpellingV (v : Value) (x : Spelling) : Prop := v = .agg #[.int .i64 x.alphabet, .string x.text] ∧ I64 x.alphabet ∧ x.text.size ≤ 9223372036854775807

end Go.Proofs.Ytgcibmdohifiaaa

namespace Go.Proofs.Ytgcibmdohifiaaa
set_option linter.unusedSimpArgs false
set_option linter.unusedVariables false
open Go.RowKit

end Go.Proofs.Ytgcibmdohifiaaa

namespace Go.Proofs.Ytgcibmdohifiaaa
set_option linter.unusedSimpArgs false
set_option linter.unusedVariables false
open Go.RowKit

/-- what List of things has, if at most so many may be -/
def listErr {α : Type} (most : Int) (l : List α) (f : Int × Int) : Int × Int := if most < l.length then (0, 3) else f
def alphErr (b : Book) : Int × Int := firstErr (alphabetErrM b.sounds) b.alphabets
def spelErr (b : Book) : Int × Int := firstErr (fun _ y => spellingErrM b.alphabets y) b.spellings
def checkM (b : Book) : Int × Int × Int :=
  if inM b.sounds 1 4 = false then (1, 0, 7) else if inM b.alphabets.length 1 3 = false then (2, 0, 3) else if (alphErr b).2 ≠ 0 then (2, (alphErr b).1, (alphErr b).2)
  else if (5 : Int) < b.spellings.length then (3, 0, 3) else if (spelErr b).2 ≠ 0 then (3, (spelErr b).1, (spelErr b).2) else (0, 0, 0)
theorem ret_three {a b c : Int} {t : Int × Int × Int} (h : (a, b, c) = t) : Ending.returned (.tuple #[.int .i64 a, .int .i64 b, .int .i64 c]) = .returned (.tuple #[.int .i64 t.1, .int .i64 t.2.1, .int .i64 t.2.2]) := by subst h; rfl

def errM (b : Book) : Int := (checkM b).2.2
/-- the error of a book, then that of indices -/
def openM (b : Book) (l : List Int) : Int := if errM b ≠ 0 then errM b else if withinM 0 (b.spellings.length - 1) l = false then 4 else 0
def emptyBook : Value := .agg #[.int .i64 0, .slice none 0 0, .slice none 0 0]
/-- a book, if there is no error -/
def OpenV (w : World) (b : Book) (e : Int) (v : Value) : Prop := ∃ u, v = .tuple #[u, .int .i64 e] ∧ (e = 0 → BookAt w u b) ∧ (e ≠ 0 → u = emptyBook)

end Go.Proofs.Ytgcibmdohifiaaa

namespace Go.Proofs.Ytgcibmdohifiaaa
set_option linter.unusedSimpArgs false
set_option linter.unusedVariables false
open Go.RowKit
set_option linter.unusedVariables false

set_option maxHeartbeats 1000000 in
set_option maxRecDepth 100000 in
theorem firstForm_any (v : Value) (l : List Form) (w : World) (hl : FormsAt w v l) :
    Calls Try.prog 90 #[v, .func (.func 69) #[] #[]] w
      fun e w' => e = .returned (.tuple #[.int .i64 (firstErr formErrM l).1, .int .i64 (firstErr formErrM l).2]) ∧ Ext w w' := by
  obtain ⟨a, cap, rfl, hlc, hcm⟩ := hl.shape
  go_enter Try.func90, Try.ntmps90
  go_wp2
  go_loopw [11] (fun i wr => ∃ k : Nat, k ≤ l.length ∧ i = .int .i64 k ∧ firstErrFrom formErrM (l.take k) (l.drop k) = firstErr formErrM l ∧ Ext w wr) (fun i _ => l.length - (intOf i).toNat)
  case atStart => exact ⟨0, Nat.zero_le _, rfl, rfl, Ext.refl _⟩
  case round =>
    obtain ⟨k, hk, rfl, hd, hx⟩ := hrel
    have Hd := Lib.hid hd; clear hd
    by_cases hlt : k < l.length
    · have hls := hl.ext hx
      have hkc : k ≤ cap := by omega
      obtain ⟨bb, off, rfl, h1, hns, u, h2, hp⟩ := hls.get hlt
      generalize hy : l[k] = y at *
      have Hy := Lib.hid hy; clear hy
      obtain ⟨ua, uc, rfl, -⟩ := hp.shape
      go_wp2_with fail
      have c0 : (wr.alloc (.cells #[.string y.name, .slice ua y.parts.length uc] 61)).cell? ⟨wr.heap.size, 0, none⟩ = some (.string y.name) := by simp [go_sem]
      have c1 : (wr.alloc (.cells #[.string y.name, .slice ua y.parts.length uc] 61)).cell? ⟨wr.heap.size, 1, none⟩ = some (.slice ua y.parts.length uc) := by simp [go_sem]
      have hfv : FormV (wr.alloc (.cells #[.string y.name, .slice ua y.parts.length uc] 61)) (.agg #[.string y.name, .slice ua y.parts.length uc]) y := ⟨_, rfl, hns, hp.ext (ext_alloc _ _)⟩
      have hlw := hls.ext (ext_alloc wr (.cells #[.string y.name, .slice ua y.parts.length uc] 61))
      apply Facts.wp_region [.val _, .val _, .val _, .val _, .val _, .val (.int .i64 (formErrM (l.take k) y)), .val _] (by kernel_rfl) (by kernel_rfl) trivial ?main
      case main =>
        iterate 5 (refine ⟨fun w1 hx hh => ?_, ?_⟩; focus (clear hh; have e0 := hx.cell c0; have e1 := hx.cell c1; go_simp; exact ⟨Ext.refl _, rfl⟩))
        refine ⟨fun w1 hx hh => ?_, ?_⟩
        · clear hh
          go_simp
          refine (formError_any _ _ (l.take k) y w1 ((hlw.ext hx).take k (by omega)) (hfv.ext hx)).mono ?_
          rintro e w' ⟨rfl, hx2⟩
          exact ⟨_, rfl, hx2, rfl⟩
        iterate 1 (refine ⟨fun w1 hx hh => ?_, ?_⟩; focus (clear hh; skip; go_simp; exact ⟨Ext.refl _, rfl⟩))
        intro w1 hx1 hh
        have hx3 := hx.trans hx1.of_alloc
        clear hh hx1 c0 c1 hfv hlw
        by_cases h0 : formErrM (l.take k) y = 0
        · have H0 := Lib.hid h0
          rw [h0]; clear h0
          go_wp2
          go_roundw
          case rel => exact ⟨k + 1, by omega, by go_num, (firstErrFrom_step formErrM l k hlt y Hy.out H0.out).trans Hd.out, hx3⟩
          case measure => simp [intOf]; omega
        · have H0 := Lib.hid h0
          have h1 : (formErrM (l.take k) y != 0) = true := by simpa using h0
          clear h0
          go_wp2
          go_ret2
          have := Hd.out
          rw [firstErrFrom_hit formErrM l k hlt y Hy.out H0.out] at this
          exact ⟨ret_two (by rw [← this]), hx3⟩
    · go_wp2
      go_ret2
      have := Hd.out
      rw [firstErrFrom_end _ _ _ (by omega)] at this
      exact ⟨ret_two (by rw [← this]), hx⟩
set_option maxHeartbeats 1000000 in
set_option maxRecDepth 100000 in
theorem listForm_any (v : Value) (l : List Form) (w : World) (hl : FormsAt w v l) :
    Calls Try.prog 68 #[.int .i64 4, v, .func (.func 69) #[] #[]] w
      fun e w' => e = .returned (.tuple #[.int .i64 (if 4 < l.length then (0, 3) else firstErr formErrM l).1, .int .i64 (if 4 < l.length then (0, 3) else firstErr formErrM l).2]) ∧ Ext w w' := by
  obtain ⟨a, cap, rfl, hlc, hcm⟩ := hl.shape
  by_cases h : 4 < l.length
  · rw [if_pos h]
    have k1 : (4 : Int) < (l.length : Int) := by omega
    go_enter Try.func68, Try.ntmps68
    go_wp2_with fail
    go_ret2
    exact ⟨rfl, (by first | (with_reducible exact Ext.refl _) | (with_reducible assumption) | (show Below _ _ _; go_grown; done))⟩
  · rw [if_neg h]
    have k1 : ¬ (4 : Int) < (l.length : Int) := by omega
    go_enter Try.func68, Try.ntmps68
    go_wp2_with fail
    refine (firstForm_any _ l _ (hl.ext (by first | (with_reducible exact Ext.refl _) | (with_reducible assumption) | (show Below _ _ _; go_grown; done)))).mono ?_
    rintro e w1 ⟨rfl, hx1⟩
    go_wp2
    go_ret2
    exact ⟨rfl, Ext.trans (by first | (with_reducible exact Ext.refl _) | (with_reducible assumption) | (show Below _ _ _; go_grown; done)) hx1⟩
/-- the part, the place and the error of a shelf -/
def checkS (s : Shelf) : Int × Int × Int :=
  if inM s.width 8 30 = false then (1, 0, 7) else if 4 < s.forms.length then (2, 0, 3) else if (firstErr formErrM s.forms).2 ≠ 0 then (2, (firstErr formErrM s.forms).1, (firstErr formErrM s.forms).2) else (0, 0, 0)
def errS (s : Shelf) : Int := (checkS s).2.2
set_option maxHeartbeats 1000000 in
set_option maxRecDepth 100000 in
theorem checkS_any (sv : Value) (s : Shelf) (w : World) (hs : ShelfAt w sv s) :
    Calls Try.prog 45 #[sv] w fun e w' => e = .returned (.tuple #[.int .i64 (checkS s).1, .int .i64 (checkS s).2.1, .int .i64 (checkS s).2.2]) ∧ Ext w w' := by
  obtain ⟨a, c, rfl, hw, hc1, hc2, hf⟩ := hs.open
  have hw' : -9223372036854775808 ≤ s.width ∧ s.width ≤ 9223372036854775807 := hw
  have HF := Lib.hid hf
  clear hf
  go_enter Try.func45, Try.ntmps45
  go_wp2_with fail
  refine (within_any _ _ _ [s.width] _ (IntsAt.oneAt (by simp) hw)).mono ?_
  rintro e w' ⟨rfl, rfl⟩
  rw [withinM_one]
  cases h1 : inM s.width 8 30
  · have H1 := Lib.hid h1; clear h1
    go_wp2_with fail
    go_ret3
    exact ⟨ret_three (by rw [checkS, if_pos H1.out]), (by first | (with_reducible exact Ext.refl _) | (with_reducible assumption) | (show Below _ _ _; go_grown; done))⟩
  have H1 := Lib.hid h1; clear h1
  go_wp2_with fail
  refine (listForm_any _ s.forms _ (HF.out.ext (by first | (with_reducible exact Ext.refl _) | (with_reducible assumption) | (show Below _ _ _; go_grown; done)))).mono ?_
  rintro e w1 ⟨rfl, hx1⟩
  have x1 : Ext w w1 := Ext.trans (by first | (with_reducible exact Ext.refl _) | (with_reducible assumption) | (show Below _ _ _; go_grown; done)) hx1
  clear hx1
  by_cases h4 : 4 < s.forms.length
  · have H4 := Lib.hid h4
    rw [if_pos h4]
    clear h4
    go_wp2_with fail
    go_ret3
    exact ⟨ret_three (by rw [checkS, if_neg (by rw [H1.out]; decide), if_pos H4.out]), x1⟩
  have H4 := Lib.hid h4
  rw [if_neg h4]
  clear h4
  generalize hf : firstErr formErrM s.forms = f1
  have Hf := Lib.hid hf
  clear hf
  obtain ⟨at1, e1⟩ := f1
  by_cases h5 : e1 = 0
  · subst h5
    go_wp2_with fail
    go_ret3
    exact ⟨ret_three (by rw [checkS, if_neg (by rw [H1.out]; decide), if_neg H4.out, Hf.out, if_neg (fun h => h rfl)]), x1⟩
  · have h5' : (e1 != 0) = true := by simpa using h5
    have H5 := Lib.hid h5; clear h5
    go_wp2_with fail
    go_ret3
    exact ⟨ret_three (by rw [checkS, if_neg (by rw [H1.out]; decide), if_neg H4.out, Hf.out, if_pos H5.out]), x1⟩
/-- the error of a shelf, or of a letter -/
def shelfErrM (s : Shelf) (l : List ByteArray) : Int := if errS s ≠ 0 then errS s else letterErrL l
theorem shelfError_any (sv v : Value) (s : Shelf) (l : List ByteArray) (w : World) (hs : ShelfAt w sv s) (hl : StrsAt w v l) :
    Calls Try.prog 23 #[sv, v] w fun e w' => e = .returned (.int .i64 (shelfErrM s l)) ∧ Ext w w' := by
  obtain ⟨a, c, rfl, hw, hc1, hc2, hf⟩ := hs.open
  clear hf
  go_enter Try.func23, Try.ntmps23
  go_wp2_with fail
  refine (checkS_any _ s _ (hs.ext (by first | (with_reducible exact Ext.refl _) | (with_reducible assumption) | (show Below _ _ _; go_grown; done)))).mono ?_
  rintro e w1 ⟨rfl, hx1⟩
  have x1 : Ext w w1 := Ext.trans (by first | (with_reducible exact Ext.refl _) | (with_reducible assumption) | (show Below _ _ _; go_grown; done)) hx1
  clear hx1
  generalize hc : checkS s = cc
  have Hc := Lib.hid hc
  clear hc
  obtain ⟨pt, at1, er⟩ := cc
  by_cases h0 : er = 0
  · subst h0
    go_wp2_with fail
    refine (letterError_any' _ l _ (hl.ext x1)).mono ?_
    rintro e w2 ⟨rfl, hx2⟩
    have x2 := x1.trans hx2
    go_wp2
    go_ret
    exact ⟨ret_int (by rw [shelfErrM, errS, Hc.out, if_neg (fun h => h rfl)]), x2⟩
  · have h0' : (er != 0) = true := by simpa using h0
    have H0 := Lib.hid h0; clear h0
    go_wp2
    go_ret
    exact ⟨ret_int (by rw [shelfErrM, errS, Hc.out, if_pos H0.out]), x1⟩
/-- the error of a shelf and a form -/
def openErrM (s : Shelf) (n : Int) : Int := if errS s ≠ 0 then errS s else if inM n 0 (s.forms.length - 1) = false then 4 else 0
def emptyForm : Value := .agg #[.string ⟨#[]⟩, .slice none 0 0]
/-- a form, if there is no error -/
def OpenF (w : World) (s : Shelf) (n : Int) (e : Int) (v : Value) : Prop := ∃ u, v = .tuple #[u, .int .i64 e] ∧ (e = 0 → ∃ i : Nat, ∃ hi : i < s.forms.length, n = i ∧ FormV w u s.forms[i]) ∧ (e ≠ 0 → u = emptyForm)
end Go.Proofs.Ytgcibmdohifiaaa

namespace Go.Proofs.Ytgcibmdohifiaaa
set_option linter.unusedSimpArgs false
set_option linter.unusedVariables false
open Go.RowKit
set_option linter.unusedVariables false

theorem two_cells {w : World} {B : Nat} {x y : Value} (h0 : w.cell? ⟨B, 0, none⟩ = some x) (h1 : w.cell? ⟨B, 1, none⟩ = some y) (a b : Value) :
    ((w.setCell ⟨B, 0, none⟩ a).setCell ⟨B, 1, none⟩ b).cell? ⟨B, 0, none⟩ = some a ∧ ((w.setCell ⟨B, 0, none⟩ a).setCell ⟨B, 1, none⟩ b).cell? ⟨B, 1, none⟩ = some b :=
  ⟨set_other (set_cell h0 a) (.inr (by simp)) b, set_cell (set_other h1 (.inr (by simp)) a) b⟩
set_option maxHeartbeats 1000000 in
set_option maxRecDepth 100000 in
theorem openF_any (sv : Value) (s : Shelf) (n : Int) (hn : I64 n) (W w : World) (hWx : Ext W w) (hsW : ShelfAt W sv s) :
    Calls Try.prog 49 #[sv, .int .i64 n] w fun e w' => ∃ u, e = .returned u ∧ OpenF W s n (openErrM s n) u ∧ Ext w w' := by
  have hs := hsW.ext hWx
  obtain ⟨a, c, rfl, hw, hc1, hc2, hf⟩ := hsW.open
  clear hsW
  go_enter Try.func49, Try.ntmps49
  go_wp2_with fail
  refine (checkS_any _ s _ (hs.ext (by first | (with_reducible exact Ext.refl _) | (with_reducible assumption) | (show Below _ _ _; go_grown; done)))).mono ?_
  rintro e w1 ⟨rfl, hx1⟩
  have x1 : Ext w w1 := Ext.trans (by first | (with_reducible exact Ext.refl _) | (with_reducible assumption) | (show Below _ _ _; go_grown; done)) hx1
  have p0 : w1.cell? ⟨w.heap.size, 0, none⟩ = some (.int .i64 s.width) := hx1.cell (by simp [go_sem])
  have p1 : w1.cell? ⟨w.heap.size, 1, none⟩ = some (.slice a s.forms.length c) := hx1.cell (by simp [go_sem])
  have q0 : w1.cell? ⟨w.heap.size + 1, 0, none⟩ = some (.string ⟨#[]⟩) := hx1.cell (by simp [go_sem])
  have q1 : w1.cell? ⟨w.heap.size + 1, 1, none⟩ = some (.slice none 0 0) := hx1.cell (by simp [go_sem])
  have z1 : w.heap.size + 1 < w1.heap.size := cell_lt q0
  have z0 : w.heap.size < w1.heap.size := cell_lt p0
  have fz : ∀ o, w1.frozen? ⟨w.heap.size + 1, o, none⟩ = false := fun o => by rw [hx1.frozen (by simp)]; simp [go_sem]
  have f0 := fz 0
  have f1 := fz 1
  clear fz hx1
  generalize hc : checkS s = cc
  have Hc := Lib.hid hc
  clear hc
  obtain ⟨pt, at1, er⟩ := cc
  by_cases h0 : er = 0
  rotate_left
  · have h0' : (er != 0) = true := by simpa using h0
    have H0 := Lib.hid h0; clear h0
    have ho : openErrM s n = er := by rw [openErrM, errS, Hc.out, if_pos H0.out]
    have Ho := Lib.hid ho; clear ho
    clear hf
    go_wp2_with fail
    have r := two_cells q0 q1 (.string ⟨#[]⟩) (.slice none 0 0)
    refine bodyPost_ret (v := .tuple #[emptyForm, .int .i64 er]) (by simp [results, Try.results49, go_sem, r.1, r.2, emptyForm]) rfl ⟨_, rfl, ⟨_, by rw [Ho.out], fun h => ?_, fun _ => rfl⟩, ?_⟩
    · rw [Ho.out] at h; exact absurd h H0.out
    · exact (x1.setCell (by simp) _).setCell (by simp) _
  subst h0
  have hopen : openErrM s n = if inM n 0 (s.forms.length - 1) = false then 4 else 0 := by rw [openErrM, errS, Hc.out, if_neg (fun h => h rfl)]
  have wl : IntKind.i64.wrap ((s.forms.length : Int) - 1) = (s.forms.length : Int) - 1 := IntWalk.i64_in _ (by omega)
  have Hopen := Lib.hid hopen; clear hopen
  have Hf := Lib.hid hf
  clear hf
  go_wp2_with fail
  refine (within_any _ _ _ [n] _ (IntsAt.one hn)).mono ?_
  rintro e w' ⟨rfl, rfl⟩
  rw [withinM_one]
  cases h1 : inM n 0 (s.forms.length - 1)
  · have ho : openErrM s n = 4 := by rw [Hopen.out, if_pos h1]
    have Ho := Lib.hid ho; clear ho h1
    go_wp2_with fail
    have r := two_cells q0 q1 (.string ⟨#[]⟩) (.slice none 0 0)
    have r0 := (ext_alloc ((w1.setCell ⟨w.heap.size + 1, 0, none⟩ (.string ⟨#[]⟩)).setCell ⟨w.heap.size + 1, 1, none⟩ (.slice none 0 0)) (.cells #[.int .i64 n] 3)).cell r.1
    have r1 := (ext_alloc ((w1.setCell ⟨w.heap.size + 1, 0, none⟩ (.string ⟨#[]⟩)).setCell ⟨w.heap.size + 1, 1, none⟩ (.slice none 0 0)) (.cells #[.int .i64 n] 3)).cell r.2
    refine bodyPost_ret (v := .tuple #[emptyForm, .int .i64 4]) (by simp [results, Try.results49, go_sem, r0, r1, emptyForm]) rfl ⟨_, rfl, ⟨_, by rw [Ho.out], fun h => ?_, fun _ => rfl⟩, ?_⟩
    · rw [Ho.out] at h; cases h
    · exact ((x1.setCell (by simp) _).setCell (by simp) _).alloc _
  · have ho : openErrM s n = 0 := by rw [Hopen.out, if_neg (by rw [h1]; decide)]
    have Ho := Lib.hid ho; clear ho
    have hr : 0 ≤ n ∧ n ≤ s.forms.length - 1 := by simpa [inM] using h1
    clear h1
    obtain ⟨k, rfl⟩ : ∃ k : Nat, n = k := ⟨n.toNat, by omega⟩
    have hk : k < s.forms.length := by omega
    have k1 : (k : Int) < (s.forms.length : Int) := by omega
    obtain ⟨fb, fo, rfl, h1, hns, u, h2, hp⟩ := Hf.out.get hk
    replace h1 := x1.cell (hWx.cell h1)
    replace h2 := x1.cell (hWx.cell h2)
    have Hnm := Lib.hid hns
    have Hp := Lib.hid hp
    have zf : fb < w1.heap.size := cell_lt h1
    obtain ⟨ua, uc, rfl, -⟩ := hp.shape
    clear hp hns
    go_wp2_with fail
    have r := two_cells q0 q1 (.string (s.forms[k]).name) (.slice ua (s.forms[k]).parts.length uc)
    have r0 := (ext_alloc ((w1.setCell ⟨w.heap.size + 1, 0, none⟩ (.string (s.forms[k]).name)).setCell ⟨w.heap.size + 1, 1, none⟩ (.slice ua (s.forms[k]).parts.length uc)) (.cells #[.int .i64 k] 3)).cell r.1
    have r1 := (ext_alloc ((w1.setCell ⟨w.heap.size + 1, 0, none⟩ (.string (s.forms[k]).name)).setCell ⟨w.heap.size + 1, 1, none⟩ (.slice ua (s.forms[k]).parts.length uc)) (.cells #[.int .i64 k] 3)).cell r.2
    have x3 : Ext w (((w1.setCell ⟨w.heap.size + 1, 0, none⟩ (.string (s.forms[k]).name)).setCell ⟨w.heap.size + 1, 1, none⟩ (.slice ua (s.forms[k]).parts.length uc)).alloc (.cells #[.int .i64 k] 3)) := ((x1.setCell (by simp) _).setCell (by simp) _).alloc _
    refine bodyPost_ret (v := .tuple #[.agg #[.string (s.forms[k]).name, .slice ua (s.forms[k]).parts.length uc], .int .i64 0]) (by simp [results, Try.results49, go_sem, r0, r1]) rfl ⟨_, rfl, ⟨_, by rw [Ho.out], fun _ => ⟨k, hk, rfl, ⟨_, rfl, Hnm.out, Hp.out⟩⟩, fun h => absurd Ho.out h⟩, x3⟩
/-- the error of a shelf and a form, and of a letter -/
def openForErrM (s : Shelf) (n : Int) (l : List ByteArray) : Int := if openErrM s n ≠ 0 then openErrM s n else letterErrL l
/-- a form, if there is no error; nothing is said of it if there is one -/
def OpenG (w : World) (s : Shelf) (n : Int) (e : Int) (v : Value) : Prop := ∃ u, v = .tuple #[u, .int .i64 e] ∧ (e = 0 → ∃ i : Nat, ∃ hi : i < s.forms.length, n = i ∧ FormV w u s.forms[i])
set_option maxHeartbeats 1000000 in
set_option maxRecDepth 100000 in
theorem openFor_any (sv v : Value) (s : Shelf) (n : Int) (hn : I64 n) (l : List ByteArray) (W w : World) (hWx : Ext W w) (hsW : ShelfAt W sv s) (hl : StrsAt w v l) :
    Calls Try.prog 25 #[sv, .int .i64 n, v] w fun e w' => ∃ u, e = .returned u ∧ OpenG W s n (openForErrM s n l) u ∧ Ext w w' := by
  obtain ⟨a, c, rfl, hw, hc1, hc2, hf⟩ := hsW.open
  clear hf
  go_enter Try.func25, Try.ntmps25
  go_wp2_with fail
  refine (openF_any _ s n hn W _ (hWx.trans (by first | (with_reducible exact Ext.refl _) | (with_reducible assumption) | (show Below _ _ _; go_grown; done))) hsW).mono ?_
  rintro e w1 ⟨uu, rfl, ⟨u, rfl, h1, h2⟩, hx1⟩
  have x1 : Ext w w1 := Ext.trans (by first | (with_reducible exact Ext.refl _) | (with_reducible assumption) | (show Below _ _ _; go_grown; done)) hx1
  have q0 : w1.cell? ⟨w.heap.size + 1, 0, none⟩ = some (.string ⟨#[]⟩) := hx1.cell (by simp [go_sem])
  have q1 : w1.cell? ⟨w.heap.size + 1, 1, none⟩ = some (.slice none 0 0) := hx1.cell (by simp [go_sem])
  have z1 : w.heap.size + 1 < w1.heap.size := cell_lt q0
  have fz : ∀ o, w1.frozen? ⟨w.heap.size + 1, o, none⟩ = false := fun o => by rw [hx1.frozen (by simp)]; simp [go_sem]
  have f0 := fz 0
  have f1 := fz 1
  clear fz hx1
  obtain ⟨nm, pa, pn, pc, rfl⟩ : ∃ nm pa pn pc, u = .agg #[.string nm, .slice pa pn pc] := by
    by_cases h : openErrM s n = 0
    · obtain ⟨i, hi, -, uu, rfl, -, hp⟩ := h1 h
      obtain ⟨pa, pc, rfl, -⟩ := hp.shape
      exact ⟨_, _, _, _, rfl⟩
    · exact ⟨_, _, _, _, h2 h⟩
  clear h2
  have H1 := Lib.hid h1
  clear h1
  by_cases h0 : openErrM s n = 0
  · have ho : openForErrM s n l = letterErrL l := by rw [openForErrM, if_neg (by simpa using h0)]
    have hH := H1.out h0
    have Ho := Lib.hid ho
    have HH := Lib.hid hH
    rw [h0]
    clear ho hH h0 H1
    have hlw := hl.ext (x1.trans (ext_alloc w1 (.cells #[.string nm, .slice pa pn pc] 68)))
    go_wp2_with fail
    refine (letterError_any' _ l _ hlw).mono ?_
    rintro e w2 ⟨rfl, hx2⟩
    have x2 : Ext w1 w2 := hx2.of_alloc
    have b0 : w2.cell? ⟨w1.heap.size, 0, none⟩ = some (.string nm) := hx2.cell (by simp [go_sem])
    have b1 : w2.cell? ⟨w1.heap.size, 1, none⟩ = some (.slice pa pn pc) := hx2.cell (by simp [go_sem])
    have f0' := (x2.frozen (p := ⟨w.heap.size + 1, 0, none⟩) z1).trans f0
    have f1' := (x2.frozen (p := ⟨w.heap.size + 1, 1, none⟩) z1).trans f1
    replace q0 := x2.cell q0
    replace q1 := x2.cell q1
    replace z1 : w.heap.size + 1 < w2.heap.size := cell_lt q0
    have z2 : w1.heap.size < w2.heap.size := cell_lt b0
    clear f0 f1 hx2 hlw
    go_wp2_with fail
    have r := two_cells q0 q1 (.string nm) (.slice pa pn pc)
    refine bodyPost_ret (v := .tuple #[.agg #[.string nm, .slice pa pn pc], .int .i64 (letterErrL l)]) (by simp [results, Try.results25, go_sem, r.1, r.2]) rfl ⟨_, rfl, ⟨_, by rw [Ho.out], fun _ => ?_⟩, ((x1.trans x2).setCell (by simp) _).setCell (by simp) _⟩
    exact HH.out
  · have ho : openForErrM s n l = openErrM s n := by rw [openForErrM, if_pos h0]
    have h0' : (openErrM s n == 0) = false := by simpa using h0
    have H0 := Lib.hid h0
    have Ho := Lib.hid ho
    generalize openErrM s n = er at *
    clear ho h0
    go_wp2_with fail
    have r := two_cells q0 q1 (.string nm) (.slice pa pn pc)
    have r0 := (ext_alloc ((w1.setCell ⟨w.heap.size + 1, 0, none⟩ (.string nm)).setCell ⟨w.heap.size + 1, 1, none⟩ (.slice pa pn pc)) (.cells #[.string nm, .slice pa pn pc] 68)).cell r.1
    have r1 := (ext_alloc ((w1.setCell ⟨w.heap.size + 1, 0, none⟩ (.string nm)).setCell ⟨w.heap.size + 1, 1, none⟩ (.slice pa pn pc)) (.cells #[.string nm, .slice pa pn pc] 68)).cell r.2
    refine bodyPost_ret (v := .tuple #[.agg #[.string nm, .slice pa pn pc], .int .i64 er]) (by simp [results, Try.results25, go_sem, r0, r1]) rfl ⟨_, rfl, ⟨_, by rw [Ho.out], fun h => ?_⟩, ((x1.setCell (by simp) _).setCell (by simp) _).alloc _⟩
    rw [Ho.out] at h
    exact absurd h H0.out
end Go.Proofs.Ytgcibmdohifiaaa

namespace Go.Proofs.Ytgcibmdohifiaaa
set_option linter.unusedSimpArgs false
set_option linter.unusedVariables false
open Go.RowKit

def heardErrM (S : Int) (l : List Int) : Int := if 5 < l.length then 3 else if withinM 0 (S - 1) l = false then 7 else 0
def ascM (l : List Int) : Bool := (List.range l.length).all fun k => k == 0 || decide (l.getD (k - 1) 0 < l.getD k 0)
theorem ascM_no (l : List Int) (k : Nat) (h0 : 0 < k) (hk : k < l.length) (x y : Int) (hx : l[k] = x) (hy : l[k - 1]'(by omega) = y) (h : x ≤ y) : ascM l = false := by
  unfold ascM
  rw [List.all_eq_false]
  refine ⟨k, List.mem_range.2 hk, ?_⟩
  rw [List.getD_eq_getElem?_getD, List.getD_eq_getElem?_getD, List.getElem?_eq_getElem hk, List.getElem?_eq_getElem (show k - 1 < l.length by omega)]
  simp only [Option.getD_some, hx, hy]
  simp; omega
theorem ascM_yes (l : List Int) (h : ∀ k (_ : 0 < k) (hk : k < l.length), l[k - 1]'(by omega) < l[k]) : ascM l = true := by
  unfold ascM
  rw [List.all_eq_true]
  intro k hk
  have hk := List.mem_range.1 hk
  by_cases h0 : k = 0
  · subst h0; rfl
  · rw [List.getD_eq_getElem?_getD, List.getD_eq_getElem?_getD, List.getElem?_eq_getElem hk, List.getElem?_eq_getElem (show k - 1 < l.length by omega)]
    simp only [Option.getD_some]
    have := h k (by omega) hk
    simp [this]
end Go.Proofs.Ytgcibmdohifiaaa

namespace Go.Proofs.Ytgcibmdohifiaaa
set_option linter.unusedSimpArgs false
set_option linter.unusedVariables false
open Go.RowKit

def bitsM (l : List Nat) : Nat := l.foldl (fun s i => s ||| 2 ^ i) 0
def ints (l : List Nat) : List Int := l.map (fun n : Nat => (n : Int))
theorem bitsM_snoc (l : List Nat) (x : Nat) : bitsM (l ++ [x]) = bitsM l ||| 2 ^ x := by simp [bitsM]
theorem foldl_lt : ∀ (l : List Nat) (s : Nat), s < 32 → (∀ x ∈ l, x < 5) → l.foldl (fun s i => s ||| 2 ^ i) s < 32
  | [], _, hs, _ => hs
  | x :: l, s, hs, h => foldl_lt l _ (Nat.or_lt_two_pow (n := 5) hs (Nat.pow_lt_pow_right (m := x) (n := 5) (by decide) (h x (by simp)))) fun y hy => h y (by simp [hy])
theorem bitsM_lt (l : List Nat) (h : ∀ x ∈ l, x < 5) : bitsM l < 32 := foldl_lt l 0 (by decide) h
theorem or_small : ∀ (s : Fin 32) (x : Fin 5), bits BinOp.or IntKind.i64 ((s.1 : Nat) : Int) ((2 ^ x.1 : Nat) : Int) = ((s.1 ||| 2 ^ x.1 : Nat) : Int) := by decide +kernel

end Go.Proofs.Ytgcibmdohifiaaa

namespace Go.Proofs.Ytgcibmdohifiaaa
set_option linter.unusedSimpArgs false
set_option linter.unusedVariables false
open Go.RowKit

/-- an owned row of numbers is a list in memory -/
theorem IntsAt.of_own {w : World} {B : Nat} {e : TypeId} {v : Value} {l : List Int} (h : w.ownsRow B e 1 v l.length (l.map (Value.int .i64))) (hI : ∀ x ∈ l, I64 x) : IntsAt w v l := by
  rcases h.2 with ⟨rfl, hn⟩ | ⟨g, cap, cur, rfl, hb, hg, hnc, hcm, hcs, htake⟩
  · have : l = [] := List.eq_nil_of_length_eq_zero hn
    subst this; exact SliceAt.nil
  · refine ⟨_, _, rfl, hnc, by simpa [maxLen] using hcm, fun i hi => ⟨g, 0, rfl, ?_, hI _ (List.getElem_mem hi)⟩⟩
    have := h.cells (g := g) rfl i (.int .i64 l[i]) (by simp [hi])
    have e : (⟨g, 0, none⟩ : Addr).add i = ⟨g, 0 + i * 1, none⟩ := by unfold Addr.add; split <;> simp_all
    rw [e] at this; exact this
theorem Ext.grown {a w w' : World} {row : Option Nat} (h : Ext a w) (hg : w.grownBy w' row) (hr : ∀ k, row = some k → a.heap.size ≤ k) : Ext a w' := Below.grown h hg h.size hr

def membersTo (n k : Nat) : List Nat := (List.range k).filter fun i => n.testBit i
def membersM (n : Nat) : List Nat := membersTo n 5
theorem membersTo_succ (n k : Nat) : membersTo n (k + 1) = membersTo n k ++ (if n.testBit k then [k] else []) := by
  unfold membersTo
  rw [List.range_succ, List.filter_append]
  cases h : n.testBit k <;> simp [h]
theorem membersTo_len (n k : Nat) : (membersTo n k).length ≤ k := by
  have := List.length_filter_le (fun i => n.testBit i) (List.range k)
  simpa [membersTo] using this
theorem members_end : ∀ (n : Fin 32) (k : Fin 6), n.1 < 2 ^ k.1 → membersTo n.1 k.1 = membersM n.1 := by decide +kernel
theorem and_yes : ∀ (n : Fin 32) (k : Fin 5), n.1.testBit k.1 = true → bits BinOp.and IntKind.i64 ((n.1 : Nat) : Int) ((2 ^ k.1 : Nat) : Int) = ((2 ^ k.1 : Nat) : Int) := by decide +kernel
theorem and_no : ∀ (n : Fin 32) (k : Fin 5), n.1.testBit k.1 = false → bits BinOp.and IntKind.i64 ((n.1 : Nat) : Int) ((2 ^ k.1 : Nat) : Int) = 0 := by decide +kernel

theorem infoInt : (Try.prog.info? 3).map (fun i => (i.zero, i.size, i.bytes)) = some (some (.int .i64 0), 1, 8) := by kernel_rfl

theorem members_I64 (n : Nat) : ∀ x ∈ ints (membersM n), I64 x := by
  intro x hx
  simp only [ints, membersM, membersTo, List.mem_map, List.mem_filter, List.mem_range] at hx
  obtain ⟨y, ⟨hy, -⟩, rfl⟩ := hx
  unfold I64; omega
theorem own_snoc {w : World} {B : Nat} {e : TypeId} {v : Value} {n k : Nat} {m : Nat} (hm : m = (ints (membersTo n k)).length + 1) (hb : membersTo n (k + 1) = membersTo n k ++ [k])
    (h : w.ownsRow B e 1 v m ((ints (membersTo n k)).map (Value.int .i64) ++ [.int .i64 (k : Int)])) : w.ownsRow B e 1 v (ints (membersTo n (k + 1))).length ((ints (membersTo n (k + 1))).map (Value.int .i64)) := by
  subst hm
  rw [hb]
  simpa [ints] using h
end Go.Proofs.Ytgcibmdohifiaaa

namespace Go.Proofs.Ytgcibmdohifiaaa
set_option linter.unusedSimpArgs false
set_option linter.unusedVariables false
open Go.RowKit

def ssRaw (n a b c d e : Int) : Value := .agg #[.int .i64 n, .int .i64 a, .int .i64 b, .int .i64 c, .int .i64 d, .int .i64 e]
def ssV (l : List Int) : Value := ssRaw l.length (l.getD 0 0) (l.getD 1 0) (l.getD 2 0) (l.getD 3 0) (l.getD 4 0)

def givesM (x : Letter) (s : Int) : Bool := if s = -1 then x.silent else x.sounds.toNat.testBit s.toNat
theorem and_bit : ∀ (n : Fin 16) (k : Fin 4), (bits BinOp.and IntKind.i64 ((n.1 : Nat) : Int) ((2 ^ k.1 : Nat) : Int) != 0) = n.1.testBit k.1 := by decide +kernel
def FineL (x : Letter) : Prop := 0 ≤ x.sounds ∧ x.sounds ≤ 15

end Go.Proofs.Ytgcibmdohifiaaa

namespace Go.Proofs.Ytgcibmdohifiaaa
set_option linter.unusedSimpArgs false
set_option linter.unusedVariables false
open Go.RowKit

/-- the comparison of two lists, number by number -/
def cmpL : List Int → List Int → Int
  | [], [] => 0
  | [], _ :: _ => -1
  | _ :: _, [] => 1
  | x :: a, y :: b => if cmpM x y = 0 then cmpL a b else cmpM x y
theorem cmpL_step (l m : List Int) (k : Nat) (h1 : k < l.length) (h2 : k < m.length) : cmpL (l.drop k) (m.drop k) = if cmpM l[k] m[k] = 0 then cmpL (l.drop (k + 1)) (m.drop (k + 1)) else cmpM l[k] m[k] := by
  rw [List.drop_eq_getElem_cons h1, List.drop_eq_getElem_cons h2, cmpL]

end Go.Proofs.Ytgcibmdohifiaaa

namespace Go.Proofs.Ytgcibmdohifiaaa
set_option linter.unusedSimpArgs false
set_option linter.unusedVariables false
open Go.RowKit

set_option maxHeartbeats 1000000 in
theorem eq_array (a b c d e a' b' c' d' e' : Int) (k : Nat) (w : World) :
    (Op.equalIn (k + 2) 64 (.agg #[.int .i64 a, .int .i64 b, .int .i64 c, .int .i64 d, .int .i64 e]) (.agg #[.int .i64 a', .int .i64 b', .int .i64 c', .int .i64 d', .int .i64 e'])).run Try.prog w =
      .ok (a == a' && (b == b' && (c == c' && (d == d' && e == e')))) w := by
  have ha : ∀ w, (isAgg 3).run Try.prog w = .ok false w := fun _ => by kernel_rfl
  rw [Op.equalIn]
  simp only [go_sem]
  simp [List.range', go_sem]
  by_cases h1 : a = a' <;> by_cases h2 : b = b' <;> by_cases h3 : c = c' <;> by_cases h4 : d = d' <;> by_cases h5 : e = e' <;> simp [h1, h2, h3, h4, h5]
theorem neq_array (a b c d e a' b' c' d' e' : Int) (w : World) :
    (binOp .neq 64 (.agg #[.int .i64 a, .int .i64 b, .int .i64 c, .int .i64 d, .int .i64 e]) (.agg #[.int .i64 a', .int .i64 b', .int .i64 c', .int .i64 d', .int .i64 e'])).run Try.prog w =
      .ok (.bool (!(a == a' && (b == b' && (c == c' && (d == d' && e == e')))))) w := by
  rw [run_neq_struct, eq_array]
  rfl
end Go.Proofs.Ytgcibmdohifiaaa

namespace Go.Proofs.Ytgcibmdohifiaaa
set_option linter.unusedSimpArgs false
set_option linter.unusedVariables false
open Go.RowKit

theorem IntsAt.five {w : World} {B o : Nat} {a b c d e : Int} (h0 : w.cell? ⟨B, o, none⟩ = some (.int .i64 a)) (h1 : w.cell? ⟨B, o + 1, none⟩ = some (.int .i64 b)) (h2 : w.cell? ⟨B, o + 2, none⟩ = some (.int .i64 c))
    (h3 : w.cell? ⟨B, o + 3, none⟩ = some (.int .i64 d)) (h4 : w.cell? ⟨B, o + 4, none⟩ = some (.int .i64 e)) (hi : I64 a ∧ I64 b ∧ I64 c ∧ I64 d ∧ I64 e) : IntsAt w (.slice (some ⟨B, o, none⟩) 5 5) [a, b, c, d, e] := by
  refine ⟨_, _, rfl, Nat.le_refl _, by omega, fun i hi5 => ⟨B, o, rfl, ?_⟩⟩
  obtain ⟨i0, i1, i2, i3, i4⟩ := hi
  have h5 : i = 0 ∨ i = 1 ∨ i = 2 ∨ i = 3 ∨ i = 4 := by simp at hi5; omega
  rcases h5 with rfl | rfl | rfl | rfl | rfl
  · exact ⟨h0, i0⟩
  · exact ⟨h1, i1⟩
  · exact ⟨h2, i2⟩
  · exact ⟨h3, i3⟩
  · exact ⟨h4, i4⟩

end Go.Proofs.Ytgcibmdohifiaaa

namespace Go.Proofs.Ytgcibmdohifiaaa
set_option linter.unusedSimpArgs false
set_option linter.unusedVariables false
open Go.RowKit
set_option linter.unusedSimpArgs false

def pad (l : List Int) : List Int := [l.getD 0 0, l.getD 1 0, l.getD 2 0, l.getD 3 0, l.getD 4 0]
def cmpSS (l m : List Int) : Int := if l.length = m.length then cmpL l m else cmpM l.length m.length
theorem cmpM_self (x : Int) : cmpM x x = 0 := by rw [cmpM, if_neg (by omega), if_neg (by omega)]
theorem cmpL_self : ∀ l : List Int, cmpL l l = 0
  | [] => rfl
  | x :: l => by rw [cmpL, if_pos (cmpM_self x), cmpL_self l]
theorem cmp_pad (l m : List Int) (h : l.length = m.length) (h5 : l.length ≤ 5) : cmpL (pad l) (pad m) = cmpL l m := by
  have z : cmpM 0 0 = 0 := rfl
  match l, m, h, h5 with
  | [], [], _, _ => rfl
  | [a], [a'], _, _ => simp [pad, cmpL, z]
  | [a, b], [a', b'], _, _ => simp [pad, cmpL, z]
  | [a, b, c], [a', b', c'], _, _ => simp [pad, cmpL, z]
  | [a, b, c, d], [a', b', c', d'], _, _ => simp [pad, cmpL, z]
  | [a, b, c, d, e], [a', b', c', d', e'], _, _ => rfl
theorem getD_I64 (l : List Int) (h : ∀ x ∈ l, I64 x) (i : Nat) : I64 (l.getD i 0) := by
  rw [List.getD_eq_getElem?_getD]
  cases hi : l[i]? with
  | none => simp [I64]
  | some x => exact h x (List.mem_of_getElem? hi)
end Go.Proofs.Ytgcibmdohifiaaa

namespace Go.Proofs.Ytgcibmdohifiaaa
set_option linter.unusedSimpArgs false
set_option linter.unusedVariables false
set_option linter.unusedVariables false
open Go.RowKit
set_option linter.unusedSimpArgs false

end Go.Proofs.Ytgcibmdohifiaaa

namespace Go.Proofs.Ytgcibmdohifiaaa
set_option linter.unusedSimpArgs false
set_option linter.unusedVariables false
open Go.RowKit
set_option linter.unusedSimpArgs false

def letterOf (ls : List Letter) (s : ByteArray) (k : Nat) : Letter := (ls.find? fun y => y.c == byteAt s k).getD ⟨0, 0, true⟩
def lettersTo (ls : List Letter) (s : ByteArray) (k : Nat) : List Letter := (List.range k).map fun j => letterOf ls s j
def lettersM (ls : List Letter) (s : ByteArray) : List Letter := lettersTo ls s s.size
theorem lettersTo_succ (ls : List Letter) (s : ByteArray) (k : Nat) : lettersTo ls s (k + 1) = lettersTo ls s k ++ [letterOf ls s k] := by
  simp [lettersTo, List.range_succ]
theorem lettersTo_len (ls : List Letter) (s : ByteArray) (k : Nat) : (lettersTo ls s k).length = k := by simp [lettersTo]
/-- the place of a letter that is known -/
theorem idxM_known (ls : List Letter) (s : ByteArray) (k : Nat) (h : knownB ls s k = true) :
    ∃ p : Nat, ∃ hp : p < ls.length, idxM (fun y => y.c == byteAt s k) ls = p ∧ ls[p] = letterOf ls s k := by
  unfold knownB at h
  cases hf : ls.findIdx? (fun y => y.c == byteAt s k) with
  | none =>
    rw [List.findIdx?_eq_none_iff] at hf
    rw [List.any_eq_true] at h
    obtain ⟨x, hx, hc⟩ := h
    rw [hf x hx] at hc; cases hc
  | some p =>
    have hf' := hf
    rw [List.findIdx?_eq_some_iff_getElem] at hf'
    obtain ⟨hp, h1, h2⟩ := hf'
    refine ⟨p, hp, by simp [idxM, hf], ?_⟩
    have : ls.find? (fun y => y.c == byteAt s k) = some ls[p] := by
      rw [List.find?_eq_some_iff_getElem]
      exact ⟨h1, p, hp, rfl, fun j hj => by simpa using h2 j hj⟩
    rw [letterOf, this]; rfl
def cellsL (l : List Letter) : List Value := l.flatMap fun x => [.int .u8 x.c, .int .i64 x.sounds, .bool x.silent]
theorem cellsL_len (l : List Letter) : (cellsL l).length = l.length * 3 := by
  induction l with
  | nil => rfl
  | cons x l ih => simp only [cellsL, List.flatMap_cons, List.length_append, List.length_cons, List.length_nil] at *; omega
theorem cellsL_snoc (l : List Letter) (x : Letter) : cellsL (l ++ [x]) = cellsL l ++ [.int .u8 x.c, .int .i64 x.sounds, .bool x.silent] := by simp [cellsL]
theorem cellsL_get (l : List Letter) (i : Nat) (h : i < l.length) : (cellsL l)[i * 3]? = some (.int .u8 l[i].c) ∧ (cellsL l)[i * 3 + 1]? = some (.int .i64 l[i].sounds) ∧ (cellsL l)[i * 3 + 2]? = some (.bool l[i].silent) := by
  induction l generalizing i with
  | nil => simp at h
  | cons x l ih =>
    cases i with
    | zero => simp [cellsL]
    | succ i =>
      have := ih i (by simpa using h)
      have e : (i + 1) * 3 = i * 3 + 3 := by omega
      rw [e]
      simpa [cellsL] using this
theorem LettersAt.of_own {w : World} {B : Nat} {e : TypeId} {v : Value} {l : List Letter} (h : w.ownsRow B e 3 v l.length (cellsL l)) (hI : ∀ x ∈ l, U8 x.c ∧ I64 x.sounds) : LettersAt w v l := by
  rcases h.2 with ⟨rfl, hn⟩ | ⟨g, cap, cur, rfl, hb, hg, hnc, hcm, hcs, htake⟩
  · have : l = [] := List.eq_nil_of_length_eq_zero hn
    subst this; exact SliceAt.nil
  · refine ⟨_, _, rfl, hnc, by simpa [maxLen] using hcm, fun i hi => ⟨g, 0, rfl, ?_⟩⟩
    obtain ⟨c0, c1, c2⟩ := cellsL_get l i hi
    have hh := fun j u hu => h.cells (g := g) rfl j u hu
    have e : ∀ j, (⟨g, 0, none⟩ : Addr).add j = ⟨g, 0 + j, none⟩ := fun j => by unfold Addr.add; split <;> simp_all
    have r0 := hh _ _ c0
    have r1 := hh _ _ c1
    have r2 := hh _ _ c2
    rw [e] at r0 r1 r2
    exact ⟨r0, r1, r2, hI _ (List.getElem_mem hi)⟩

theorem LettersAt.fine {w : World} {v : Value} {ls : List Letter} (h : LettersAt w v ls) : ∀ x ∈ ls, U8 x.c ∧ I64 x.sounds := by
  intro x hx
  obtain ⟨i, hi, rfl⟩ := List.getElem_of_mem hx
  obtain ⟨_, _, -, -, -, hh⟩ := h
  obtain ⟨_, _, -, -, -, -, hu⟩ := hh i hi
  exact hu
theorem lettersTo_all (P : Letter → Prop) (ls : List Letter) (s : ByteArray) (k : Nat) (h : ∀ x ∈ ls, P x) (h0 : P ⟨0, 0, true⟩) : ∀ x ∈ lettersTo ls s k, P x := by
  intro x hx
  simp only [lettersTo, List.mem_map, letterOf] at hx
  obtain ⟨j, -, rfl⟩ := hx
  cases hf : ls.find? fun y => y.c == byteAt s j with
  | none => exact h0
  | some y => exact h y (List.mem_of_find?_eq_some hf)
theorem Ext.grownBy {w w' : World} (h : Ext w w') : w.grownBy w' none := ⟨Below.os h, Below.tape h, Below.output h, Below.size h, fun k hk _ => Below.block h k hk⟩
theorem Ext.owns {w w' : World} {B : Nat} {e : TypeId} {size : Nat} {v : Value} {n : Nat} {xs : List Value} (h : w.ownsRow B e size v n xs) (hx : Ext w w') : w'.ownsRow B e size v n xs :=
  h.kept hx.grownBy (by cases v.ownBlock <;> simp)
theorem cell_three_new (w : World) (a b c : Value) (t : TypeId) : ∀ j u, [a, b, c][j]? = some u → (w.alloc (.cells #[a, b, c] t)).cell? ((⟨w.heap.size, 0, none⟩ : Addr).add j) = some u := by
  intro j u hj
  match j, hj with
  | 0, hj => simp at hj; subst hj; simp [go_sem, Addr.add]
  | 1, hj => simp at hj; subst hj; simp [go_sem, Addr.add]
  | 2, hj => simp at hj; subst hj; simp [go_sem, Addr.add]
theorem snoc_letters {w : World} {B : Nat} {e : TypeId} {v : Value} {l l' : List Letter} {x : Letter} (hb : l' = l ++ [x]) (h : w.ownsRow B e 3 v (l.length + 1) (cellsL l ++ [.int .u8 x.c, .int .i64 x.sounds, .bool x.silent])) :
    w.ownsRow B e 3 v l'.length (cellsL l') := by
  subst hb
  rw [cellsL_snoc, List.length_append]
  exact h
end Go.Proofs.Ytgcibmdohifiaaa

namespace Go.Proofs.Ytgcibmdohifiaaa
set_option linter.unusedSimpArgs false
set_option linter.unusedVariables false
open Go.RowKit
set_option linter.unusedVariables false

abbrev EntP := Value × Int × Int
def cellsP (es : List EntP) : List Value := es.flatMap fun e => [e.1, .int .i64 e.2.1, .int .i64 e.2.2]
theorem cellsP_len (l : List EntP) : (cellsP l).length = l.length * 3 := by
  induction l with
  | nil => rfl
  | cons x l ih => simp only [cellsP, List.flatMap_cons, List.length_append, List.length_cons, List.length_nil] at *; omega
theorem cellsP_get (l : List EntP) (i : Nat) (h : i < l.length) : (cellsP l)[i * 3]? = some l[i].1 ∧ (cellsP l)[i * 3 + 1]? = some (.int .i64 l[i].2.1) ∧ (cellsP l)[i * 3 + 2]? = some (.int .i64 l[i].2.2) := by
  induction l generalizing i with
  | nil => simp at h
  | cons x l ih =>
    cases i with
    | zero => simp [cellsP]
    | succ i =>
      have := ih i (by simpa using h)
      have e : (i + 1) * 3 = i * 3 + 3 := by omega
      rw [e]
      simpa [cellsP] using this
theorem cellsP_snoc (l : List EntP) (u : Value) (a b : Int) : cellsP (l ++ [(u, a, b)]) = cellsP l ++ [u, .int .i64 a, .int .i64 b] := by simp [cellsP]
/-- what a row of parts holds -/
def EntsP (w : World) (es : List EntP) (l : List Part) : Prop := es.length = l.length ∧ ∀ i (h : i < l.length) (h' : i < es.length), StrsAt w es[i].1 l[i].words ∧ es[i].2 = (l[i].lo, l[i].hi) ∧ I64 l[i].lo ∧ I64 l[i].hi
theorem EntsP.nil {w : World} : EntsP w [] [] := ⟨rfl, fun i h => by simp at h⟩
theorem EntsP.ext {w w' : World} {es : List EntP} {l : List Part} (h : EntsP w es l) (hx : Ext w w') : EntsP w' es l := ⟨h.1, fun i h1 h2 => by obtain ⟨a, b⟩ := h.2 i h1 h2; exact ⟨a.ext hx, b⟩⟩
theorem EntsP.snoc {w : World} {es : List EntP} {l : List Part} (h : EntsP w es l) {x : Part} {u : Value} (hs : StrsAt w u x.words) (h1 : I64 x.lo) (h2 : I64 x.hi) : EntsP w (es ++ [(u, x.lo, x.hi)]) (l ++ [x]) := by
  refine ⟨by simp [h.1], fun i g1 g2 => ?_⟩
  have hle := h.1
  by_cases e : i < l.length
  · rw [List.getElem_append_left (by omega), List.getElem_append_left e]
    exact h.2 i e (by omega)
  · have ei : i = l.length := by simp at g1; omega
    subst ei
    have e1 : (es ++ [(u, x.lo, x.hi)])[l.length] = (u, x.lo, x.hi) := by rw [List.getElem_append_right (by omega)]; simp [hle]
    have e2 : (l ++ [x])[l.length] = x := by rw [List.getElem_append_right (by omega)]; simp
    simp only [e1, e2]
    exact ⟨hs, trivial, h1, h2⟩
theorem PartsAt.of_own {w W : World} {base : Nat} {e : TypeId} {v : Value} {es : List EntP} {l : List Part} (h : W.ownsRow base e 3 v l.length (cellsP es)) (hE : EntsP W es l) : PartsAt W v l := by
  have hcells := fun g hg => h.cells (g := g) hg
  rcases h.2 with ⟨rfl, hn⟩ | ⟨g, cap, cur, rfl, hb, hg, hnc, hcm, hcs, htake⟩
  · have : l = [] := List.eq_nil_of_length_eq_zero hn
    subst this; exact SliceAt.nil
  · refine ⟨_, _, rfl, hnc, by simpa [maxLen] using hcm, fun i hi => ⟨g, 0, rfl, ?_⟩⟩
    have hi2 : i < es.length := by rw [hE.1]; exact hi
    obtain ⟨hs, h2, h3, h4⟩ := hE.2 i hi hi2
    obtain ⟨c0, c1, c2⟩ := cellsP_get es i hi2
    have r0 := hcells g rfl _ _ c0
    have r1 := hcells g rfl _ _ c1
    have r2 := hcells g rfl _ _ c2
    have ea : ∀ j, (⟨g, 0, none⟩ : Addr).add j = ⟨g, 0 + j, none⟩ := fun j => by unfold Addr.add; split <;> simp_all
    rw [ea] at r0 r1 r2
    rw [h2] at r1 r2
    exact ⟨⟨_, r0, hs⟩, r1, r2, h3, h4⟩
theorem infoPart : (Try.prog.info? 105).map (fun i => (i.zero, i.size, i.bytes)) = some (some (.agg #[.slice none 0 0, .int .i64 0, .int .i64 0]), 3, 40) := by kernel_rfl
def roomsM (l : List Part) : List Part := l.filter roomyM
theorem rooms_yes (l : List Part) (k : Nat) (h : k < l.length) (hr : roomyM l[k] = true) : roomsM (l.take (k + 1)) = roomsM (l.take k) ++ [l[k]] := by
  unfold roomsM
  rw [List.take_succ_eq_append_getElem h, List.filter_append]
  simp [hr]
theorem rooms_no (l : List Part) (k : Nat) (h : k < l.length) (hr : roomyM l[k] = false) : roomsM (l.take (k + 1)) = roomsM (l.take k) := by
  unfold roomsM
  rw [List.take_succ_eq_append_getElem h, List.filter_append]
  simp [hr]

set_option maxRecDepth 100000 in
set_option maxHeartbeats 2000000 in
theorem rooms_any (fv : Value) (f : Form) (h5 : f.parts.length ≤ 5) (w : World) (hf : FormV w fv f) :
    Calls Try.prog 81 #[fv] w fun e w' => ∃ v, e = .returned v ∧ PartsAt w' v (roomsM f.parts) ∧ Ext w w' := by
  obtain ⟨pv, rfl, hns, hp⟩ := hf
  obtain ⟨a, cap, rfl, hlc, hcm⟩ := hp.shape
  obtain ⟨i0, hi, hz0, hz1, hz2⟩ := info_parts infoPart
  go_enter Try.func81, Try.ntmps81
  go_wp2_with fail
  go_loopw [3, 11] (fun v i wr => ∃ k : Nat, ∃ es : List EntP, k ≤ f.parts.length ∧ i = .int .i64 k ∧ Ext w wr ∧ wr.ownsRow w.heap.size 105 3 v es.length (cellsP es) ∧ EntsP w es (roomsM (f.parts.take k)) ∧ es.length ≤ k) (fun _ i _ => f.parts.length - (intOf i).toNat)
  case atStart => exact ⟨0, [], Nat.zero_le _, rfl, ext_alloc _ _, World.ownsRow_nil _ _ _ _, EntsP.nil, Nat.le_refl _⟩
  case round =>
    obtain ⟨k, es, hk, rfl, hxr, hown, hE, hel⟩ := hrel
    by_cases hlt : k < f.parts.length
    · have k1 : (k : Int) < (f.parts.length : Int) := by omega
      obtain ⟨b, o, rfl, ⟨u, h1, hs⟩, h2, h3, hlo, hhi⟩ := hp.get hlt
      replace h1 := hxr.cell h1
      replace h2 := hxr.cell h2
      replace h3 := hxr.cell h3
      have hyes := rooms_yes f.parts k hlt
      have hno := rooms_no f.parts k hlt
      generalize f.parts[k] = y at *
      obtain ⟨ua, uc, rfl, -⟩ := hs.shape
      have Hyes := Lib.hid hyes
      have Hno := Lib.hid hno
      have HE := Lib.hid hE
      have Hown := Lib.hid hown
      have Hs := Lib.hid hs
      have hszr := hxr.size
      clear hyes hno hE hown hs
      go_wp2_with fail
      refine (isRoom_any ua _ uc y.lo y.hi _).mono ?_
      rintro e w1 ⟨rfl, hx1⟩
      have hx2 : Ext w w1 := ((hxr.alloc _).alloc _).trans hx1
      have d0 : w1.cell? ⟨wr.heap.size + 1, 0, none⟩ = some (.slice ua y.words.length uc) := hx1.cell (by simp [go_sem])
      have d1 : w1.cell? ⟨wr.heap.size + 1, 1, none⟩ = some (.int .i64 y.lo) := hx1.cell (by simp [go_sem])
      have d2 : w1.cell? ⟨wr.heap.size + 1, 2, none⟩ = some (.int .i64 y.hi) := hx1.cell (by simp [go_sem])
      have own1 := Ext.owns (World.ownsRow.alloc (World.ownsRow.alloc Hown.out _) _) hx1
      have hz := hx2.size
      cases hr : roomyM y
      · have e0 : ((y.words.length : Int) == 0) = false := by
          unfold roomyM at hr
          simp at hr ⊢
          exact hr
        rw [e0]
        have Hn := Lib.hid (Hno.out hr)
        clear hr d0 d1 d2
        go_wp2
        go_roundw
        case rel => exact ⟨k + 1, es, by omega, by go_num, hx2, own1, by rw [Hn.out]; exact HE.out, by omega⟩
        case measure => simp [intOf]; omega
      · have e0 : ((y.words.length : Int) == 0) = true := by
          unfold roomyM at hr
          simp at hr ⊢
          exact hr
        rw [e0]
        have Hn := Lib.hid (Hyes.out hr)
        clear hr h1 h2 h3
        go_wp2_with (at_builtin; go_loud (refine wpList_append_own_at _ rfl _ _ 140 rfl w.heap.size 105 i0 (.agg #[.slice none 0 0, .int .i64 0, .int .i64 0]) 3 40 Try.underlying140 hi hz0 hz1 hz2 rfl (by decide) u3 es.length (cellsP es) rfl (World.ownsRow.alloc own1 _) ⟨w1.heap.size, 0, none⟩ 1 1 [.slice ua y.words.length uc, .int .i64 y.lo, .int .i64 y.hi] rfl rfl (cell_three_new _ _ _ _ _) (by simp [Value.oneCell']) (by unfold maxLen; omega) (by omega) (by simp; omega) ?_; intro v' w2 hown' hgrow _ _))
        have hx3 : Ext w w2 := Ext.grown (hx2.alloc _) hgrow fun k hk => (own1.lt k hk).1
        go_roundw
        case rel => exact ⟨k + 1, es ++ [(.slice ua y.words.length uc, y.lo, y.hi)], by omega, by go_num, hx3, by rw [List.length_append, cellsP_snoc]; exact hown', by rw [Hn.out]; exact HE.out.snoc Hs.out hlo hhi, by simp; omega⟩
        case measure => simp [intOf]; omega
    · have hke : k = f.parts.length := by omega
      subst hke
      rw [List.take_length] at hE
      have hl := hE.1
      go_wp2
      go_ret
      exact ⟨_, rfl, PartsAt.of_own (w := w) (by rw [← hl]; exact hown) (hE.ext hxr), hxr⟩
end Go.Proofs.Ytgcibmdohifiaaa

namespace Go.Proofs.Ytgcibmdohifiaaa
set_option linter.unusedSimpArgs false
set_option linter.unusedVariables false
open Go.RowKit
set_option linter.unusedVariables false

theorem infoString : (Try.prog.info? 9).map (fun i => (i.zero, i.size, i.bytes)) = some (some (.string ByteArray.empty), 1, 16) := by kernel_rfl
/-- a row of words of the call's own -/
def RowW (base : Nat) (l : List ByteArray) (u : Value) (w : World) : Prop := w.ownsRow base 9 1 u l.length (l.map Value.string)
theorem RowW.ext {base : Nat} {l : List ByteArray} {u : Value} {w w' : World} (h : RowW base l u w) (hx : Ext w w') : RowW base l u w' := Ext.owns h hx
theorem RowW.nil {base : Nat} {w : World} : RowW base [] (.slice none 0 0) w := World.ownsRow_nil _ _ _ _
theorem RowW.at_ {base : Nat} {l : List ByteArray} {u : Value} {w : World} (h : RowW base l u w) (hI : ∀ s ∈ l, s.size ≤ 9223372036854775807) : StrsAt w u l := by
  have hcells := fun g hg => h.cells (g := g) hg
  rcases h.2 with ⟨rfl, hn⟩ | ⟨g, cap, cur, rfl, hb, hg, hnc, hcm, hcs, htake⟩
  · have : l = [] := List.eq_nil_of_length_eq_zero hn
    subst this; exact SliceAt.nil
  · refine ⟨_, _, rfl, hnc, by simpa [maxLen] using hcm, fun i hi => ⟨g, 0, rfl, ?_, hI _ (List.getElem_mem hi)⟩⟩
    have := hcells g rfl i (.string l[i]) (by rw [List.getElem?_eq_getElem (by simpa using hi), List.getElem_map])
    rw [show (⟨g, 0, none⟩ : Addr).add i = ⟨g, 0 + i, none⟩ by unfold Addr.add; split <;> simp_all] at this
    simpa using this
theorem StrsAt.sizes {w : World} {v : Value} {l : List ByteArray} (h : StrsAt w v l) : ∀ s ∈ l, s.size ≤ 9223372036854775807 := fun s hs => by
  obtain ⟨i, hi, rfl⟩ := List.getElem_of_mem hs
  obtain ⟨_, _, -, -, -, hh⟩ := h
  obtain ⟨_, _, -, -, h2⟩ := hh i hi
  exact h2
theorem run_append_strs {w : World} (base : Nat) (t ty : TypeId) (i : TypeInfo) (ht : Try.prog.underlying t = some (.slice 9)) (hi : Try.prog.info? 9 = some i) (hz : i.zero = some (.string ByteArray.empty)) (hsize : i.size = 1) (hby : i.bytes = 16)
    (v : Value) (l0 : List ByteArray) (hown : RowW base l0 v w) (sv : Value) (l : List ByteArray) (hs : StrsAt w sv l) (hb : (l0.length + l.length) * 16 ≤ 140737488355328) (hbase : base ≤ w.heap.size) :
    ∃ v' w', (Builtin.append_ #[t, t] ty #[v, sv]).run Try.prog w = .ok v' w' ∧ RowW base (l0 ++ l) v' w' ∧ w.grownBy w' v.ownBlock ∧ (v'.ownBlock = v.ownBlock ∨ v'.ownBlock = some w.heap.size) := by
  obtain ⟨a, cap, rfl, hlc, hcm⟩ := hs.shape
  cases a with
  | none =>
    have hl : l = [] := by
      rcases Nat.eq_zero_or_pos l.length with h | h
      · exact List.eq_nil_of_length_eq_zero h
      · obtain ⟨b, o, e, -⟩ := hs.get h
        cases e
    subst hl
    refine ⟨v, w, ?_, by rw [List.append_nil]; exact hown, World.grownBy.refl _ _, .inl rfl⟩
    rcases hown.2 with ⟨rfl, hn⟩ | ⟨g, cp, cur, rfl, _, _, hnc, _⟩
    · simp [Builtin.append_, run_underlying ht, sizeOf, typeInfo, hi, Builtin.lenOf, Builtin.firstCells]
    · simp [Builtin.append_, run_underlying ht, sizeOf, typeInfo, hi, Builtin.lenOf, Builtin.firstCells, hnc, storeCells]
  | some ad =>
    obtain ⟨v', w', hr, h2, h3, -, h5⟩ := run_append_own_at (P := Try.prog) w base t ty 9 i (.string ByteArray.empty) 1 16 ht hi hz hsize hby (by rfl) (by decide) v l0.length (l0.map Value.string) hown ad l.length cap (l.map Value.string) (by simp) (fun j u hu => by
      have hj : j < l.length := by
        rcases Nat.lt_or_ge j l.length with h | h
        · exact h
        · rw [List.getElem?_eq_none (by simpa using h)] at hu; cases hu
      obtain ⟨b, o, e, h1, -⟩ := hs.get hj
      obtain rfl := Option.some.inj e
      rw [List.getElem?_eq_getElem (by simpa using hj), List.getElem_map] at hu
      obtain rfl := Option.some.inj hu
      rw [show (⟨b, o, none⟩ : Addr).add j = ⟨b, o + j * 1, none⟩ by unfold Addr.add; split <;> simp_all]
      exact h1) (fun u hu => by
      obtain ⟨x, -, rfl⟩ := List.mem_map.1 hu
      simp [Value.oneCell']) (by unfold maxLen; omega) hb hbase
    exact ⟨v', w', hr, by unfold RowW; rw [List.length_append, List.map_append]; exact h2, h3, h5⟩
theorem wpList_append_strs {w : World} {ops : Array Oper} {rest : List Oper} {o : Oper} {a : Act} {Q : Exit → Act → World → Prop} (hgd : o.guard = none) (s x : Operand) (t : TypeId)
    (ho : o.op = .call { callee := .builtin .append, args := #[s, x], argTypes := #[t, t] })
    (base : Nat) (i : TypeInfo) (ht : Try.prog.underlying t = some (.slice 9)) (hi : Try.prog.info? 9 = some i) (hz : i.zero = some (.string ByteArray.empty)) (hsize : i.size = 1) (hby : i.bytes = 16)
    (v : Value) (l0 : List ByteArray) (hs : a.eval s = v) (hown : RowW base l0 v w) (sv : Value) (hxv : a.eval x = sv) (l : List ByteArray) (hl : StrsAt w sv l) (hb : (l0.length + l.length) * 16 ≤ 140737488355328) (hbase : base ≤ w.heap.size)
    (h : ∀ v' w', RowW base (l0 ++ l) v' w' → w.grownBy w' v.ownBlock → (v'.ownBlock = v.ownBlock ∨ v'.ownBlock = some w.heap.size) → wpList Try.prog ops Q rest (a.put o.dst v') w') :
    wpList Try.prog ops Q (o :: rest) a w := by
  refine wpList_plain hgd fun K hK => ?_
  obtain ⟨v', w', hr, h2, h3, h5⟩ := run_append_strs base t o.type i ht hi hz hsize hby v l0 hown sv l hl hb hbase
  unfold Oper.wp execOp
  simp only [ho, resolve, invoke, builtin, Sem.run_bind, Sem.run_pure, Result.andThen_ok, List.map_toArray, List.map_cons, List.map_nil, hs, hxv, hr]
  exact hK _ _ (h v' w' h2 h3 h5)
end Go.Proofs.Ytgcibmdohifiaaa

namespace Go.Proofs.Ytgcibmdohifiaaa
set_option linter.unusedSimpArgs false
set_option linter.unusedVariables false
open Go.RowKit
set_option linter.unusedVariables false

def stepB (ps : List Part) (k : Nat) (st : List ByteArray × List (List ByteArray)) : List ByteArray × List (List ByteArray) :=
  if roomyM (ps.getD k ⟨[], 0, 0⟩) then (st.1 ++ st.2.headD [], st.2.tail) else (st.1 ++ (ps.getD k ⟨[], 0, 0⟩).words, st.2)
def builtTo (ps : List Part) (fs : List (List ByteArray)) : Nat → List ByteArray × List (List ByteArray)
  | 0 => ([], fs)
  | k + 1 => stepB ps k (builtTo ps fs k)
/-- the letter of a form and fills -/
def builtM (ps : List Part) (fs : List (List ByteArray)) : List ByteArray := (builtTo ps fs ps.length).1
theorem FillsAt.tail {w : World} {b o n c : Nat} {x : List ByteArray} {r : List (List ByteArray)} (h : FillsAt w (.slice (some ⟨b, o, none⟩) n c) (x :: r)) : FillsAt w (.slice (some ⟨b, o + 1, none⟩) r.length (c - 1)) r := by
  obtain ⟨a', cap', e, h2, h3, h4⟩ := h
  obtain ⟨rfl, rfl, rfl⟩ := Value.slice.inj e
  have hc : r.length + 1 ≤ c := h2
  refine ⟨_, _, rfl, by omega, by omega, fun i hi => ⟨b, o + 1, rfl, ?_⟩⟩
  obtain ⟨b', o', e', hr⟩ := h4 (i + 1) (by simp; omega)
  simp only [Option.some.injEq, Addr.mk.injEq, and_true] at e'
  obtain ⟨rfl, rfl⟩ := e'
  rw [show o + 1 + i * 1 = o + (i + 1) * 1 by omega]
  exact hr
theorem FillsAt.none_left {w : World} {v : Value} {a : Option Addr} {c : Nat} (hc : c ≤ 9223372036854775807) : FillsAt w (.slice a 0 c) [] := ⟨a, c, rfl, Nat.zero_le _, hc, fun i h => by simp at h⟩
theorem rooms_count (ps : List Part) (k : Nat) (h : k < ps.length) : (roomsM (ps.take (k + 1))).length = (roomsM (ps.take k)).length + if roomyM ps[k] = true then 1 else 0 := by
  cases hr : roomyM ps[k]
  · rw [rooms_no ps k h hr]; simp
  · rw [rooms_yes ps k h hr]; simp

set_option maxRecDepth 100000 in
set_option maxHeartbeats 2000000 in
theorem filled_any (fv v : Value) (f : Form) (fs : List (List ByteArray)) (h5 : f.parts.length ≤ 5) (h3 : ∀ p ∈ f.parts, p.words.length ≤ 3) (hf3 : ∀ l ∈ fs, l.length ≤ 3) (hn : (roomsM f.parts).length = fs.length) (w : World) (hf : FormV w fv f) (hfs : FillsAt w v fs) :
    Calls Try.prog 57 #[fv, v] w fun e w' => ∃ u, e = .returned u ∧ StrsAt w' u (builtM f.parts fs) ∧ Ext w w' := by
  obtain ⟨pv, rfl, hns, hp⟩ := hf
  obtain ⟨a, cap, rfl, hlc, hcm⟩ := hp.shape
  obtain ⟨i0, hi, hz0, hz1, hz2⟩ := info_parts infoString
  go_enter Try.func57, Try.ntmps57
  go_wp2_with fail
  go_loopw [1, 5, 12] (fun r u i wr => ∃ k : Nat, k ≤ f.parts.length ∧ i = .int .i64 k ∧ Ext w wr ∧ RowW w.heap.size (builtTo f.parts fs k).1 u wr ∧ FillsAt w r (builtTo f.parts fs k).2 ∧ (builtTo f.parts fs k).2.length + (roomsM (f.parts.take k)).length = fs.length ∧ (builtTo f.parts fs k).1.length ≤ 3 * k ∧ (∀ l ∈ (builtTo f.parts fs k).2, l.length ≤ 3) ∧ ∀ s ∈ (builtTo f.parts fs k).1, s.size ≤ 9223372036854775807) (fun _ _ i _ => f.parts.length - (intOf i).toNat)
  case atStart => exact ⟨0, Nat.zero_le _, rfl, ext_alloc _ _, RowW.nil, hfs, by simp [builtTo, roomsM], by simp [builtTo], hf3, by simp [builtTo]⟩
  case round =>
    obtain ⟨k, hk, rfl, hxr, hown, hr, hcnt, hlen, hr3, hsz⟩ := hrel
    by_cases hlt : k < f.parts.length
    · have k1 : (k : Int) < (f.parts.length : Int) := by omega
      obtain ⟨b, o, rfl, ⟨u, h1, hs⟩, h2, h3', hlo, hhi⟩ := hp.get hlt
      replace h1 := hxr.cell h1
      replace h2 := hxr.cell h2
      replace h3' := hxr.cell h3'
      have hy3 := h3 f.parts[k] (List.getElem_mem hlt)
      have hst : builtTo f.parts fs (k + 1) = stepB f.parts k (builtTo f.parts fs k) := rfl
      have hgd : f.parts.getD k ⟨[], 0, 0⟩ = f.parts[k] := by rw [List.getD_eq_getElem?_getD, List.getElem?_eq_getElem hlt]; rfl
      have hrc := rooms_count f.parts k hlt
      unfold stepB at hst
      rw [hgd] at hst
      have hmono : (roomsM (f.parts.take (k + 1))).length ≤ fs.length := by
        rw [← hn]
        unfold roomsM
        exact List.Sublist.length_le (List.Sublist.filter _ (List.take_sublist _ _))
      generalize f.parts[k] = y at *
      obtain ⟨ua, uc, rfl, -⟩ := hs.shape
      have hszr := hxr.size
      generalize hbt : builtTo f.parts fs k = bt at *
      obtain ⟨ws, rs⟩ := bt
      simp only at hown hr hcnt hlen hr3 hsz hst
      have Hbt := Lib.hid hbt
      have Hst := Lib.hid hst
      have Hrc := Lib.hid hrc
      have Hs := Lib.hid hs
      have Hr := Lib.hid hr
      have Hcnt := Lib.hid hcnt
      have Hr3 := Lib.hid hr3
      have Hsz := Lib.hid hsz
      have Hmono := Lib.hid hmono
      clear hbt hst hgd hrc hs hcnt hr3 hsz hmono
      cases hro : roomyM y
      · have e0 : ((y.words.length : Int) == 0) = false := by
          unfold roomyM at hro
          simp at hro ⊢
          exact hro
        have Hs2 : Hid (builtTo f.parts fs (k + 1) = (ws ++ y.words, rs)) := Lib.hid (by rw [Hst.out, hro]; rfl)
        have Hc2 : Hid ((roomsM (f.parts.take (k + 1))).length = (roomsM (f.parts.take k)).length) := Lib.hid (by rw [Hrc.out, hro]; simp)
        have Hyz := Lib.hid Hs.out.sizes
        clear hro hr
        go_wp2_with fail
        refine (isRoom_any ua _ uc y.lo y.hi _).mono ?_
        rintro e w1 ⟨rfl, hx1⟩
        rw [e0]
        have hx2 : Ext w w1 := (hxr.alloc _).trans hx1
        have d0 : w1.cell? ⟨wr.heap.size, 0, none⟩ = some (.slice ua y.words.length uc) := hx1.cell (by simp [go_sem])
        have own1 := RowW.ext hown (Ext.trans (ext_alloc _ _) hx1)
        have hs1 := Hs.out.ext hx2
        have hz := hx2.size
        clear e0 h1 h2 h3' hown
        go_wp2_with ((at_builtin; go_loud (refine wpList_append_strs rfl _ _ 26 rfl w.heap.size i0 Try.underlying26 hi hz0 hz1 hz2 u5 _ rfl own1 (.slice ua y.words.length uc) rfl y.words hs1 (by omega) (by omega) ?_; intro v' w2 hown' hgrow _)))
        have hx3 : Ext w w2 := Ext.grown hx2 hgrow fun k hk => (World.ownsRow.lt own1 k hk).1
        go_roundw
        case rel => exact ⟨k + 1, by omega, by go_num, hx3, by rw [Hs2.out]; exact hown', by rw [Hs2.out]; exact Hr.out, by rw [Hs2.out, Hc2.out]; exact Hcnt.out, by rw [Hs2.out]; simp only [List.length_append]; omega, by rw [Hs2.out]; exact Hr3.out, by
          rw [Hs2.out]
          intro s hs
          rcases List.mem_append.1 hs with h | h
          · exact Hsz.out s h
          · exact Hyz.out s h⟩
        case measure => simp [intOf]; omega
      · have e0 : ((y.words.length : Int) == 0) = true := by
          unfold roomyM at hro
          simp at hro ⊢
          exact hro
        obtain ⟨x, r2, rfl⟩ : ∃ x r2, rs = x :: r2 := by
          cases rs with
          | nil =>
            exfalso
            have h7 := Hcnt.out
            have h8 := Hmono.out
            rw [Hrc.out, hro] at h8
            simp at h7 h8
            omega
          | cons x r2 => exact ⟨x, r2, rfl⟩
        have Hs2 : Hid (builtTo f.parts fs (k + 1) = (ws ++ x, r2)) := Lib.hid (by rw [Hst.out, hro]; rfl)
        have Hc2 : Hid ((roomsM (f.parts.take (k + 1))).length = (roomsM (f.parts.take k)).length + 1) := Lib.hid (by rw [Hrc.out, hro]; simp)
        have hx3l := Hr3.out x (by simp)
        clear hro
        have hr' := hr
        obtain ⟨ra, rc, rfl, hrl, hrm⟩ := hr'.shape
        obtain ⟨rb, ro, rfl, ⟨xv, g1, hxs⟩⟩ := hr.get (show 0 < (x :: r2).length by simp)
        replace g1 := hxr.cell g1
        simp only [Nat.zero_mul, Nat.add_zero] at g1
        have hrl1 : (x :: r2).length = r2.length + 1 := by simp
        have htail := hr.tail
        rw [hrl1] at hrl ⊢
        have Hxz := Lib.hid hxs.sizes
        have Hxs := Lib.hid hxs
        have Htail := Lib.hid htail
        clear hr hxs htail hrl1
        obtain ⟨xa, xc, rfl, -⟩ := Hxs.out.shape
        go_wp2_with fail
        refine (isRoom_any ua _ uc y.lo y.hi _).mono ?_
        rintro e w1 ⟨rfl, hx1⟩
        rw [e0]
        have hx2 : Ext w w1 := (hxr.alloc _).trans hx1
        have own1 := RowW.ext hown (Ext.trans (ext_alloc _ _) hx1)
        have hs1 := Hxs.out.ext hx2
        have hz := hx2.size
        replace g1 := ((ext_alloc _ _).trans hx1).cell g1
        have kr : (0 : Int) < ((r2.length + 1 : Nat) : Int) := by omega
        clear e0 h1 h2 h3' hown
        by_cases hc1 : rc = 1
        · subst hc1
          obtain rfl : r2 = [] := List.eq_nil_of_length_eq_zero (by omega)
          go_wp2_with ((at_builtin; go_loud (refine wpList_append_strs rfl _ _ 26 rfl w.heap.size i0 Try.underlying26 hi hz0 hz1 hz2 u5 _ rfl own1 (.slice xa x.length xc) rfl x hs1 (by omega) (by omega) ?_; intro v' w2 hown' hgrow _)))
          have hx3 : Ext w w2 := Ext.grown hx2 hgrow fun k hk => (World.ownsRow.lt own1 k hk).1
          go_roundw
          case rel => exact ⟨k + 1, by omega, by go_num, hx3, by rw [Hs2.out]; exact hown', by rw [Hs2.out]; exact FillsAt.none_left (v := .slice none 0 0) (by omega), by rw [Hs2.out, Hc2.out]; have := Hcnt.out; simp at this ⊢; omega, by rw [Hs2.out]; simp only [List.length_append]; omega, by rw [Hs2.out]; exact fun l hl => Hr3.out l (List.mem_cons_of_mem _ hl), by
            rw [Hs2.out]
            intro s hs
            rcases List.mem_append.1 hs with h | h
            · exact Hsz.out s h
            · exact Hxz.out s h⟩
          case measure => simp [intOf]; omega
        · go_wp2_with ((at_builtin; go_loud (refine wpList_append_strs rfl _ _ 26 rfl w.heap.size i0 Try.underlying26 hi hz0 hz1 hz2 u5 _ rfl own1 (.slice xa x.length xc) rfl x hs1 (by omega) (by omega) ?_; intro v' w2 hown' hgrow _)))
          have hx3 : Ext w w2 := Ext.grown hx2 hgrow fun k hk => (World.ownsRow.lt own1 k hk).1
          go_roundw
          case rel => exact ⟨k + 1, by omega, by go_num, hx3, by rw [Hs2.out]; exact hown', by rw [Hs2.out]; exact Htail.out, by rw [Hs2.out, Hc2.out]; have := Hcnt.out; simp at this ⊢; omega, by rw [Hs2.out]; simp only [List.length_append]; omega, by rw [Hs2.out]; exact fun l hl => Hr3.out l (List.mem_cons_of_mem _ hl), by
            rw [Hs2.out]
            intro s hs
            rcases List.mem_append.1 hs with h | h
            · exact Hsz.out s h
            · exact Hxz.out s h⟩
          case measure => simp [intOf]; omega
    · have hke : k = f.parts.length := by omega
      subst hke
      go_wp2
      go_ret
      exact ⟨_, rfl, RowW.at_ hown hsz, hxr⟩
end Go.Proofs.Ytgcibmdohifiaaa

namespace Go.Proofs.Ytgcibmdohifiaaa
set_option linter.unusedSimpArgs false
set_option linter.unusedVariables false
open Go.RowKit
set_option linter.unusedVariables false

/-- the error of one fill, by how many come before it -/
def fillErrM (rooms : List Part) (before : List (List ByteArray)) (x : List ByteArray) : Int :=
  if inM x.length (rooms.getD before.length ⟨[], 0, 0⟩).lo (rooms.getD before.length ⟨[], 0, 0⟩).hi = false then 7 else if wordsM x = false then 6 else 0
set_option maxHeartbeats 1000000 in
set_option maxRecDepth 100000 in
theorem fillError1_any (rv v u : Value) (rooms : List Part) (l : List (List ByteArray)) (x : List ByteArray) (p : Addr) (w : World) (hr : PartsAt w rv rooms) (hc : w.cell? p = some rv) (hl : FillsAt w v l) (hk : l.length < rooms.length) (hu : StrsAt w u x) :
    Calls Try.prog 83 #[v, u, .pointer (some p)] w fun e w' => e = .returned (.int .i64 (fillErrM rooms l x)) ∧ Ext w w' := by
  obtain ⟨ra, rc, rfl, hrc, hrm⟩ := hr.shape
  obtain ⟨a, cap, rfl, hlc, hcm⟩ := hl.shape
  obtain ⟨ua, uc, rfl, huc, hum⟩ := hu.shape
  obtain ⟨b, off, rfl, -, h1, h2, i1, i2⟩ := hr.get hk
  have hd : rooms.getD l.length ⟨[], 0, 0⟩ = rooms[l.length] := by simp [hk]
  have he : fillErrM rooms l x = if inM x.length rooms[l.length].lo rooms[l.length].hi = false then 7 else if wordsM x = false then 6 else 0 := by rw [fillErrM, hd]
  have He := Lib.hid he
  clear he hd
  generalize hy : rooms[l.length] = y at *
  clear hy
  have hxl : I64 (x.length : Int) := ⟨by omega, by omega⟩
  have k1 : (l.length : Int) < (rooms.length : Int) := by omega
  have zp := cell_lt hc
  have zb := cell_lt h1
  go_enter Try.func83, Try.ntmps83
  go_wp2_with fail
  refine (within_any _ _ _ [(x.length : Int)] _ (IntsAt.oneAt (by simp) hxl)).mono ?_
  rintro e w' ⟨rfl, rfl⟩
  rw [withinM_one]
  cases h3 : inM x.length y.lo y.hi
  · have ho : fillErrM rooms l x = 7 := by rw [He.out, if_pos h3]
    clear h3
    go_wp2
    go_ret
    exact ⟨ret_int ho.symm, (by first | (with_reducible exact Ext.refl _) | (with_reducible assumption) | (show Below _ _ _; go_grown; done))⟩
  · have ho : fillErrM rooms l x = if wordsM x = false then 6 else 0 := by rw [He.out, if_neg (by rw [h3]; decide)]
    have Ho := Lib.hid ho
    clear h3 ho
    go_wp2_with fail
    refine (areWords_any _ x _ (hu.ext (by first | (with_reducible exact Ext.refl _) | (with_reducible assumption) | (show Below _ _ _; go_grown; done)))).mono ?_
    rintro e w1 ⟨rfl, hx1⟩
    have hx2 : Ext w w1 := Ext.trans (by first | (with_reducible exact Ext.refl _) | (with_reducible assumption) | (show Below _ _ _; go_grown; done)) hx1
    clear hx1
    cases h4 : wordsM x
    · have ho : fillErrM rooms l x = 6 := by rw [Ho.out, if_pos h4]
      clear h4
      go_wp2
      go_ret
      exact ⟨ret_int ho.symm, hx2⟩
    · have ho : fillErrM rooms l x = 0 := by rw [Ho.out, if_neg (by rw [h4]; decide)]
      clear h4
      go_wp2
      go_ret
      exact ⟨ret_int ho.symm, hx2⟩

set_option maxHeartbeats 1000000 in
set_option maxRecDepth 100000 in
theorem firstFill_any (rv v : Value) (rooms : List Part) (l : List (List ByteArray)) (p : Addr) (w : World) (hr : PartsAt w rv rooms) (hp : w.cell? p = some rv) (hl : FillsAt w v l) (hle : l.length ≤ rooms.length) :
    Calls Try.prog 82 #[v, .func (.func 83) #[] #[.pointer (some p)]] w
      fun e w' => e = .returned (.tuple #[.int .i64 (firstErr (fillErrM rooms) l).1, .int .i64 (firstErr (fillErrM rooms) l).2]) ∧ Ext w w' := by
  obtain ⟨a, cap, rfl, hlc, hcm⟩ := hl.shape
  go_enter Try.func82, Try.ntmps82
  go_wp2
  go_loopw [11] (fun i wr => ∃ k : Nat, k ≤ l.length ∧ i = .int .i64 k ∧ firstErrFrom (fillErrM rooms) (l.take k) (l.drop k) = firstErr (fillErrM rooms) l ∧ Ext w wr) (fun i _ => l.length - (intOf i).toNat)
  case atStart => exact ⟨0, Nat.zero_le _, rfl, rfl, Ext.refl _⟩
  case round =>
    obtain ⟨k, hk, rfl, hd, hx⟩ := hrel
    have Hd := Lib.hid hd; clear hd
    by_cases hlt : k < l.length
    · have hls := hl.ext hx
      have hkc : k ≤ cap := by omega
      obtain ⟨bb, off, rfl, u, h2, hy2⟩ := hls.get hlt
      rw [Nat.mul_one] at h2
      generalize hy : l[k] = y at *
      have Hy := Lib.hid hy; clear hy
      obtain ⟨ua, uc, rfl, -⟩ := hy2.shape
      have htl : (l.take k).length < rooms.length := by rw [List.length_take]; omega
      have Htl := Lib.hid htl; clear htl
      go_wp2_with fail
      refine (fillError1_any rv _ _ rooms (l.take k) y p _ (hr.ext hx) (hx.cell hp) (hls.take k (by omega)) Htl.out hy2).mono ?_
      rintro e w1 ⟨rfl, hx1⟩
      have hx3 := hx.trans hx1
      by_cases h0 : fillErrM rooms (l.take k) y = 0
      · have H0 := Lib.hid h0
        rw [h0]; clear h0
        go_wp2
        go_roundw
        case rel => exact ⟨k + 1, by omega, by go_num, (firstErrFrom_step (fillErrM rooms) l k hlt y Hy.out H0.out).trans Hd.out, hx3⟩
        case measure => simp [intOf]; omega
      · have H0 := Lib.hid h0
        have h1 : (fillErrM rooms (l.take k) y != 0) = true := by simpa using h0
        clear h0
        go_wp2
        go_ret2
        have := Hd.out
        rw [firstErrFrom_hit (fillErrM rooms) l k hlt y Hy.out H0.out] at this
        exact ⟨ret_two (by rw [← this]), hx3⟩
    · go_wp2
      go_ret2
      have := Hd.out
      rw [firstErrFrom_end _ _ _ (by omega)] at this
      exact ⟨ret_two (by rw [← this]), hx⟩

/-- the error of what is put into a form's rooms -/
def fillsErrM (ps : List Part) (fs : List (List ByteArray)) : Int := if fs.length ≠ (roomsM ps).length then 3 else (firstErr (fillErrM (roomsM ps)) fs).2
set_option maxHeartbeats 1000000 in
set_option maxRecDepth 100000 in
theorem fillsError_any (fv v : Value) (f : Form) (fs : List (List ByteArray)) (h5 : f.parts.length ≤ 5) (w : World) (hf : FormV w fv f) (hfs : FillsAt w v fs) :
    Calls Try.prog 56 #[fv, v] w fun e w' => e = .returned (.int .i64 (fillsErrM f.parts fs)) ∧ Ext w w' := by
  have hfv := hf
  obtain ⟨pv, rfl, hns, hp⟩ := hf
  obtain ⟨a, cap, rfl, hlc, hcm⟩ := hfs.shape
  go_enter Try.func56, Try.ntmps56
  go_wp2_with fail
  refine (rooms_any _ f h5 _ (hfv.ext (by first | (with_reducible exact Ext.refl _) | (with_reducible assumption) | (show Below _ _ _; go_grown; done)))).mono ?_
  rintro e w1 ⟨rv, rfl, hrv, hx1⟩
  have x1 : Ext w w1 := Ext.trans (by first | (with_reducible exact Ext.refl _) | (with_reducible assumption) | (show Below _ _ _; go_grown; done)) hx1
  clear hx1 hfv hp
  obtain ⟨ra, rc, rfl, hrc, hrm⟩ := hrv.shape
  have hR := hrv
  by_cases he : fs.length = (roomsM f.parts).length
  · have ho : fillsErrM f.parts fs = (firstErr (fillErrM (roomsM f.parts)) fs).2 := by rw [fillsErrM, if_neg (fun h => h he)]
    have hne : ((fs.length : Int) != ((roomsM f.parts).length : Int)) = false := by simp [he]
    have Ho := Lib.hid ho
    have He := Lib.hid he
    clear ho he
    go_wp2_with fail
    refine (firstFill_any _ _ (roomsM f.parts) fs ⟨w1.heap.size, 0, none⟩ _ (hrv.ext (by first | (with_reducible exact Ext.refl _) | (with_reducible assumption) | (show Below _ _ _; go_grown; done))) (by simp [go_sem]) (hfs.ext (Ext.trans x1 (by first | (with_reducible exact Ext.refl _) | (with_reducible assumption) | (show Below _ _ _; go_grown; done)))) (by rw [He.out]; exact Nat.le_refl _)).mono ?_
    rintro e w2 ⟨rfl, hx2⟩
    have x2 : Ext w w2 := Ext.trans x1 (Ext.trans (by first | (with_reducible exact Ext.refl _) | (with_reducible assumption) | (show Below _ _ _; go_grown; done)) hx2)
    clear hx2
    go_wp2
    go_ret
    exact ⟨ret_int Ho.out.symm, x2⟩
  · have ho : fillsErrM f.parts fs = 3 := by rw [fillsErrM, if_pos he]
    have hne : ((fs.length : Int) != ((roomsM f.parts).length : Int)) = true := by
      simp only [bne_iff_ne, ne_eq]
      omega
    clear he
    go_wp2_with fail
    go_ret
    exact ⟨ret_int ho.symm, Ext.trans x1 (by first | (with_reducible exact Ext.refl _) | (with_reducible assumption) | (show Below _ _ _; go_grown; done))⟩
end Go.Proofs.Ytgcibmdohifiaaa
