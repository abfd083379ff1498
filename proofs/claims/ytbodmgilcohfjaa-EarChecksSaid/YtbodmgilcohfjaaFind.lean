/-
  WHAT slices.IndexFunc, slices.ContainsFunc AND letterAt RETURN where ear calls them: the first place of a letter, and whether a name is among those of alphabets. For any lists.
-/
import Derived.Test.YtbodmgilcohfjaaSmall
namespace Go.Proofs.Ytbodmgilcohfjaa
open Go.RowKit

def idxM {α : Type} (p : α → Bool) (l : List α) : Int := match l.findIdx? p with | some i => (i : Int) | none => -1
theorem idxM_none {α : Type} (p : α → Bool) (l : List α) (h : ∀ i (hi : i < l.length), p l[i] = false) : idxM p l = -1 := by
  have : l.findIdx? p = none := by
    rw [List.findIdx?_eq_none_iff]
    intro x hx
    obtain ⟨i, hi, rfl⟩ := List.getElem_of_mem hx
    exact h i hi
  simp [idxM, this]
theorem idxM_some {α : Type} (p : α → Bool) (l : List α) (k : Nat) (hk : k < l.length) (h : ∀ i (_ : i < k) (hi : i < l.length), p l[i] = false) (hp : p l[k] = true) : idxM p l = k := by
  have : l.findIdx? p = some k := by
    rw [List.findIdx?_eq_some_iff_getElem]
    exact ⟨hk, hp, fun j hj => by simpa using h j hj (by omega)⟩
  simp [idxM, this]

theorem letterAt1_any (x : Letter) (c : Int) (p : Addr) (v : Value) (w : World) (hv : LetterV v x) (hc : w.cell? p = some (.int .u8 c)) :
    Calls Try.prog 100 #[v, .pointer (some p)] w fun e w' => e = .returned (.bool (x.c == c)) ∧ Ext w w' := by
  obtain ⟨rfl, -, -⟩ := hv
  have hlt := cell_lt hc
  go_enter Try.func100, Try.ntmps100
  go_wp2
  go_ret
  exact ⟨rfl, (by first | (with_reducible exact Ext.refl _) | (with_reducible assumption) | (show Below _ _ _; go_grown; done))⟩

theorem indexLetter_any (l : List Letter) (c : Int) (p : Addr) (v : Value) (w : World) (h : LettersAt w v l) (hc : w.cell? p = some (.int .u8 c)) :
    Calls Try.prog 99 #[v, .func (.func 100) #[] #[.pointer (some p)]] w
      fun e w' => e = .returned (.int .i64 (idxM (fun x => x.c == c) l)) ∧ Ext w w' := by
  obtain ⟨a, cap, rfl, hlc, hcm⟩ := h.shape
  go_enter Try.func99, Try.ntmps99
  go_wp2
  go_loopw [8] (fun i wr => ∃ k : Nat, k ≤ l.length ∧ i = .int .i64 k ∧ (∀ j (_ : j < k) (hj : j < l.length), (l[j].c == c) = false) ∧ Ext w wr) (fun i _ => l.length - (intOf i).toNat)
  case atStart => exact ⟨0, Nat.zero_le _, rfl, fun _ h => by omega, Ext.refl _⟩
  case round =>
    obtain ⟨k, hk, rfl, hno, hx⟩ := hrel
    have Hno := Lib.hid hno; clear hno
    by_cases hlt : k < l.length
    · obtain ⟨_, _, he, -, -, hh⟩ := h.ext hx
      obtain ⟨b, off, rfl, h1, h2, h3, hu, hi⟩ := hh k hlt
      cases he
      generalize hy : l[k] = y at *
      have Hy := Lib.hid hy; clear hy hh
      go_wp2_with fail
      refine (letterAt1_any y c p _ _ ⟨rfl, hu, hi⟩ (hx.cell hc)).mono ?_
      rintro e w1 ⟨rfl, hx1⟩
      have hx2 := hx.trans hx1
      cases hb : (y.c == c)
      · have Hb := Lib.hid hb; clear hb
        go_wp2
        go_roundw
        case rel => exact ⟨k + 1, by omega, by go_num, fun j hj hl => by
          rcases Nat.lt_or_ge j k with hjk | hjk
          · exact Hno.out j hjk hl
          · obtain rfl : j = k := by omega
            rw [Hy.out]; exact Hb.out, hx2⟩
        case measure => simp [intOf]; omega
      · have Hb := Lib.hid hb; clear hb
        go_wp2
        go_ret
        exact ⟨ret_int (idxM_some _ _ k hlt (fun i hi hl => Hno.out i hi hl) (by rw [Hy.out]; exact Hb.out)).symm, hx2⟩
    · go_wp2
      go_ret
      exact ⟨ret_int (idxM_none _ _ fun i hi => Hno.out i (by omega) hi).symm, hx⟩

theorem letterAt_any (l : List Letter) (c : Int) (v : Value) (w : World) (h : LettersAt w v l) :
    Calls Try.prog 85 #[v, .int .u8 c] w fun e w' => e = .returned (.int .i64 (idxM (fun x => x.c == c) l)) ∧ Ext w w' := by
  go_enter Try.func85, Try.ntmps85
  go_wp2_with fail
  refine (indexLetter_any l c _ v _ (h.ext (ext_alloc _ _)) (by simp [go_sem])).mono ?_
  rintro e w1 ⟨rfl, hx1⟩
  go_wp2
  go_ret
  exact ⟨rfl, hx1.of_alloc⟩

theorem alphabetError1_any (a b : Alphabet) (p : Addr) (v : Value) (w : World) (hv : AlphabetV w v a) (hc : w.cell? p = some (.string b.name)) :
    Calls Try.prog 82 #[v, .pointer (some p)] w fun e w' => e = .returned (.bool (a.name.toList == b.name.toList)) ∧ Ext w w' := by
  obtain ⟨u, rfl, -, -⟩ := hv
  have hlt := cell_lt hc
  go_enter Try.func82, Try.ntmps82
  go_wp2
  go_ret
  exact ⟨rfl, (by first | (with_reducible exact Ext.refl _) | (with_reducible assumption) | (show Below _ _ _; go_grown; done))⟩

theorem indexAlphabet_any (l : List Alphabet) (x : Alphabet) (p : Addr) (v : Value) (w : World) (h : AlphabetsAt w v l) (hc : w.cell? p = some (.string x.name)) :
    Calls Try.prog 94 #[v, .func (.func 82) #[] #[.pointer (some p)]] w
      fun e w' => e = .returned (.int .i64 (idxM (fun y => y.name.toList == x.name.toList) l)) ∧ Ext w w' := by
  obtain ⟨a, cap, rfl, hlc, hcm⟩ := h.shape
  go_enter Try.func94, Try.ntmps94
  go_wp2
  go_loopw [8] (fun i wr => ∃ k : Nat, k ≤ l.length ∧ i = .int .i64 k ∧ (∀ j (_ : j < k) (hj : j < l.length), (l[j].name.toList == x.name.toList) = false) ∧ Ext w wr) (fun i _ => l.length - (intOf i).toNat)
  case atStart => exact ⟨0, Nat.zero_le _, rfl, fun _ h => by omega, Ext.refl _⟩
  case round =>
    obtain ⟨k, hk, rfl, hno, hx⟩ := hrel
    have Hno := Lib.hid hno; clear hno
    by_cases hlt : k < l.length
    · obtain ⟨_, _, he, -, -, hh⟩ := h.ext hx
      obtain ⟨b, off, rfl, h1, hu, u, h2, hl⟩ := hh k hlt
      cases he
      generalize hy : l[k] = y at *
      have Hy := Lib.hid hy; clear hy hh
      go_wp2_with fail
      refine (alphabetError1_any y x p _ _ ⟨u, rfl, hu, hl⟩ (hx.cell hc)).mono ?_
      rintro e w1 ⟨rfl, hx1⟩
      have hx2 := hx.trans hx1
      cases hb : (y.name.toList == x.name.toList)
      · have Hb := Lib.hid hb; clear hb
        go_wp2
        go_roundw
        case rel => exact ⟨k + 1, by omega, by go_num, fun j hj hl => by
          rcases Nat.lt_or_ge j k with hjk | hjk
          · exact Hno.out j hjk hl
          · obtain rfl : j = k := by omega
            rw [Hy.out]; exact Hb.out, hx2⟩
        case measure => simp [intOf]; omega
      · have Hb := Lib.hid hb; clear hb
        go_wp2
        go_ret
        exact ⟨ret_int (idxM_some _ _ k hlt (fun i hi hl => Hno.out i hi hl) (by rw [Hy.out]; exact Hb.out)).symm, hx2⟩
    · go_wp2
      go_ret
      exact ⟨ret_int (idxM_none _ _ fun i hi => Hno.out i (by omega) hi).symm, hx⟩

theorem idxM_ge {α : Type} (p : α → Bool) (l : List α) : decide (0 ≤ idxM p l) = l.any p := by
  unfold idxM
  cases h : l.findIdx? p with
  | none => rw [List.findIdx?_eq_none_iff] at h; symm; simp only [show ¬ (0 : Int) ≤ -1 from by omega, decide_false]; rw [List.any_eq_false]; exact fun x hx => by simp [h x hx]
  | some k => rw [List.findIdx?_eq_some_iff_getElem] at h; symm; simp only [Int.natCast_nonneg, decide_true]; rw [List.any_eq_true]; exact ⟨_, List.getElem_mem h.1, h.2.1⟩

theorem containsAlphabet_any (l : List Alphabet) (x : Alphabet) (p : Addr) (v : Value) (w : World) (h : AlphabetsAt w v l) (hc : w.cell? p = some (.string x.name)) :
    Calls Try.prog 81 #[v, .func (.func 82) #[] #[.pointer (some p)]] w
      fun e w' => e = .returned (.bool (l.any fun y => y.name.toList == x.name.toList)) ∧ Ext w w' := by
  go_enter Try.func81, Try.ntmps81
  go_wp2_with fail
  refine (indexAlphabet_any l x p v _ h hc).mono ?_
  rintro e w1 ⟨rfl, hx1⟩
  go_wp2
  go_ret
  exact ⟨ret_bool (idxM_ge _ _), hx1⟩
end Go.Proofs.Ytbodmgilcohfjaa
