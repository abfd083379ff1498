/-
  THE LINES OF A LETTER's TEXT, plain: none is empty or wider than it may be, and the first word of a line has no room on the line before it.
  LetterRound: Read of what Write returns is the letter; what Read reads is written the same; no line is wider than Width, and the first word of a line would not have gone on the line before it.
  ANY MARKS, BY TURNS, plain: what has come of a letter, mark by mark.
  AN append AT THE END OF A REGION THAT DRAWS ITS ORDER, onto a row of the call's own: the step, and the two relations. Over any program.
  AN append ONTO A ROW OF THE CALL's OWN, and what it leaves of that row: its first cells. For a region that draws its order and makes and grows several rows. Over any program.
  A REGION WALKED OVER A FRAME THAT IS A VARIABLE: what its slots hold is said by facts alone. Over any program.
  A STATEMENT THAT IS A REGION, TAKEN OUT OF A FUNCTION'S TEXT, so that it can be walked in a declaration of its own. Over any program.
  ONE MORE ELEMENT AT THE END OF A COPY (append(append([]T{}, l...), x)): what the steps of such a region leave. Over any element.
  ANY MARKS FOR A LETTER, by turns, and the letter that it becomes: Aloud of the statements.
  ANY FILLS OF A FORM, by turns: Any of the statements: they are right for its rooms.
-/
import Derived.Test.YtgcibmdohifiaaaGreatBunAL
import Derived.Test.YtgcibmdohifiaaaGreatBunAJ
import Derived.Test.YtgcibmdohifiaaaGreatBunAH
import Derived.Test.YtgcibmdohifiaaaGreatBunAD
import Derived.Maps.AppendAt
import Derived.Laws.OwnMore
import Derived.Test.YtgcibmdohifiaaaGreatBunAI
import Derived.Test.YtgcibmdohifiaaaGreatBunAK
import Derived.Test.YtgcibmdohifiaaaGreatBunAG
import Derived.Test.YtgcibmdohifiaaaGreatBunAM
import Derived.Laws.AppendOwnNone
namespace Go.Proofs.YtgcibmdohifiaaaGreat
set_option linter.unusedSimpArgs false
set_option linter.unusedVariables false
set_option linter.unusedVariables false

/-- how long the first word of a line is -/
def headW (l : List UInt8) : Nat := ((splitB 32 l []).headD []).length
theorem splitB_word (c : UInt8) : ∀ (xs T cur : List UInt8) (pre : List (List UInt8)) (cw : List UInt8), (∀ b ∈ xs, b ≠ c) → splitB c T cur = pre ++ [cw] → splitB c (T ++ xs) cur = pre ++ [cw ++ xs]
  | [], T, cur, pre, cw, _, h => by simpa using h
  | x :: xs, T, cur, pre, cw, hx, h => by
    have h1 := splitB_end c T cur pre cw x h
    rw [if_neg (hx x List.mem_cons_self)] at h1
    have h2 := splitB_word c xs (T ++ [x]) cur pre (cw ++ [x]) (fun b hb => hx b (List.mem_cons_of_mem _ hb)) h1
    simpa using h2
theorem splitB_head (c : UInt8) : ∀ (A r cur : List UInt8), (splitB c (A ++ c :: r) cur).headD [] = (splitB c A cur).headD []
  | [], r, cur => by simp [splitB]
  | x :: A, r, cur => by
    rw [List.cons_append, splitB, splitB]
    split
    · rfl
    · exact splitB_head c A r _
theorem headW_more (A r : List UInt8) : headW (A ++ 32 :: r) = headW A := by unfold headW; rw [splitB_head]
theorem headW_word {x : List UInt8} (h : ∀ b ∈ x, b ≠ 32) : headW x = x.length := by
  have := splitB_word 32 x [] [] [] [] h (by rfl)
  unfold headW
  rw [List.nil_append] at this
  rw [this]; rfl
/-- no line has room for the first word of the next one -/
def Tight (width : Int) (L : List (List UInt8)) : Prop := ∀ p a b q, L = p ++ a :: b :: q → width < (a.length : Int) + 1 + headW b
structure Lined (width : Int) (L : List (List UInt8)) : Prop where
  ne : ∀ x ∈ L, x ≠ []
  wd : ∀ x ∈ L, (x.length : Int) ≤ width
  tight : Tight width L
theorem Tight.snoc {width : Int} {pre : List (List UInt8)} {cw x : List UInt8} (h : Tight width (pre ++ [cw])) (hx : width < (cw.length : Int) + 1 + headW x) : Tight width (pre ++ [cw] ++ [x]) := by
  intro p a b q e
  rcases List.eq_nil_or_concat q with rfl | ⟨q, z, rfl⟩
  · have e' : pre ++ [cw] ++ [x] = (p ++ [a]) ++ [b] := by rw [e]; simp
    obtain ⟨e1, e2⟩ := List.append_inj' e' rfl
    obtain ⟨-, e3⟩ := List.append_inj' e1 rfl
    cases e2; cases e3; exact hx
  · have e' : pre ++ [cw] ++ [x] = (p ++ a :: b :: q) ++ [z] := by rw [e, List.concat_eq_append]; simp
    exact h p a b q (List.append_inj' e' rfl).1
theorem Tight.last {width : Int} {pre : List (List UInt8)} {cw x : List UInt8} (h : Tight width (pre ++ [cw])) (hx : headW x = headW cw) : Tight width (pre ++ [x]) := by
  intro p a b q e
  rcases List.eq_nil_or_concat q with rfl | ⟨q, z, rfl⟩
  · have e' : pre ++ [x] = (p ++ [a]) ++ [b] := by rw [e]; simp
    obtain ⟨e1, e2⟩ := List.append_inj' e' rfl
    cases e2
    rw [hx]
    exact h p a cw [] (by rw [e1]; simp)
  · have e' : pre ++ [x] = (p ++ a :: b :: q) ++ [z] := by rw [e, List.concat_eq_append]; simp
    obtain ⟨e1, -⟩ := List.append_inj' e' rfl
    exact h p a b (q ++ [cw]) (by rw [e1]; simp)
theorem word_ne {x : ByteArray} (h : wordM x = true) : bytesL x ≠ [] ∧ (∀ b ∈ bytesL x, b ≠ 10) ∧ (∀ b ∈ bytesL x, b ≠ 32) ∧ (bytesL x).length ≤ 8 := by
  have h1 := word_size h
  have h2 := bytesL_len x
  have h3 := word_bytes h
  refine ⟨fun e => by rw [e] at h2; simp at h2; omega, fun b hb e => ?_, fun b hb e => ?_, by omega⟩
  · have := h3 b hb; subst e; simp at this
  · have := h3 b hb; subst e; simp at this
theorem text_lines (width : Int) (hw : 8 ≤ width) (l : List ByteArray) : (∀ s ∈ l, wordM s = true) → l ≠ [] → ∃ pre cw, splitB 10 (textSt width l).1 [] = pre ++ [cw] ∧ cw.length = (textSt width l).2.1 ∧ Lined width (pre ++ [cw]) := by
  refine snoc_ind (p := fun l => (∀ s ∈ l, wordM s = true) → l ≠ [] → ∃ pre cw, splitB 10 (textSt width l).1 [] = pre ++ [cw] ∧ cw.length = (textSt width l).2.1 ∧ Lined width (pre ++ [cw])) (fun _ h => absurd rfl h) (fun l x ih h _ => ?_) l
  obtain ⟨x1, x2, x3, x4⟩ := word_ne (h x (by simp))
  have xs := bytesL_len x
  rw [textSt_snoc]
  unfold lineStep
  by_cases h0 : (textSt width l).2.2 = false
  · rw [if_pos h0]
    refine ⟨[], bytesL x, splitB_word 10 _ [] [] [] [] x2 rfl, xs, ⟨?_, ?_, ?_⟩⟩
    · intro y hy; rw [List.nil_append, List.mem_singleton] at hy; subst hy; exact x1
    · intro y hy; rw [List.nil_append, List.mem_singleton] at hy; subst hy; omega
    · intro p a b q e
      have := congrArg List.length e
      simp at this
      omega
  · rw [if_neg h0]
    have hl : l ≠ [] := fun e => h0 (by rw [textSt_some, e]; rfl)
    obtain ⟨pre, cw, i1, i2, i3⟩ := ih (fun s hs => h s (List.mem_append_left _ hs)) hl
    by_cases h1 : ((textSt width l).2.1 : Int) + 1 + x.size ≤ width
    · rw [if_pos h1]
      refine ⟨pre, cw ++ ([32] ++ bytesL x), ?_, ?_, ⟨?_, ?_, ?_⟩⟩
      · rw [List.append_assoc]
        refine splitB_word 10 _ _ _ _ _ (fun b hb => ?_) i1
        rcases List.mem_append.1 hb with hb | hb
        · rw [List.mem_singleton] at hb; subst hb; decide
        · exact x2 b hb
      · simp only [List.length_append, List.length_singleton]; omega
      · intro y hy
        rcases List.mem_append.1 hy with hy | hy
        · exact i3.ne y (List.mem_append_left _ hy)
        · rw [List.mem_singleton] at hy; subst hy; simp
      · intro y hy
        rcases List.mem_append.1 hy with hy | hy
        · exact i3.wd y (List.mem_append_left _ hy)
        · rw [List.mem_singleton] at hy; subst hy
          simp only [List.length_append, List.length_singleton]; omega
      · exact i3.tight.last (headW_more cw (bytesL x))
    · rw [if_neg h1]
      refine ⟨pre ++ [cw], bytesL x, ?_, xs, ⟨?_, ?_, ?_⟩⟩
      · have he := splitB_end 10 _ _ _ _ 10 i1
        rw [if_pos rfl] at he
        have := splitB_word 10 (bytesL x) _ _ _ _ x2 he
        rw [List.nil_append] at this
        exact this
      · intro y hy
        rcases List.mem_append.1 hy with hy | hy
        · exact i3.ne y hy
        · rw [List.mem_singleton] at hy; subst hy; exact x1
      · intro y hy
        rcases List.mem_append.1 hy with hy | hy
        · exact i3.wd y hy
        · rw [List.mem_singleton] at hy; subst hy; omega
      · exact i3.tight.snoc (by rw [headW_word x3]; omega)
/-- the lines of a letter, and nothing behind the last one -/
theorem lines_of (width : Int) (hw : 8 ≤ width) (l : List ByteArray) (h : ∀ s ∈ l, wordM s = true) : ∃ L, splitM 10 (mkS (textM width l)) = L.map mkS ++ [mkS []] ∧ Lined width L := by
  unfold textM
  by_cases h0 : l.length = 0
  · rw [if_pos h0]
    exact ⟨[], rfl, ⟨by simp, by simp, fun p a b q e => by have := congrArg List.length e; simp at this⟩⟩
  · rw [if_neg h0]
    obtain ⟨pre, cw, i1, -, i3⟩ := text_lines width hw l h (fun e => h0 (by rw [e]; rfl))
    refine ⟨pre ++ [cw], ?_, i3⟩
    rw [splitM_mk, splitB_snoc, i1]
    simp
theorem Lined.at_ {width : Int} {L : List (List UInt8)} (h : Lined width L) (i : Nat) (hi : i < L.length) : L[i].length ≠ 0 ∧ (L[i].length : Int) ≤ width ∧ ∀ (h0 : 0 < i), width < (L[i - 1].length : Int) + 1 + headW L[i] := by
  refine ⟨fun e => h.ne _ (List.getElem_mem hi) (List.eq_nil_of_length_eq_zero e), h.wd _ (List.getElem_mem hi), fun h0 => ?_⟩
  refine h.tight (L.take (i - 1)) _ _ (L.drop (i + 1)) ?_
  have e2 := List.drop_eq_getElem_cons (l := L) (i := i) hi
  have e1 := List.drop_eq_getElem_cons (l := L) (i := i - 1) (by omega)
  rw [show i - 1 + 1 = i from by omega] at e1
  rw [← e2, ← e1, List.take_append_drop]
/-- read of what is written: the letter -/
theorem read_write {s : Shelf} {l : List ByteArray} (hv : errS s = 0) (hl : letterErrL l = 0) : readM s (writeM s l) = (l, 0) ∧ (writeM s l).size ≤ 160 ∧ writeM s l = mkS (textM s.width l) := by
  obtain ⟨h15, hwd⟩ := lettErr_ok hl
  have he : shelfErrM s l = 0 := by unfold shelfErrM; rw [if_neg (by rw [hv]; simp), hl]
  have he0 : shelfErrM s [] = 0 := by unfold shelfErrM; rw [if_neg (by rw [hv]; simp)]; rfl
  have hwr : writeM s l = mkS (textM s.width l) := by unfold writeM; rw [if_pos he]; rfl
  have hsz : (writeM s l).size ≤ 160 := by
    rw [hwr, mkS_size]
    have := (textSt_len s.width l 8 fun x hx => (word_size (hwd x hx)).2).1
    unfold textM
    split
    · simp
    · rw [List.length_append, List.length_singleton]; omega
  refine ⟨?_, hsz, hwr⟩
  have hf : fieldsM (writeM s l) = l := by rw [hwr]; exact fields_text s.width l hwd
  unfold readM
  rw [if_neg (by rw [he0]; simp), if_neg (by omega), hf, if_neg (by rw [hl]; simp), if_pos]
  rw [hwr, bytes_mkS]
/-- what is read is written the same -/
theorem write_read {s : Shelf} {t : ByteArray} (h : (readM s t).2 = 0) : shelfErrM s (readM s t).1 = 0 ∧ writeM s (readM s t).1 = t := by
  unfold readM at *
  split at h
  · rename_i h1; exact absurd h h1
  · rename_i h1
    rw [if_neg h1]
    split at h
    · exact absurd h (by decide)
    · rename_i h2
      rw [if_neg h2]
      split at h
      · exact absurd h (by decide)
      · rename_i h3
        rw [if_neg h3]
        split at h
        · rename_i h4
          rw [if_pos h4]
          have hv : errS s = 0 := by
            have h1' : shelfErrM s [] = 0 := Decidable.not_not.1 h1
            unfold shelfErrM at h1'
            by_cases h : errS s = 0
            · exact h
            · rw [if_pos h] at h1'; exact h1'
          have hl : letterErrL (fieldsM t) = 0 := Decidable.not_not.1 h3
          have he : shelfErrM s (fieldsM t) = 0 := by unfold shelfErrM; rw [if_neg (by rw [hv]; simp), hl]
          refine ⟨he, ?_⟩
          show writeM s (fieldsM t) = t
          unfold writeM
          rw [if_pos he]
          show mkS (textM s.width (fieldsM t)) = t
          rw [h4, mkS_bytes]
        · exact absurd h (by decide)
theorem read_none {s : Shelf} {t : ByteArray} (h : (readM s t).2 ≠ 0) : (readM s t).1 = [] := by
  unfold readM at *
  split at h
  · rename_i h1; rw [if_pos h1]
  · rename_i h1
    rw [if_neg h1]
    split at h
    · rename_i h2; rw [if_pos h2]
    · rename_i h2
      rw [if_neg h2]
      split at h
      · rename_i h3; rw [if_pos h3]
      · rename_i h3
        rw [if_neg h3]
        split at h
        · exact absurd rfl h
        · rename_i h4; rw [if_neg h4]
end Go.Proofs.YtgcibmdohifiaaaGreat

namespace Go.Proofs.YtgcibmdohifiaaaGreat
set_option linter.unusedSimpArgs false
set_option linter.unusedVariables false
open Go.RowKit
set_option linter.unusedVariables false

def ptB : Value → Nat
  | .pointer (some a) => a.block
  | _ => 0
def ptO : Value → Nat
  | .pointer (some a) => a.off
  | _ => 0
def adB : Option Addr → Nat
  | some a => a.block
  | none => 0
def adO : Option Addr → Nat
  | some a => a.off
  | none => 0
/-- the address of a string -/
def PtS (x : ByteArray) (u : Value) (w : World) : Prop := u = .pointer (some ⟨ptB u, ptO u, none⟩) ∧ w.cell? ⟨ptB u, ptO u, none⟩ = some (.string x)
theorem PtS.ext {x : ByteArray} {u : Value} {w w' : World} (h : PtS x u w) (hx : Ext w w') : PtS x u w' := ⟨h.1, hx.cell h.2⟩
theorem firstPt {w : World} {u : Value} {x : ByteArray} {r : List ByteArray} (h : StrsAt w u (x :: r)) : u = .slice (some ⟨adB (slA u), adO (slA u), none⟩) (r.length + 1) (slC u) ∧ w.cell? ⟨adB (slA u), adO (slA u), none⟩ = some (.string x) := by
  obtain ⟨a, c, rfl, -⟩ := h.shape
  obtain ⟨b, o, rfl, h0, -⟩ := SliceAt.get h (i := 0) (by simp)
  exact ⟨rfl, by simp at h0; exact h0⟩
theorem neR {x : Int} (h : x ≠ 0) : (x != 0) = true := by simpa using h
theorem StrsAt.getS {w : World} {a : Option Addr} {n c : Nat} {l : List ByteArray} (h : StrsAt w (.slice a n c) l) {i : Nat} (hi : i < l.length) : ∃ b o, a = some ⟨b, o, none⟩ ∧ w.cell? ⟨b, o + i, none⟩ = some (.string l[i]) := by
  obtain ⟨b, o, rfl, h0, -⟩ := SliceAt.get h hi
  exact ⟨b, o, rfl, by simpa using h0⟩
theorem first_word (y : List UInt8) : ∃ hd tl, splitM 32 (mkS y) = hd :: tl ∧ hd.size = headW y := by
  rw [splitM_mk]
  cases h : splitB 32 y [] with
  | nil => exact absurd h (splitB_end.splitB_ne 32 y [])
  | cons a r => exact ⟨mkS a, r.map mkS, rfl, by rw [mkS_size]; unfold headW; rw [h]; rfl⟩
theorem splitB_parts (c : UInt8) : ∀ (T cur : List UInt8), ∀ x ∈ splitB c T cur, x.length ≤ cur.length + T.length
  | [], cur, x, h => by rw [splitB, List.mem_singleton] at h; subst h; simp
  | y :: T, cur, x, h => by
    rw [splitB] at h
    split at h
    · rcases List.mem_cons.1 h with rfl | h
      · omega
      · have := splitB_parts c T [] x h
        simp only [List.length_nil, List.length_cons] at *; omega
    · have := splitB_parts c T _ x h
      simp only [List.length_append, List.length_cons, List.length_nil] at *; omega
theorem splitM_parts (c : UInt8) (s : ByteArray) : ∀ x ∈ splitM c s, x.size ≤ s.size := by
  intro x hx
  obtain ⟨y, hy, rfl⟩ := List.mem_map.1 hx
  have := splitB_parts c s.data.toList [] y hy
  show y.toArray.size ≤ _
  have e : s.data.toList.length = s.size := rfl
  simp only [List.size_toArray, List.length_nil] at *
  omega
set_option maxRecDepth 100000 in
set_option maxHeartbeats 4000000 in
theorem roundL_any (sv lv : Value) (s : Shelf) (l : List ByteArray) (t : ByteArray) (ht : t.size ≤ 9223372036854775807) (w : World) (hs : ShelfAt w sv s) (hl : StrsAt w lv l) :
    Calls Tryz.prog 9 #[sv, lv, .string t] w fun e w' => e = .returned (.bool true) ∧ Ext w w' := by
  obtain ⟨fa, fc, rfl, -⟩ := hs.open
  obtain ⟨la, lc, rfl, -⟩ := hl.shape
  obtain ⟨W, hW, hb, q0, q1, x1⟩ := box_shelf hs
  replace hl := hl.ext x1
  have z1 := cell_lt q0
  have HW := Lib.hid hW
  clear hs hW
  go_enter Tryz.func9, Tryz.ntmps9
  go_wp2_with fail
  rw [← HW.out]
  clear HW
  refine (write_any _ _ s l _ hb hl).mono ?_
  rintro e w2 ⟨rfl, hx⟩
  (replace hb := hb.ext hx; replace q0 := hx.cell q0; replace q1 := hx.cell q1; replace z1 := cell_lt q0; replace x1 := x1.trans hx; replace hl := hl.ext hx; clear hx)
  by_cases hbad : errS s ≠ 0 ∨ letterErrL l ≠ 0
  · have g1 : shelfErrM s l ≠ 0 := by
      unfold shelfErrM
      by_cases h1 : errS s = 0
      · rw [if_neg (by rw [h1]; simp)]
        exact hbad.resolve_left fun h => h h1
      · rw [if_pos h1]; exact h1
    have g2 : writeM s l = ⟨#[]⟩ := by unfold writeM; rw [if_neg g1]
    rw [g2]
    generalize shelfErrM s l = e1 at *
    have g1' := neR g1
    clear g1 g2
    by_cases h1 : errS s = 0
    · have h3' := neR (hbad.resolve_left fun h => h h1)
      clear hbad
      go_wp2_with fail
      refine (validL_any _ s _ hb).mono ?_
      rw [show (errS s == 0) = true from by rw [h1]; rfl]
      rintro e w3 ⟨rfl, hx⟩
      (replace hb := hb.ext hx; replace q0 := hx.cell q0; replace q1 := hx.cell q1; replace z1 := cell_lt q0; replace x1 := x1.trans hx; replace hl := hl.ext hx; clear hx)
      clear h1
      go_wp2_with fail
      refine (refLett_any _ l _ hl).mono ?_
      rintro e w4 ⟨rfl, hx⟩
      (replace hb := hb.ext hx; replace q0 := hx.cell q0; replace q1 := hx.cell q1; replace z1 := cell_lt q0; replace x1 := x1.trans hx; replace hl := hl.ext hx; clear hx)
      generalize letterErrL l = e2 at *
      go_wp2_with fail
      refine (awakeL_any _).mono ?_
      rintro e w7 ⟨rfl, hx⟩
      go_wp2
      go_ret
      exact ⟨rfl, x1.trans hx⟩
    · clear hbad
      go_wp2_with fail
      refine (validL_any _ s _ hb).mono ?_
      rw [show (errS s == 0) = false from by simpa using h1]
      rintro e w3 ⟨rfl, hx⟩
      (replace hb := hb.ext hx; replace q0 := hx.cell q0; replace q1 := hx.cell q1; replace z1 := cell_lt q0; replace x1 := x1.trans hx; replace hl := hl.ext hx; clear hx)
      clear h1
      go_wp2_with fail
      refine (awakeL_any _).mono ?_
      rintro e w7 ⟨rfl, hx⟩
      go_wp2
      go_ret
      exact ⟨rfl, x1.trans hx⟩
  · have h1 : errS s = 0 := Decidable.not_not.1 fun e => hbad (.inl e)
    have h3 : letterErrL l = 0 := Decidable.not_not.1 fun e => hbad (.inr e)
    have H1 := Lib.hid h1
    have H3 := Lib.hid h3
    have h8 := (errS_ok h1).w.1
    have h30 := (errS_ok h1).w.2
    obtain ⟨r1, r2, r3⟩ := read_write h1 h3
    obtain ⟨L, hL, hLd⟩ := lines_of s.width h8 l (lettErr_ok h3).2
    rw [← r3] at hL
    have hse : shelfErrM s l = 0 := by unfold shelfErrM; rw [if_neg (by rw [h1]; simp), h3]
    rw [hse]
    generalize writeM s l = T at *
    have R1 := Lib.hid r1
    have HL := Lib.hid hL
    have HLd := Lib.hid hLd
    clear hbad h1 h3 hse r1 r3 hL hLd
    go_wp2_with fail
    refine (validL_any _ s _ hb).mono ?_
    rw [show (errS s == 0) = true from by rw [H1.out]; rfl]
    rintro e w3 ⟨rfl, hx⟩
    (replace hb := hb.ext hx; replace q0 := hx.cell q0; replace q1 := hx.cell q1; replace z1 := cell_lt q0; replace x1 := x1.trans hx; replace hl := hl.ext hx; clear hx)
    go_wp2_with fail
    refine (refLett_any _ l _ hl).mono ?_
    rw [H3.out]
    rintro e w4 ⟨rfl, hx⟩
    (replace hb := hb.ext hx; replace q0 := hx.cell q0; replace q1 := hx.cell q1; replace z1 := cell_lt q0; replace x1 := x1.trans hx; replace hl := hl.ext hx; clear hx)
    go_wp2_with fail
    refine (read_any _ s T (by omega) _ hb).mono ?_
    rintro e w5 ⟨u, rfl, hwe, hx⟩
    rw [R1.out] at hwe
    obtain ⟨v, rfl, hv, -⟩ := hwe
    (replace hb := hb.ext hx; replace q0 := hx.cell q0; replace q1 := hx.cell q1; replace z1 := cell_lt q0; replace x1 := x1.trans hx; replace hl := hl.ext hx; clear hx)
    obtain ⟨va, vc, rfl, -⟩ := hv.shape
    have r2' : ¬ ((160 : Int) < (T.size : Int)) := by omega
    go_wp2_with fail
    refine (same_any _ _ l l _ hl hv).mono ?_
    rw [decide_eq_true rfl]
    rintro e w6 ⟨rfl, hx⟩
    (replace hb := hb.ext hx; replace q0 := hx.cell q0; replace q1 := hx.cell q1; replace z1 := cell_lt q0; replace x1 := x1.trans hx; replace hl := hl.ext hx; clear hx)
    clear hv
    go_wp2_with fail
    have hsp := split_any 10 T (by omega) w6
    rw [HL.out] at hsp
    refine hsp.mono ?_
    rintro e w7 ⟨u, rfl, hrow, hx⟩
    (replace hb := hb.ext hx; replace q0 := hx.cell q0; replace q1 := hx.cell q1; replace z1 := cell_lt q0; replace x1 := x1.trans hx; replace hl := hl.ext hx; clear hx)
    have hat := hrow.at_ (by
      intro x hx
      rcases List.mem_append.1 hx with hx | hx
      · obtain ⟨y, hy, rfl⟩ := List.mem_map.1 hx
        rw [mkS_size]
        have := HLd.out.wd y hy
        omega
      · rw [List.mem_singleton] at hx; subst hx; rw [mkS_size]; simp)
    have hlen : (L.map mkS ++ [mkS []]).length = L.length + 1 := by simp
    obtain ⟨ua, uc, rfl, huc, hum⟩ := hat.shape
    rw [hlen] at huc ⊢
    clear hsp hrow
    go_wp2_with fail
    obtain ⟨N, hN⟩ : ∃ N, N = L.length + 1 := ⟨_, rfl⟩
    rw [← hN] at hlen huc ⊢
    have HN := Lib.hid hN
    have Hlen := Lib.hid hlen
    clear hN hlen
    go_loopw [12] (fun i wr => ∃ k : Nat, k ≤ L.length ∧ i = .int .i64 k ∧ Ext w7 wr) (fun i _ => L.length - (intOf i).toNat)
    case atStart => exact ⟨0, Nat.zero_le _, rfl, Ext.refl _⟩
    case round =>
      obtain ⟨k, hk, rfl, hxr⟩ := hrel
      replace hb := hb.ext hxr
      replace q0 := hxr.cell q0
      replace q1 := hxr.cell q1
      replace z1 := cell_lt q0
      replace hat := hat.ext hxr
      by_cases hlt : k < L.length
      · have k1 : (k : Int) < (L.length : Int) := by omega
        have k2 : (k : Int) + 1 < (N : Int) := by have := HN.out; omega
        have k3 : (k : Int) < (N : Int) := by have := HN.out; omega
        obtain ⟨ub, uo, rfl, c0⟩ := hat.getS (i := k) (by rw [Hlen.out, HN.out]; omega)
        have e1 : (L.map mkS ++ [mkS []])[k]'(by rw [Hlen.out, HN.out]; omega) = mkS L[k] := by simp [hlt]
        rw [e1] at c0
        obtain ⟨y1, y2, y3⟩ := HLd.out.at_ k hlt
        obtain ⟨hd, tl, hsp, hdw⟩ := first_word L[k]
        have ysz := mkS_size L[k]
        rw [← ysz] at y1 y2
        rw [← hdw] at y3
        have hsp2 := split_any 32 (mkS L[k]) (by omega)
        have hpt := splitM_parts 32 (mkS L[k])
        rw [hsp] at hsp2 hpt
        generalize mkS L[k] = x at *
        have y1' : ((x.size : Int) == 0) = false := by simpa using y1
        have y2' : ¬ s.width < (x.size : Int) := by omega
        clear e1 ysz hsp hdw
        by_cases hk0 : k = 0
        · clear hsp2 hpt y3
          subst hk0
          simp only [Nat.add_zero, Int.natCast_zero, Int.zero_add] at c0 k1 k2 k3
          have k5 : 0 < N := by omega
          go_wp2_with fail
          apply Facts.wp_region [.val _, .val _, .val _, .val _, .val _, .val _, .val _, .val _, .val _, .val _, .val _, .val _, .val _, .val _, .val _, .val _] (by kernel_rfl) (by kernel_rfl) trivial ?main
          case main =>
            iterate 16 (refine ⟨fun w1 hx hh => ?_, ?_⟩; focus (clear hh; have e0 := hx.cell c0; have e1 := hx.cell q0; go_simp; first | exact ⟨Ext.refl _, rfl⟩ | exact Ext.refl _))
            intro w8 hx hh
            clear hh
            replace q0 := hx.cell q0
            replace c0 := hx.cell c0
            replace hxr := hxr.trans hx
            clear hx
            go_simp
            go_wp2
            apply Facts.wp_region [.val _, .val _, .val _, .val _, .val _, .val _, .val _, .val _, .val _, .val _, .val _, .val _, .val _, .val _, .val _, .val _, .val _, .val _, .val _, .val _, .val _, .val _, .val _] (by kernel_rfl) (by kernel_rfl) trivial ?main3
            case main3 =>
            iterate 23 (refine ⟨fun w1 hx hh => ?_, ?_⟩; focus (clear hh; have e0 := hx.cell c0; have e1 := hx.cell q0; go_simp; first | exact ⟨Ext.refl _, rfl⟩ | exact Ext.refl _))
            intro w9 hx hh
            clear hh
            replace hxr := hxr.trans hx
            clear hx
            go_simp
            go_wp2
            go_roundw
            case rel => exact ⟨1, by omega, by go_num, hxr⟩
            case measure => simp [intOf]; omega
        · have hjl : k - 1 < L.length := by omega
          obtain ⟨ub', uo', ee, c1⟩ := hat.getS (i := k - 1) (by rw [Hlen.out, HN.out]; omega)
          cases ee
          have e1 : (L.map mkS ++ [mkS []])[k - 1]'(by rw [Hlen.out, HN.out]; omega) = mkS L[k - 1] := by simp [hjl]
          rw [e1] at c1
          have y4 := y3 (by omega)
          have hdx : hd.size ≤ x.size := hpt hd List.mem_cons_self
          have ysz := mkS_size L[k - 1]
          rw [← ysz] at y4
          have z100 : L[k - 1].length ≤ 30 := by have := HLd.out.wd _ (List.getElem_mem hjl); omega
          rw [← ysz] at z100
          generalize mkS L[k - 1] = z at *
          have y4' : ¬ (z.size : Int) + 1 + (hd.size : Int) ≤ s.width := by omega
          have j1 : (0 : Int) < (k : Int) := by omega
          have j0 : 0 < k := by omega
          have j6 : (1 : Int) ≤ (k : Int) := by omega
          have wk : IntKind.i64.wrap ((k : Int) - 1) = (k : Int) - 1 := IntWalk.i64_in _ (by omega)
          have wz : IntKind.i64.wrap ((z.size : Int) + 1) = (z.size : Int) + 1 := IntWalk.i64_in _ (by omega)
          have wh : IntKind.i64.wrap ((z.size : Int) + 1 + (hd.size : Int)) = (z.size : Int) + 1 + (hd.size : Int) := IntWalk.i64_in _ (by omega)
          have j2 : (0 : Int) ≤ (k : Int) - 1 := by omega
          have j3 : (k : Int) - 1 < (N : Int) := by have := HN.out; omega
          have j4 : ((k : Int) - 1).toNat = k - 1 := by omega
          have hat2 : ∀ w u, RowW w.heap.size (hd :: tl) u w → StrsAt w u (hd :: tl) := fun w u h => h.at_ fun s hs => by have := hpt s hs; omega
          have Hat2 := Lib.hid hpt
          clear e1 ysz y3 y4 hk0 hpt hat2
          go_wp2_with fail
          apply Facts.wp_region [.val _, .val _, .val _, .val _, .val _, .val _, .val _, .val _, .val _, .val _, .val _, .val _, .val _, .val _, .val _, .val _] (by kernel_rfl) (by kernel_rfl) trivial ?main
          case main =>
            iterate 16 (refine ⟨fun w1 hx hh => ?_, ?_⟩; focus (clear hh; have e0 := hx.cell c0; have e1 := hx.cell q0; go_simp; first | exact ⟨Ext.refl _, rfl⟩ | exact Ext.refl _))
            intro w8 hx hh
            clear hh
            replace q0 := hx.cell q0
            replace c0 := hx.cell c0
            replace hxr := hxr.trans hx
            replace c1 := hx.cell c1
            clear hx
            go_simp
            go_wp2_with fail
            apply Facts.wp_region [.val _, .val _, .val _, .val _, .val _, .val _, .val _, .val _, .val _, .val _, .val _, .val _, .val _, .val _, .fact (fun u w => StrsAt w u (hd :: tl)), .fact (PtS hd), .val _, .val _, .val _, .val _, .val _, .val _, .val _] (by kernel_rfl) (by kernel_rfl) ⟨fun u a c hx h => StrsAt.ext h hx, fun u a c hx h => PtS.ext h hx, trivial⟩ ?main2
            case main2 =>
              iterate 14 (refine ⟨fun w1 hx hh => ?_, ?_⟩; focus (clear hh; have e0 := hx.cell c0; have e1 := hx.cell c1; have e2 := hx.cell q0; go_simp; first | exact ⟨Ext.refl _, rfl⟩ | exact Ext.refl _))
              refine ⟨fun w1 hx hh => ?_, ?_⟩
              · clear hh
                go_simp
                refine (hsp2 _).mono ?_
                rintro e w' ⟨u, rfl, hr, hx⟩
                exact ⟨_, rfl, hx, hr.at_ fun s hs => by have := Hat2.out s hs; omega⟩
              intro u1
              refine ⟨fun w1 hx hh => ?_, ?_⟩
              · have h1 : StrsAt w1 u1 (hd :: tl) := hh 14 _ List.mem_cons_self (by kernel_rfl)
                have e := (firstPt h1).1
                have ec := (firstPt h1).2
                clear hh h1
                generalize adB (slA u1) = b at *
                generalize adO (slA u1) = o at *
                generalize slC u1 = c' at *
                have t0 : 0 < tl.length + 1 := Nat.succ_pos _
                generalize tl.length + 1 = M at *
                have t1 : (0 : Int) < (M : Int) := by omega
                subst e
                go_simp
                exact ⟨Ext.refl _, rfl, ec⟩
              intro u2
              refine ⟨fun w1 hx hh => ?_, ?_⟩
              · have h1 : PtS hd u2 w1 := hh 15 _ List.mem_cons_self (by kernel_rfl)
                have e := h1.1
                have ec := h1.2
                clear hh h1
                generalize ptB u2 = b at *
                generalize ptO u2 = o at *
                subst e
                go_simp
                exact ⟨Ext.refl _, rfl⟩
              iterate 6 (refine ⟨fun w1 hx hh => ?_, ?_⟩; focus (clear hh; have e2 := hx.cell q0; go_simp; first | exact ⟨Ext.refl _, rfl⟩ | exact Ext.refl _))
              intro w9 hx hh
              clear hh
              replace hxr := hxr.trans hx
              clear hx
              go_simp
              go_wp2
              go_roundw
              case rel => exact ⟨k + 1, by omega, by go_num, hxr⟩
              case measure => simp [intOf]; omega
      · have hke : k = L.length := by omega
        subst hke
        have k1 : ¬ (L.length : Int) + 1 < (N : Int) := by have := HN.out; omega
        have wk : IntKind.i64.wrap ((L.length : Int) + 1) = (L.length : Int) + 1 := IntWalk.i64_in _ (by have := HN.out; omega)
        by_cases hg : (readM s t).2 = 0
        · obtain ⟨w1, w2⟩ := write_read hg
          have hn : ((readM s t).2 != 0) = false := by simpa using hg
          obtain ⟨ws, hws⟩ : ∃ ws, (readM s t).1 = ws := ⟨_, rfl⟩
          rw [hws] at w1 w2
          have hrd : readM s t = (ws, 0) := Prod.ext hws hg
          have Hrd := Lib.hid hrd
          have W1 := Lib.hid w1
          have W2 := Lib.hid w2
          clear w1 w2 hws hg hn hrd hat
          go_wp2_with fail
          refine (read_any _ s t ht _ hb).mono ?_
          rintro e w8 ⟨u, rfl, hwe, hx⟩
          rw [Hrd.out] at hwe
          obtain ⟨v, rfl, hv, -⟩ := hwe
          replace hb := hb.ext hx
          replace q0 := hx.cell q0
          replace q1 := hx.cell q1
          replace z1 := cell_lt q0
          replace x1 := (x1.trans hxr).trans hx
          clear hx
          obtain ⟨va, vc, rfl, -⟩ := hv.shape
          go_wp2_with fail
          refine (write_any _ _ s ws _ hb hv).mono ?_
          rw [W1.out, W2.out]
          rintro e w9 ⟨rfl, hx⟩
          replace x1 := x1.trans hx
          clear hx hb hv
          go_wp2_with fail
          refine (awakeL_any _).mono ?_
          rintro e w10 ⟨rfl, hx⟩
          go_wp2
          go_ret
          exact ⟨rfl, x1.trans hx⟩
        · have hn := neR hg
          have hws := read_none hg
          obtain ⟨er, her⟩ : ∃ er, (readM s t).2 = er := ⟨_, rfl⟩
          rw [her] at hn
          have hrd : readM s t = ([], er) := Prod.ext hws her
          have Hrd := Lib.hid hrd
          clear hws hg hrd hat her
          go_wp2_with fail
          refine (read_any _ s t ht _ hb).mono ?_
          rintro e w8 ⟨u, rfl, hwe, hx⟩
          rw [Hrd.out] at hwe
          obtain ⟨v, rfl, hv, -⟩ := hwe
          replace x1 := (x1.trans hxr).trans hx
          clear hx hb
          obtain ⟨va, vc, rfl, -⟩ := hv.shape
          go_wp2_with fail
          refine (awakeL_any _).mono ?_
          rintro e w10 ⟨rfl, hx⟩
          go_wp2
          go_ret
          exact ⟨rfl, x1.trans hx⟩
end Go.Proofs.YtgcibmdohifiaaaGreat

namespace Go.Proofs.YtgcibmdohifiaaaGreat
set_option linter.unusedSimpArgs false
set_option linter.unusedVariables false
set_option linter.unusedVariables false

def saidL : List ByteArray := [⟨#[97]⟩, ⟨#[105]⟩, ⟨#[97, 115, 107]⟩, ⟨#[116, 111]⟩, ⟨#[116, 104, 101]⟩, ⟨#[98]⟩, ⟨#[106, 117, 100, 103, 101]⟩, ⟨#[109, 101, 114, 99, 121]⟩]
theorem said_words : ∀ s ∈ saidL, wordM s = true := by decide +kernel
/-- what marks have made of the first k words of a letter -/
structure Loud (l : List ByteArray) (ms : List Mark) (k : Nat) (out : List ByteArray) : Prop where
  runs : ∀ rest, markedF (ms ++ rest) l [] = markedF rest (l.drop k) out
  words : ∀ s ∈ out, wordM s = true
  few : ms.length ≤ out.length + k
  room : out.length + (l.length - k) ≤ 15
  at_ : k ≤ l.length
  sound : ∀ m ∈ ms, I64 m.kind ∧ m.word.size ≤ 9223372036854775807
theorem Loud.start {l : List ByteArray} (h : l.length ≤ 15) : Loud l [] 0 [] := ⟨fun _ => rfl, by simp, by simp, by simpa using h, Nat.zero_le _, by simp⟩
theorem Loud.step {l : List ByteArray} {ms : List Mark} {k : Nat} {out : List ByteArray} (h : Loud l ms k out) (kd : Nat) (wd : ByteArray) (hk : kd < 4) (he : markErrM ⟨kd, wd⟩ (l.drop k) = 0)
    (hb : ∀ s ∈ becM kd (l.drop k) wd, wordM s = true) (hroom : (out ++ becM kd (l.drop k) wd).length + (l.length - (k + kW kd)) ≤ 15) (hfew : 1 ≤ (becM kd (l.drop k) wd).length + kW kd) (hat : k + kW kd ≤ l.length) (hw : wd.size ≤ 9223372036854775807) :
    Loud l (ms ++ [⟨kd, wd⟩]) (k + kW kd) (out ++ becM kd (l.drop k) wd) := by
  refine ⟨fun rest => ?_, fun s hs => ?_, ?_, hroom, hat, fun m hm => ?_⟩
  · rw [List.append_assoc, h.runs]
    show markedF (⟨kd, wd⟩ :: rest) (l.drop k) out = _
    rw [markedF, if_neg (by rw [he]; simp)]
    show markedF rest ((l.drop k).drop (kW ((kd : Nat) : Int).toNat)) (out ++ becM ((kd : Nat) : Int).toNat (l.drop k) wd) = _
    rw [Int.toNat_natCast, List.drop_drop]
  · rcases List.mem_append.1 hs with h1 | h1
    · exact h.words s h1
    · exact hb s h1
  · have := h.few
    simp only [List.length_append, List.length_cons, List.length_nil] at *
    omega
  · rcases List.mem_append.1 hm with h1 | h1
    · exact h.sound m h1
    · rw [List.mem_singleton] at h1
      subst h1
      exact ⟨⟨by show _ ≤ ((kd : Nat) : Int); omega, by show ((kd : Nat) : Int) ≤ _; omega⟩, hw⟩
theorem Loud.ends {l : List ByteArray} {ms : List Mark} {out : List ByteArray} (h : Loud l ms l.length out) (hl : letterErrL l = 0) : applyM ms l = ⟨out, 0⟩ ∧ letterErrL out = 0 := by
  obtain ⟨h15, hw⟩ := lettErr_ok hl
  have hr := h.runs []
  rw [List.append_nil, List.drop_of_length_le (Nat.le_refl _), markedF] at hr
  have hroom := h.room
  have hfew := h.few
  refine ⟨?_, ?_⟩
  · unfold applyM
    rw [if_neg (by rw [hl]; simp), if_neg (by omega)]
    unfold markedM
    rw [hr, if_neg (by simp), if_neg (by simp), if_neg (by simp; omega)]
  · unfold letterErrL
    rw [if_neg (by omega), if_neg]
    simp only [wordsM, Bool.not_eq_false, List.all_eq_true]
    exact h.words
theorem Loud.keep {l : List ByteArray} {ms : List Mark} {k : Nat} {out : List ByteArray} {lk : ByteArray} (h : Loud l ms k out) (hk : k < l.length) (hd : l.drop k = lk :: l.drop (k + 1)) (hw : wordM lk = true) : Loud l (ms ++ [⟨0, ⟨#[]⟩⟩]) (k + 1) (out ++ [lk]) := by
  have hb : becM 0 (l.drop k) (⟨#[]⟩ : ByteArray) = [lk] := by rw [hd]; rfl
  have hr := h.room
  have := h.step 0 ⟨#[]⟩ (by decide) (by rw [hd]; simp [markErrM, kWr, kW]) (by rw [hb]; intro s hs; rw [List.mem_singleton] at hs; subst hs; exact hw) (by rw [hb]; show _ + (l.length - (k + 1)) ≤ 15; simp; omega) (by simp [kW]) (by simp only [kW]; omega) (by decide)
  rw [hb] at this
  exact this
theorem Loud.turn {l : List ByteArray} {ms : List Mark} {k : Nat} {out : List ByteArray} {lk wd : ByteArray} (h : Loud l ms k out) (hk : k < l.length) (hd : l.drop k = lk :: l.drop (k + 1)) (hw : wordM wd = true) (hne : (wd.toList == lk.toList) = false) : Loud l (ms ++ [⟨1, wd⟩]) (k + 1) (out ++ [wd]) := by
  have hr := h.room
  have hs := word_size hw
  have hne' : ¬ lk.toList = wd.toList := fun e => by rw [e] at hne; simp at hne
  exact h.step 1 wd (by decide) (by rw [hd]; simp [markErrM, kWr, kW, hw, hne']) (by intro s hs; simp [becM] at hs; subst hs; exact hw) (by show (out ++ [wd]).length + (l.length - (k + 1)) ≤ 15; simp; omega) (by simp [kW]) (by simp only [kW]; omega) (by omega)
theorem Loud.drop {l : List ByteArray} {ms : List Mark} {k : Nat} {out : List ByteArray} {lk : ByteArray} (h : Loud l ms k out) (hk : k < l.length) (hd : l.drop k = lk :: l.drop (k + 1)) : Loud l (ms ++ [⟨2, ⟨#[]⟩⟩]) (k + 1) out := by
  have hr := h.room
  have := h.step 2 ⟨#[]⟩ (by decide) (by rw [hd]; simp [markErrM, kWr, kW]) (by simp [becM]) (by show (out ++ []).length + (l.length - (k + 1)) ≤ 15; simp; omega) (by simp [kW]) (by simp only [kW]; omega) (by decide)
  simp only [becM, List.append_nil] at this
  exact this
theorem Loud.put {l : List ByteArray} {ms : List Mark} {k : Nat} {out : List ByteArray} {wd : ByteArray} (h : Loud l ms k out) (hw : wordM wd = true) (hroom : out.length + (l.length - k) < 15) : Loud l (ms ++ [⟨3, wd⟩]) k (out ++ [wd]) := by
  have hs := word_size hw
  have ha := h.at_
  exact h.step 3 wd (by decide) (by simp [markErrM, kWr, kW, hw]) (by intro s hs; simp [becM] at hs; subst hs; exact hw) (by show (out ++ [wd]).length + (l.length - (k + 0)) ≤ 15; simp; omega) (by simp [becM, kW]) (by simp only [kW]; omega) (by omega)
end Go.Proofs.YtgcibmdohifiaaaGreat

namespace Go.Proofs.YtgcibmdohifiaaaGreat
set_option linter.unusedSimpArgs false
set_option linter.unusedVariables false
open Go.RowKit
set_option linter.unusedVariables false
namespace Facts.App
variable {P : Program} {ops : Array Oper}

theorem stepG_append {o : Oper} {a : Act} {w : World} {S : Value → World → Prop} (hgd : o.guard = none) (s x : Operand) (t : TypeId)
    (ho : o.op = .call { callee := .builtin .append, args := #[s, x], argTypes := #[t, t] })
    (base : Nat) (e : TypeId) (i : TypeInfo) (z : Value) (size bytes : Nat) (ht : P.underlying t = some (.slice e)) (hi : P.info? e = some i) (hz : i.zero = some z)
    (hsize : i.size = size) (hby : i.bytes = bytes) (hzs : z.cells.size = size) (hsz : 0 < size)
    (v : Value) (n : Nat) (xs : List Value) (hs : a.eval s = v) (hown : w.ownsRow base e size v n xs)
    (ad : Addr) (m c : Nat) (news : List Value) (hx : a.eval x = .slice (some ad) m c) (hl : news.length = m * size) (hnews : ∀ j u, news[j]? = some u → w.cell? (ad.add j) = some u) (h1 : ∀ u ∈ news, u.oneCell' = true)
    (h63 : n + m ≤ maxLen) (hbytes : (n + m) * bytes ≤ 140737488355328) (hbase : base ≤ w.heap.size)
    (h : ∀ v' w', w'.ownsRow base e size v' (n + m) (xs ++ news) → w.grownBy w' v.ownBlock → (v'.ownBlock = v.ownBlock ∨ v'.ownBlock = some w.heap.size) → S v' w') : stepG P ops o a w S := by
  obtain ⟨v', w', hr, h2, h3, h4, h5⟩ := run_append_own_at (P := P) w base t o.type e i z size bytes ht hi hz hsize hby hzs hsz v n xs hown ad m c news hl hnews h1 h63 hbytes hbase
  unfold stepG
  have hw : Region.wanted o (yielded ops a.tmps) = true := by unfold Region.wanted; rw [hgd]
  rw [if_pos hw]
  unfold execOp
  simp only [ho, resolve, invoke, builtin, Sem.run_bind, Sem.run_pure, Result.andThen_ok, List.map_toArray, List.map_cons, List.map_nil, hs, hx, hr]
  exact h v' w' h2 h3 h5
/-- a later world in which one row may have been written -/
def But (own : Option Nat) (w w' : World) : Prop := w.grownBy w' own
theorem But.of_ext {own : Option Nat} {w w' : World} (h : Ext w w') : But own w w' := ⟨Below.os h, Below.tape h, Below.output h, Below.size h, fun k hk _ => Below.block h k hk⟩
theorem two_but (own : Option Nat) : Piv.Two Ext (But own) :=
  ⟨fun _ _ h => But.of_ext h, fun _ _ _ h k => h.trans k, fun _ _ _ h k => World.grownBy.trans h k, fun _ => Ext.refl _, fun w => ext_drew w⟩
end Facts.App
end Go.Proofs.YtgcibmdohifiaaaGreat

namespace Go.Proofs.YtgcibmdohifiaaaGreat
set_option linter.unusedSimpArgs false
set_option linter.unusedVariables false
open Go.RowKit
set_option linter.unusedVariables false
namespace Facts.App
variable {P : Program} {ops : Array Oper}

/-- a later world in which new rows, from a block on, may have been written behind their first n cells -/
structure Grew (n0 n : Nat) (w w' : World) : Prop where
  os : w'.os = w.os
  tape : w'.tape = w.tape
  output : w'.output = w.output
  size : w.heap.size ≤ w'.heap.size
  block : ∀ k, k < w.heap.size → w'.heap[k]? = w.heap[k]? ∨ (n0 ≤ k ∧ ∃ cur cur' e, w.heap[k]? = some (.cells cur e (0, 0)) ∧ w'.heap[k]? = some (.cells cur' e (0, 0)) ∧ cur'.size = cur.size ∧ cur'.toList.take n = cur.toList.take n)
theorem Grew.of_ext {n0 n : Nat} {w w' : World} (h : Ext w w') : Grew n0 n w w' := ⟨Below.os h, Below.tape h, Below.output h, Below.size h, fun k hk => .inl (Below.block h k hk)⟩
theorem Grew.trans {n0 n : Nat} {a b c : World} (h : Grew n0 n a b) (k : Grew n0 n b c) : Grew n0 n a c :=
  ⟨k.os.trans h.os, k.tape.trans h.tape, k.output.trans h.output, Nat.le_trans h.size k.size, fun i hi => by
    rcases h.block i hi with h1 | ⟨h0, c1, c2, e, g1, g2, g3, g4⟩
    · rcases k.block i (Nat.lt_of_lt_of_le hi h.size) with h2 | ⟨h0, c1, c2, e, g1, g2, g3, g4⟩
      · exact .inl (h2.trans h1)
      · exact .inr ⟨h0, c1, c2, e, by rw [← h1]; exact g1, g2, g3, g4⟩
    · rcases k.block i (Nat.lt_of_lt_of_le hi h.size) with h2 | ⟨-, c3, c4, e', f1, f2, f3, f4⟩
      · exact .inr ⟨h0, c1, c2, e, g1, by rw [h2]; exact g2, g3, g4⟩
      · rw [g2] at f1
        simp only [Option.some.injEq, Obj.cells.injEq, and_true] at f1
        obtain ⟨rfl, rfl⟩ := f1
        exact .inr ⟨h0, c1, c4, e, g1, f2, f3.trans g3, f4.trans g4⟩⟩
theorem Grew.below {n0 n : Nat} {w w' : World} (h : Grew n0 n w w') {u : World} (hu : u.heap.size = n0) (hx : Ext u w) : Ext u w' := by
  subst hu
  exact ⟨h.os.trans (Below.os hx), h.tape.trans (Below.tape hx), h.output.trans (Below.output hx), Nat.le_trans (Below.size hx) h.size, fun k hk => by
    rcases h.block k (Nat.lt_of_lt_of_le hk (Below.size hx)) with h1 | ⟨h0, -⟩
    · exact h1.trans (Below.block hx k hk)
    · omega⟩
theorem two_grew (n0 n : Nat) : Piv.Two Ext (Grew n0 n) :=
  ⟨fun _ _ h => Grew.of_ext h, fun _ _ _ h k => h.trans k, fun _ _ _ h k => Grew.trans h k, fun _ => Ext.refl _, fun w => ext_drew w⟩
/-- a row of so many cells at most is kept -/
theorem Grew.owns {n0 n : Nat} {w w' : World} (h : Grew n0 n w w') {base size m : Nat} {e : TypeId} {v : Value} {xs : List Value} (ho : w.ownsRow base e size v m xs) (hm : m * size ≤ n) : w'.ownsRow base e size v m xs := by
  refine ⟨ho.1, ?_⟩
  rcases ho.2 with h1 | ⟨g, cap, cur, rfl, hb, hg, hnc, hcm, hcs, htake⟩
  · exact .inl h1
  · have hlt : g < w.heap.size := (Array.getElem?_eq_some_iff.1 hg).1
    rcases h.block g hlt with h1 | ⟨-, c1, c2, e', g1, g2, g3, g4⟩
    · exact .inr ⟨g, cap, cur, rfl, hb, by rw [h1]; exact hg, hnc, hcm, hcs, htake⟩
    · rw [hg] at g1
      simp only [Option.some.injEq, Obj.cells.injEq, and_true] at g1
      obtain ⟨rfl, rfl⟩ := g1
      refine .inr ⟨g, cap, c2, rfl, hb, g2, hnc, hcm, g3.trans hcs, ?_⟩
      have := congrArg (List.take (m * size)) g4
      rw [List.take_take, List.take_take, Nat.min_eq_left hm] at this
      rw [this]; exact htake
theorem Grew.cell {n0 n : Nat} {w w' : World} (h : Grew n0 n w w') {B j : Nat} {v : Value} (hc : w.cell? ⟨B, j, none⟩ = some v) (hj : j < n) : w'.cell? ⟨B, j, none⟩ = some v := by
  have hlt : B < w.heap.size := cell_lt hc
  rcases h.block B hlt with h1 | ⟨-, c1, c2, e', g1, g2, g3, g4⟩
  · rw [World.cell?_of_block (a := ⟨B, j, none⟩) h1]; exact hc
  · unfold World.cell? at hc ⊢
    simp only [g1] at hc
    simp only [g2]
    have e1 : c1[j]? = some v := by simpa using hc
    have e2 : c2[j]? = c1[j]? := by
      have a1 : c2.toList[j]? = (c2.toList.take n)[j]? := by rw [List.getElem?_take_of_lt hj]
      have a2 : c1.toList[j]? = (c1.toList.take n)[j]? := by rw [List.getElem?_take_of_lt hj]
      rw [← Array.getElem?_toList, ← Array.getElem?_toList, a1, a2, g4]
    simpa [e2] using e1
theorem run_append_grew {w : World} (base : Nat) (t ty e : TypeId) (i : TypeInfo) (z : Value) (size bytes : Nat) (ht : P.underlying t = some (.slice e)) (hi : P.info? e = some i) (hz : i.zero = some z)
    (hsize : i.size = size) (hby : i.bytes = bytes) (hzs : z.cells.size = size) (hsz : 0 < size)
    (v : Value) (n : Nat) (xs : List Value) (hown : w.ownsRow base e size v n xs)
    (a : Addr) (m c : Nat) (news : List Value) (hl : news.length = m * size) (hnews : ∀ j u, news[j]? = some u → w.cell? (a.add j) = some u) (h1 : ∀ u ∈ news, u.oneCell' = true)
    (h63 : n + m ≤ maxLen) (hbytes : (n + m) * bytes ≤ 140737488355328) (hbase : base ≤ w.heap.size) :
    ∃ v' w', (Builtin.append_ #[t, t] ty #[v, .slice (some a) m c]).run P w = .ok v' w' ∧ w'.ownsRow base e size v' (n + m) (xs ++ news) ∧ Grew base (n * size) w w' ∧
      ((∀ g cap, v = .slice (some ⟨g, 0, none⟩) n cap → cap < n + m) → Ext w w') := by
  obtain ⟨v', w', hr, ho, hg, -, -⟩ := run_append_own_at (P := P) w base t ty e i z size bytes ht hi hz hsize hby hzs hsz v n xs hown a m c news hl hnews h1 h63 hbytes hbase
  refine ⟨v', w', hr, ho, ?_⟩
  rcases hown.2 with ⟨rfl, rfl⟩ | ⟨g, cap, cur, rfl, hbg, hg0, hnc, hcm, hcs, htake⟩
  · have hx : Ext w w' := ⟨hg.os, hg.tape, hg.output, hg.size, fun k hk => hg.block k hk (by simp [Value.ownBlock])⟩
    exact ⟨Grew.of_ext hx, fun _ => hx⟩
  · by_cases hroom : n + m ≤ cap
    · obtain ⟨w2, hr2, ho2, hg2⟩ := run_append_fits (P := P) (w := w) base t ty e i size ht hi hsize g n cap xs hown a m c news hl hnews h1 hroom
      rw [hr] at hr2
      simp only [Result.ok.injEq] at hr2
      obtain ⟨rfl, rfl⟩ := hr2
      refine ⟨⟨hg2.os, hg2.tape, hg2.output, hg2.size, fun k hk => ?_⟩, fun hf => by have := hf g cap rfl; omega⟩
      by_cases hkg : k = g
      · subst hkg
        right
        refine ⟨hbg, ?_⟩
        rcases ho2.2 with ⟨he, -⟩ | ⟨g', cap', cur', he, -, hg', -, -, hcs', ht'⟩
        · simp at he
        · simp only [Value.slice.injEq, Option.some.injEq, Addr.mk.injEq, and_true, true_and] at he
          obtain ⟨rfl, rfl⟩ := he
          refine ⟨cur, cur', e, hg0, hg', by rw [hcs, hcs'], ?_⟩
          have e1 := congrArg (List.take (n * size)) ht'
          rw [List.take_take, Nat.min_eq_left (Nat.mul_le_mul_right _ (Nat.le_add_right _ _)), ← hown.1, List.take_left] at e1
          rw [← hown.1, e1, hown.1]; exact htake.symm
      · exact .inl (hg2.block k hk (by simpa using hkg))
    · have hb2 : (n + m) * i.bytes ≤ 140737488355328 := by rw [hby]; exact hbytes
      have hr2 := run_append_grow (P := P) w t ty e i z ht hi hz ⟨g, 0, none⟩ n cap xs (by rw [hsize]; exact hown.1) (hown.cells (g := g) rfl) a m c news (by rw [hsize]; exact hl) hnews (by omega) (by simp only [maxLen] at h63; omega) (growslice_fits (by omega) hb2)
      rw [hr] at hr2
      simp only [Result.ok.injEq] at hr2
      obtain ⟨rfl, rfl⟩ := hr2
      have hx : Ext w (w.drew.alloc (.cells (xs.toArray ++ news.toArray ++ Builtin.zeroCells z.cells (grownCap w (n + m) cap e - (n + m))) e)) := (ext_drew w).alloc _
      exact ⟨Grew.of_ext hx, fun _ => hx⟩
theorem stepG_append_grew {o : Oper} {a : Act} {w : World} {S : Value → World → Prop} (hgd : o.guard = none) (s x : Operand) (t : TypeId)
    (ho : o.op = .call { callee := .builtin .append, args := #[s, x], argTypes := #[t, t] })
    (base : Nat) (e : TypeId) (i : TypeInfo) (z : Value) (size bytes : Nat) (ht : P.underlying t = some (.slice e)) (hi : P.info? e = some i) (hz : i.zero = some z)
    (hsize : i.size = size) (hby : i.bytes = bytes) (hzs : z.cells.size = size) (hsz : 0 < size)
    (v : Value) (n : Nat) (xs : List Value) (hs : a.eval s = v) (hown : w.ownsRow base e size v n xs)
    (ad : Addr) (m c : Nat) (news : List Value) (hx : a.eval x = .slice (some ad) m c) (hl : news.length = m * size) (hnews : ∀ j u, news[j]? = some u → w.cell? (ad.add j) = some u) (h1 : ∀ u ∈ news, u.oneCell' = true)
    (h63 : n + m ≤ maxLen) (hbytes : (n + m) * bytes ≤ 140737488355328) (hbase : base ≤ w.heap.size)
    (h : ∀ v' w', w'.ownsRow base e size v' (n + m) (xs ++ news) → Grew base (n * size) w w' → ((∀ g cap, v = .slice (some ⟨g, 0, none⟩) n cap → cap < n + m) → Ext w w') → S v' w') : stepG P ops o a w S := by
  obtain ⟨v', w', hr, h2, h3, h4⟩ := run_append_grew (P := P) base t o.type e i z size bytes ht hi hz hsize hby hzs hsz v n xs hown ad m c news hl hnews h1 h63 hbytes hbase
  unfold stepG
  have hw : Region.wanted o (yielded ops a.tmps) = true := by unfold Region.wanted; rw [hgd]
  rw [if_pos hw]
  unfold execOp
  simp only [ho, resolve, invoke, builtin, Sem.run_bind, Sem.run_pure, Result.andThen_ok, List.map_toArray, List.map_cons, List.map_nil, hs, hx, hr]
  exact h v' w' h2 h3 h4
/-- onto a row, of nothing -/
theorem stepG_append_none {o : Oper} {a : Act} {w : World} {S : Value → World → Prop} (hgd : o.guard = none) (s x : Operand) (t : TypeId)
    (ho : o.op = .call { callee := .builtin .append, args := #[s, x], argTypes := #[t, t] })
    (base : Nat) (e : TypeId) (i : TypeInfo) (size : Nat) (ht : P.underlying t = some (.slice e)) (hi : P.info? e = some i)
    (v : Value) (n : Nat) (xs : List Value) (hs : a.eval s = v) (hown : w.ownsRow base e size v n xs) (hx : a.eval x = .slice none 0 0)
    (h : S v w) : stepG P ops o a w S := by
  have hrun := run_append_owned_none (P := P) (w := w) base t o.type e i size ht hi v n xs hown
  unfold stepG
  have hw : Region.wanted o (yielded ops a.tmps) = true := by unfold Region.wanted; rw [hgd]
  rw [if_pos hw]
  unfold execOp
  simp only [ho, resolve, invoke, builtin, Sem.run_bind, Sem.run_pure, Result.andThen_ok, List.map_toArray, List.map_cons, List.map_nil, hs, hx, hrun]
  exact h
end Facts.App
end Go.Proofs.YtgcibmdohifiaaaGreat

namespace Go.Proofs.YtgcibmdohifiaaaGreat
set_option linter.unusedSimpArgs false
set_option linter.unusedVariables false
open Go.RowKit
namespace Facts
theorem wp_frame {P : Program} {c : Code} {Q : Exit → Act → World → Prop} {a : Act} {w : World} (h : ∀ A : Act, A = a → Code.wp P c Q A w) : Code.wp P c Q a w := h a rfl
theorem eval_put_same (a : Act) (t : Nat) (v : Value) (h : t < a.tmps.size) : (a.put (some t) v).eval (.tmp t) = v := by
  simp only [Act.put, Act.eval]
  rw [Array.getD_eq_getD_getElem?, Array.getElem?_setIfInBounds_self, if_pos h]; rfl
theorem eval_put_other (a : Act) (d t : Nat) (v : Value) (h : d ≠ t) : (a.put (some d) v).eval (.tmp t) = a.eval (.tmp t) := by
  simp only [Act.put, Act.eval]
  rw [Array.getD_eq_getD_getElem?, Array.getD_eq_getD_getElem?, Array.getElem?_setIfInBounds_ne h]
theorem eval_put_none (a : Act) (v : Value) (o : Operand) : (a.put none v).eval o = a.eval o := rfl
theorem eval_const (a : Act) (v : Value) : a.eval (.const v) = v := rfl
theorem eval_func (a : Act) (f : FuncId) : a.eval (.func f) = .func (.func f) #[] #[] := rfl
theorem size_put (a : Act) (d : Option Tmp) (v : Value) : (a.put d v).tmps.size = a.tmps.size := put_size a d v
end Facts
end Go.Proofs.YtgcibmdohifiaaaGreat

namespace Go.Proofs.YtgcibmdohifiaaaGreat
set_option linter.unusedSimpArgs false
set_option linter.unusedVariables false
open Go.RowKit
def findRegion (n : Nat) : Code → Option Code
  | .region i ops d => if i = n then some (.region i ops d) else none
  | .block _ c => findRegion n c
  | .seq a b => match findRegion n a with
    | some c => some c
    | none => findRegion n b
  | .loop c => findRegion n c
  | .scope c => findRegion n c
  | .cond _ a b => match findRegion n a with
    | some c => some c
    | none => findRegion n b
  | _ => none
noncomputable def regionOf (f : Func) (n : Nat) : Code := ((f.body.bind (findRegion n)).getD .skip)
end Go.Proofs.YtgcibmdohifiaaaGreat

namespace Go.Proofs.YtgcibmdohifiaaaGreat
set_option linter.unusedSimpArgs false
set_option linter.unusedVariables false
open Go.RowKit
set_option linter.unusedVariables false

theorem no_falseE {X : Bool} (h : X = false) (h2 : X = true) : False := by rw [h] at h2; cases h2
/-- a row of one's own -/
def OwnR (base : Nat) (e : TypeId) (sz n : Nat) (cs : List Value) (u : Value) (w : World) : Prop := w.ownsRow base e sz u n cs
theorem OwnR.ext {base : Nat} {e : TypeId} {sz n : Nat} {cs : List Value} {u : Value} {w w' : World} (h : OwnR base e sz n cs u w) (hx : Ext w w') : OwnR base e sz n cs u w' := Ext.owns h hx
theorem OwnR.grew {base : Nat} {e : TypeId} {sz n : Nat} {cs : List Value} {u : Value} {n0 k : Nat} {w w' : World} (h : OwnR base e sz n cs u w) (hn : n * sz ≤ k) (hx : Facts.App.Grew n0 k w w') : OwnR base e sz n cs u w' := hx.owns h hn
/-- a row of nothing, with no room -/
def EmptyR (base : Nat) (e : TypeId) (sz : Nat) (u : Value) (w : World) : Prop := ∃ B, u = .slice (some ⟨B, 0, none⟩) 0 0 ∧ OwnR base e sz 0 [] u w
theorem EmptyR.ext {base : Nat} {e : TypeId} {sz : Nat} {u : Value} {w w' : World} (h : EmptyR base e sz u w) (hx : Ext w w') : EmptyR base e sz u w' := by
  obtain ⟨B, e, h1⟩ := h; exact ⟨B, e, h1.ext hx⟩
theorem EmptyR.grew {base : Nat} {e : TypeId} {sz : Nat} {u : Value} {n0 n : Nat} {w w' : World} (h : EmptyR base e sz u w) (hx : Facts.App.Grew n0 n w w') : EmptyR base e sz u w' := by
  obtain ⟨B, e, h1⟩ := h; exact ⟨B, e, h1.grew (by omega) hx⟩
theorem EmptyR.row {base : Nat} {e : TypeId} {sz : Nat} {u : Value} {w : World} (h : EmptyR base e sz u w) : w.ownsRow base e sz u 0 [] := by
  obtain ⟨B, e, h1⟩ := h; exact h1
theorem EmptyR.full {base : Nat} {e : TypeId} {sz : Nat} {u : Value} {w : World} (h : EmptyR base e sz u w) (m : Nat) (hm : 0 < m) : ∀ g cap, u = .slice (some ⟨g, 0, none⟩) 0 cap → cap < 0 + m := by
  obtain ⟨B, e, -⟩ := h
  intro g cap e2
  rw [e] at e2
  have := (Value.slice.inj e2).2.2
  omega
/-- new elements, in a block of their own -/
def NewR (n : Nat) (cs : List Value) (u : Value) (w : World) : Prop := ∃ B, u = .slice (some ⟨B, 0, none⟩) n n ∧ ∀ j v, cs[j]? = some v → w.cell? ((⟨B, 0, none⟩ : Addr).add j) = some v
noncomputable def NewR.B {n : Nat} {cs : List Value} {u : Value} {w : World} (h : NewR n cs u w) : Nat := Exists.choose h
theorem NewR.spec {n : Nat} {cs : List Value} {u : Value} {w : World} (h : NewR n cs u w) : u = .slice (some ⟨h.B, 0, none⟩) n n ∧ ∀ j v, cs[j]? = some v → w.cell? ((⟨h.B, 0, none⟩ : Addr).add j) = some v := Exists.choose_spec h
theorem NewR.ext {n : Nat} {cs : List Value} {u : Value} {w w' : World} (h : NewR n cs u w) (hx : Ext w w') : NewR n cs u w' := by
  obtain ⟨B, h1, h2⟩ := h; exact ⟨B, h1, fun j v e => hx.cell (h2 j v e)⟩
theorem NewR.grew {n : Nat} {cs : List Value} {u : Value} {n0 k : Nat} {w w' : World} (h : NewR n cs u w) (hn : cs.length ≤ k) (hx : Facts.App.Grew n0 k w w') : NewR n cs u w' := by
  obtain ⟨B, h1, h2⟩ := h
  refine ⟨B, h1, fun j v e => ?_⟩
  have hj : j < cs.length := by
    rcases Nat.lt_or_ge j cs.length with h | h
    · exact h
    · rw [List.getElem?_eq_none h] at e; cases e
  have := h2 j v e
  rw [show (⟨B, 0, none⟩ : Addr).add j = ⟨B, 0 + j, none⟩ by unfold Addr.add; split <;> simp_all] at this ⊢
  exact hx.cell this (by omega)
theorem NewR.made (w : World) (n : Nat) (cs : List Value) (t : TypeId) : NewR n cs (.slice (some ⟨w.heap.size, 0, none⟩) n n) (w.alloc (.cells cs.toArray t)) := by
  refine ⟨_, rfl, fun j v e => ?_⟩
  rw [show (⟨w.heap.size, 0, none⟩ : Addr).add j = ⟨w.heap.size, 0 + j, none⟩ by unfold Addr.add; split <;> simp_all]
  simpa [go_sem] using e
theorem marks_new {w : World} {ad : Addr} {n c : Nat} {l : List Mark} (h : MarksAt w (.slice (some ad) n c) l) : ∀ j u, (cellsK l)[j]? = some u → w.cell? (ad.add j) = some u := by
  intro j u hu
  have hlen : (cellsK l).length = l.length * 2 := cellsK_len l
  have hj : j < l.length * 2 := by
    rcases Nat.lt_or_ge j (l.length * 2) with h1 | h1
    · exact h1
    · rw [List.getElem?_eq_none (by omega)] at hu; cases hu
  have hi : j / 2 < l.length := by omega
  obtain ⟨b, o, e2, r0, r1, -⟩ := h.get hi
  obtain rfl := Option.some.inj e2
  obtain ⟨c0, c1⟩ := cellsK_get l (j / 2) hi
  rw [show (⟨b, o, none⟩ : Addr).add j = ⟨b, o + j, none⟩ by unfold Addr.add; split <;> simp_all]
  rcases Nat.mod_two_eq_zero_or_one j with h0 | h0
  · rw [show j = j / 2 * 2 from by omega] at hu ⊢
    rw [c0] at hu
    obtain rfl := Option.some.inj hu
    exact r0
  · rw [show j = j / 2 * 2 + 1 from by omega] at hu ⊢
    rw [c1] at hu
    obtain rfl := Option.some.inj hu
    exact r1
theorem marks_one (l : List Mark) : ∀ u ∈ cellsK l, u.oneCell' = true := fun u hu => by
  simp only [cellsK, List.mem_flatMap] at hu
  obtain ⟨x, -, hx⟩ := hu
  simp at hx
  rcases hx with rfl | rfl <;> simp [Value.oneCell']
end Go.Proofs.YtgcibmdohifiaaaGreat

namespace Go.Proofs.YtgcibmdohifiaaaGreat
set_option linter.unusedSimpArgs false
set_option linter.unusedVariables false
open Go.RowKit
set_option linter.unusedVariables false

set_option maxRecDepth 100000 in
theorem lawTurn_any (v : Value) (l : List Int) (n : Nat) (w : World) (hn : n ≤ 9223372036854775807) (hl : BytesAt w v l) : Calls Tryz.prog 96 #[v, .int .i64 n] w fun e w' => e = .returned (.int .i64 (turnM l n)) ∧ w = w' := by
  obtain ⟨a, cap, rfl, hlc, hcm, hc⟩ := hl
  by_cases h0 : l.length = 0
  · have h0' : ((l.length : Int) == 0) = true := by simp [h0]
    have H0 := Lib.hid h0
    clear hc h0
    go_enter Tryz.func96, Tryz.ntmps96
    go_wp2
    go_ret
    exact ⟨ret_int (by rw [List.eq_nil_of_length_eq_zero H0.out]; rfl), rfl⟩
  · have h0' : ((l.length : Int) == 0) = false := by simp; intro e; exact h0 (by simp [e])
    have hml : n % l.length < l.length := Nat.mod_lt _ (by omega)
    have hm : Int.tmod (n : Int) (l.length : Int) = ((n % l.length : Nat) : Int) := by rw [Int.tmod_eq_emod_of_nonneg (by omega)]; simp
    obtain ⟨b, off, rfl, c0, hu⟩ := hc (n % l.length) hml
    have hgd : turnM l n = l[n % l.length] := by rw [turnM, List.getD_eq_getElem?_getD, List.getElem?_eq_getElem hml]; rfl
    generalize hy : l[n % l.length] = y at *
    have Hgd := Lib.hid hgd
    clear hgd hy hc
    simp only [Nat.mul_one] at c0
    generalize hq : n % l.length = q at *
    have wq : IntKind.i64.wrap (q : Int) = q := IntWalk.i64_in _ (by omega)
    have wy : IntKind.i64.wrap y = y := IntWalk.i64_in _ (by unfold U8 at hu; omega)
    have q1 : (q : Int) < (l.length : Int) := by omega
    have nz : ¬ (l.length : Int) = 0 := by omega
    clear hq
    go_enter Tryz.func96, Tryz.ntmps96
    go_wp2
    go_ret
    exact ⟨ret_int Hgd.out.symm, rfl⟩
theorem turnM_in {w : World} {v : Value} {l : List Int} (hl : BytesAt w v l) (n : Nat) : 0 ≤ turnM l n ∧ turnM l n ≤ 255 := by
  obtain ⟨a, cap, rfl, hlc, hcm, hc⟩ := hl
  unfold turnM
  rcases Nat.eq_zero_or_pos l.length with h0 | h0
  · rw [List.eq_nil_of_length_eq_zero h0]; simp
  · have hml : n % l.length < l.length := Nat.mod_lt _ (by omega)
    rw [List.getD_eq_getElem?_getD, List.getElem?_eq_getElem hml]
    obtain ⟨b, off, -, -, hu⟩ := hc _ hml
    exact hu
theorem said_any (w : World) : Calls Tryz.prog 97 #[] w fun e w' => (∃ B, e = .returned (.slice (some ⟨B, 0, none⟩) 8 8) ∧ StrsAt w' (.slice (some ⟨B, 0, none⟩) 8 8) saidL) ∧ Ext w w' := by
  go_enter Tryz.func97, Tryz.ntmps97
  go_wp2
  go_ret
  refine ⟨⟨_, rfl, _, _, rfl, by decide, by decide, fun i hi => ⟨_, _, rfl, ?_⟩⟩, ext_alloc _ _⟩
  have : i = 0 ∨ i = 1 ∨ i = 2 ∨ i = 3 ∨ i = 4 ∨ i = 5 ∨ i = 6 ∨ i = 7 := by simp [saidL] at hi; omega
  rcases this with rfl | rfl | rfl | rfl | rfl | rfl | rfl | rfl
  all_goals exact ⟨by simp [go_sem, saidL], by simp [saidL]; decide⟩

theorem mod_nat (y n : Nat) : Int.tmod (y : Int) (n : Int) = ((y % n : Nat) : Int) := by rw [Int.tmod_eq_emod_of_nonneg (by omega)]; simp
theorem said_at (m : Nat) (h : m < 8) : m < saidL.length := h
theorem MarksAt.grownBy {w w' : World} {row : Option Nat} {sa : Option Addr} {n sc : Nat} {l : List Mark} (h : MarksAt w (.slice sa n sc) l) (hg : w.grownBy w' row) (hne : ∀ ad, sa = some ad → some ad.block ≠ row) : MarksAt w' (.slice sa n sc) l := by
  obtain ⟨a, cap, e, h2, h3, h4⟩ := h
  obtain ⟨rfl, rfl, rfl⟩ := Value.slice.inj e
  refine ⟨_, _, rfl, h2, h3, fun i hi => ?_⟩
  obtain ⟨b, o, rfl, r0, r1, r2⟩ := h4 i hi
  exact ⟨b, o, rfl, hg.cell r0 (show some b ≠ row from hne ⟨b, o, none⟩ rfl), hg.cell r1 (show some b ≠ row from hne ⟨b, o, none⟩ rfl), r2⟩
theorem RowW.shape {base : Nat} {l : List ByteArray} {u : Value} {w : World} (h : RowW base l u w) : ∃ a c, u = .slice a l.length c := by
  rcases h.2 with ⟨rfl, hn⟩ | ⟨g, cap, cur, rfl, -⟩
  · exact ⟨_, _, by rw [hn]⟩
  · exact ⟨_, _, rfl⟩
theorem RowK.newer {base : Nat} {l : List Mark} {u : Value} {w : World} (h : RowK base l u w) : ∀ ad n c, u = .slice (some ad) n c → base ≤ ad.block := by
  intro ad n c hu
  rcases h.2 with ⟨rfl, hn⟩ | ⟨g, cap, cur, rfl, hb, -⟩
  · cases hu
  · cases hu; exact hb
/-- the marks do not lie in the row of words -/
def Apart (mv ov : Value) : Prop := ∀ ad n c, mv = .slice (some ad) n c → some ad.block ≠ ov.ownBlock
theorem Apart.nil (ov : Value) : Apart (.slice none 0 0) ov := fun ad n c h => by cases h
end Go.Proofs.YtgcibmdohifiaaaGreat

namespace Go.Proofs.YtgcibmdohifiaaaGreat
set_option linter.unusedSimpArgs false
set_option linter.unusedVariables false
open Go.RowKit
set_option linter.unusedVariables false

/-- a slice of these values -/
def ValsAt (w : World) (u : Value) (vs : List Value) : Prop := ∃ a c, u = .slice a vs.length c ∧ vs.length ≤ c ∧ c ≤ 9223372036854775807 ∧ ∀ i (h : i < vs.length), ∃ b o, a = some ⟨b, o, none⟩ ∧ w.cell? ⟨b, o + i, none⟩ = some vs[i]
theorem ValsAt.ext {w w' : World} {u : Value} {vs : List Value} (h : ValsAt w u vs) (hx : Ext w w') : ValsAt w' u vs := by
  obtain ⟨a, c, e, h1, h2, h3⟩ := h
  exact ⟨a, c, e, h1, h2, fun i hi => by obtain ⟨b, o, e2, r⟩ := h3 i hi; exact ⟨b, o, e2, hx.cell r⟩⟩
theorem ValsAt.cells' {w w' : World} {pb po n c : Nat} {vs : List Value} (h : ValsAt w (.slice (some ⟨pb, po, none⟩) n c) vs) (hx : Ext w w') : ∀ j u, vs[j]? = some u → w'.cell? ((⟨pb, po, none⟩ : Addr).add j) = some u := by
  intro j u hj
  obtain ⟨a, c', e, h1, h2, h3⟩ := h
  have hjl : j < vs.length := by
    rcases Nat.lt_or_ge j vs.length with h | h
    · exact h
    · rw [List.getElem?_eq_none h] at hj; cases hj
  obtain ⟨b, o, e2, r⟩ := h3 j hjl
  rw [List.getElem?_eq_getElem hjl] at hj
  obtain rfl := Option.some.inj hj
  obtain ⟨rfl, -, -⟩ := Value.slice.inj e
  obtain ⟨rfl, rfl, -⟩ := Addr.mk.inj (Option.some.inj e2)
  rw [show (⟨pb, po, none⟩ : Addr).add j = ⟨pb, po + j, none⟩ by unfold Addr.add; split <;> simp_all]
  exact hx.cell r
theorem OwnR.vals {base : Nat} {vs : List Value} {u : Value} {w : World} (h : OwnR base 29 1 vs.length vs u w) : ValsAt w u vs := by
  have hcells := fun g hg => World.ownsRow.cells (g := g) h hg
  rcases h.2 with ⟨rfl, hn⟩ | ⟨g, cap, cur, rfl, hb, hg, hnc, hcm, hcs, htake⟩
  · exact ⟨none, 0, by rw [hn], by omega, by decide, fun i hi => by omega⟩
  · refine ⟨_, _, rfl, hnc, by simpa [maxLen] using hcm, fun i hi => ⟨g, 0, rfl, ?_⟩⟩
    have := hcells g rfl i vs[i] (List.getElem?_eq_getElem hi)
    rw [show (⟨g, 0, none⟩ : Addr).add i = ⟨g, 0 + i, none⟩ by unfold Addr.add; split <;> simp_all] at this
    exact this
theorem fills_vals {w : World} {u : Value} {fl : List (List ByteArray)} (h : FillsAt w u fl) : ∃ vs : List Value, ValsAt w u vs ∧ vs.length = fl.length ∧ (∀ v ∈ vs, v.oneCell' = true) ∧ ∀ i (h1 : i < vs.length) (h2 : i < fl.length), StrsAt w vs[i] fl[i] := by
  obtain ⟨a, c, rfl, h1, h2⟩ := h.shape
  have hex : ∀ i : Fin fl.length, ∃ v, (∃ b o, a = some ⟨b, o, none⟩ ∧ w.cell? ⟨b, o + i.1, none⟩ = some v) ∧ StrsAt w v fl[i.1] := fun i => by
    obtain ⟨b, o, e, v, r1, r2⟩ := SliceAt.get h i.2
    exact ⟨v, ⟨b, o, e, by simpa using r1⟩, r2⟩
  obtain ⟨f, hf⟩ := Classical.axiomOfChoice hex
  refine ⟨List.ofFn f, ⟨a, c, by rw [List.length_ofFn], by rw [List.length_ofFn]; exact h1, h2, fun i hi => ?_⟩, List.length_ofFn, fun v hv => ?_, fun i h1 h2 => ?_⟩
  · rw [List.length_ofFn] at hi
    obtain ⟨b, o, e, r⟩ := (hf ⟨i, hi⟩).1
    exact ⟨b, o, e, by rw [List.getElem_ofFn]; exact r⟩
  · obtain ⟨i, rfl⟩ := List.mem_ofFn.1 hv
    obtain ⟨a, c, e, -⟩ := (hf i).2.shape
    rw [e]; rfl
  · rw [List.getElem_ofFn]
    exact (hf ⟨i, h2⟩).2
theorem vals_fills {w : World} {u : Value} {vs : List Value} {fl : List (List ByteArray)} (h : ValsAt w u vs) (hn : vs.length = fl.length) (hs : ∀ i (h1 : i < vs.length) (h2 : i < fl.length), StrsAt w vs[i] fl[i]) : FillsAt w u fl := by
  obtain ⟨a, c, rfl, h1, h2, h3⟩ := h
  refine ⟨a, c, by rw [hn], by omega, h2, fun i hi => ?_⟩
  obtain ⟨b, o, e, r⟩ := h3 i (by omega)
  exact ⟨b, o, e, vs[i]'(by omega), by simpa using r, hs i (by omega) hi⟩
/-- fills that are right for these rooms -/
structure PutOk (rooms : List Part) (fs : List (List ByteArray)) : Prop where
  le : fs.length ≤ rooms.length
  at_ : ∀ i (h : i < fs.length) (h2 : i < rooms.length), rooms[i].lo ≤ fs[i].length ∧ (fs[i].length : Int) ≤ rooms[i].hi
  w : ∀ l ∈ fs, ∀ s ∈ l, wordM s = true
theorem PutOk.snoc {rooms : List Part} {fs : List (List ByteArray)} {l : List ByteArray} (h : PutOk rooms fs) (hl : fs.length < rooms.length) (h1 : rooms[fs.length].lo ≤ l.length ∧ (l.length : Int) ≤ rooms[fs.length].hi) (hw : ∀ s ∈ l, wordM s = true) : PutOk rooms (fs ++ [l]) := by
  refine ⟨by simp; omega, fun i hi h2 => ?_, fun x hx => ?_⟩
  · by_cases he : i < fs.length
    · rw [List.getElem_append_left he]
      exact h.at_ i he h2
    · have : i = fs.length := by simp at hi; omega
      subst this
      simpa using h1
  · rcases List.mem_append.1 hx with hx | hx
    · exact h.w x hx
    · rw [List.mem_singleton] at hx; subst hx; exact hw
set_option maxRecDepth 100000 in
set_option maxHeartbeats 8000000 in
theorem any_any (fv xv : Value) (f : Form) (x : List Int) (w : World) (hv : ValidForm f) (hf : FormV w fv f) (hx : BytesAt w xv x) :
    Calls Tryz.prog 41 #[fv, xv] w fun e w' => ∃ u fs, e = .returned u ∧ FillsAt w' u fs ∧ PutOk (roomsM f.parts) fs ∧ fs.length = (roomsM f.parts).length ∧ Ext w w' := by
  obtain ⟨pv, rfl, hns, hp⟩ := hf
  obtain ⟨pa, pc, rfl, -⟩ := hp.shape
  obtain ⟨xa, xc, rfl, hxc, hxm⟩ := hx.shape
  obtain ⟨i0, hi, hz0, hz1, hz2⟩ := info_parts infoString
  obtain ⟨j0, hj, hy0, hy1, hy2⟩ := info_parts infoStrs
  have h5 := hv.n
  have hrs : (roomsM f.parts).length ≤ 5 := Nat.le_trans (List.length_filter_le _ _) h5
  have hrv : ∀ p ∈ roomsM f.parts, 0 ≤ p.lo ∧ p.lo ≤ p.hi ∧ 1 ≤ p.hi ∧ p.hi ≤ 3 := fun p hp => by
    have hm := List.mem_filter.1 hp
    exact (hv.parts p hm.1).room hm.2
  have Hrv := Lib.hid hrv
  clear hrv hv
  go_enter Tryz.func41, Tryz.ntmps41
  go_wp2_with fail
  refine (refRooms_any _ f h5 _ ⟨_, rfl, hns, hp.ext (by first | (with_reducible exact Ext.refl _) | (with_reducible assumption) | (show Below _ _ _; go_grown; done))⟩).mono ?_
  rintro e w1 ⟨ru, rfl, hru, hx1⟩
  have x1 : Ext w w1 := Ext.trans (by first | (with_reducible exact Ext.refl _) | (with_reducible assumption) | (show Below _ _ _; go_grown; done)) hx1
  obtain ⟨ra, rc, rfl, hrc, hrm⟩ := hru.shape
  replace hx := hx.ext x1
  obtain ⟨rooms, hrooms⟩ : ∃ rooms, rooms = roomsM f.parts := ⟨_, rfl⟩
  rw [← hrooms] at hru hrc hrs Hrv ⊢
  have Hrooms := Lib.hid hrooms
  clear hrooms
  clear hx1 hp
  go_wp2_with fail
  go_loopw [6, 7, 8] (fun ov av iv wr => ∃ (at_ : Nat) (fl : List (List ByteArray)), fl.length ≤ rooms.length ∧ at_ ≤ 4 * fl.length ∧ iv = .int .i64 fl.length ∧ av = .int .i64 at_ ∧ Ext w1 wr ∧ FillsAt wr ov fl ∧ (fl.length = 0 → ov = .slice none 0 0) ∧ PutOk rooms fl) (fun _ _ i _ => rooms.length - (intOf i).toNat)
  case atStart => exact ⟨0, [], by simp, by simp, rfl, rfl, Ext.refl _, SliceAt.nil, fun _ => rfl, ⟨by simp, by simp, by simp⟩⟩
  case round =>
    obtain ⟨at_, fl, hk, hat, rfl, rfl, hxr, hfl, hf0, hok⟩ := hrel
    obtain ⟨k, hkl⟩ : ∃ k, k = fl.length := ⟨_, rfl⟩
    rw [← hkl] at hk hat ⊢
    have Hkl := Lib.hid hkl
    have Hok := Lib.hid hok
    have Hf0 := Lib.hid hf0
    have Hfl := Lib.hid hfl
    clear hkl hok hf0 hfl
    by_cases hlt : k < rooms.length
    · have k1 : (k : Int) < (rooms.length : Int) := by omega
      obtain ⟨rb, ro, rfl, c0, c1, -⟩ := (hru.ext hxr).get hlt
      obtain ⟨g1, g2, g3, g4⟩ := Hrv.out _ (List.getElem_mem hlt)
      obtain ⟨a, ha⟩ : ∃ a : Nat, rooms[k].lo = a := ⟨rooms[k].lo.toNat, by omega⟩
      obtain ⟨b, hb⟩ : ∃ b : Nat, rooms[k].hi = b := ⟨rooms[k].hi.toNat, by omega⟩
      have Ha := Lib.hid ha
      have Hb := Lib.hid hb
      rw [ha] at c0 g1 g2
      rw [hb] at c1 g2 g3 g4
      have hx2 := hx.ext hxr
      have t1 := turnM_in hx2 at_
      have ht1 := fun w (h : Ext wr w) => lawTurn_any _ x at_ w (by omega) (hx2.ext h)
      obtain ⟨n, hn⟩ : ∃ n : Nat, turnM x at_ = n := ⟨(turnM x at_).toNat, by omega⟩
      rw [hn] at ht1
      have hab : a ≤ b := by omega
      have hb3 : b ≤ 3 := by omega
      have mq := mod_nat n (b - a + 1)
      have q1 : n % (b - a + 1) < b - a + 1 := Nat.mod_lt _ (by omega)
      generalize n % (b - a + 1) = q at *
      have ed : ((b - a + 1 : Nat) : Int) = (b : Int) - a + 1 := by omega
      rw [ed] at mq
      have w1' : IntKind.i64.wrap ((b : Int) - a) = (b : Int) - a := IntWalk.i64_in _ (by omega)
      have w2' : IntKind.i64.wrap ((b : Int) - a + 1) = (b : Int) - a + 1 := IntWalk.i64_in _ (by omega)
      have w3' : (((b : Int) - a + 1) == 0) = false := by simp; omega
      have w3'' : ¬ ((b : Int) - a + 1 = 0) := by omega
      have wq : IntKind.i64.wrap (q : Int) = q := IntWalk.i64_in _ (by omega)
      have wm : IntKind.i64.wrap ((a : Int) + q) = (a : Int) + q := IntWalk.i64_in _ (by omega)
      have wa : IntKind.i64.wrap ((at_ : Int) + 1) = (at_ : Int) + 1 := IntWalk.i64_in _ (by omega)
      clear t1 hn ha hb ed g1 g2 g3 g4
      go_wp2_with fail
      apply Facts.wp_region [.val _, .val _, .val _, .val _, .val _, .val _, .val _, .val (.int .i64 n), .val _, .val _, .val _, .val _, .val _, .val _, .val _, .val _, .val _, .val _, .val _, .val _, .val _, .val _, .val _] (by kernel_rfl) (by kernel_rfl) trivial ?main
      case main =>
        iterate 7 (refine ⟨fun w1 hx hh => ?_, ?_⟩; focus (clear hh; have e0 := hx.cell c0; have e1 := hx.cell c1; go_simp; first | exact ⟨Ext.refl _, rfl⟩ | exact Ext.refl _))
        refine ⟨fun w1 hx hh => ?_, ?_⟩
        · clear hh
          go_simp
          refine (ht1 _ hx).mono ?_
          rintro e w' ⟨rfl, rfl⟩
          exact ⟨_, rfl, Ext.refl _, rfl⟩
        iterate 15 (refine ⟨fun w1 hx hh => ?_, ?_⟩; focus (clear hh; have e0 := hx.cell c0; have e1 := hx.cell c1; go_simp; first | exact ⟨Ext.refl _, rfl⟩ | exact Ext.refl _))
        intro w2 hx hh
        clear hh
        go_simp
        have Hx := Lib.hid hx
        have hxR : Ext w1 w2 := hxr.trans hx
        have hx3 := hx2.ext hx
        clear hx ht1 c0 c1 hx2 mq w1' w2' w3' w3'' wq
        obtain ⟨mn, hmn⟩ : ∃ mn, mn = a + q := ⟨_, rfl⟩
        have hm1 : (a : Int) + q = (mn : Int) := by omega
        rw [hm1]
        have hmb : mn ≤ b := by omega
        have hma : a ≤ mn := by omega
        clear hm1 hmn wm q1
        go_wp2_with fail
        go_loopw [7, 10, 11] (fun av lv jv wi => ∃ (j : Nat) (ws : List ByteArray), j ≤ mn ∧ ws.length = j ∧ av = .int .i64 ((at_ + 1 + j : Nat) : Int) ∧ jv = .int .i64 j ∧ Ext w2 wi ∧ RowW w2.heap.size ws lv wi ∧ ∀ s ∈ ws, wordM s = true) (fun _ _ j _ => mn - (intOf j).toNat)
        case atStart => exact ⟨0, [], Nat.zero_le _, rfl, by go_num, rfl, Ext.refl _, RowW.nil, by simp⟩
        case round =>
          obtain ⟨j, ws, hj1, hj2, rfl, rfl, hxi, hown, hws⟩ := hrel
          by_cases hjl : j < mn
          · have l1 : (j : Int) < (mn : Int) := by omega
            obtain ⟨la', lc', rfl⟩ := hown.shape
            rw [hj2]
            have hx4 := hx3.ext hxi
            obtain ⟨A, hA⟩ : ∃ A, A = at_ + 1 + j := ⟨_, rfl⟩
            rw [← hA]
            have t1 := turnM_in hx4 A
            have ht2 := fun w (h : Ext wr w) => lawTurn_any _ x A w (by omega) (hx4.ext h)
            obtain ⟨m, hm⟩ : ∃ n : Nat, turnM x A = n := ⟨(turnM x A).toNat, by omega⟩
            rw [hm] at ht2
            have m8 := mod_nat m 8
            have n8 : m % 8 < 8 := Nat.mod_lt _ (by omega)
            generalize m % 8 = sd at *
            have ws' : IntKind.i64.wrap (sd : Int) = sd := IntWalk.i64_in _ (by omega)
            have s8 : (sd : Int) < 8 := by omega
            simp only [Int.cast_ofNat_Int] at m8
            have wA : IntKind.i64.wrap ((A : Int) + 1) = (A : Int) + 1 := IntWalk.i64_in _ (by omega)
            have HA := Lib.hid hA
            clear t1 hm hA
            go_wp2_with fail
            refine (said_any _).mono ?_
            rintro e w4 ⟨⟨B, rfl, hS1⟩, x4⟩
            go_wp2_with fail
            refine (ht2 _ x4).mono ?_
            rintro e w' ⟨rfl, rfl⟩
            go_wp2_with fail
            refine (said_any _).mono ?_
            rintro e w5 ⟨⟨B2, rfl, -⟩, x5⟩
            obtain ⟨b', o', e', s0, -⟩ := (hS1.ext x5).get (said_at sd n8)
            obtain ⟨rfl, rfl⟩ : B = b' ∧ 0 = o' := by simpa using e'
            have hwd := said_words saidL[sd] (List.getElem_mem (said_at sd n8))
            generalize saidL[sd] = wd at *
            have x5' : Ext wr w5 := x4.trans x5
            have hown5 := RowW.ext hown x5'
            have xw5 := hxi.trans x5'
            simp only [Nat.mul_one, Nat.zero_add] at s0
            have zB := cell_lt s0
            have hs5 := xw5.size
            have hownlt := fun k hk => World.ownsRow.lt hown5 k hk
            have wd8 := word_size hwd
            have hone : StrsAt (w5.alloc (.cells #[.string wd] 9)) (.slice (some ⟨w5.heap.size, 0, none⟩) 1 1) [wd] := StrsAt.oneAt (s := wd) (t := 9) rfl (by omega)
            have own1 := RowW.ext hown5 (ext_alloc w5 (.cells #[.string wd] 9))
            clear ht2 hown hS1 x4 x5 e' hown5 hx4
            go_wp2_with (at_builtin; go_loud (refine wpList_append_strs rfl _ _ 29 rfl w2.heap.size i0 Tryz.underlying29 hi hz0 hz1 hz2 (.slice la' ws.length lc') _ (by rw [hj2]; rfl) own1 (.slice (some ⟨w5.heap.size, 0, none⟩) 1 1) rfl [wd] hone (by simp only [List.length_cons, List.length_nil]; omega) (by simp; omega) ?_; intro v' w6 hown' hgrow _))
            go_roundw
            case rel => exact ⟨j + 1, ws ++ [wd], by omega, by simp [hj2], by rw [HA.out]; go_num, by go_num, Ext.grown (xw5.trans (ext_alloc _ _)) hgrow (fun k hk => (hownlt k hk).1), hown', fun s hs => by
              rcases List.mem_append.1 hs with h | h
              · exact hws s h
              · rw [List.mem_singleton] at h; subst h; exact hwd⟩
            case measure => simp [intOf]; omega
          · have l1 : ¬ (j : Int) < (mn : Int) := by omega
            obtain rfl : j = mn := by omega
            have hl := hown.at_ (fun s hs => by have := word_size (hws s hs); omega)
            obtain ⟨la', lc', rfl, -⟩ := hl.shape
            have xwr := (Hx.out.trans hxi)
            obtain ⟨vs, hvs, hvn, hv1, hve⟩ := fills_vals (FillsAt.ext Hfl.out xwr)
            have hfin : ∀ (u : Value) (wc : World), OwnR wr.heap.size 29 1 (vs ++ [Value.slice la' ws.length lc']).length (vs ++ [Value.slice la' ws.length lc']) u wc → Ext wr wc → FillsAt wc u (fl ++ [ws]) ∧ ((fl ++ [ws]).length = 0 → u = .slice none 0 0) ∧ PutOk rooms (fl ++ [ws]) := fun u wc ho hxc => by
              refine ⟨vals_fills ho.vals (by simp [hvn]) (fun i h1 h2 => ?_), fun h => by simp at h, Hok.out.snoc (by have := Hkl.out; omega) ?_ hws⟩
              · by_cases hi : i < vs.length
                · rw [List.getElem_append_left hi, List.getElem_append_left (by omega)]
                  exact (hve i hi (by omega)).ext hxc
                · have e1 : i = vs.length := by simp at h1; omega
                  subst e1
                  simp only [List.getElem_append_right (Nat.le_refl _), Nat.sub_self, List.getElem_cons_zero]
                  have : (fl ++ [ws])[vs.length]'h2 = ws := by simp [hvn]
                  rw [this]
                  exact hl.ext hxc
              · have := Hkl.out
                subst this
                rw [Ha.out, Hb.out]
                omega
            have Hfin := Lib.hid hfin
            have hsl : (Value.slice la' ws.length lc').oneCell' = true := rfl
            rw [hj2] at Hfin ⊢
            have row0 : (wr.alloc (.cells #[] 29)).ownsRow wr.heap.size 29 1 (.slice (some ⟨wr.heap.size, 0, none⟩) 0 0) 0 [] := World.ownsRow_made wr #[] 0 (Nat.le_refl _) (by unfold maxLen; omega) rfl
            have hlen1 := Hkl.out
            have Hlen := Lib.hid hlen1
            have tok1 : True := trivial
            have hfl8 : fl.length + 1 ≤ 5 := by omega
            have wk1 : IntKind.i64.wrap ((k : Int) + 1) = (k : Int) + 1 := IntWalk.i64_in _ (by omega)
            have kl : ((k : Int) + 1) = (((fl ++ [ws]).length : Nat) : Int) := by rw [List.length_append, ← hlen1]; simp
            have Kl := Lib.hid kl
            have hat4 : at_ + 1 + j ≤ 4 * (fl ++ [ws]).length := by rw [List.length_append, ← hlen1]; simp; omega
            have Hat4 := Lib.hid hat4
            have Hn := Lib.hid hvn
            have Hv1 := Lib.hid hv1
            clear kl hat4 hvn hv1 hve hfin hl hown hlen1
            by_cases h0 : k = 0
            · have hu : u6 = .slice none 0 0 := Hf0.out (by have := Hlen.out; omega)
              have hvs0 : vs = [] := List.eq_nil_of_length_eq_zero (by have := Hlen.out; have := Hn.out; omega)
              subst hvs0 hu
              have row1 : ((wr.alloc (.cells #[] 29)).alloc (.cells #[Value.slice la' j lc'] 29)).ownsRow wr.heap.size 29 1 (.slice (some ⟨wr.heap.size, 0, none⟩) 0 0) 0 [] := row0.alloc _
              clear h0
              go_wp2_with (at_builtin; first
                | (have _t := tok1; refine wpList_append_own_none rfl _ _ 25 rfl wr.heap.size 29 j0 1 Tryz.underlying25 hj (.slice (some ⟨wr.heap.size, 0, none⟩) 0 0) 0 [] rfl row0 rfl ?_; clear tok1)
                | (go_loud (refine wpList_append_own_at _ rfl _ _ 25 rfl wr.heap.size 29 j0 (.slice none 0 0) 1 24 Tryz.underlying25 hj hy0 hy1 hy2 rfl (by decide) (.slice (some ⟨wr.heap.size, 0, none⟩) 0 0) 0 [] rfl row1 ⟨wr.heap.size + 1, 0, none⟩ 1 1 [Value.slice la' j lc'] rfl rfl (cell_one_at (by simp [go_sem])) (by simp [Value.oneCell']) (by unfold maxLen; omega) (by omega) (by simp; omega) ?_; intro v' w6 hown' hgrow _ _)))
              have hxc : Ext wr w6 := Ext.grown (((Ext.refl wr).alloc _).alloc _) hgrow (fun k hk => by cases hk; exact Nat.le_refl _)
              obtain ⟨f1, f2, f3⟩ := Hfin.out v' w6 hown' hxc
              go_roundw
              case rel => exact ⟨at_ + 1 + j, fl ++ [ws], f3.le, Hat4.out, by rw [Kl.out], rfl, hxR.trans (hxi.trans hxc), f1, f2, f3⟩
              case measure => simp [intOf]; omega
            · have hfw := FillsAt.ext Hfl.out xwr
              obtain ⟨ua, uc, rfl, -⟩ := hfw.shape
              have hne : 0 < fl.length := by have := Hlen.out; omega
              obtain ⟨pb, po, rfl, -⟩ := SliceAt.get hfw hne
              have hcv := hvs.cells' (ext_alloc wr (.cells #[] 29))
              have hm5 : fl.length ≤ 5 := by omega
              have Hv2 : ∀ v ∈ vs, v.oneCell' = true := Hv1.out
              have hn2 := Hn.out
              clear h0 hfw hne
              go_wp2_with (at_builtin; first
                | (have _t := tok1; go_loud (refine wpList_append_own_at _ rfl _ _ 25 rfl wr.heap.size 29 j0 (.slice none 0 0) 1 24 Tryz.underlying25 hj hy0 hy1 hy2 rfl (by decide) (.slice (some ⟨wr.heap.size, 0, none⟩) 0 0) 0 [] rfl row0 ⟨pb, po, none⟩ fl.length uc vs rfl (by omega) hcv Hv2 (by unfold maxLen; omega) (by omega) (by simp) ?_; intro v1 w6 hown1 hgrow1 _ _); have row1 := World.ownsRow.alloc hown1 (.cells #[Value.slice la' j lc'] 29); clear tok1)
                | (go_loud (refine wpList_append_own_at _ rfl _ _ 25 rfl wr.heap.size 29 j0 (.slice none 0 0) 1 24 Tryz.underlying25 hj hy0 hy1 hy2 rfl (by decide) v1 (0 + fl.length) ([] ++ vs) rfl row1 ⟨w6.heap.size, 0, none⟩ 1 1 [Value.slice la' j lc'] rfl rfl (cell_one_at (by simp [go_sem])) (by simp [Value.oneCell']) (by unfold maxLen; omega) (by omega) (by have := hgrow1.size; simp at this ⊢; omega) ?_; intro v' w7 hown' hgrow2 _ _)))
              have hx6 : Ext wr w6 := Ext.grown ((Ext.refl wr).alloc _) hgrow1 (fun k hk => by cases hk; exact Nat.le_refl _)
              have hxc : Ext wr w7 := Ext.grown (hx6.alloc _) hgrow2 (fun k hk => (World.ownsRow.lt hown1 k hk).1)
              obtain ⟨f1, f2, f3⟩ := Hfin.out v' w7 (by rw [List.length_append, hn2]; rw [List.nil_append, Nat.zero_add] at hown'; exact hown') hxc
              go_roundw
              case rel => exact ⟨at_ + 1 + j, fl ++ [ws], f3.le, Hat4.out, by rw [Kl.out], rfl, hxR.trans (hxi.trans hxc), f1, f2, f3⟩
              case measure => simp [intOf]; omega
    · obtain rfl : k = rooms.length := by omega
      have hk0 := Hkl.out
      have hfl := Hfl.out
      obtain ⟨oa, oc, rfl, -⟩ := hfl.shape
      go_wp2
      go_ret
      exact ⟨_, fl, rfl, hfl, by rw [← Hrooms.out]; exact Hok.out, by rw [← Hrooms.out]; exact hk0.symm, x1.trans hxr⟩
end Go.Proofs.YtgcibmdohifiaaaGreat
