/-
  THE LINES OF A LETTER's TEXT, plain: none is empty or wider than it may be, and the first word of a line has no room on the line before it.
  LetterRound: Read of what Write returns is the letter; what Read reads is written the same; no line is wider than Width, and the first word of a line would not have gone on the line before it.
-/
import Derived.Test.YtgcibmdohifiaaaGreatBunAL
namespace Go.Proofs.YtgcibmdohifiaaaGreat
set_option linter.unusedSimpArgs false
set_option linter.unusedVariables false
set_option linter.unusedVariables false

/-- how long the first word of a line is -/
def headW (l : List UInt8) : Nat := ((splitB 32 l []).headD []).length
theorem splitB_word (c : UInt8) : ∀ (xs T cur : List UInt8) (pre : List (List UInt8)) (cw : List UInt8), (∀ b ∈ xs, b ≠ c) → splitB c T cur = pre ++ [cw] → splitB c (T ++ xs) cur = pre ++ [cw ++ xs]
  | [], T, cur, pre, cw, _, h => by simpa using h
  | x :: xs, T, cur, pre, cw, hx, h => by
    have h1 := splitB_end c T cur pre cw x h
    rw [if_neg (hx x List.mem_cons_self)] at h1
    have h2 := splitB_word c xs (T ++ [x]) cur pre (cw ++ [x]) (fun b hb => hx b (List.mem_cons_of_mem _ hb)) h1
    simpa using h2
theorem splitB_head (c : UInt8) : ∀ (A r cur : List UInt8), (splitB c (A ++ c :: r) cur).headD [] = (splitB c A cur).headD []
  | [], r, cur => by simp [splitB]
  | x :: A, r, cur => by
    rw [List.cons_append, splitB, splitB]
    split
    · rfl
    · exact splitB_head c A r _
theorem headW_more (A r : List UInt8) : headW (A ++ 32 :: r) = headW A := by unfold headW; rw [splitB_head]
theorem headW_word {x : List UInt8} (h : ∀ b ∈ x, b ≠ 32) : headW x = x.length := by
  have := splitB_word 32 x [] [] [] [] h (by rfl)
  unfold headW
  rw [List.nil_append] at this
  rw [this]; rfl
/-- no line has room for the first word of the next one -/
def Tight (width : Int) (L : List (List UInt8)) : Prop := ∀ p a b q, L = p ++ a :: b :: q → width < (a.length : Int) + 1 + headW b
structure Lined (width : Int) (L : List (List UInt8)) : Prop where
  ne : ∀ x ∈ L, x ≠ []
  wd : ∀ x ∈ L, (x.length : Int) ≤ width
  tight : Tight width L
theorem Tight.snoc {width : Int} {pre : List (List UInt8)} {cw x : List UInt8} (h : Tight width (pre ++ [cw])) (hx : width < (cw.length : Int) + 1 + headW x) : Tight width (pre ++ [cw] ++ [x]) := by
  intro p a b q e
  rcases List.eq_nil_or_concat q with rfl | ⟨q, z, rfl⟩
  · have e' : pre ++ [cw] ++ [x] = (p ++ [a]) ++ [b] := by rw [e]; simp
    obtain ⟨e1, e2⟩ := List.append_inj' e' rfl
    obtain ⟨-, e3⟩ := List.append_inj' e1 rfl
    cases e2; cases e3; exact hx
  · have e' : pre ++ [cw] ++ [x] = (p ++ a :: b :: q) ++ [z] := by rw [e, List.concat_eq_append]; simp
    exact h p a b q (List.append_inj' e' rfl).1
theorem Tight.last {width : Int} {pre : List (List UInt8)} {cw x : List UInt8} (h : Tight width (pre ++ [cw])) (hx : headW x = headW cw) : Tight width (pre ++ [x]) := by
  intro p a b q e
  rcases List.eq_nil_or_concat q with rfl | ⟨q, z, rfl⟩
  · have e' : pre ++ [x] = (p ++ [a]) ++ [b] := by rw [e]; simp
    obtain ⟨e1, e2⟩ := List.append_inj' e' rfl
    cases e2
    rw [hx]
    exact h p a cw [] (by rw [e1]; simp)
  · have e' : pre ++ [x] = (p ++ a :: b :: q) ++ [z] := by rw [e, List.concat_eq_append]; simp
    obtain ⟨e1, -⟩ := List.append_inj' e' rfl
    exact h p a b (q ++ [cw]) (by rw [e1]; simp)
theorem word_ne {x : ByteArray} (h : wordM x = true) : bytesL x ≠ [] ∧ (∀ b ∈ bytesL x, b ≠ 10) ∧ (∀ b ∈ bytesL x, b ≠ 32) ∧ (bytesL x).length ≤ 8 := by
  have h1 := word_size h
  have h2 := bytesL_len x
  have h3 := word_bytes h
  refine ⟨fun e => by rw [e] at h2; simp at h2; omega, fun b hb e => ?_, fun b hb e => ?_, by omega⟩
  · have := h3 b hb; subst e; simp at this
  · have := h3 b hb; subst e; simp at this
theorem text_lines (width : Int) (hw : 8 ≤ width) (l : List ByteArray) : (∀ s ∈ l, wordM s = true) → l ≠ [] → ∃ pre cw, splitB 10 (textSt width l).1 [] = pre ++ [cw] ∧ cw.length = (textSt width l).2.1 ∧ Lined width (pre ++ [cw]) := by
  refine snoc_ind (p := fun l => (∀ s ∈ l, wordM s = true) → l ≠ [] → ∃ pre cw, splitB 10 (textSt width l).1 [] = pre ++ [cw] ∧ cw.length = (textSt width l).2.1 ∧ Lined width (pre ++ [cw])) (fun _ h => absurd rfl h) (fun l x ih h _ => ?_) l
  obtain ⟨x1, x2, x3, x4⟩ := word_ne (h x (by simp))
  have xs := bytesL_len x
  rw [textSt_snoc]
  unfold lineStep
  by_cases h0 : (textSt width l).2.2 = false
  · rw [if_pos h0]
    refine ⟨[], bytesL x, splitB_word 10 _ [] [] [] [] x2 rfl, xs, ⟨?_, ?_, ?_⟩⟩
    · intro y hy; rw [List.nil_append, List.mem_singleton] at hy; subst hy; exact x1
    · intro y hy; rw [List.nil_append, List.mem_singleton] at hy; subst hy; omega
    · intro p a b q e
      have := congrArg List.length e
      simp at this
      omega
  · rw [if_neg h0]
    have hl : l ≠ [] := fun e => h0 (by rw [textSt_some, e]; rfl)
    obtain ⟨pre, cw, i1, i2, i3⟩ := ih (fun s hs => h s (List.mem_append_left _ hs)) hl
    by_cases h1 : ((textSt width l).2.1 : Int) + 1 + x.size ≤ width
    · rw [if_pos h1]
      refine ⟨pre, cw ++ ([32] ++ bytesL x), ?_, ?_, ⟨?_, ?_, ?_⟩⟩
      · rw [List.append_assoc]
        refine splitB_word 10 _ _ _ _ _ (fun b hb => ?_) i1
        rcases List.mem_append.1 hb with hb | hb
        · rw [List.mem_singleton] at hb; subst hb; decide
        · exact x2 b hb
      · simp only [List.length_append, List.length_singleton]; omega
      · intro y hy
        rcases List.mem_append.1 hy with hy | hy
        · exact i3.ne y (List.mem_append_left _ hy)
        · rw [List.mem_singleton] at hy; subst hy; simp
      · intro y hy
        rcases List.mem_append.1 hy with hy | hy
        · exact i3.wd y (List.mem_append_left _ hy)
        · rw [List.mem_singleton] at hy; subst hy
          simp only [List.length_append, List.length_singleton]; omega
      · exact i3.tight.last (headW_more cw (bytesL x))
    · rw [if_neg h1]
      refine ⟨pre ++ [cw], bytesL x, ?_, xs, ⟨?_, ?_, ?_⟩⟩
      · have he := splitB_end 10 _ _ _ _ 10 i1
        rw [if_pos rfl] at he
        have := splitB_word 10 (bytesL x) _ _ _ _ x2 he
        rw [List.nil_append] at this
        exact this
      · intro y hy
        rcases List.mem_append.1 hy with hy | hy
        · exact i3.ne y hy
        · rw [List.mem_singleton] at hy; subst hy; exact x1
      · intro y hy
        rcases List.mem_append.1 hy with hy | hy
        · exact i3.wd y hy
        · rw [List.mem_singleton] at hy; subst hy; omega
      · exact i3.tight.snoc (by rw [headW_word x3]; omega)
/-- the lines of a letter, and nothing behind the last one -/
theorem lines_of (width : Int) (hw : 8 ≤ width) (l : List ByteArray) (h : ∀ s ∈ l, wordM s = true) : ∃ L, splitM 10 (mkS (textM width l)) = L.map mkS ++ [mkS []] ∧ Lined width L := by
  unfold textM
  by_cases h0 : l.length = 0
  · rw [if_pos h0]
    exact ⟨[], rfl, ⟨by simp, by simp, fun p a b q e => by have := congrArg List.length e; simp at this⟩⟩
  · rw [if_neg h0]
    obtain ⟨pre, cw, i1, -, i3⟩ := text_lines width hw l h (fun e => h0 (by rw [e]; rfl))
    refine ⟨pre ++ [cw], ?_, i3⟩
    rw [splitM_mk, splitB_snoc, i1]
    simp
theorem Lined.at_ {width : Int} {L : List (List UInt8)} (h : Lined width L) (i : Nat) (hi : i < L.length) : L[i].length ≠ 0 ∧ (L[i].length : Int) ≤ width ∧ ∀ (h0 : 0 < i), width < (L[i - 1].length : Int) + 1 + headW L[i] := by
  refine ⟨fun e => h.ne _ (List.getElem_mem hi) (List.eq_nil_of_length_eq_zero e), h.wd _ (List.getElem_mem hi), fun h0 => ?_⟩
  refine h.tight (L.take (i - 1)) _ _ (L.drop (i + 1)) ?_
  have e2 := List.drop_eq_getElem_cons (l := L) (i := i) hi
  have e1 := List.drop_eq_getElem_cons (l := L) (i := i - 1) (by omega)
  rw [show i - 1 + 1 = i from by omega] at e1
  rw [← e2, ← e1, List.take_append_drop]
/-- read of what is written: the letter -/
theorem read_write {s : Shelf} {l : List ByteArray} (hv : errS s = 0) (hl : letterErrL l = 0) : readM s (writeM s l) = (l, 0) ∧ (writeM s l).size ≤ 160 ∧ writeM s l = mkS (textM s.width l) := by
  obtain ⟨h15, hwd⟩ := lettErr_ok hl
  have he : shelfErrM s l = 0 := by unfold shelfErrM; rw [if_neg (by rw [hv]; simp), hl]
  have he0 : shelfErrM s [] = 0 := by unfold shelfErrM; rw [if_neg (by rw [hv]; simp)]; rfl
  have hwr : writeM s l = mkS (textM s.width l) := by unfold writeM; rw [if_pos he]; rfl
  have hsz : (writeM s l).size ≤ 160 := by
    rw [hwr, mkS_size]
    have := (textSt_len s.width l 8 fun x hx => (word_size (hwd x hx)).2).1
    unfold textM
    split
    · simp
    · rw [List.length_append, List.length_singleton]; omega
  refine ⟨?_, hsz, hwr⟩
  have hf : fieldsM (writeM s l) = l := by rw [hwr]; exact fields_text s.width l hwd
  unfold readM
  rw [if_neg (by rw [he0]; simp), if_neg (by omega), hf, if_neg (by rw [hl]; simp), if_pos]
  rw [hwr, bytes_mkS]
/-- what is read is written the same -/
theorem write_read {s : Shelf} {t : ByteArray} (h : (readM s t).2 = 0) : shelfErrM s (readM s t).1 = 0 ∧ writeM s (readM s t).1 = t := by
  unfold readM at *
  split at h
  · rename_i h1; exact absurd h h1
  · rename_i h1
    rw [if_neg h1]
    split at h
    · exact absurd h (by decide)
    · rename_i h2
      rw [if_neg h2]
      split at h
      · exact absurd h (by decide)
      · rename_i h3
        rw [if_neg h3]
        split at h
        · rename_i h4
          rw [if_pos h4]
          have hv : errS s = 0 := by
            have h1' : shelfErrM s [] = 0 := Decidable.not_not.1 h1
            unfold shelfErrM at h1'
            by_cases h : errS s = 0
            · exact h
            · rw [if_pos h] at h1'; exact h1'
          have hl : letterErrL (fieldsM t) = 0 := Decidable.not_not.1 h3
          have he : shelfErrM s (fieldsM t) = 0 := by unfold shelfErrM; rw [if_neg (by rw [hv]; simp), hl]
          refine ⟨he, ?_⟩
          show writeM s (fieldsM t) = t
          unfold writeM
          rw [if_pos he]
          show mkS (textM s.width (fieldsM t)) = t
          rw [h4, mkS_bytes]
        · exact absurd h (by decide)
theorem read_none {s : Shelf} {t : ByteArray} (h : (readM s t).2 ≠ 0) : (readM s t).1 = [] := by
  unfold readM at *
  split at h
  · rename_i h1; rw [if_pos h1]
  · rename_i h1
    rw [if_neg h1]
    split at h
    · rename_i h2; rw [if_pos h2]
    · rename_i h2
      rw [if_neg h2]
      split at h
      · rename_i h3; rw [if_pos h3]
      · rename_i h3
        rw [if_neg h3]
        split at h
        · exact absurd rfl h
        · rename_i h4; rw [if_neg h4]
end Go.Proofs.YtgcibmdohifiaaaGreat

namespace Go.Proofs.YtgcibmdohifiaaaGreat
set_option linter.unusedSimpArgs false
set_option linter.unusedVariables false
open Go.RowKit
set_option linter.unusedVariables false

def ptB : Value → Nat
  | .pointer (some a) => a.block
  | _ => 0
def ptO : Value → Nat
  | .pointer (some a) => a.off
  | _ => 0
def adB : Option Addr → Nat
  | some a => a.block
  | none => 0
def adO : Option Addr → Nat
  | some a => a.off
  | none => 0
/-- the address of a string -/
def PtS (x : ByteArray) (u : Value) (w : World) : Prop := u = .pointer (some ⟨ptB u, ptO u, none⟩) ∧ w.cell? ⟨ptB u, ptO u, none⟩ = some (.string x)
theorem PtS.ext {x : ByteArray} {u : Value} {w w' : World} (h : PtS x u w) (hx : Ext w w') : PtS x u w' := ⟨h.1, hx.cell h.2⟩
theorem firstPt {w : World} {u : Value} {x : ByteArray} {r : List ByteArray} (h : StrsAt w u (x :: r)) : u = .slice (some ⟨adB (slA u), adO (slA u), none⟩) (r.length + 1) (slC u) ∧ w.cell? ⟨adB (slA u), adO (slA u), none⟩ = some (.string x) := by
  obtain ⟨a, c, rfl, -⟩ := h.shape
  obtain ⟨b, o, rfl, h0, -⟩ := SliceAt.get h (i := 0) (by simp)
  exact ⟨rfl, by simp at h0; exact h0⟩
theorem neR {x : Int} (h : x ≠ 0) : (x != 0) = true := by simpa using h
theorem StrsAt.getS {w : World} {a : Option Addr} {n c : Nat} {l : List ByteArray} (h : StrsAt w (.slice a n c) l) {i : Nat} (hi : i < l.length) : ∃ b o, a = some ⟨b, o, none⟩ ∧ w.cell? ⟨b, o + i, none⟩ = some (.string l[i]) := by
  obtain ⟨b, o, rfl, h0, -⟩ := SliceAt.get h hi
  exact ⟨b, o, rfl, by simpa using h0⟩
theorem first_word (y : List UInt8) : ∃ hd tl, splitM 32 (mkS y) = hd :: tl ∧ hd.size = headW y := by
  rw [splitM_mk]
  cases h : splitB 32 y [] with
  | nil => exact absurd h (splitB_end.splitB_ne 32 y [])
  | cons a r => exact ⟨mkS a, r.map mkS, rfl, by rw [mkS_size]; unfold headW; rw [h]; rfl⟩
theorem splitB_parts (c : UInt8) : ∀ (T cur : List UInt8), ∀ x ∈ splitB c T cur, x.length ≤ cur.length + T.length
  | [], cur, x, h => by rw [splitB, List.mem_singleton] at h; subst h; simp
  | y :: T, cur, x, h => by
    rw [splitB] at h
    split at h
    · rcases List.mem_cons.1 h with rfl | h
      · omega
      · have := splitB_parts c T [] x h
        simp only [List.length_nil, List.length_cons] at *; omega
    · have := splitB_parts c T _ x h
      simp only [List.length_append, List.length_cons, List.length_nil] at *; omega
theorem splitM_parts (c : UInt8) (s : ByteArray) : ∀ x ∈ splitM c s, x.size ≤ s.size := by
  intro x hx
  obtain ⟨y, hy, rfl⟩ := List.mem_map.1 hx
  have := splitB_parts c s.data.toList [] y hy
  show y.toArray.size ≤ _
  have e : s.data.toList.length = s.size := rfl
  simp only [List.size_toArray, List.length_nil] at *
  omega
set_option maxRecDepth 100000 in
set_option maxHeartbeats 4000000 in
theorem roundL_any (sv lv : Value) (s : Shelf) (l : List ByteArray) (t : ByteArray) (ht : t.size ≤ 9223372036854775807) (w : World) (hs : ShelfAt w sv s) (hl : StrsAt w lv l) :
    Calls Tryz.prog 9 #[sv, lv, .string t] w fun e w' => e = .returned (.bool true) ∧ Ext w w' := by
  obtain ⟨fa, fc, rfl, -⟩ := hs.open
  obtain ⟨la, lc, rfl, -⟩ := hl.shape
  obtain ⟨W, hW, hb, q0, q1, x1⟩ := box_shelf hs
  replace hl := hl.ext x1
  have z1 := cell_lt q0
  have HW := Lib.hid hW
  clear hs hW
  go_enter Tryz.func9, Tryz.ntmps9
  go_wp2_with fail
  rw [← HW.out]
  clear HW
  refine (write_any _ _ s l _ hb hl).mono ?_
  rintro e w2 ⟨rfl, hx⟩
  (replace hb := hb.ext hx; replace q0 := hx.cell q0; replace q1 := hx.cell q1; replace z1 := cell_lt q0; replace x1 := x1.trans hx; replace hl := hl.ext hx; clear hx)
  by_cases hbad : errS s ≠ 0 ∨ letterErrL l ≠ 0
  · have g1 : shelfErrM s l ≠ 0 := by
      unfold shelfErrM
      by_cases h1 : errS s = 0
      · rw [if_neg (by rw [h1]; simp)]
        exact hbad.resolve_left fun h => h h1
      · rw [if_pos h1]; exact h1
    have g2 : writeM s l = ⟨#[]⟩ := by unfold writeM; rw [if_neg g1]
    rw [g2]
    generalize shelfErrM s l = e1 at *
    have g1' := neR g1
    clear g1 g2
    by_cases h1 : errS s = 0
    · have h3' := neR (hbad.resolve_left fun h => h h1)
      clear hbad
      go_wp2_with fail
      refine (validL_any _ s _ hb).mono ?_
      rw [show (errS s == 0) = true from by rw [h1]; rfl]
      rintro e w3 ⟨rfl, hx⟩
      (replace hb := hb.ext hx; replace q0 := hx.cell q0; replace q1 := hx.cell q1; replace z1 := cell_lt q0; replace x1 := x1.trans hx; replace hl := hl.ext hx; clear hx)
      clear h1
      go_wp2_with fail
      refine (refLett_any _ l _ hl).mono ?_
      rintro e w4 ⟨rfl, hx⟩
      (replace hb := hb.ext hx; replace q0 := hx.cell q0; replace q1 := hx.cell q1; replace z1 := cell_lt q0; replace x1 := x1.trans hx; replace hl := hl.ext hx; clear hx)
      generalize letterErrL l = e2 at *
      go_wp2_with fail
      refine (awakeL_any _).mono ?_
      rintro e w7 ⟨rfl, hx⟩
      go_wp2
      go_ret
      exact ⟨rfl, x1.trans hx⟩
    · clear hbad
      go_wp2_with fail
      refine (validL_any _ s _ hb).mono ?_
      rw [show (errS s == 0) = false from by simpa using h1]
      rintro e w3 ⟨rfl, hx⟩
      (replace hb := hb.ext hx; replace q0 := hx.cell q0; replace q1 := hx.cell q1; replace z1 := cell_lt q0; replace x1 := x1.trans hx; replace hl := hl.ext hx; clear hx)
      clear h1
      go_wp2_with fail
      refine (awakeL_any _).mono ?_
      rintro e w7 ⟨rfl, hx⟩
      go_wp2
      go_ret
      exact ⟨rfl, x1.trans hx⟩
  · have h1 : errS s = 0 := Decidable.not_not.1 fun e => hbad (.inl e)
    have h3 : letterErrL l = 0 := Decidable.not_not.1 fun e => hbad (.inr e)
    have H1 := Lib.hid h1
    have H3 := Lib.hid h3
    have h8 := (errS_ok h1).w.1
    have h30 := (errS_ok h1).w.2
    obtain ⟨r1, r2, r3⟩ := read_write h1 h3
    obtain ⟨L, hL, hLd⟩ := lines_of s.width h8 l (lettErr_ok h3).2
    rw [← r3] at hL
    have hse : shelfErrM s l = 0 := by unfold shelfErrM; rw [if_neg (by rw [h1]; simp), h3]
    rw [hse]
    generalize writeM s l = T at *
    have R1 := Lib.hid r1
    have HL := Lib.hid hL
    have HLd := Lib.hid hLd
    clear hbad h1 h3 hse r1 r3 hL hLd
    go_wp2_with fail
    refine (validL_any _ s _ hb).mono ?_
    rw [show (errS s == 0) = true from by rw [H1.out]; rfl]
    rintro e w3 ⟨rfl, hx⟩
    (replace hb := hb.ext hx; replace q0 := hx.cell q0; replace q1 := hx.cell q1; replace z1 := cell_lt q0; replace x1 := x1.trans hx; replace hl := hl.ext hx; clear hx)
    go_wp2_with fail
    refine (refLett_any _ l _ hl).mono ?_
    rw [H3.out]
    rintro e w4 ⟨rfl, hx⟩
    (replace hb := hb.ext hx; replace q0 := hx.cell q0; replace q1 := hx.cell q1; replace z1 := cell_lt q0; replace x1 := x1.trans hx; replace hl := hl.ext hx; clear hx)
    go_wp2_with fail
    refine (read_any _ s T (by omega) _ hb).mono ?_
    rintro e w5 ⟨u, rfl, hwe, hx⟩
    rw [R1.out] at hwe
    obtain ⟨v, rfl, hv, -⟩ := hwe
    (replace hb := hb.ext hx; replace q0 := hx.cell q0; replace q1 := hx.cell q1; replace z1 := cell_lt q0; replace x1 := x1.trans hx; replace hl := hl.ext hx; clear hx)
    obtain ⟨va, vc, rfl, -⟩ := hv.shape
    have r2' : ¬ ((160 : Int) < (T.size : Int)) := by omega
    go_wp2_with fail
    refine (same_any _ _ l l _ hl hv).mono ?_
    rw [decide_eq_true rfl]
    rintro e w6 ⟨rfl, hx⟩
    (replace hb := hb.ext hx; replace q0 := hx.cell q0; replace q1 := hx.cell q1; replace z1 := cell_lt q0; replace x1 := x1.trans hx; replace hl := hl.ext hx; clear hx)
    clear hv
    go_wp2_with fail
    have hsp := split_any 10 T (by omega) w6
    rw [HL.out] at hsp
    refine hsp.mono ?_
    rintro e w7 ⟨u, rfl, hrow, hx⟩
    (replace hb := hb.ext hx; replace q0 := hx.cell q0; replace q1 := hx.cell q1; replace z1 := cell_lt q0; replace x1 := x1.trans hx; replace hl := hl.ext hx; clear hx)
    have hat := hrow.at_ (by
      intro x hx
      rcases List.mem_append.1 hx with hx | hx
      · obtain ⟨y, hy, rfl⟩ := List.mem_map.1 hx
        rw [mkS_size]
        have := HLd.out.wd y hy
        omega
      · rw [List.mem_singleton] at hx; subst hx; rw [mkS_size]; simp)
    have hlen : (L.map mkS ++ [mkS []]).length = L.length + 1 := by simp
    obtain ⟨ua, uc, rfl, huc, hum⟩ := hat.shape
    rw [hlen] at huc ⊢
    clear hsp hrow
    go_wp2_with fail
    obtain ⟨N, hN⟩ : ∃ N, N = L.length + 1 := ⟨_, rfl⟩
    rw [← hN] at hlen huc ⊢
    have HN := Lib.hid hN
    have Hlen := Lib.hid hlen
    clear hN hlen
    go_loopw [12] (fun i wr => ∃ k : Nat, k ≤ L.length ∧ i = .int .i64 k ∧ Ext w7 wr) (fun i _ => L.length - (intOf i).toNat)
    case atStart => exact ⟨0, Nat.zero_le _, rfl, Ext.refl _⟩
    case round =>
      obtain ⟨k, hk, rfl, hxr⟩ := hrel
      replace hb := hb.ext hxr
      replace q0 := hxr.cell q0
      replace q1 := hxr.cell q1
      replace z1 := cell_lt q0
      replace hat := hat.ext hxr
      by_cases hlt : k < L.length
      · have k1 : (k : Int) < (L.length : Int) := by omega
        have k2 : (k : Int) + 1 < (N : Int) := by have := HN.out; omega
        have k3 : (k : Int) < (N : Int) := by have := HN.out; omega
        obtain ⟨ub, uo, rfl, c0⟩ := hat.getS (i := k) (by rw [Hlen.out, HN.out]; omega)
        have e1 : (L.map mkS ++ [mkS []])[k]'(by rw [Hlen.out, HN.out]; omega) = mkS L[k] := by simp [hlt]
        rw [e1] at c0
        obtain ⟨y1, y2, y3⟩ := HLd.out.at_ k hlt
        obtain ⟨hd, tl, hsp, hdw⟩ := first_word L[k]
        have ysz := mkS_size L[k]
        rw [← ysz] at y1 y2
        rw [← hdw] at y3
        have hsp2 := split_any 32 (mkS L[k]) (by omega)
        have hpt := splitM_parts 32 (mkS L[k])
        rw [hsp] at hsp2 hpt
        generalize mkS L[k] = x at *
        have y1' : ((x.size : Int) == 0) = false := by simpa using y1
        have y2' : ¬ s.width < (x.size : Int) := by omega
        clear e1 ysz hsp hdw
        by_cases hk0 : k = 0
        · clear hsp2 hpt y3
          subst hk0
          simp only [Nat.add_zero, Int.natCast_zero, Int.zero_add] at c0 k1 k2 k3
          have k5 : 0 < N := by omega
          go_wp2_with fail
          apply Facts.wp_region [.val _, .val _, .val _, .val _, .val _, .val _, .val _, .val _, .val _, .val _, .val _, .val _, .val _, .val _, .val _, .val _] (by kernel_rfl) (by kernel_rfl) trivial ?main
          case main =>
            iterate 16 (refine ⟨fun w1 hx hh => ?_, ?_⟩; focus (clear hh; have e0 := hx.cell c0; have e1 := hx.cell q0; go_simp; first | exact ⟨Ext.refl _, rfl⟩ | exact Ext.refl _))
            intro w8 hx hh
            clear hh
            replace q0 := hx.cell q0
            replace c0 := hx.cell c0
            replace hxr := hxr.trans hx
            clear hx
            go_simp
            go_wp2
            apply Facts.wp_region [.val _, .val _, .val _, .val _, .val _, .val _, .val _, .val _, .val _, .val _, .val _, .val _, .val _, .val _, .val _, .val _, .val _, .val _, .val _, .val _, .val _, .val _, .val _] (by kernel_rfl) (by kernel_rfl) trivial ?main3
            case main3 =>
            iterate 23 (refine ⟨fun w1 hx hh => ?_, ?_⟩; focus (clear hh; have e0 := hx.cell c0; have e1 := hx.cell q0; go_simp; first | exact ⟨Ext.refl _, rfl⟩ | exact Ext.refl _))
            intro w9 hx hh
            clear hh
            replace hxr := hxr.trans hx
            clear hx
            go_simp
            go_wp2
            go_roundw
            case rel => exact ⟨1, by omega, by go_num, hxr⟩
            case measure => simp [intOf]; omega
        · have hjl : k - 1 < L.length := by omega
          obtain ⟨ub', uo', ee, c1⟩ := hat.getS (i := k - 1) (by rw [Hlen.out, HN.out]; omega)
          cases ee
          have e1 : (L.map mkS ++ [mkS []])[k - 1]'(by rw [Hlen.out, HN.out]; omega) = mkS L[k - 1] := by simp [hjl]
          rw [e1] at c1
          have y4 := y3 (by omega)
          have hdx : hd.size ≤ x.size := hpt hd List.mem_cons_self
          have ysz := mkS_size L[k - 1]
          rw [← ysz] at y4
          have z100 : L[k - 1].length ≤ 30 := by have := HLd.out.wd _ (List.getElem_mem hjl); omega
          rw [← ysz] at z100
          generalize mkS L[k - 1] = z at *
          have y4' : ¬ (z.size : Int) + 1 + (hd.size : Int) ≤ s.width := by omega
          have j1 : (0 : Int) < (k : Int) := by omega
          have j0 : 0 < k := by omega
          have j6 : (1 : Int) ≤ (k : Int) := by omega
          have wk : IntKind.i64.wrap ((k : Int) - 1) = (k : Int) - 1 := IntWalk.i64_in _ (by omega)
          have wz : IntKind.i64.wrap ((z.size : Int) + 1) = (z.size : Int) + 1 := IntWalk.i64_in _ (by omega)
          have wh : IntKind.i64.wrap ((z.size : Int) + 1 + (hd.size : Int)) = (z.size : Int) + 1 + (hd.size : Int) := IntWalk.i64_in _ (by omega)
          have j2 : (0 : Int) ≤ (k : Int) - 1 := by omega
          have j3 : (k : Int) - 1 < (N : Int) := by have := HN.out; omega
          have j4 : ((k : Int) - 1).toNat = k - 1 := by omega
          have hat2 : ∀ w u, RowW w.heap.size (hd :: tl) u w → StrsAt w u (hd :: tl) := fun w u h => h.at_ fun s hs => by have := hpt s hs; omega
          have Hat2 := Lib.hid hpt
          clear e1 ysz y3 y4 hk0 hpt hat2
          go_wp2_with fail
          apply Facts.wp_region [.val _, .val _, .val _, .val _, .val _, .val _, .val _, .val _, .val _, .val _, .val _, .val _, .val _, .val _, .val _, .val _] (by kernel_rfl) (by kernel_rfl) trivial ?main
          case main =>
            iterate 16 (refine ⟨fun w1 hx hh => ?_, ?_⟩; focus (clear hh; have e0 := hx.cell c0; have e1 := hx.cell q0; go_simp; first | exact ⟨Ext.refl _, rfl⟩ | exact Ext.refl _))
            intro w8 hx hh
            clear hh
            replace q0 := hx.cell q0
            replace c0 := hx.cell c0
            replace hxr := hxr.trans hx
            replace c1 := hx.cell c1
            clear hx
            go_simp
            go_wp2_with fail
            apply Facts.wp_region [.val _, .val _, .val _, .val _, .val _, .val _, .val _, .val _, .val _, .val _, .val _, .val _, .val _, .val _, .fact (fun u w => StrsAt w u (hd :: tl)), .fact (PtS hd), .val _, .val _, .val _, .val _, .val _, .val _, .val _] (by kernel_rfl) (by kernel_rfl) ⟨fun u a c hx h => StrsAt.ext h hx, fun u a c hx h => PtS.ext h hx, trivial⟩ ?main2
            case main2 =>
              iterate 14 (refine ⟨fun w1 hx hh => ?_, ?_⟩; focus (clear hh; have e0 := hx.cell c0; have e1 := hx.cell c1; have e2 := hx.cell q0; go_simp; first | exact ⟨Ext.refl _, rfl⟩ | exact Ext.refl _))
              refine ⟨fun w1 hx hh => ?_, ?_⟩
              · clear hh
                go_simp
                refine (hsp2 _).mono ?_
                rintro e w' ⟨u, rfl, hr, hx⟩
                exact ⟨_, rfl, hx, hr.at_ fun s hs => by have := Hat2.out s hs; omega⟩
              intro u1
              refine ⟨fun w1 hx hh => ?_, ?_⟩
              · have h1 : StrsAt w1 u1 (hd :: tl) := hh 14 _ List.mem_cons_self (by kernel_rfl)
                have e := (firstPt h1).1
                have ec := (firstPt h1).2
                clear hh h1
                generalize adB (slA u1) = b at *
                generalize adO (slA u1) = o at *
                generalize slC u1 = c' at *
                have t0 : 0 < tl.length + 1 := Nat.succ_pos _
                generalize tl.length + 1 = M at *
                have t1 : (0 : Int) < (M : Int) := by omega
                subst e
                go_simp
                exact ⟨Ext.refl _, rfl, ec⟩
              intro u2
              refine ⟨fun w1 hx hh => ?_, ?_⟩
              · have h1 : PtS hd u2 w1 := hh 15 _ List.mem_cons_self (by kernel_rfl)
                have e := h1.1
                have ec := h1.2
                clear hh h1
                generalize ptB u2 = b at *
                generalize ptO u2 = o at *
                subst e
                go_simp
                exact ⟨Ext.refl _, rfl⟩
              iterate 6 (refine ⟨fun w1 hx hh => ?_, ?_⟩; focus (clear hh; have e2 := hx.cell q0; go_simp; first | exact ⟨Ext.refl _, rfl⟩ | exact Ext.refl _))
              intro w9 hx hh
              clear hh
              replace hxr := hxr.trans hx
              clear hx
              go_simp
              go_wp2
              go_roundw
              case rel => exact ⟨k + 1, by omega, by go_num, hxr⟩
              case measure => simp [intOf]; omega
      · have hke : k = L.length := by omega
        subst hke
        have k1 : ¬ (L.length : Int) + 1 < (N : Int) := by have := HN.out; omega
        have wk : IntKind.i64.wrap ((L.length : Int) + 1) = (L.length : Int) + 1 := IntWalk.i64_in _ (by have := HN.out; omega)
        by_cases hg : (readM s t).2 = 0
        · obtain ⟨w1, w2⟩ := write_read hg
          have hn : ((readM s t).2 != 0) = false := by simpa using hg
          obtain ⟨ws, hws⟩ : ∃ ws, (readM s t).1 = ws := ⟨_, rfl⟩
          rw [hws] at w1 w2
          have hrd : readM s t = (ws, 0) := Prod.ext hws hg
          have Hrd := Lib.hid hrd
          have W1 := Lib.hid w1
          have W2 := Lib.hid w2
          clear w1 w2 hws hg hn hrd hat
          go_wp2_with fail
          refine (read_any _ s t ht _ hb).mono ?_
          rintro e w8 ⟨u, rfl, hwe, hx⟩
          rw [Hrd.out] at hwe
          obtain ⟨v, rfl, hv, -⟩ := hwe
          replace hb := hb.ext hx
          replace q0 := hx.cell q0
          replace q1 := hx.cell q1
          replace z1 := cell_lt q0
          replace x1 := (x1.trans hxr).trans hx
          clear hx
          obtain ⟨va, vc, rfl, -⟩ := hv.shape
          go_wp2_with fail
          refine (write_any _ _ s ws _ hb hv).mono ?_
          rw [W1.out, W2.out]
          rintro e w9 ⟨rfl, hx⟩
          replace x1 := x1.trans hx
          clear hx hb hv
          go_wp2_with fail
          refine (awakeL_any _).mono ?_
          rintro e w10 ⟨rfl, hx⟩
          go_wp2
          go_ret
          exact ⟨rfl, x1.trans hx⟩
        · have hn := neR hg
          have hws := read_none hg
          obtain ⟨er, her⟩ : ∃ er, (readM s t).2 = er := ⟨_, rfl⟩
          rw [her] at hn
          have hrd : readM s t = ([], er) := Prod.ext hws her
          have Hrd := Lib.hid hrd
          clear hws hg hrd hat her
          go_wp2_with fail
          refine (read_any _ s t ht _ hb).mono ?_
          rintro e w8 ⟨u, rfl, hwe, hx⟩
          rw [Hrd.out] at hwe
          obtain ⟨v, rfl, hv, -⟩ := hwe
          replace x1 := (x1.trans hxr).trans hx
          clear hx hb
          obtain ⟨va, vc, rfl, -⟩ := hv.shape
          go_wp2_with fail
          refine (awakeL_any _).mono ?_
          rintro e w10 ⟨rfl, hx⟩
          go_wp2
          go_ret
          exact ⟨rfl, x1.trans hx⟩
end Go.Proofs.YtgcibmdohifiaaaGreat
