/-
  WHAT ear.Spell RETURNS, for any book, number and list: the text and the error that the document says.
-/
import Derived.Test.YtbodmgilcohfjaaValid
namespace Go.Proofs.Ytbodmgilcohfjaa
open Go.RowKit
set_option linter.unusedSimpArgs false

def spellM (b : Book) (a : Int) (heard : List Int) : ByteArray × Int :=
  if errM b ≠ 0 then (⟨#[]⟩, errM b) else match b.alphabets[a.toNat]? with
    | none => (⟨#[]⟩, 4)
    | some x => if a < 0 then (⟨#[]⟩, 4) else if heardErrM b.sounds heard ≠ 0 then (⟨#[]⟩, heardErrM b.sounds heard) else (strOf (shortS x.letters (wantedM heard)), shortE x.letters (wantedM heard))
theorem openM_nil (b : Book) : openM b [] = errM b := by
  unfold openM
  split
  · rfl
  · rename_i h
    rw [if_neg (by simp [withinM])]
    have : errM b = 0 := by simpa using h
    exact this.symm

set_option maxRecDepth 100000 in
set_option maxHeartbeats 1000000 in
theorem spell_any (bv hv : Value) (b : Book) (a : Int) (ha : I64 a) (heard : List Int) (w : World) (hb : BookAt w bv b) (hh : IntsAt w hv heard) :
    Calls Try.prog 35 #[bv, .int .i64 a, hv] w fun e w' => e = .returned (.tuple #[.string (spellM b a heard).1, .int .i64 (spellM b a heard).2]) ∧ Ext w w' := by
  obtain ⟨ba, bc, bs, bd, rfl, -⟩ := hb.open
  go_enter Try.func35, Try.ntmps35
  go_wp2_with fail
  refine (open_any _ _ b [] _ (hb.ext (by first | (with_reducible exact Ext.refl _) | (with_reducible assumption) | (show Below _ _ _; go_grown; done))) SliceAt.nil).mono ?_
  rintro e w1 ⟨u, rfl, ⟨uv, rfl, hok, hbad⟩, hx1⟩
  have x1 : Ext w w1 := Ext.trans (by first | (with_reducible exact Ext.refl _) | (with_reducible assumption) | (show Below _ _ _; go_grown; done)) hx1
  rw [openM_nil] at hok hbad ⊢
  generalize herr : errM b = er at *
  have Herr := Lib.hid herr
  clear herr
  by_cases h0 : er = 0
  rotate_left
  · have h0' : (er != 0) = true := by simpa using h0
    have hu := hbad h0
    subst hu
    have H0 := Lib.hid h0
    clear h0 hok hbad
    unfold emptyBook
    go_wp2_with fail
    go_ret2
    exact ⟨ret_strInt (by rw [spellM, Herr.out, if_pos H0.out]) (by rw [spellM, Herr.out, if_pos H0.out]), x1.alloc _⟩
  have hub := hok h0
  clear hbad hok
  subst h0
  have hval := valid_of Herr.out
  obtain ⟨ca, cc, cs, cd, rfl, -, hcl, hcc, -, -, hub', -, -⟩ := hub.open
  have hns := hval.a
  have hSS := hval.s
  have Hval := Lib.hid hval
  clear hval hub
  go_wp2_with fail
  refine (within_any _ _ _ [a] _ (IntsAt.oneAt (by simp) ha)).mono ?_
  rintro e w' ⟨rfl, rfl⟩
  rw [withinM_one]
  cases h1 : inM a 0 (b.alphabets.length - 1)
  · have hn : ¬ (0 ≤ a ∧ a ≤ b.alphabets.length - 1) := fun h => by rw [(inM_iff _ _ _).2 h] at h1; cases h1
    have hsp : spellM b a heard = (⟨#[]⟩, 4) := by
      rw [spellM, Herr.out, if_neg (by decide)]
      by_cases hneg : a < 0
      · cases b.alphabets[a.toNat]? <;> simp [hneg]
      · rw [List.getElem?_eq_none (by omega)]
    have Hsp := Lib.hid hsp
    clear hsp h1 hn
    go_wp2_with fail
    go_ret2
    exact ⟨ret_strInt (by rw [Hsp.out]) (by rw [Hsp.out]), (x1.alloc _).alloc _⟩
  have hin := (inM_iff _ _ _).1 h1
  have H1 := Lib.hid h1
  clear h1
  go_wp2_with fail
  have x2 : Ext w ((w1.alloc (.cells #[.int .i64 b.sounds, .slice ca b.alphabets.length cc, .slice cs b.spellings.length cd] 75)).alloc (.cells #[.int .i64 a] 3)) := (x1.alloc _).alloc _
  refine (heardError_any _ _ b hSS heard _ (hub'.ext ((ext_alloc _ _).alloc _)) (hh.ext x2)).mono ?_
  rintro e w3 ⟨rfl, hx3⟩
  have x3 := x2.trans hx3
  have q0 : w3.cell? ⟨w1.heap.size, 0, none⟩ = some (.int .i64 b.sounds) := hx3.cell (by simp [go_sem])
  have q1 : w3.cell? ⟨w1.heap.size, 1, none⟩ = some (.slice ca b.alphabets.length cc) := hx3.cell (by simp [go_sem])
  have q2 : w3.cell? ⟨w1.heap.size, 2, none⟩ = some (.slice cs b.spellings.length cd) := hx3.cell (by simp [go_sem])
  have hlt : a.toNat < b.alphabets.length := by omega
  have hsp : spellM b a heard = if heardErrM b.sounds heard ≠ 0 then (⟨#[]⟩, heardErrM b.sounds heard) else (strOf (shortS (b.alphabets[a.toNat]).letters (wantedM heard)), shortE (b.alphabets[a.toNat]).letters (wantedM heard)) := by
    rw [spellM, Herr.out, if_neg (by decide), List.getElem?_eq_getElem hlt]
    simp only
    rw [if_neg (by omega)]
  have Hsp := Lib.hid hsp
  clear hsp
  generalize hhe : heardErrM b.sounds heard = he at *
  have Hhe := Lib.hid hhe
  clear hhe
  by_cases h2 : he = 0
  rotate_left
  · have h2' : (he != 0) = true := by simpa using h2
    have H2 := Lib.hid h2
    clear h2
    go_wp2_with fail
    go_ret2
    exact ⟨ret_strInt (by rw [Hsp.out, if_pos H2.out]) (by rw [Hsp.out, if_pos H2.out]), x3⟩
  subst h2
  have hlen : heard.length ≤ 5 ∧ withinM 0 (b.sounds - 1) heard = true := by
    have := Hhe.out
    unfold heardErrM at this
    split at this
    · cases this
    split at this
    · cases this
    rename_i g1 g2
    exact ⟨by omega, by simpa using g2⟩
  have hrange : ∀ s ∈ heard, 0 ≤ s ∧ s ≤ 3 := fun s hs => by
    have := withinM_spec hlen.2 s hs
    omega
  have Hr := Lib.hid hrange
  clear hrange
  obtain ⟨n, hn⟩ : ∃ n : Nat, a = n := ⟨a.toNat, by omega⟩
  have hsub : a.toNat = n := by omega
  go_wp2_with fail
  subst hn
  have hnl : n < b.alphabets.length := by omega
  refine (shortest_any _ _ b n hnl heard Hr.out hlen.1 (Hval.out.fine n hnl) w3 (hub'.ext (Ext.trans ((ext_alloc _ _).alloc _) hx3)) (hh.ext x3)).mono ?_
  rintro e w4 ⟨rfl, hx4⟩
  have Hfin : Hid (spellM b n heard = (strOf (shortS (b.alphabets[n]).letters (wantedM heard)), shortE (b.alphabets[n]).letters (wantedM heard))) := Lib.hid (by
    have := Hsp.out
    rw [if_neg (by decide)] at this
    simpa using this)
  go_wp2
  go_ret2
  exact ⟨ret_strInt (by rw [Hfin.out]) (by rw [Hfin.out]), x3.trans hx4⟩
end Go.Proofs.Ytbodmgilcohfjaa
