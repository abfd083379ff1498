/-
  ALL TRUTHS BEHIND AN ERROR, THE ERROR OF AN INDEX, First: of the reference.
  THE LEAST SPAN THAT HAS A NUMBER AND ANOTHER SPAN: join of the reference.
  WHAT Rate OF THE REFERENCE RETURNS: the same as that of rate.
  RateFirsts: Check, First and Rate return what the reference does.
-/
import Derived.Test.YtdadffmagfknoaaBunAN
import Derived.Test.YtdadffmagfknoaaBunAO
import Derived.Test.YtdadffmagfknoaaBunAK
import Derived.Test.YtdadffmagfknoaaBunAM
namespace Go.Proofs.Ytdadffmagfknoaa
set_option linter.unusedSimpArgs false
set_option linter.unusedVariables false
open Go.RowKit
set_option linter.unusedVariables false
set_option maxRecDepth 100000

def knErr (h : House) (e : Int) : Int := if e ≠ 0 then e else if truL h (outB 0) = [] then 8 else 0
/-- what known returns: truths and no error, or none and an error -/
def KnownR (h : House) (e : Int) (u : Value) (w : World) : Prop := ∃ v er, u = .tuple #[v, .int .i64 er] ∧ er = knErr h e ∧ (∃ a n c, v = .slice a n c) ∧ (er = 0 → ListsAtI w v (truL h (outB 0)))
theorem KnownR.ext {h : House} {e : Int} {u : Value} {w w' : World} (hk : KnownR h e u w) (hx : Ext w w') : KnownR h e u w' := by
  obtain ⟨v, er, h1, h2, h3, h4⟩ := hk
  exact ⟨v, er, h1, h2, h3, fun e0 => (h4 e0).ext hx⟩
set_option maxHeartbeats 1000000 in
theorem refKnown_any (hv : Value) (h : House) (e : Int) (w : World) (hh : HouseAt w hv h) (hV : e = 0 → ValidH h) :
    Calls Try.prog 64 #[hv, .int .i64 e] w fun r w' => ∃ u, r = .returned u ∧ KnownR h e u w' ∧ Ext w w' := by
  have htr := fun hV w1 (hx : Ext w w1) => refTruths_any hv (.slice none 0 0) h hV [] w1 (hh.ext hx) SliceAt.nil
  rw [outL_nil] at htr
  unfold KnownR
  have hke : knErr h e = if e ≠ 0 then e else if truL h (outB 0) = [] then 8 else 0 := rfl
  obtain ⟨ra, rc, aa, ac, ea, ec, rfl, -⟩ := hh
  generalize truL h (outB 0) = T at *
  generalize knErr h e = kr at *
  have HK := Lib.hid hke
  clear hke
  by_cases h0 : e = 0
  · subst h0
    have ht := htr (hV rfl)
    clear htr hV
    go_enter Try.func64, Try.ntmps64
    go_wp2_with fail
    refine (ht _ (ext_alloc _ _)).mono ?_
    rintro e w2 ⟨u, rfl, hu, hx2⟩
    have x2 : Ext w w2 := hx2.of_alloc
    obtain ⟨a, c, rfl, -⟩ := hu.shape
    by_cases hT : T = []
    · have hz : T.length = 0 := by rw [hT]; rfl
      have HT := Lib.hid hT
      clear hT ht
      rw [hz]
      clear hz hu hx2
      go_wp2
      go_ret2
      exact ⟨_, rfl, ⟨_, _, rfl, by rw [HK.out, if_neg (by decide), if_pos HT.out], ⟨_, _, _, rfl⟩, fun h => by cases h⟩, x2⟩
    · have hz : ((T.length : Int) == 0) = false := by have := List.length_pos_iff.2 hT; rw [beq_eq_false_iff_ne]; omega
      have HT := Lib.hid hT
      have HU := Lib.hid hu
      obtain ⟨n, hn⟩ : ∃ n, n = T.length := ⟨_, rfl⟩
      rw [← hn] at hz ⊢
      have Hn := Lib.hid hn
      clear hT ht hu hx2 hn
      go_wp2
      go_ret2
      exact ⟨_, rfl, ⟨_, _, rfl, by rw [HK.out, if_neg (by decide), if_neg HT.out], ⟨_, _, _, rfl⟩, fun _ => by rw [Hn.out]; exact HU.out⟩, x2⟩
  · have h0' : (e != 0) = true := by simpa using h0
    have H0 := Lib.hid h0
    clear h0 htr hV
    go_enter Try.func64, Try.ntmps64
    go_wp2
    go_ret2
    exact ⟨_, rfl, ⟨_, _, rfl, by rw [HK.out, if_pos H0.out], ⟨_, _, _, rfl⟩, fun e0 => absurd e0 H0.out⟩, (by first | (with_reducible exact Ext.refl _) | (with_reducible assumption) | (show Below _ _ _; go_grown; done))⟩
def idxErr (h : House) (n below : Int) : Int := if raErr h ≠ 0 then raErr h else if inM n 0 (below - 1) = false then 4 else 0
set_option maxHeartbeats 1000000 in
theorem refIndex_any (hv : Value) (h : House) (n below : Int) (w : World) (hh : HouseAt w hv h) (hb : raErr h = 0 → 0 ≤ below ∧ below ≤ 100) :
    Calls Try.prog 68 #[hv, .int .i64 n, .int .i64 below] w fun r w' => r = .returned (.int .i64 (idxErr h n below)) ∧ Ext w w' := by
  have hck := fun w1 (hx : Ext w w1) => refCheck8_any hv h w1 (hh.ext hx)
  obtain ⟨ra, rc, aa, ac, ea, ec, rfl, -⟩ := hh
  have hre : (raCheck h).2.2 = raErr h := rfl
  rw [hre] at hck
  have hie : idxErr h n below = if raErr h ≠ 0 then raErr h else if inM n 0 (below - 1) = false then 4 else 0 := rfl
  generalize idxErr h n below = ie at *
  generalize raErr h = er at *
  have HI := Lib.hid hie
  clear hie
  go_enter Try.func68, Try.ntmps68
  go_wp2_with fail
  refine (hck _ (ext_alloc _ _)).mono ?_
  rintro e w1 ⟨rfl, hx⟩
  have x1 : Ext w w1 := hx.of_alloc
  clear hx hck
  by_cases h0 : er = 0
  · have hb2 := hb h0
    subst h0
    have wb : IntKind.i64.wrap (below - 1) = below - 1 := IntWalk.i64_in _ (by omega)
    clear hb
    go_wp2_with fail
    (refine (In_any _ _ _ _).mono ?_; rintro e w' ⟨rfl, rfl⟩)
    cases hq : inM n 0 (below - 1)
    · have HQ := Lib.hid hq
      clear hq
      go_wp2
      go_ret
      exact ⟨ret_int (by rw [HI.out, if_neg (by decide), if_pos HQ.out]), x1⟩
    · have HQ := Lib.hid hq
      clear hq
      go_wp2
      go_ret
      exact ⟨ret_int (by rw [HI.out, if_neg (by decide), HQ.out]; rfl), x1⟩
  · have h0' : (er == 0) = false := by simpa using h0
    have H0 := Lib.hid h0
    clear h0 hb
    go_wp2
    go_ret
    exact ⟨ret_int (by rw [HI.out, if_pos H0.out]), x1⟩
set_option maxHeartbeats 1000000 in
theorem refFirst_any (hv : Value) (h : House) (w : World) (hh : HouseAt w hv h) :
    Calls Try.prog 19 #[hv] w fun e w' => ∃ v, e = .returned (.tuple #[v, .int .i64 (firstNM h), .int .i64 (firstErrM h)]) ∧ IntsAt w' v (firstLM h) ∧ Ext w w' := by
  have hck := fun w1 (hx : Ext w w1) => refCheck8_any hv h w1 (hh.ext hx)
  have hkn := fun w1 (hx : Ext w w1) => refKnown_any hv h (raErr h) w1 (hh.ext hx) (fun e => validH_of e)
  obtain ⟨ra, rc, aa, ac, ea, ec, rfl, -⟩ := hh
  have hre : (raCheck h).2.2 = raErr h := rfl
  rw [hre] at hck
  have hfe : firstErrM h = if raErr h ≠ 0 then raErr h else if truL h (outB 0) = [] then 8 else 0 := rfl
  have hfl : firstLM h = if raErr h ≠ 0 then [] else (truL h (outB 0)).headD [] := rfl
  have hfn : firstNM h = if raErr h ≠ 0 then 0 else (truL h (outB 0)).length := rfl
  unfold KnownR at hkn
  have hke : knErr h (raErr h) = if raErr h ≠ 0 then raErr h else if truL h (outB 0) = [] then 8 else 0 := rfl
  generalize knErr h (raErr h) = kr at *
  generalize firstErrM h = fe at *
  generalize firstLM h = fl at *
  generalize firstNM h = fn at *
  generalize truL h (outB 0) = T at *
  generalize raErr h = er at *
  have Hfe := Lib.hid hfe
  have Hfl := Lib.hid hfl
  have Hfn := Lib.hid hfn
  have Hke := Lib.hid hke
  clear hfe hfl hfn hke
  go_enter Try.func19, Try.ntmps19
  go_wp2_with fail
  refine (hck _ (ext_alloc _ _)).mono ?_
  rintro e w1 ⟨rfl, hx⟩
  have x1 : Ext w w1 := hx.of_alloc
  have p0 : w1.cell? ⟨w.heap.size, 0, none⟩ = some (.int .i64 h.days) := hx.cell (by simp [go_sem])
  have p1 : w1.cell? ⟨w.heap.size, 1, none⟩ = some (.slice ra h.rates.length rc) := hx.cell (by simp [go_sem])
  have p2 : w1.cell? ⟨w.heap.size, 2, none⟩ = some (.int .i64 h.step) := hx.cell (by simp [go_sem])
  have p3 : w1.cell? ⟨w.heap.size, 3, none⟩ = some (.slice aa h.agents.length ac) := hx.cell (by simp [go_sem])
  have p4 : w1.cell? ⟨w.heap.size, 4, none⟩ = some (.slice ea h.entries.length ec) := hx.cell (by simp [go_sem])
  have z0 := cell_lt p0
  clear hx hck
  go_wp2_with fail
  refine (hkn _ x1).mono ?_
  rintro e w2 ⟨u, rfl, ⟨v, ek, rfl, hek, ⟨a, n, c, rfl⟩, hu⟩, hx2⟩
  rw [Hke.out] at hek
  have x2 := x1.trans hx2
  clear hx2 hkn p0 p1 p2 p3 p4 z0 x1
  by_cases h0 : ek = 0
  · have hU := hu h0
    have her : er = 0 := Decidable.byContradiction fun h1 => by rw [if_pos h1] at hek; exact h1 (by omega)
    have hT : T ≠ [] := fun h1 => by rw [if_neg (fun h2 => h2 her), if_pos h1] at hek; omega
    subst h0
    obtain ⟨t, T', rfl⟩ := List.exists_cons_of_ne_nil hT
    have f1 : fe = 0 := by rw [Hfe.out, if_neg (fun h2 => h2 her), if_neg hT]
    have f2 : fl = t := by rw [Hfl.out, if_neg (fun h2 => h2 her)]; rfl
    have f3 : fn = (t :: T').length := by rw [Hfn.out, if_neg (fun h2 => h2 her)]
    obtain ⟨a', c', e1, -⟩ := hU.shape
    obtain ⟨ea, en, ec9⟩ := Value.slice.inj e1
    obtain rfl : n = fn := en.trans f3.symm
    obtain ⟨sb, so, e2, s, cs, hs⟩ := SliceAt.get hU (show 0 < (t :: T').length by simp)
    subst e2
    simp only [Nat.zero_mul, Nat.add_zero] at cs
    simp only [List.getElem_cons_zero] at hs
    subst f1 f2
    have kp : (0 : Int) < (n : Int) := by rw [f3, List.length_cons]; omega
    have kp2 : 0 < n := by omega
    have HS := Lib.hid hs
    clear hu hek hU e1 hT her hs Hfe Hfl Hfn ea en ec9 f3
    go_wp2
    go_ret3
    exact ⟨_, rfl, HS.out, x2⟩
  · have h0' : (ek != 0) = true := by simpa using h0
    have hf : fe = ek ∧ fl = [] ∧ fn = 0 := by
      rw [Hfe.out, Hfl.out, Hfn.out]
      by_cases h1 : er = 0
      · have hn : ¬ er ≠ 0 := fun h2 => h2 h1
        rw [if_neg hn] at hek
        have hT : T = [] := Decidable.byContradiction fun hT => by rw [if_neg hT] at hek; exact h0 hek
        rw [if_pos hT] at hek
        rw [if_neg hn, if_neg hn, if_neg hn, if_pos hT, hT, hek]
        exact ⟨rfl, rfl, rfl⟩
      · rw [if_pos h1] at hek
        rw [if_pos h1, if_pos h1, if_pos h1]
        exact ⟨hek.symm, rfl, rfl⟩
    obtain ⟨rfl, rfl, rfl⟩ := hf
    clear hu h0 hek Hfe Hfl Hfn
    go_wp2
    go_ret3
    exact ⟨_, rfl, SliceAt.nil, x2⟩
end Go.Proofs.Ytdadffmagfknoaa

namespace Go.Proofs.Ytdadffmagfknoaa
set_option linter.unusedSimpArgs false
set_option linter.unusedVariables false
open Go.RowKit
set_option linter.unusedVariables false
set_option maxRecDepth 100000

set_option maxHeartbeats 2000000 in
theorem refJoin_any (a b n : Int) (w : World) :
    Calls Try.prog 69 #[.agg #[.int .i64 a, .int .i64 b], .int .i64 n] w fun e w' => e = .returned (.agg #[.int .i64 (min a n), .int .i64 (max b n)]) ∧ Ext w w' := by
  obtain ⟨x, hx⟩ : ∃ x, min a n = x := ⟨_, rfl⟩
  obtain ⟨y, hy⟩ : ∃ y, max b n = y := ⟨_, rfl⟩
  rw [hx, hy]
  go_enter Try.func69, Try.ntmps69
  go_wp2
  · (exact bodyPost_ret (v := .agg #[.int .i64 n, .int .i64 n]) (by simp [results, Try.results69, go_sem]) rfl ⟨by rw [show x = n from by omega, show y = n from by omega], (by first | (with_reducible exact Ext.refl _) | (with_reducible assumption) | (show Below _ _ _; go_grown; done))⟩)
  · (exact bodyPost_ret (v := .agg #[.int .i64 n, .int .i64 b]) (by simp [results, Try.results69, go_sem]) rfl ⟨by rw [show x = n from by omega, show y = b from by omega], (by first | (with_reducible exact Ext.refl _) | (with_reducible assumption) | (show Below _ _ _; go_grown; done))⟩)
  · (exact bodyPost_ret (v := .agg #[.int .i64 a, .int .i64 n]) (by simp [results, Try.results69, go_sem]) rfl ⟨by rw [show x = a from by omega, show y = n from by omega], (by first | (with_reducible exact Ext.refl _) | (with_reducible assumption) | (show Below _ _ _; go_grown; done))⟩)
  · (exact bodyPost_ret (v := .agg #[.int .i64 a, .int .i64 b]) (by simp [results, Try.results69, go_sem]) rfl ⟨by rw [show x = a from by omega, show y = b from by omega], (by first | (with_reducible exact Ext.refl _) | (with_reducible assumption) | (show Below _ _ _; go_grown; done))⟩)
end Go.Proofs.Ytdadffmagfknoaa

namespace Go.Proofs.Ytdadffmagfknoaa
set_option linter.unusedSimpArgs false
set_option linter.unusedVariables false
open Go.RowKit
set_option linter.unusedVariables false
set_option maxRecDepth 100000

def rfst : Value → Value
  | .tuple a => a.getD 0 undef
  | _ => undef
/-- the truths that known returns, and its answer as a whole -/
def KnL (h : House) (e : Int) (v : Value) (w : World) : Prop := (∃ a n c, v = .slice a n c) ∧ (knErr h e = 0 → ListsAtI w v (truL h (outB 0)))
theorem KnL.ext {h : House} {e : Int} {v : Value} {w w' : World} (hk : KnL h e v w) (hx : Ext w w') : KnL h e v w' := ⟨hk.1, fun e0 => (hk.2 e0).ext hx⟩
def KnT (h : House) (e : Int) (u : Value) (w : World) : Prop := u = .tuple #[rfst u, .int .i64 (knErr h e)] ∧ KnL h e (rfst u) w
theorem KnT.ext {h : House} {e : Int} {v : Value} {w w' : World} (hk : KnT h e v w) (hx : Ext w w') : KnT h e v w' := ⟨hk.1, hk.2.ext hx⟩
theorem KnT.of {h : House} {e : Int} {u : Value} {w : World} (hk : KnownR h e u w) : KnT h e u w := by
  obtain ⟨v, er, rfl, rfl, h3, h4⟩ := hk
  exact ⟨rfl, h3, h4⟩
theorem idx_open (h : House) (d : Int) : idxErr h d h.days = openR h [⟨d, daysM h, 4⟩] := by
  by_cases hv : raErr h = 0
  · have hV := validH_of hv
    have ho := openR_one hv ⟨d, daysM h, 4⟩ (by show (4 : Int) ≠ 0; decide)
    rw [ho]
    have hn : ¬ raErr h ≠ 0 := fun g => g hv
    unfold idxErr
    rw [if_neg hn]
    simp only
    rw [daysM_is hV]
  · rw [openR_bad hv]
    unfold idxErr
    rw [if_pos hv]
theorem numM_err (f : List Int → Int) (l : List (List Int)) : (numM f l).2 = if l = [] then 8 else 0 := by
  by_cases hl : l = []
  · rw [if_pos hl, hl]; rfl
  · rw [if_neg hl]; exact (numM_is f hl).1
theorem rate_err (h : House) (d : Int) (f : List Int → Int) : numErr h [⟨d, daysM h, 4⟩] f = knErr h (idxErr h d h.days) := by
  unfold numErr knErr
  rw [idx_open, numM_err]
theorem rate_bad (h : House) (d : Int) (f : List Int → Int) (he : knErr h (idxErr h d h.days) ≠ 0) : numSpan h [⟨d, daysM h, 4⟩] f = (0, 0) := by
  rw [← rate_err h d f] at he
  unfold numErr at he
  unfold numSpan
  by_cases ho : openR h [⟨d, daysM h, 4⟩] ≠ 0
  · rw [if_pos ho]
  · rw [if_neg ho] at he ⊢
    by_cases hT : truL h (outB 0) = []
    · rw [hT]; rfl
    · exact absurd (numM_is f hT).1 he
theorem rate_good (h : House) (d : Int) (he : knErr h (idxErr h d h.days) = 0) : ValidH h ∧ (0 ≤ d ∧ d < h.days) ∧ truL h (outB 0) ≠ [] ∧ numSpan h [⟨d, daysM h, 4⟩] (fun r => r.getD d.toNat 0) = (numM (fun r => r.getD d.toNat 0) (truL h (outB 0))).1 := by
  have he2 := he
  unfold knErr at he
  by_cases hi : idxErr h d h.days ≠ 0
  · rw [if_pos hi] at he; exact absurd he hi
  · rw [if_neg hi] at he
    have hT : truL h (outB 0) ≠ [] := fun e => by rw [if_pos e] at he; cases he
    have hi' : idxErr h d h.days = 0 := Decidable.byContradiction fun g => hi g
    unfold idxErr at hi'
    have hv : raErr h = 0 := Decidable.byContradiction fun g => by rw [if_pos g] at hi'; exact g hi'
    rw [if_neg (fun g => g hv)] at hi'
    have hV := validH_of hv
    have hin : inM d 0 (h.days - 1) = true := by
      cases hq : inM d 0 (h.days - 1)
      · rw [if_pos hq] at hi'; cases hi'
      · rfl
    have hr := (inM_iff _ _ _).1 hin
    refine ⟨hV, by omega, hT, ?_⟩
    unfold numSpan
    have ho : openR h [⟨d, daysM h, 4⟩] = 0 := by
      rw [openR_one hv _ (by show (4 : Int) ≠ 0; decide), if_neg]
      simp only
      rw [daysM_is hV, hin]; decide
    rw [if_neg (fun g => g ho)]
def NewS (n : Nat) (u : Value) (W : World) : Prop := n ≤ W.heap.size ∧ ∃ b, u = .pointer (some ⟨b, 0, none⟩) ∧ n ≤ b ∧ b < W.heap.size ∧ W.cell? ⟨b, 0, none⟩ = some (.int .i64 0) ∧ W.cell? ⟨b, 1, none⟩ = some (.int .i64 0) ∧ ∀ o, W.frozen? ⟨b, o, none⟩ = false
theorem NewS.ext {n : Nat} {u : Value} {w w' : World} (h : NewS n u w) (hx : Ext w w') : NewS n u w' := by
  obtain ⟨h0, b, h1, h2, h3, h4, h5, h6⟩ := h
  exact ⟨Nat.le_trans h0 hx.size, b, h1, h2, Nat.lt_of_lt_of_le h3 hx.size, hx.cell h4, hx.cell h5, fun o => by rw [hx.frozen h3]; exact h6 o⟩
theorem NewS.ex {n : Nat} {u : Value} {W : World} (h : NewS n u W) : ∃ b, u = .pointer (some ⟨b, 0, none⟩) ∧ n ≤ b ∧ b < W.heap.size ∧ W.cell? ⟨b, 0, none⟩ = some (.int .i64 0) ∧ W.cell? ⟨b, 1, none⟩ = some (.int .i64 0) ∧ ∀ o, W.frozen? ⟨b, o, none⟩ = false := h.2
noncomputable def NewS.b {n : Nat} {u : Value} {W : World} (h : NewS n u W) : Nat := Classical.choose h.ex
theorem NewS.spec {n : Nat} {u : Value} {W : World} (h : NewS n u W) : u = .pointer (some ⟨h.b, 0, none⟩) ∧ n ≤ h.b ∧ h.b < W.heap.size ∧ W.cell? ⟨h.b, 0, none⟩ = some (.int .i64 0) ∧ W.cell? ⟨h.b, 1, none⟩ = some (.int .i64 0) ∧ ∀ o, W.frozen? ⟨h.b, o, none⟩ = false := Classical.choose_spec h.ex
theorem fold_take_next (g : Int → List Int → Int) (t : List Int) (T' : List (List Int)) (a : Int) (m : Nat) (h1 : 1 ≤ m) (hm : m < (t :: T').length) : (T'.take (m + 1 - 1)).foldl g a = g ((T'.take (m - 1)).foldl g a) (t :: T')[m] := by
  obtain ⟨k, rfl⟩ : ∃ k, m = k + 1 := ⟨m - 1, by omega⟩
  have hk : k < T'.length := by simpa using hm
  rw [Nat.add_sub_cancel, Nat.add_sub_cancel, List.take_succ_eq_append_getElem hk, List.foldl_append]
  rfl
set_option maxHeartbeats 16000000 in
theorem refRate_any (hv : Value) (h : House) (d : Int) (hd : I64 d) (w : World) (hh : HouseAt w hv h) :
    Calls Try.prog 22 #[hv, .int .i64 d] w fun e w' => e = .returned (.tuple #[spanV (numSpan h [⟨d, daysM h, 4⟩] (fun r => r.getD d.toNat 0)).1 (numSpan h [⟨d, daysM h, 4⟩] (fun r => r.getD d.toNat 0)).2, .int .i64 (numErr h [⟨d, daysM h, 4⟩] (fun r => r.getD d.toNat 0))]) ∧ Ext w w' := by
  have hHH := Lib.hid hh
  have hbad := rate_bad h d (fun r => r.getD d.toNat 0)
  have hgood := rate_good h d
  rw [rate_err]
  have hiv : idxErr h d h.days = 0 → ValidH h := fun e => by
    refine validH_of (Decidable.byContradiction fun g => ?_)
    unfold idxErr at e
    rw [if_pos g] at e
    exact g e
  have hbd : raErr h = 0 → 0 ≤ h.days ∧ h.days ≤ 100 := fun e => by have := (validH_of e).days; omega
  have hidx := fun w1 (hx : Ext w w1) => refIndex_any hv h d h.days w1 (hh.ext hx) hbd
  have hkn := fun w1 (hx : Ext w w1) => refKnown_any hv h (idxErr h d h.days) w1 (hh.ext hx) hiv
  generalize numSpan h [⟨d, daysM h, 4⟩] (fun r => r.getD d.toNat 0) = ns at *
  generalize idxErr h d h.days = ie at *
  unfold spanV
  obtain ⟨ra, rc, aa, ac, ea, ec, rfl, -⟩ := hh
  have HBAD := Lib.hid hbad
  have HGOOD := Lib.hid hgood
  have HIDX := Lib.hid hidx
  have HKN := Lib.hid hkn
  clear hbad hgood hiv hbd hidx hkn
  go_enter Try.func22, Try.ntmps22
  go_wp2_with fail
  obtain ⟨W0, hW0⟩ : ∃ W, W = ((w.alloc (.cells #[.int .i64 h.days, .slice ra h.rates.length rc, .int .i64 h.step, .slice aa h.agents.length ac, .slice ea h.entries.length ec] 26)).alloc (.cells #[.int .i64 0, .int .i64 0] 35)) := ⟨_, rfl⟩
  have x0 : Ext w W0 := by rw [hW0]; exact (ext_alloc _ _).alloc _
  have p0 : W0.cell? ⟨w.heap.size, 0, none⟩ = some (.int .i64 h.days) := by rw [hW0]; simp [go_sem]
  have p1 : W0.cell? ⟨w.heap.size, 1, none⟩ = some (.slice ra h.rates.length rc) := by rw [hW0]; simp [go_sem]
  have p2 : W0.cell? ⟨w.heap.size, 2, none⟩ = some (.int .i64 h.step) := by rw [hW0]; simp [go_sem]
  have p3 : W0.cell? ⟨w.heap.size, 3, none⟩ = some (.slice aa h.agents.length ac) := by rw [hW0]; simp [go_sem]
  have p4 : W0.cell? ⟨w.heap.size, 4, none⟩ = some (.slice ea h.entries.length ec) := by rw [hW0]; simp [go_sem]
  have q0 : W0.cell? ⟨w.heap.size + 1, 0, none⟩ = some (.int .i64 0) := by rw [hW0]; simp [go_sem]
  have q1 : W0.cell? ⟨w.heap.size + 1, 1, none⟩ = some (.int .i64 0) := by rw [hW0]; simp [go_sem]
  have rf : ∀ o, W0.frozen? ⟨w.heap.size + 1, o, none⟩ = false := fun o => by rw [hW0]; simp [go_sem]
  rw [← hW0]
  clear hW0
  apply Facts.wp_region [.val _, .val _, .val _, .val _, .val _, .val (.int .i64 ie), .fact (KnT h ie), .fact (KnT h ie), .fact (KnL h ie), .val (.int .i64 (knErr h ie)), .fact (KnL h ie), .val (.int .i64 (knErr h ie))] (by kernel_rfl) (by kernel_rfl) ⟨fun u a c hx h => KnT.ext h hx, fun u a c hx h => KnT.ext h hx, fun u a c hx h => KnL.ext h hx, fun u a c hx h => KnL.ext h hx, trivial⟩ ?main
  case main =>
  iterate 5 (refine ⟨fun w1 hx hh => ?_, ?_⟩; focus (clear hh; have j0 := hx.cell p0; have j1 := hx.cell p1; have j2 := hx.cell p2; have j3 := hx.cell p3; have j4 := hx.cell p4; go_simp; first | exact ⟨Ext.refl _, rfl⟩ | exact Ext.refl _))
  refine ⟨fun w1 hx hh => ?_, ?_⟩
  · clear hh
    go_simp
    refine (HIDX.out _ (x0.trans hx)).mono ?_
    rintro e w' ⟨rfl, hx2⟩
    exact ⟨_, rfl, hx2, rfl⟩
  refine ⟨fun w1 hx hh => ?_, ?_⟩
  · clear hh
    go_simp
    refine (HKN.out _ (x0.trans hx)).mono ?_
    rintro e w' ⟨u, rfl, hk, hx2⟩
    exact ⟨_, rfl, hx2, KnT.of hk⟩
  intro u6
  refine ⟨fun w1 hx hh => ?_, ?_⟩
  · have h6 : KnT h ie u6 w1 := hh 6 _ List.mem_cons_self (by kernel_rfl)
    clear hh
    go_simp
    first | exact ⟨Ext.refl _, h6⟩ | exact Ext.refl _
  intro u7
  refine ⟨fun w1 hx hh => ?_, ?_⟩
  · have h7 : KnT h ie u7 w1 := hh 7 _ List.mem_cons_self (by kernel_rfl)
    have e := h7.1
    have hs := h7.2
    clear hh h7
    generalize rfst u7 = f7 at *
    subst e
    go_simp
    first | exact ⟨Ext.refl _, hs⟩ | exact Ext.refl _
  intro u8
  refine ⟨fun w1 hx hh => ?_, ?_⟩
  · have h7 : KnT h ie u7 w1 := hh 7 _ (List.mem_cons_of_mem _ List.mem_cons_self) (by kernel_rfl)
    have e := h7.1
    clear hh h7
    generalize rfst u7 = f7 at *
    subst e
    go_simp
    exact Ext.refl _
  refine ⟨fun w1 hx hh => ?_, ?_⟩
  · have h8 : KnL h ie u8 w1 := hh 8 _ List.mem_cons_self (by kernel_rfl)
    clear hh
    go_simp
    first | exact ⟨Ext.refl _, h8⟩ | exact Ext.refl _
  intro u10
  iterate 1 (refine ⟨fun w1 hx hh => ?_, ?_⟩; focus (clear hh; skip; go_simp; first | exact ⟨Ext.refl _, rfl⟩ | exact Ext.refl _))
  intro w1 hx1 hh
  have hK : KnL h ie u10 w1 := hh 10 _ List.mem_cons_self
  clear hh
  have zq : w.heap.size + 1 < W0.heap.size := cell_lt q0
  replace rf : ∀ o, w1.frozen? ⟨w.heap.size + 1, o, none⟩ = false := fun o => by rw [hx1.frozen zq]; exact rf o
  replace q0 := hx1.cell q0
  replace q1 := hx1.cell q1
  have x1 := x0.trans hx1
  replace zq : w.heap.size + 1 < w1.heap.size := cell_lt q0
  clear hx1 x0 p0 p1 p2 p3 p4 HIDX HKN
  go_simp
  obtain ⟨⟨a, n, c, rfl⟩, hT⟩ := hK
  by_cases h0 : knErr h ie = 0
  · obtain ⟨hV, hdr, hne, hns⟩ := HGOOD.out h0
    have hL := hT h0
    have hgd : ∀ q ∈ truL h (outB 0), d.toNat < q.length ∧ ∀ x ∈ q, 1 ≤ x ∧ x ≤ 20 := fun q hq => by
      have h1 := levels_mem hV (Nat.le_refl _)
      rw [← ratesL_levels] at h1
      have h2 := h1 q (truL_sub hV hq)
      exact ⟨by rw [h2.1]; omega, h2.2⟩
    have hmany := truL_many hV (outB 0)
    clear HBAD HGOOD hV hT
    rw [h0]
    generalize truL h (outB 0) = T at *
    obtain ⟨t, T', rfl⟩ := List.exists_cons_of_ne_nil hne
    rw [numM_cons] at hns
    obtain ⟨n1, n2⟩ := ns
    obtain ⟨hn1, hn2⟩ := Prod.mk.inj hns
    clear hns
    obtain ⟨j, rfl⟩ : ∃ j : Nat, d = j := ⟨d.toNat, by omega⟩
    rw [Int.toNat_natCast] at *
    have HN1 := Lib.hid hn1
    have HN2 := Lib.hid hn2
    clear hn1 hn2
    obtain ⟨a', c', e1, -⟩ := hL.shape
    obtain ⟨ea, en, ec9⟩ := Value.slice.inj e1
    obtain ⟨N, hN⟩ : ∃ N, N = (t :: T').length := ⟨_, rfl⟩
    rw [← hN] at en
    subst en
    clear e1 ea ec9
    have hgt := hgd t (by simp)
    obtain ⟨ob, oo, rfl, s0, cs0, hs0⟩ := SliceAt.get hL (show 0 < (t :: T').length by simp)
    simp only [Nat.zero_mul, Nat.add_zero] at cs0
    simp only [List.getElem_cons_zero] at hs0
    obtain ⟨sa0, sc0, rfl, -⟩ := hs0.shape
    obtain ⟨sb, so, rfl, sv, -⟩ := SliceAt.get hs0 hgt.1
    rw [Nat.mul_one] at sv
    have htj : t.getD j 0 = t[j]'hgt.1 := by rw [List.getD_eq_getElem?_getD, List.getElem?_eq_getElem hgt.1]; rfl
    have htg := hgt.2 _ (List.getElem_mem hgt.1)
    have hjt := hgt.1
    have kj : (j : Int) < (t.length : Int) := by omega
    have kN : (0 : Int) < (n : Int) := by rw [hN, List.length_cons]; omega
    have kN2 : 0 < n := by omega
    have kn8 : n ≤ 8000 := by rw [hN]; exact hmany
    have HN := Lib.hid hN
    have HGD := Lib.hid hgd
    have HTJ := Lib.hid htj
    generalize t[j]'hgt.1 = t0 at *
    clear hN hgd htj hgt hs0 hmany
    go_wp2_with fail
    apply Facts.Peel.wp_regionL two_ee 14 13 [.val _, .val _, .val _, .val _, .val _, .val (.int .i64 t0), .val _, .val _, .val _, .val _, .val _, .val (.int .i64 t0), .val (.agg #[.int .i64 t0, .int .i64 t0]), .fact (NewS w1.heap.size)] (by kernel_rfl) (by kernel_rfl) (by kernel_rfl) (by kernel_rfl) (by kernel_rfl) (by kernel_rfl) ?keep ?main
    case keep => first | exact ⟨fun u a c hx h => NewS.ext h hx, fun _ _ u a c hx h => NewS.ext h hx, trivial⟩ | exact ⟨fun u a c hx h => NewS.ext h hx, trivial⟩
    case main =>
    simp only [List.take_succ_cons, List.take_zero, List.getD_cons_succ, List.getD_cons_zero]
    iterate 13 (refine ⟨fun w1 hC hh => ?_, ?_⟩; focus (have hx := hC; clear hh hC; (have f0 := hx.cell cs0; have f1 := hx.cell sv); go_simp; first | exact ⟨Ext.refl _, rfl⟩ | exact Ext.refl _))
    refine ⟨fun w2 hC hh => ?_, ?_⟩
    · have hx := hC
      clear hh hC
      go_simp
      exact ⟨ext_alloc _ _, Nat.le_trans hx.size (ext_alloc _ _).size, w2.heap.size, rfl, hx.size, by simp, by simp [go_sem], by simp [go_sem], fun o => by simp [go_sem]⟩
    intro u13
    intro w5 hx5 hh
    have h13 : NewS w1.heap.size u13 w5 := hh 13 _ List.mem_cons_self
    clear hh
    have s13 := h13.spec
    generalize h13.b = B at *
    have e9 := s13.1
    have hB1 := s13.2.1
    have g0 := s13.2.2.2.1
    have g1 := s13.2.2.2.2.1
    have gf := s13.2.2.2.2.2
    clear s13 h13
    subst e9
    have r0 := set_other (set_cell g0 (.int .i64 t0)) (p := ⟨B, 1, none⟩) (.inr (by simp)) (.int .i64 t0)
    have r1 := set_cell (set_other g1 (p := ⟨B, 0, none⟩) (.inr (by simp)) (.int .i64 t0)) (.int .i64 t0)
    have xS : Ext w1 ((w5.setCell ⟨B, 0, none⟩ (.int .i64 t0)).setCell ⟨B, 1, none⟩ (.int .i64 t0)) := (hx5.setCell hB1 _).setCell hB1 _
    refine ⟨rfl, ?_⟩
    go_simp
    obtain ⟨W5, hW5⟩ : ∃ W, W = ((w5.setCell ⟨B, 0, none⟩ (.int .i64 t0)).setCell ⟨B, 1, none⟩ (.int .i64 t0)) := ⟨_, rfl⟩
    have gf2 : ∀ o, W5.frozen? ⟨B, o, none⟩ = false := fun o => by rw [hW5]; simpa [go_sem] using gf o
    rw [← hW5] at r0 r1 xS ⊢
    clear hW5 g0 g1 gf hx5
    have hlo0 : t0 = (T'.take (1 - 1)).foldl (fun m r => min m (r.getD j 0)) (t.getD j 0) := by rw [HTJ.out]; rfl
    have hhi0 : t0 = (T'.take (1 - 1)).foldl (fun m r => max m (r.getD j 0)) (t.getD j 0) := by rw [HTJ.out]; rfl
    have HLO := Lib.hid hlo0
    have HHI := Lib.hid hhi0
    clear hlo0 hhi0
    go_wp2
    go_loopw [9] (fun i wr => ∃ m : Nat, 1 ≤ m ∧ m ≤ n ∧ i = .int .i64 m ∧ Ext w1 wr ∧ wr.cell? ⟨B, 0, none⟩ = some (.int .i64 ((T'.take (m - 1)).foldl (fun m r => min m (r.getD j 0)) (t.getD j 0))) ∧ wr.cell? ⟨B, 1, none⟩ = some (.int .i64 ((T'.take (m - 1)).foldl (fun m r => max m (r.getD j 0)) (t.getD j 0))) ∧ ∀ o, wr.frozen? ⟨B, o, none⟩ = false) (fun i _ => n - (intOf i).toNat)
    case atStart => exact ⟨1, Nat.le_refl _, kN2, rfl, xS, by rw [← HLO.out]; exact r0, by rw [← HHI.out]; exact r1, gf2⟩
    case round =>
      clear r0 r1 xS gf2
      obtain ⟨m, hm1, hm, rfl, hx, r0, r1, gf⟩ := hrel
      by_cases hmn : m < n
      · have k1 : (m : Int) < (n : Int) := by omega
        have hmT : m < (t :: T').length := by rw [← HN.out]; exact hmn
        have hlo := fold_take_next (fun m r => min m (r.getD j 0)) t T' (t.getD j 0) m hm1 hmT
        have hhi := fold_take_next (fun m r => max m (r.getD j 0)) t T' (t.getD j 0) m hm1 hmT
        have hgm := HGD.out (t :: T')[m] (List.getElem_mem hmT)
        obtain ⟨ob2, oo2, e2, s2, cs2, hs2⟩ := SliceAt.get hL hmT
        obtain ⟨rfl, rfl⟩ : ob = ob2 ∧ oo = oo2 := by cases e2; exact ⟨rfl, rfl⟩
        generalize (t :: T')[m] = q at *
        rw [Nat.mul_one] at cs2
        obtain ⟨sa2, sc2, rfl, -⟩ := hs2.shape
        obtain ⟨sb2, so2, rfl, sv2, -⟩ := SliceAt.get hs2 hgm.1
        rw [Nat.mul_one] at sv2
        have hqj : q.getD j 0 = q[j]'hgm.1 := by rw [List.getD_eq_getElem?_getD, List.getElem?_eq_getElem hgm.1]; rfl
        rw [hqj] at hlo hhi
        have hjq := hgm.1
        have kq : (j : Int) < (q.length : Int) := by omega
        generalize q[j]'hgm.1 = x at *
        generalize hlc : (T'.take (m - 1)).foldl (fun m r => min m (r.getD j 0)) (t.getD j 0) = lc at *
        generalize hhc : (T'.take (m - 1)).foldl (fun m r => max m (r.getD j 0)) (t.getD j 0) = hc at *
        have c2 := hx.cell cs2
        have v2 := hx.cell sv2
        have HL2 := Lib.hid hlo
        have HH2 := Lib.hid hhi
        have y0 := cell_lt c2
        have y1 := cell_lt v2
        have y2 := cell_lt r0
        clear hlo hhi hqj hlc hhc e2 hgm hs2 cs2 sv2
        go_wp2_with fail
        apply Facts.Peel.wp_regionL two_ee 9 8 [.val (.agg #[.int .i64 lc, .int .i64 hc]), .val _, .val _, .val _, .val _, .val _, .val _, .val (.int .i64 x), .val (.agg #[.int .i64 (min lc x), .int .i64 (max hc x)])] (by kernel_rfl) (by kernel_rfl) (by kernel_rfl) (by kernel_rfl) (by kernel_rfl) (by kernel_rfl) ?keep ?main
        case keep => exact trivial
        case main =>
          simp only [List.take_succ_cons, List.take_zero, List.getD_cons_succ, List.getD_cons_zero]
          iterate 8 (refine ⟨fun w1 hC hh => ?_, ?_⟩; focus (have hx := hC; clear hh hC; (have f0 := hx.cell r0; have f1 := hx.cell r1; have f2 := hx.cell c2; have f3 := hx.cell v2); go_simp; first | exact ⟨Ext.refl _, rfl⟩ | exact Ext.refl _))
          refine ⟨fun w2 hC hh => ?_, ?_⟩
          · clear hh hC
            go_simp
            refine (refJoin_any _ _ _ _).mono ?_
            rintro e w' ⟨rfl, hx2⟩
            exact ⟨_, rfl, hx2, rfl⟩
          intro w6 hx6 hh
          clear hh
          have b0 := hx6.cell r0
          have b1 := hx6.cell r1
          have bf : ∀ o, w6.frozen? ⟨B, o, none⟩ = false := fun o => by rw [hx6.frozen y2]; exact gf o
          have n0 := set_other (set_cell b0 (.int .i64 (min lc x))) (p := ⟨B, 1, none⟩) (.inr (by simp)) (.int .i64 (max hc x))
          have n1 := set_cell (set_other b1 (p := ⟨B, 0, none⟩) (.inr (by simp)) (.int .i64 (min lc x))) (.int .i64 (max hc x))
          have xN : Ext w1 ((w6.setCell ⟨B, 0, none⟩ (.int .i64 (min lc x))).setCell ⟨B, 1, none⟩ (.int .i64 (max hc x))) := ((hx.trans hx6).setCell hB1 _).setCell hB1 _
          refine ⟨rfl, ?_⟩
          have fN : ∀ o, ((w6.setCell ⟨B, 0, none⟩ (.int .i64 (min lc x))).setCell ⟨B, 1, none⟩ (.int .i64 (max hc x))).frozen? ⟨B, o, none⟩ = false := fun o => by simpa [go_sem] using bf o
          generalize hmi : min lc x = mi at *
          generalize hma : max hc x = ma at *
          have HMI := Lib.hid hmi
          have HMA := Lib.hid hma
          clear hmi hma
          go_simp
          generalize ((w6.setCell ⟨B, 0, none⟩ (.int .i64 mi)).setCell ⟨B, 1, none⟩ (.int .i64 ma)) = W6 at *
          clear b0 b1 bf r0 r1 gf hx hx6 c2 v2 y0 y1 y2
          go_wp2
          go_roundw
          case rel => exact ⟨m + 1, by omega, by omega, by go_num, xN, by rw [HL2.out]; exact n0, by rw [HH2.out]; exact n1, fN⟩
          case measure => simp [intOf]; omega
      · obtain rfl : m = n := by omega
        have hlen : T'.take (m - 1) = T' := List.take_of_length_le (by have := HN.out; rw [List.length_cons] at this; omega)
        rw [hlen, ← HN1.out] at r0
        rw [hlen, ← HN2.out] at r1
        have e0 := hx.cell q0
        have e1 := hx.cell q1
        have ef : ∀ o, wr.frozen? ⟨w.heap.size + 1, o, none⟩ = false := fun o => by rw [hx.frozen zq]; exact rf o
        have x9 := x1.trans hx
        have z0 := set_other (set_cell e0 (.int .i64 n1)) (p := ⟨w.heap.size + 1, 1, none⟩) (.inr (by simp)) (.int .i64 n2)
        have z1 := set_cell (set_other e1 (p := ⟨w.heap.size + 1, 0, none⟩) (.inr (by simp)) (.int .i64 n1)) (.int .i64 n2)
        clear hlen
        go_wp2
        exact bodyPost_ret (v := .tuple #[.agg #[.int .i64 n1, .int .i64 n2], .int .i64 0]) (by simp [results, Try.results22, go_sem, z0, z1]) rfl ⟨rfl, (x9.setCell (by simp) _).setCell (by simp) _⟩
  · have hns := HBAD.out h0
    subst hns
    have h0' : (knErr h ie != 0) = true := by simpa using h0
    clear hT h0 HBAD HGOOD
    go_wp2
    have r0 := set_other (set_cell q0 (.int .i64 0)) (p := ⟨w.heap.size + 1, 1, none⟩) (.inr (by simp)) (.int .i64 0)
    have r1 := set_cell (set_other q1 (p := ⟨w.heap.size + 1, 0, none⟩) (.inr (by simp)) (.int .i64 0)) (.int .i64 0)
    exact bodyPost_ret (v := .tuple #[.agg #[.int .i64 0, .int .i64 0], .int .i64 (knErr h ie)]) (by simp [results, Try.results22, go_sem, r0, r1]) rfl ⟨rfl, (x1.setCell (by simp) _).setCell (by simp) _⟩
end Go.Proofs.Ytdadffmagfknoaa

namespace Go.Proofs.Ytdadffmagfknoaa
set_option linter.unusedSimpArgs false
set_option linter.unusedVariables false
open Go.RowKit
set_option linter.unusedVariables false
set_option maxRecDepth 100000

set_option maxHeartbeats 8000000 in
theorem firsts8_any (hv : Value) (h : House) (d : Int) (hd : I64 d) (w : World) (hh : HouseAt w hv h) :
    Calls Try.prog 3 #[hv, .int .i64 d] w fun e w' => e = .returned (.bool true) ∧ Ext w w' := by
  have c1 := fun w1 (hx : Ext w w1) => raCheck_any hv h w1 (hh.ext hx)
  have c2 := fun w1 (hx : Ext w w1) => refCheck8_any hv h w1 (hh.ext hx)
  have c3 := fun w1 (hx : Ext w w1) => firstPub_any hv h w1 (hh.ext hx)
  have c4 := fun w1 (hx : Ext w w1) => refFirst_any hv h w1 (hh.ext hx)
  have c5 := fun w1 (hx : Ext w w1) => ratePub_any hv h d hd w1 (hh.ext hx)
  have c6 := fun w1 (hx : Ext w w1) => refRate_any hv h d hd w1 (hh.ext hx)
  obtain ⟨ra, rc, aa, ac, ea, ec, rfl, -⟩ := hh
  generalize raCheck h = ck at *
  obtain ⟨k1, k2, k3⟩ := ck
  simp only at c1 c2
  generalize firstNM h = fn at *
  generalize firstErrM h = fe at *
  generalize firstLM h = fl at *
  generalize numSpan h [⟨d, daysM h, 4⟩] (fun r => r.getD d.toNat 0) = ns at *
  generalize numErr h [⟨d, daysM h, 4⟩] (fun r => r.getD d.toNat 0) = ne at *
  obtain ⟨n1, n2⟩ := ns
  unfold spanV at c5 c6
  simp only at c5 c6
  have hsp := equalInE_span
  go_enter Try.func3, Try.ntmps3
  go_wp2_with fail
  refine (c1 _ (ext_alloc _ _)).mono ?_
  rintro e w1 ⟨rfl, hx⟩
  have x1 : Ext w w1 := hx.of_alloc
  have p0 : w1.cell? ⟨w.heap.size, 0, none⟩ = some (.int .i64 h.days) := hx.cell (by simp [go_sem])
  have p1 : w1.cell? ⟨w.heap.size, 1, none⟩ = some (.slice ra h.rates.length rc) := hx.cell (by simp [go_sem])
  have p2 : w1.cell? ⟨w.heap.size, 2, none⟩ = some (.int .i64 h.step) := hx.cell (by simp [go_sem])
  have p3 : w1.cell? ⟨w.heap.size, 3, none⟩ = some (.slice aa h.agents.length ac) := hx.cell (by simp [go_sem])
  have p4 : w1.cell? ⟨w.heap.size, 4, none⟩ = some (.slice ea h.entries.length ec) := hx.cell (by simp [go_sem])
  have z0 := cell_lt p0
  clear hx c1
  go_wp2_with fail
  refine (c2 _ x1).mono ?_
  rintro e w2 ⟨rfl, hx⟩
  (replace p0 := Ext.cell hx p0; replace p1 := Ext.cell hx p1; replace p2 := Ext.cell hx p2; replace p3 := Ext.cell hx p3; replace p4 := Ext.cell hx p4; replace z0 := cell_lt p0; replace x1 := Ext.trans x1 hx)
  clear hx c2
  go_wp2_with fail
  refine (c3 _ x1).mono ?_
  rintro e w3 ⟨u1, rfl, hu1, hx⟩
  (replace p0 := Ext.cell hx p0; replace p1 := Ext.cell hx p1; replace p2 := Ext.cell hx p2; replace p3 := Ext.cell hx p3; replace p4 := Ext.cell hx p4; replace z0 := cell_lt p0; replace x1 := Ext.trans x1 hx)
  clear hx c3
  obtain ⟨ua, uc, rfl, -⟩ := hu1.shape
  go_wp2_with fail
  refine (c4 _ x1).mono ?_
  rintro e w4 ⟨u2, rfl, hu2, hx⟩
  (replace p0 := Ext.cell hx p0; replace p1 := Ext.cell hx p1; replace p2 := Ext.cell hx p2; replace p3 := Ext.cell hx p3; replace p4 := Ext.cell hx p4; replace z0 := cell_lt p0; replace x1 := Ext.trans x1 hx)
  replace hu1 := hu1.ext hx
  clear hx c4
  obtain ⟨va, vc, rfl, -⟩ := hu2.shape
  go_wp2_with fail
  refine (ints_any _ _ fl fl _ hu1 hu2).mono ?_
  rintro e w5 ⟨rfl, hx⟩
  rw [decide_eq_true rfl]
  (replace p0 := Ext.cell hx p0; replace p1 := Ext.cell hx p1; replace p2 := Ext.cell hx p2; replace p3 := Ext.cell hx p3; replace p4 := Ext.cell hx p4; replace z0 := cell_lt p0; replace x1 := Ext.trans x1 hx)
  clear hx hu1 hu2
  go_wp2_with fail
  refine (c5 _ x1).mono ?_
  rintro e w6 ⟨rfl, hx⟩
  (replace p0 := Ext.cell hx p0; replace p1 := Ext.cell hx p1; replace p2 := Ext.cell hx p2; replace p3 := Ext.cell hx p3; replace p4 := Ext.cell hx p4; replace z0 := cell_lt p0; replace x1 := Ext.trans x1 hx)
  clear hx c5
  go_wp2_with fail
  refine (c6 _ (x1.alloc _)).mono ?_
  rintro e w7 ⟨rfl, hx'⟩
  have s0 : w7.cell? ⟨w6.heap.size, 0, none⟩ = some (.int .i64 n1) := hx'.cell (by simp [go_sem])
  have s1 : w7.cell? ⟨w6.heap.size, 1, none⟩ = some (.int .i64 n2) := hx'.cell (by simp [go_sem])
  have z1 : w6.heap.size < w7.heap.size := cell_lt s0
  have x7 := x1.trans hx'.of_alloc
  clear hx' c6 p0 p1 p2 p3 p4 z0
  go_wp2_with fail
  (refine (awakeR_any _).mono ?_; rintro e w9 ⟨rfl, hx9⟩; have x9 := Ext.trans (x7.alloc _) hx9; clear hx9)
  go_wp2
  go_ret
  exact ⟨rfl, x9⟩
end Go.Proofs.Ytdadffmagfknoaa
