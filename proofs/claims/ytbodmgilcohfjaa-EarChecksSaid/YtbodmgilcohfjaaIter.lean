/-
  WHAT soundStrings RETURNS: an iterator that yields what a spelling can be.
-/
import Derived.Test.YtbodmgilcohfjaaGive
import Derived.Test.YtbodmgilcohfjaaLetters
namespace Go.Proofs.Ytbodmgilcohfjaa
open Go.RowKit

theorem abides_ext {α : Type} {J : List α → World → Prop} {B : Nat} (h : AbidesFrom B J) : ∀ s X Y, Ext X Y → J s X → J s Y := fun s X Y hx hj => h s X Y none hj hx.grownBy (fun r e => by cases e)

/-- the sound strings that a book's letters can give -/
abbrev SoundsS (S : Int) := { x : List Int // x.length ≤ 5 ∧ ∀ y ∈ x, 0 ≤ y ∧ y < S }
set_option maxRecDepth 100000 in
set_option maxHeartbeats 2000000 in
theorem iter_any (n : Nat) (bl bk : Nat) (lv : Value) (ls : List Letter) (S : Int) (hS : 1 ≤ S ∧ S ≤ 4) (h5 : ls.length ≤ 5) (hf : ∀ x ∈ ls, FineL x) (w : World)
    (hl : w.cell? ⟨bl, 0, none⟩ = some lv) (hls : LettersAt w lv ls) (hk : w.cell? ⟨bk, 0, none⟩ = some (.int .i64 S)) :
    SeqStopsK Fence.wide n Try.prog 102 #[.pointer (some ⟨bl, 0, none⟩), .pointer (some ⟨bk, 0, none⟩)] (fun x : SoundsS S => #[ssV x.1]) CK (fun ys => ys.map (·.1) = yields (S.toNat + 1) ls []) (fun _ => True) (yields (S.toNat + 1) ls []).length w := by
  intro l J0 Jx0 W hW hJ hJx hY0 h0
  have hJe := abides_ext hJ
  have hJxe := abides_ext hJx
  obtain ⟨J, hJi, hJo, hJk⟩ : ∃ J : List (List Int) → World → Prop, (∀ (q : List (SoundsS S)) W, J0 q W → J (q.map (·.1)) W) ∧ (∀ p W, J p W → ∃ q : List (SoundsS S), q.map (·.1) = p ∧ J0 q W) ∧ ∀ p A B, Ext A B → J p A → J p B :=
    ⟨fun p W => ∃ q : List (SoundsS S), q.map (·.1) = p ∧ J0 q W, fun q W h => ⟨q, rfl, h⟩, fun _ _ h => h, fun p A B hx ⟨q, e, h⟩ => ⟨q, e, hJe _ _ _ hx h⟩⟩
  obtain ⟨Jx, hJxi, hJxo, hJxk⟩ : ∃ J : List (List Int) → World → Prop, (∀ (q : List (SoundsS S)) W, Jx0 q W → J (q.map (·.1)) W) ∧ (∀ p W, J p W → ∃ q : List (SoundsS S), q.map (·.1) = p ∧ Jx0 q W) ∧ ∀ p A B, Ext A B → J p A → J p B :=
    ⟨fun p W => ∃ q : List (SoundsS S), q.map (·.1) = p ∧ Jx0 q W, fun q W h => ⟨q, rfl, h⟩, fun _ _ h => h, fun p A B hx ⟨q, e, h⟩ => ⟨q, e, hJxe _ _ _ hx h⟩⟩
  have hY : Body (n - 1) l (yields (S.toNat + 1) ls []).length S J Jx := by
    intro pre x W1 hx5 hxg hj hlen
    obtain ⟨q, rfl, hq⟩ := hJo _ _ hj
    obtain ⟨fn, tmps, assign, body, hy, hR⟩ := hY0 q ⟨x, hx5, hxg⟩ W1 hq (by simpa using hlen)
    refine ⟨fn, tmps, assign, body, hy, hR.mono ?_⟩
    rintro e W' (⟨h1, h2, h3⟩ | ⟨h1, h2⟩)
    · exact .inl ⟨h1, by have := hJi _ _ h2; simpa using this, h3⟩
    · exact .inr ⟨h1, by have := hJxi _ _ h2; simpa using this⟩
  have hxW : Ext w W := hW
  refine callsIn_wide.2 ?_
  have z1 := cell_lt hl
  have z2 := cell_lt hk
  replace hl := hxW.cell hl
  replace hls := hls.ext hxW
  replace hk := hxW.cell hk
  have y1 := cell_lt hl
  have y2 := cell_lt hk
  have hg := give_any (n - 1) l bl bk W.heap.size (W.heap.size + 1) (yields (S.toNat + 1) ls []).length lv ls S hS h5 hf J Jx hJk hJxk hY ls.length 0 [] []
  obtain ⟨W3, hW3⟩ : ∃ W3, W3 = (W.alloc (.cells #[.func (.yield l) #[] #[]] 146)).alloc (.cells #[.func (.func 103) #[] #[.pointer (some ⟨bl, 0, none⟩), .pointer (some ⟨W.heap.size, 0, none⟩), .pointer (some ⟨bk, 0, none⟩), .pointer (some ⟨W.heap.size + 1, 0, none⟩)]] 147) := ⟨_, rfl⟩
  have hx3 : Ext W W3 := by rw [hW3]; exact (ext_alloc _ _).alloc _
  have hc : Captured W3 l bl bk W.heap.size (W.heap.size + 1) lv ls S := ⟨hx3.cell hl, hls.ext hx3, hx3.cell hk, by rw [hW3]; simp [go_sem], by rw [hW3]; simp [go_sem]⟩
  have hg3 := hg W3 (by simp) (by simp) (by simp) hc (hJk _ _ _ hx3 (hJi [] _ h0)) (by simp)
  have HW := Lib.hid hW3
  clear hW3 hg hc
  have hse : ssV [] = .agg #[.int .i64 0, .int .i64 0, .int .i64 0, .int .i64 0, .int .i64 0, .int .i64 0] := rfl
  rw [hse] at hg3
  simp only [List.append_toArray, List.cons_append, List.nil_append]
  go_enter Try.func102, Try.ntmps102
  go_wp2_with fail
  rw [← HW.out]
  refine hg3.mono ?_
  rintro e W4 (⟨rfl, hj, hck⟩ | ⟨rfl, hq⟩)
  · obtain ⟨q, e, hq⟩ := hJo _ _ hj
    go_wp2
    go_end0
    exact ⟨⟨_, rfl⟩, .inl ⟨q, by simpa using e, hq⟩⟩
  · obtain ⟨p, hp⟩ := hq
    obtain ⟨q, -, hq⟩ := hJxo _ _ hp
    go_wp2
    go_end0
    exact ⟨⟨_, rfl⟩, .inr ⟨q, trivial, hq⟩⟩

theorem lettersAt_eq (b : Book) (n : Nat) (hn : n < b.spellings.length) : lettersAt b n = lettersM (lettersOf b.alphabets (b.spellings[n]).alphabet) (b.spellings[n]).text := by
  unfold lettersAt
  rw [List.getElem?_eq_getElem hn]
theorem lettersAt_fine {b : Book} (hv : Valid b) (n : Nat) (hn : n < b.spellings.length) : (lettersAt b n).length ≤ 5 ∧ ∀ x ∈ lettersAt b n, FineL x := by
  rw [lettersAt_eq b n hn]
  have hs := hv.sp n hn
  refine ⟨by rw [lettersM, lettersTo_len]; exact hs.t.2, fun x hx => ?_⟩
  refine lettersTo_all FineL _ _ _ (fun y hy => ?_) (by simp [FineL]) x hx
  have h1 : (b.spellings[n]).alphabet.toNat < b.alphabets.length := by have := hs.a; omega
  rw [lettersOf, List.getElem?_eq_getElem h1] at hy
  exact hv.fine _ h1 y hy
set_option maxRecDepth 100000 in
set_option maxHeartbeats 2000000 in
theorem soundStrings_any (bv : Value) (b : Book) (hv : Valid b) (n : Nat) (hn : n < b.spellings.length) (w : World) (hb : BookAt w bv b) :
    Calls Try.prog 89 #[bv, .int .i64 n] w
      fun e w' => ∃ bl bk lv, e = .returned (.func (.func 102) #[] #[.pointer (some ⟨bl, 0, none⟩), .pointer (some ⟨bk, 0, none⟩)]) ∧
        w'.cell? ⟨bl, 0, none⟩ = some lv ∧ LettersAt w' lv (lettersAt b n) ∧ w'.cell? ⟨bk, 0, none⟩ = some (.int .i64 b.sounds) ∧ Ext w w' := by
  have hs := hv.sp n hn
  have hlet := fun w h => letters_any bv b n hn hs.a hs.t.2 hs.k w h
  rw [← lettersAt_eq b n hn] at hlet
  have hb0 := hb
  obtain ⟨a, c, s, d, rfl, -⟩ := hb.open
  go_enter Try.func89, Try.ntmps89
  go_wp2_with fail
  refine (hlet _ (hb0.ext (ext_alloc _ _))).mono ?_
  rintro e w1 ⟨v, rfl, hv1, hx1⟩
  have q0 : w1.cell? ⟨w.heap.size, 0, none⟩ = some (.int .i64 b.sounds) := hx1.cell (by simp [go_sem])
  have z0 := cell_lt q0
  obtain ⟨la, lc, rfl, -⟩ := hv1.shape
  have x1 : Ext w w1 := hx1.of_alloc
  clear hx1 hlet
  go_wp2
  go_ret
  refine ⟨_, _, .slice la (lettersAt b n).length lc, rfl, ?_, hv1.ext ?_, ?_, ?_⟩
  · simp [go_sem]
  · exact ext_alloc _ _
  · simpa [go_sem, z0] using q0
  · exact x1.alloc _
end Go.Proofs.Ytbodmgilcohfjaa
