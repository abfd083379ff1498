/-
  WHAT canBe RETURNS, in a book without an error.
  A RANGE OVER A MAP BY SOUND STRINGS, in whatever order; and how sound strings are ordered.
  WHAT firstOf RETURNS: the first string that all of some spellings can be, and whether there is one.
  WHAT ear.Spell RETURNS, for any book, number and list: the text and the error that the document says.
  WHAT Count, Reads, Common, First, Alike AND Odd RETURN where there is no error.
  WHAT Common RETURNS where there is no error.
  WHAT First AND Alike RETURN where there is no error.
  WHAT fewestOdd AND Odd RETURN where there is no error.
  WHAT cmp.Or, sets.compare, sets.Fewest AND fewestOdd RETURN where there is no error.
  WHAT sets.Fewest AND fewestOdd RETURN where there is no error.
-/
import Derived.Test.YtnfbhicoknpojaaGreatBunAN
import Derived.Maps.RangeWalk
import Derived.Test.YtnfbhicoknpojaaGreatBunAC
import Derived.Test.YtnfbhicoknpojaaGreatBunAD
import Derived.Test.YtnfbhicoknpojaaGreatBunAH
namespace Go.Proofs.YtnfbhicoknpojaaGreat
set_option linter.unusedSimpArgs false
set_option linter.unusedVariables false
open Go.RowKit
open Go.ChangeMaps (setBlock)
set_option linter.unusedVariables false
attribute [local go_sem] Oper.semAt_some

def marksOf (Ds : List Nat) : List Deferred := Ds.map fun D => { target := .collected D, args := #[] }

/-- a sound string's six cells -/
structure SSAt (W : World) (u : Nat) (x : List Int) : Prop where
  c0 : W.cell? ⟨u, 0, none⟩ = some (.int .i64 x.length)
  c1 : W.cell? ⟨u, 1, none⟩ = some (.int .i64 (x.getD 0 0))
  c2 : W.cell? ⟨u, 2, none⟩ = some (.int .i64 (x.getD 1 0))
  c3 : W.cell? ⟨u, 3, none⟩ = some (.int .i64 (x.getD 2 0))
  c4 : W.cell? ⟨u, 4, none⟩ = some (.int .i64 (x.getD 3 0))
  c5 : W.cell? ⟨u, 5, none⟩ = some (.int .i64 (x.getD 4 0))
theorem SSAt.ck {W W' : World} {u : Nat} {x : List Int} (h : SSAt W u x) (hx : CK W W') : SSAt W' u x :=
  ⟨hx.cell h.c0, hx.cell h.c1, hx.cell h.c2, hx.cell h.c3, hx.cell h.c4, hx.cell h.c5⟩
theorem SSAt.new (W : World) (x : List Int) (t : TypeId) : SSAt (W.alloc (.cells #[.int .i64 x.length, .int .i64 (x.getD 0 0), .int .i64 (x.getD 1 0), .int .i64 (x.getD 2 0), .int .i64 (x.getD 3 0), .int .i64 (x.getD 4 0)] t)) W.heap.size x :=
  ⟨by simp [go_sem], by simp [go_sem], by simp [go_sem], by simp [go_sem], by simp [go_sem], by simp [go_sem]⟩

theorem shl_small : ∀ n : Fin 5, IntKind.i64.wrap (2 ^ n.1) = ((2 ^ n.1 : Nat) : Int) := by decide +kernel
theorem stringsOf_fine {b : Book} (hv : Valid b) (n : Nat) (hn : n < b.spellings.length) : ∀ k ∈ stringsOf b n, k.length ≤ 5 ∧ ∀ x ∈ k, 0 ≤ x ∧ x < ((b.sounds.toNat + 1 : Nat) : Int) - 1 := by
  intro k hk
  have hc := mem_yields.1 hk
  have hf := (lettersAt_fine hv n hn).1
  refine ⟨by have := hc.len; simp at this; omega, hc.fine (by simp)⟩
theorem canM_fine {b : Book} (hv : Valid b) : ∀ (l : List Nat) (M : Tally), (∀ n ∈ l, n < b.spellings.length) → FineT (b.sounds.toNat + 1) M → FineT (b.sounds.toNat + 1) (canFrom b M l)
  | [], _, _, h => h
  | n :: l, M, hl, h => by
    have hn := hl n List.mem_cons_self
    have e : canFrom b M (n :: l) = canFrom b ((stringsOf b n).foldl (markT (2 ^ n)) M) l := by simp [canFrom]
    rw [e]
    exact canM_fine hv l _ (fun m hm => hl m (List.mem_cons_of_mem _ hm)) (fine_foldl (by have := hv.n; omega) _ _ h (stringsOf_fine hv n hn))
set_option maxRecDepth 100000 in
set_option maxHeartbeats 8000000 in
theorem canBe_any (bv v : Value) (b : Book) (hv : Valid b) (l : List Nat) (hl : ∀ n ∈ l, n < b.spellings.length) (w : World) (hb : BookAt w bv b) (hlv : IntsAt w v (ints l)) :
    Calls Tryz.prog 60 #[bv, v] w fun e w' => ∃ B, e = .returned (.map (some B)) ∧ w.heap.size ≤ B ∧ MapIs w' B (canM b l) ∧ Ext w w' := by
  have hb0 := hb
  obtain ⟨a, c, s, d, rfl, -⟩ := hb.open
  have hlen : (ints l).length = l.length := by simp [ints]
  obtain ⟨la, lc, rfl, hlc, hlm, hcl⟩ : ∃ la lc, v = .slice la l.length lc ∧ l.length ≤ lc ∧ lc ≤ 9223372036854775807 ∧ ∀ i (hi : i < l.length), ∃ bb off, la = some ⟨bb, off, none⟩ ∧ w.cell? ⟨bb, off + i, none⟩ = some (.int .i64 ((l[i] : Nat) : Int)) := by
    obtain ⟨la, lc, e, h1, h2, hh⟩ := hlv
    rw [hlen] at h1 e
    refine ⟨la, lc, e, h1, h2, fun i hi => ?_⟩
    obtain ⟨bb, off, e2, r, -⟩ := hh i (by rw [hlen]; exact hi)
    refine ⟨bb, off, e2, ?_⟩
    rw [Nat.mul_one] at r
    rw [r]; simp [ints]
  refine (callsIn_wide (n := 4)).1 (callsIn_of_wp_marks Tryz.func60 rfl trivial ?_ rfl)
  simp only [Tryz.ntmps60, List.size_toArray, List.length_cons, List.length_nil, Nat.reduceAdd, Nat.reduceSub, Array.replicate_succ, Array.replicate_zero, List.push_toArray, List.append_toArray, List.nil_append, List.cons_append]
  refine wpIn_wide.2 ?_
  have hmm := @run_makeMap Tryz.prog
  go_wp2
  obtain ⟨W2, hW2⟩ : ∃ W2, W2 = (((w.alloc (.cells #[.int .i64 b.sounds, .slice a b.alphabets.length c, .slice s b.spellings.length d] 70)).alloc (.map #[] 0)).alloc (.cells #[.map (some (w.heap.size + 1))] 125)) := ⟨_, rfl⟩
  have x2 : Ext w W2 := by rw [hW2]; exact ((ext_alloc _ _).alloc _).alloc _
  have m2 : MapIs W2 (w.heap.size + 1) [] := by
    have h1 := MapIs.nil (w.alloc (.cells #[.int .i64 b.sounds, .slice a b.alphabets.length c, .slice s b.spellings.length d] 70))
    have h2 := h1.kept (Below.block (ext_alloc _ (.cells #[.map (some (w.heap.size + 1))] 125)) _ h1.lt)
    rw [World.size_alloc] at h2
    rw [hW2]; exact h2
  have r0 : W2.cell? ⟨w.heap.size, 0, none⟩ = some (.int .i64 b.sounds) := by rw [hW2]; simp [go_sem]
  have r1 : W2.cell? ⟨w.heap.size, 1, none⟩ = some (.slice a b.alphabets.length c) := by rw [hW2]; simp [go_sem]
  have r2 : W2.cell? ⟨w.heap.size, 2, none⟩ = some (.slice s b.spellings.length d) := by rw [hW2]; simp [go_sem]
  have r3 : W2.cell? ⟨w.heap.size + 1 + 1, 0, none⟩ = some (.map (some (w.heap.size + 1))) := by rw [hW2]; simp [go_sem]
  rw [← hW2]
  clear hW2
  refine wp_loop (fun a' W => ∃ (k : Nat) (Ds : List Nat) (u6 u7 u8 u13 u14 u15 u16 u17 u18 u19 u20 u21 u22 u23 u24 u25 u26 u27 u28 u29 : Value), k ≤ l.length ∧
      a' = { tmps := #[.agg #[.int .i64 b.sounds, .slice a b.alphabets.length c, .slice s b.spellings.length d], .slice la l.length lc, .pointer (some ⟨w.heap.size, 0, none⟩), undef, .map none, .pointer (some ⟨w.heap.size + 1 + 1, 0, none⟩), u6, u7, u8, .map (some (w.heap.size + 1)), .slice la l.length lc, .int .i64 l.length, .int .i64 k, u13, u14, u15, u16, u17, u18, u19, u20, u21, u22, u23, u24, u25, u26, u27, u28, u29], defers := marksOf Ds } ∧
      CK W2 W ∧ Ext w W ∧ MapIs W (w.heap.size + 1) (canM b (l.take k)) ∧ Ds.Nodup ∧ (∀ D ∈ Ds, w.heap.size ≤ D ∧ W.heap[D]? = some (.deferred (some [])))) (fun a' _ => l.length - (intOf (a'.tmps.getD 12 undef)).toNat) ?start ?round
  case start => exact ⟨0, [], undef, undef, undef, undef, undef, undef, undef, undef, undef, undef, undef, undef, undef, undef, undef, undef, undef, undef, undef, undef, Nat.zero_le _, rfl, CK.refl _, x2, m2, List.nodup_nil, by simp⟩
  case round =>
    rintro a' W ⟨k, Ds, u6, u7, u8, u13, u14, u15, u16, u17, u18, u19, u20, u21, u22, u23, u24, u25, u26, u27, u28, u29, hk, rfl, hck, hx, hmap, hnd, hmk⟩
    have q0 := hck.cell r0
    have q1 := hck.cell r1
    have q2 := hck.cell r2
    have q3 := hck.cell r3
    have z0 : w.heap.size < W.heap.size := cell_lt q0
    have z3 : w.heap.size + 1 + 1 < W.heap.size := cell_lt q3
    by_cases hlt : k < l.length
    · obtain ⟨lb, lo, rfl, ck⟩ := hcl k hlt
      have ck := hx.cell ck
      have zk : lb < W.heap.size := cell_lt ck
      have hn := hl l[k] (List.getElem_mem hlt)
      have htake : l.take (k + 1) = l.take k ++ [l[k]] := List.take_succ_eq_append_getElem hlt
      generalize l[k] = n at *
      have kk : (k : Int) < (l.length : Int) := by omega
      have hfine := lettersAt_fine hv n hn
      go_wp2_with fail
      refine (soundStrings_any _ b hv n hn _ (hb0.ext (hx.alloc _))).mono ?_
      rintro e W5 ⟨bl, bk, lv, rfl, h1, h2, h3, hx5⟩
      have q7 : W5.cell? ⟨W.heap.size, 0, none⟩ = some (.int .i64 n) := hx5.cell (by simp [go_sem])
      have x5 : Ext W W5 := hx5.of_alloc
      have z5 : W.heap.size < W5.heap.size := cell_lt q7
      clear hx5
      go_wp2
      refine (wpIn_wide (n := 4)).1 ?_
      refine wpIn_rangeFunc_ownH rfl (by omega) (gf := 130) (lb := #[.pointer (some ⟨bl, 0, none⟩), .pointer (some ⟨bk, 0, none⟩)]) rfl trivial (enters_of Tryz.func130 (by kernel_rfl) rfl)
        (iter_any 3 bl bk lv (lettersAt b n) b.sounds hv.s hfine.1 hfine.2 W5 h1 h2 h3) (fun h k => CK.trans h k) ?kb (Below.refl _ _) (fun _ => rfl)
        (fun pre W' => Told w.heap.size w W5 (w.heap.size + 1) ((pre.map (·.1)).foldl (markT (2 ^ n)) (canM b (l.take k))) Ds W') (fun _ _ _ => False) ?own (fun _ _ _ _ _ h _ _ => h) ?first
        (fun x a' W' => ∃ u, a' = { tmps := #[.agg #[.int .i64 b.sounds, .slice a b.alphabets.length c, .slice s b.spellings.length d], .slice (some ⟨lb, lo, none⟩) l.length lc, .pointer (some ⟨w.heap.size, 0, none⟩), undef, .map none, .pointer (some ⟨w.heap.size + 1 + 1, 0, none⟩), u6, .pointer (some ⟨W.heap.size, 0, none⟩), .pointer (some ⟨u, 0, none⟩), .map (some (w.heap.size + 1)), .slice (some ⟨lb, lo, none⟩) l.length lc, .int .i64 l.length, .int .i64 k, .bool true, .pointer (some ⟨lb, lo + k, none⟩), .int .i64 n, .agg #[.int .i64 b.sounds, .slice a b.alphabets.length c, .slice s b.spellings.length d], .int .i64 n, .func (.func 130) #[] #[.pointer (some ⟨bl, 0, none⟩), .pointer (some ⟨bk, 0, none⟩)], ssV x.1, u20, u21, u22, u23, u24, u25, u26, u27, u28, u29], defers := [] } ∧ SSAt W' u x.1) ?ownA ?assign ?body ?done (fun _ _ _ _ _ _ h _ => h.elim)
      case kb => exact fun W l o o' _ h hc _ => (CK.refl W).grownBy (grownBy_putObj' W l o') (fun r e => by cases e; exact ⟨o, h, hc⟩)
      case own => exact fun pre A B row h hg hr => h.kept (by omega) (by omega) hg hr
      case first => exact ⟨CK.refl _, hx.trans x5, hmap.kept (Below.block x5 _ hmap.lt), fun D hD => ⟨(hmk D hD).1, by have := (Array.getElem?_eq_some_iff.1 (hmk D hD).2).1; omega, (Below.block x5 _ (Array.getElem?_eq_some_iff.1 (hmk D hD).2).1).trans (hmk D hD).2⟩⟩
      case ownA => exact fun x a' _ A B row h hg hr => by obtain ⟨u, e, hs⟩ := h; exact ⟨u, e, hs.ck ((CK.refl A).grownBy hg (fun r e => (hr r e).2))⟩
      case assign =>
        intro l0 pre x W' K hI hK
        have hnew := SSAt.new W' x.1 129
        unfold ssV ssRaw at *
        generalize ((x.1).length : Int) = sn at *
        generalize (x.1).getD 0 0 = s0 at *
        generalize (x.1).getD 1 0 = s1 at *
        generalize (x.1).getD 2 0 = s2 at *
        generalize (x.1).getD 3 0 = s3 at *
        generalize (x.1).getD 4 0 = s4 at *
        gi_wp2
        refine hK _ _ ((KeepsOthers.alloc _ _).from _) (ext_alloc _ _).ck (hI.kept (by omega) (by omega) (World.grownBy_alloc _ _ none) (fun r e => by cases e)) ⟨_, rfl, hnew⟩
      case body =>
        rintro l0 pre x a' W' - - hI ⟨u, rfl, hs⟩ hlen
        have hft : FineT (b.sounds.toNat + 1) ((pre.map (·.1)).foldl (markT (2 ^ n)) (canM b (l.take k))) := by
          refine fine_foldl (by have := hv.n; omega) _ _ (canM_fine hv _ _ (fun m hm => hl m (List.mem_of_mem_take hm)) (FineT.nil _)) fun q hq => ?_
          obtain ⟨y, -, rfl⟩ := List.mem_map.1 hq
          exact ⟨y.2.1, fun z hz => by have := y.2.2 z hz; have := hv.s; omega⟩
        have hnext : ((pre ++ [x]).map (·.1)).foldl (markT (2 ^ n)) (canM b (l.take k)) = markT (2 ^ n) ((pre.map (·.1)).foldl (markT (2 ^ n)) (canM b (l.take k))) x.1 := by simp
        have hpost : ∀ (a3 : Act) (W3 : World), W'.grownBy W3 (some (w.heap.size + 1)) → W3.heap.size = W'.heap.size → MapIs W3 (w.heap.size + 1) (markT (2 ^ n) ((pre.map (·.1)).foldl (markT (2 ^ n)) (canM b (l.take k))) x.1) →
            ownPostG W5.heap.size CK (fun pre W' => Told w.heap.size w W5 (w.heap.size + 1) ((pre.map (·.1)).foldl (markT (2 ^ n)) (canM b (l.take k))) Ds W') (fun _ _ _ => False) (pre ++ [x]) W' .normal a3 W3 := by
          intro a3 W3 hg hsz hm
          have hckk : CK W' W3 := (CK.refl W').grownBy hg (fun r e => by cases e; obtain ⟨es, hes, -⟩ := hI.map; exact ⟨_, hes, rfl⟩)
          refine ⟨KeepsFrom.of_grownBy hg (fun j e => by cases e; omega), hckk, hI.ck.trans hckk, hI.ext.grown hg (fun r e => by cases e; omega), by rw [hnext]; exact hm, fun D hD => ?_⟩
          obtain ⟨d1, d2, d3⟩ := hI.marks D hD
          refine ⟨d1, d2, (hg.block D (Array.getElem?_eq_some_iff.1 d3).1 (fun e => ?_)).trans d3⟩
          obtain ⟨es, hes, -⟩ := hI.map
          cases e
          rw [hes] at d3; cases d3
        have p7 := hI.ck.cell q7
        have p3 := hI.ck.cell (x5.cell q3)
        obtain ⟨es, hes, hE⟩ := hI.map
        generalize (pre.map (·.1)).foldl (markT (2 ^ n)) (canM b (l.take k)) = M at *
        have hM : ∀ p ∈ M, p.1.length ≤ 5 := fun p hp => (hft.keys p hp).1
        have hg32 := hft.get_lt x.1
        have hlook := fun w1 h => lookup_two (w1 := w1) (B := w.heap.size + 1) x.2.1 hM hE h
        have hentry := fun w1 h => entry_two (w1 := w1) (B := w.heap.size + 1) x.2.1 hM hE h
        have hstore := fun w1 h => store_two (w1 := w1) (B := w.heap.size + 1) (k := x.1) hE ((getT x.1 M).getD 0 ||| 2 ^ n) h
        obtain ⟨p0, p1, p2, p3', p4, p5⟩ := hs
        obtain ⟨sn, s0, s1, s2, s3, s4, hsv, hsn, hs0, hs1, hs2, hs3, hs4⟩ : ∃ sn s0 s1 s2 s3 s4, ssV x.1 = .agg #[.int .i64 sn, .int .i64 s0, .int .i64 s1, .int .i64 s2, .int .i64 s3, .int .i64 s4] ∧ ((x.1).length : Int) = sn ∧ (x.1).getD 0 0 = s0 ∧ (x.1).getD 1 0 = s1 ∧ (x.1).getD 2 0 = s2 ∧ (x.1).getD 3 0 = s3 ∧ (x.1).getD 4 0 = s4 :=
          ⟨_, _, _, _, _, _, rfl, rfl, rfl, rfl, rfl, rfl, rfl⟩
        rw [hsn] at p0; rw [hs0] at p1; rw [hs1] at p2; rw [hs2] at p3'; rw [hs3] at p4; rw [hs4] at p5
        clear hsn hs0 hs1 hs2 hs3 hs4
        rw [hsv] at hlook hentry
        rw [hsv]
        clear hsv
        unfold markT at hpost
        generalize (getT x.1 M).getD 0 = g at *
        have hn5 : n < 5 := by have := hv.n; omega
        clear h1 h2 h3 hb hb0 hcl hlv hck r0 r1 r2 r3 q0 q1 q2 q3 hmm hmk
        have hsh := shl_small ⟨n, hn5⟩
        have hor0 := or_small ⟨g, hg32⟩ ⟨n, hn5⟩
        simp only at hsh hor0
        obtain ⟨p, hp⟩ : ∃ p : Nat, p = 2 ^ n := ⟨_, rfl⟩
        rw [← hp] at hsh hor0 hstore
        have hpost2 := fun a3 W3 h1 h2 (h3 : MapIs W3 (w.heap.size + 1) (putT x.1 (g ||| p) M)) => hpost a3 W3 h1 h2 (by rw [← hp]; exact h3)
        have hor : bits BinOp.or IntKind.i64 (g : Int) (p : Int) = ((g ||| p : Nat) : Int) := hor0
        clear hor0 hp hpost
        gi_wp2_with fail
        apply Facts.Piv.wpIn_region (two_turn2 (w.heap.size + 1) (obj0 es M) (obj1 x.1 es M) (obj2 x.1 (g ||| p) es M) obj_last) 8 [.val _, .val _, .val _, .val _, .val (.int .i64 (p : Nat)), .val (.int .i64 ((g ||| p : Nat) : Int)), .fact (Taken (w.heap.size + 1) (obj1 x.1 es M) (obj2 x.1 (g ||| p) es M) (.tuple #[.int .i64 (g : Nat), .int .i64 (posT x.1 M : Nat)])),
          .fact (IsVal (.int .i64 (posT x.1 M : Nat))), .fact (Written (w.heap.size + 1) (obj2 x.1 (g ||| p) es M) W')] (by kernel_rfl) (by kernel_rfl) (by kernel_rfl) (by kernel_rfl) ?keep ?main
        case keep => exact ⟨fun _ _ _ h ht => Taken.e h ht, fun _ _ _ _ h ht => Taken.c h ht, fun _ _ _ _ h => h, fun _ _ _ _ _ h => h, fun _ _ _ h ht => Written.e h ht, fun h => absurd h (Bool.eq_false_iff.1 (by kernel_rfl)), trivial⟩
        case main =>
          iterate 1 (refine ⟨fun w1 hE hx hh => ?_, ?_⟩; focus (clear hh hx; replace hE := hE (by kernel_rfl); (have e1 := (hE.ck hes).cell p3); clear hE; go_simp; first | exact ⟨Turn.refl _ _ _ _, rfl⟩ | exact Turn.refl _ _ _ _))
          iterate 1 (refine ⟨fun w1 hE hx hh => ?_, ?_⟩; focus (clear hh hx; replace hE := hE (by kernel_rfl); (have e0 := (hE.ck hes).cell p0; have e1 := (hE.ck hes).cell p1; have e2 := (hE.ck hes).cell p2; have e3 := (hE.ck hes).cell p3'; have e4 := (hE.ck hes).cell p4; have e5 := (hE.ck hes).cell p5); clear hE; go_simp; first | exact ⟨Turn.refl _ _ _ _, rfl⟩ | exact Turn.refl _ _ _ _))
          iterate 1 (refine ⟨fun w1 hE hx hh => ?_, ?_⟩; focus (clear hh hx; replace hE := hE (by kernel_rfl); (have e1 := hlook w1 (hE.either hes)); clear hE; go_simp; first | exact ⟨Turn.refl _ _ _ _, rfl⟩ | exact Turn.refl _ _ _ _))
          iterate 1 (refine ⟨fun w1 hE hx hh => ?_, ?_⟩; focus (clear hh hx; replace hE := hE (by kernel_rfl); (have e1 := (hE.ck hes).cell p7); clear hE; go_simp; first | exact ⟨Turn.refl _ _ _ _, rfl⟩ | exact Turn.refl _ _ _ _))
          iterate 2 (refine ⟨fun w1 hE hx hh => ?_, ?_⟩; focus (clear hh hx; replace hE := hE (by kernel_rfl); skip; clear hE; go_simp; first | exact ⟨Turn.refl _ _ _ _, rfl⟩ | exact Turn.refl _ _ _ _))
          refine ⟨fun w1 hE hx hh => ?_, ?_⟩
          · clear hh hx
            replace hE := hE (by kernel_rfl)
            obtain ⟨w2, hr, hrest⟩ := hentry w1 (hE.either hes)
            have Hrest := Lib.hid hrest
            clear hrest
            go_simp
            exact ⟨Hrest.out.1, rfl, .inl Hrest.out.2⟩
          intro u6
          refine ⟨fun w1 hE hx hh => ?_, ?_⟩
          · have h6 : Taken (w.heap.size + 1) (obj1 x.1 es M) (obj2 x.1 (g ||| p) es M) (.tuple #[.int .i64 (g : Nat), .int .i64 (posT x.1 M : Nat)]) u6 w1 := hh 6 _ List.mem_cons_self (by kernel_rfl)
            clear hh hx hE
            rw [h6.1]
            go_simp
            exact ⟨Turn.refl _ _ _ _, rfl⟩
          intro u7
          refine ⟨fun w1 hE hx hh => ?_, ?_⟩
          · have h7 : IsVal (.int .i64 (posT x.1 M : Nat)) u7 w1 := hh 7 _ List.mem_cons_self (by kernel_rfl)
            have h6 : Taken (w.heap.size + 1) (obj1 x.1 es M) (obj2 x.1 (g ||| p) es M) (.tuple #[.int .i64 (g : Nat), .int .i64 (posT x.1 M : Nat)]) u6 w1 := hh 6 _ (List.mem_cons_of_mem _ List.mem_cons_self) (by kernel_rfl)
            clear hh hx
            replace hE := hE (by kernel_rfl)
            have hs := hstore w1 (Taken.now hE hes h6)
            have hr := hs.1
            have Hrest := Lib.hid hs.2
            have HE := Lib.hid hE
            rw [show u7 = _ from h7]
            clear hE h6 h7 hs
            go_simp
            exact ⟨⟨Hrest.out.1, Hrest.out.2.1, .inr (.inr Hrest.out.2.2)⟩, HE.out.g.trans Hrest.out.1, Hrest.out.2.1.trans HE.out.s, Hrest.out.2.2⟩
          intro u9 w1 hx hh
          have h8 : Written (w.heap.size + 1) (obj2 x.1 (g ||| p) es M) W' u9 w1 := hh 8 _ List.mem_cons_self
          clear hh hx
          exact hpost2 { tmps := #[], defers := [] } _ h8.1 h8.2.1 ⟨_, h8.2.2, hE.sto _ _⟩
      case done =>
        rintro D xs W' hD hxs hI hDm
        go_wp2
        refine ⟨⟨k + 1, D :: Ds, _, _, _, _, _, _, _, _, _, _, _, _, _, _, _, _, _, _, _, _, by omega, by simp only [marksOf, List.map_cons, Int.natCast_add, Int.natCast_one]; rfl, hck.trans (x5.ck.trans hI.ck), hI.ext, ?_, ?_, ?_⟩, ?_⟩
        · rw [htake, canM, canFrom_snoc, stringsOf, ← hxs]; exact hI.map
        · rw [List.nodup_cons]; exact ⟨fun h => by have := (hI.marks D h).2.1; omega, hnd⟩
        · intro E hE
          rcases List.mem_cons.1 hE with rfl | hE
          · exact ⟨by omega, hDm⟩
          · exact ⟨(hI.marks E hE).1, (hI.marks E hE).2.2⟩
        · simp [intOf]; omega
    · have hke : k = l.length := by omega
      subst hke
      rw [List.take_length] at hmap
      go_wp2
      refine leaves_marks w.heap.size (fun W' => MapIs W' (w.heap.size + 1) (canM b l) ∧ Ext w W') (fun A D hD h hd => ⟨h.1.kept (World.putObj_heap_other (fun e => ?_)), h.2.grown (grownBy_putObj' A D _) (fun r e => by cases e; exact hD)⟩) (fun A h => ?_) Ds W hnd hmk ⟨hmap, hx⟩
      · obtain ⟨⟨es, hb, -⟩, -⟩ := h
        first | (rw [← e, hd] at hb; cases hb) | (rw [e, hd] at hb; cases hb)
      · exact ⟨_, results_tmp rfl _ _ _, _, rfl, by omega, h.1, h.2⟩
end Go.Proofs.YtnfbhicoknpojaaGreat

namespace Go.Proofs.YtnfbhicoknpojaaGreat
set_option linter.unusedSimpArgs false
set_option linter.unusedVariables false
set_option linter.unusedVariables false
set_option linter.unusedSimpArgs false
open Go.RowKit
open Go.ChangeMaps (setBlock)

/-- the iterator in block r has handed out the entries with these numbers -/
def IterAt (w : World) (r B : Nat) (m : Nat) (seen : Array Nat) : Prop := w.heap[r]? = some (.mapIter (some B) m seen m)
/-- how many entries of m are still to come -/
def leftN (m : Nat) (seen : Array Nat) : Nat := ((List.range m).filter fun i => !seen.contains i).length
def leftW (m r : Nat) (w : World) : Nat := match w.heap[r]? with
  | some (.mapIter _ _ seen _) => leftN m seen
  | _ => 0
theorem leftW_eq {w : World} {r B m : Nat} {seen : Array Nat} (h : IterAt w r B m seen) : leftW m r w = leftN m seen := by
  unfold leftW; rw [h]
theorem filter_lt {α : Type} (p q : α → Bool) (x : α) (hq : ∀ y, q y = true → p y = true) (h1 : p x = true) (h2 : q x = false) : ∀ l : List α, x ∈ l → (l.filter q).length < (l.filter p).length
  | [], h => by cases h
  | y :: l, h => by
    have hle : ∀ l : List α, (l.filter q).length ≤ (l.filter p).length := by
      intro l
      induction l with
      | nil => exact Nat.le_refl _
      | cons z l ih =>
        cases hz : q z
        · cases hp : p z <;> simp [hz, hp] <;> omega
        · simp [hz, hq z hz]; omega
    rcases List.mem_cons.1 h with e | h
    · subst e
      have := hle l
      simp [h1, h2]; omega
    · have ih := filter_lt p q x hq h1 h2 l h
      cases hz : q y
      · cases hp : p y <;> simp [hz, hp] <;> omega
      · simp [hz, hq y hz]; omega
theorem leftN_push {m i : Nat} {seen : Array Nat} (hi : i < m) (h : seen.contains i = false) : leftN m (seen.push i) < leftN m seen := by
  refine filter_lt _ _ i (fun y hy => ?_) (by rw [h]; rfl) (by simp [Array.contains_push]) _ (by simpa using hi)
  simp only [Bool.not_eq_true', Array.contains_push, Bool.or_eq_false_iff] at hy ⊢
  exact hy.1
theorem left_entries {es : Array MapEntry} {M : Tally} (hE : EntriesAre es M) {seen : Array Nat} {e : MapEntry} (h : e ∈ (leftOf es seen).toList) : ∃ i, ∃ hi : i < M.length, e = { key := ssV (M[i]).1, val := .int .i64 ((M[i]).2 : Nat), born := i } ∧ seen.contains i = false := by
  unfold leftOf at h
  rw [Array.mem_toList_iff, Array.mem_filter] at h
  obtain ⟨h1, h2⟩ := h
  obtain ⟨i, hi, rfl⟩ := Array.getElem_of_mem h1
  have hi' : i < M.length := by rw [← hE.size]; exact hi
  obtain ⟨_, hat⟩ := hE.at i hi'
  refine ⟨i, hi', hat, ?_⟩
  rw [hat] at h2
  simpa using h2
theorem left_none {es : Array MapEntry} {M : Tally} (hE : EntriesAre es M) {seen : Array Nat} (h : (leftOf es seen).size = 0) : ∀ i, i < M.length → seen.contains i = true := by
  intro i hi
  obtain ⟨hi', hat⟩ := hE.at i hi
  unfold leftOf at h
  have h0 := Array.eq_empty_of_size_eq_zero h
  rw [Array.filter_eq_empty_iff] at h0
  have := h0 es[i] (Array.getElem_mem hi')
  rw [hat] at this
  simpa using this
section
variable {P : Program} (w : World) {ops : Array Oper} {rest : List Oper} {o : Oper} {a : Act} {Q : Exit → Act → World → Prop}
theorem wpList_range_ss (hg : o.guard = none) (m : Operand) (hop : o.op = Op.range 125 m) (B : Nat) (M : Tally) (hm : a.eval m = .map (some B)) (h : MapIs w B M) (r : Nat) (hs : w.heap.size = r)
    (hK : ∀ w', IterAt w' r B M.length #[] → Ext w w' → w'.heap.size = r + 1 → wpList Tryz.prog ops Q rest (a.put o.dst (.pointer (some ⟨r, 0, none⟩))) w') :
    wpList Tryz.prog ops Q (o :: rest) a w := by
  subst hs
  refine wpList_plain hg fun K' hK' => ?_
  obtain ⟨es, hb, hE⟩ := h
  have hrun := run_range_map (P := Tryz.prog) w 125 129 3 B es M.length Tryz.underlying125 hb
  unfold Oper.wp
  simp [execOp, hop, hm, hrun, Result.andThen]
  exact hK' _ _ (hK _ (heap_alloc_new w _) (ext_alloc w _) (by simp))
theorem wpList_next_ss (hg : o.guard = none) (it : Operand) (hop : o.op = Op.next it false) (B r : Nat) (M : Tally) (seen : Array Nat) (hit : a.eval it = .pointer (some ⟨r, 0, none⟩)) (hr : IterAt w r B M.length seen) (h : MapIs w B M)
    (hDone : (∀ i, i < M.length → seen.contains i = true) → wpList Tryz.prog ops Q rest (a.put o.dst (.tuple #[.bool false])) w)
    (hMore : ∀ (i : Nat) (hi : i < M.length) (w' : World), seen.contains i = false → IterAt w' r B M.length (seen.push i) → w.grownBy w' (some r) → w'.heap.size = w.heap.size →
      (Instr.entry (.pointer (some ⟨r, 0, none⟩))).run Tryz.prog w' = .ok (.tuple #[ssV (M[i]).1, .int .i64 ((M[i]).2 : Nat)]) w' → wpList Tryz.prog ops Q rest (a.put o.dst (.tuple #[.bool true, ssV (M[i]).1, .int .i64 ((M[i]).2 : Nat)])) w') :
    wpList Tryz.prog ops Q (o :: rest) a w := by
  refine wpList_plain hg fun K' hK' => ?_
  obtain ⟨es, hb, hE⟩ := h
  have hne : r ≠ B := by
    intro e; subst e; unfold IterAt at hr; rw [hr] at hb; cases hb
  have hlt : r < w.heap.size := (Array.getElem?_eq_some_iff.1 hr).1
  have hold : ∀ x ∈ es.toList, x.born < M.length := by
    intro x hx
    obtain ⟨i, hi, rfl⟩ := List.getElem_of_mem hx
    have hi' : i < M.length := by rw [← hE.size]; simpa using hi
    obtain ⟨_, hat⟩ := hE.at i hi'
    simp [hat, hi']
  unfold Oper.wp
  rcases run_next_at (P := Tryz.prog) w o.type r B M.length M.length seen es M.length hr hb hold (Nat.le_refl _) with ⟨h0, hrun⟩ | ⟨e, he, w1, hal, hrun⟩
  · simp [execOp, hop, hit, hrun, Result.andThen]
    exact hK' _ _ (hDone (left_none hE h0))
  · obtain ⟨i, hi, rfl, hse⟩ := left_entries hE he
    obtain ⟨hi', hat⟩ := hE.at i hi
    simp only [execOp, hop, hit, Sem.run_bind, hrun, Result.andThen, Sem.run_pure]
    have hh : w1.heap = w.heap := by rcases hal with rfl | rfl <;> rfl
    have hb1 : (setBlock w1 r (.mapIter (some B) M.length (seen.push i) M.length)).heap[B]? = some (.map es M.length) := by simp [setBlock, hh, Array.getElem?_setIfInBounds_ne hne, hb]
    have hr1 : IterAt (setBlock w1 r (.mapIter (some B) M.length (seen.push i) M.length)) r B M.length (seen.push i) := by simp [IterAt, setBlock, hh, hlt]
    refine hK' _ _ (hMore i hi _ hse hr1 ⟨?_, ?_, ?_, ?_, ?_⟩ ?_ ?_)
    · rcases hal with rfl | rfl <;> rfl
    · rcases hal with rfl | rfl <;> rfl
    · rcases hal with rfl | rfl <;> rfl
    · simp [setBlock, hh]
    · intro k hk hkr
      have : r ≠ k := fun e => hkr (by rw [e])
      simp [setBlock, hh, Array.getElem?_setIfInBounds_ne this]
    · simp [setBlock, hh]
    · have := run_entry_at (P := Tryz.prog) _ r B M.length seen es M.length { key := ssV (M[i]).1, val := .int .i64 ((M[i]).2 : Nat), born := i } hr1 hb1 (by rw [← hat]; simp) (by
        have hbn := hE.born
        rw [hbn]; exact List.nodup_range)
      simpa using this
end

theorem cmpM_neg {x y : Int} : cmpM x y < 0 ↔ x < y := by unfold cmpM; split <;> (try split) <;> omega
theorem cmpM_zero {x y : Int} : cmpM x y = 0 ↔ x = y := by unfold cmpM; split <;> (try split) <;> omega
theorem cmpL_trans : ∀ {a b c : List Int}, cmpL a b < 0 → cmpL b c < 0 → cmpL a c < 0
  | [], [], _, h, _ => by simp [cmpL] at h
  | [], _ :: _, [], _, k => by simp [cmpL] at k
  | [], _ :: _, _ :: _, _, _ => by simp [cmpL]
  | _ :: _, [], _, h, _ => by simp [cmpL] at h
  | _ :: _, _ :: _, [], _, k => by simp [cmpL] at k
  | x :: a, y :: b, z :: c, h, k => by
    unfold cmpL at h k ⊢
    by_cases h1 : cmpM x y = 0
    · rw [if_pos h1] at h
      have e := cmpM_zero.1 h1; subst e
      by_cases h2 : cmpM x z = 0
      · rw [if_pos h2] at k ⊢; exact cmpL_trans h k
      · rw [if_neg h2] at k ⊢; exact k
    · rw [if_neg h1] at h
      have h3 := cmpM_neg.1 h
      by_cases h2 : cmpM y z = 0
      · have e := cmpM_zero.1 h2; subst e
        rw [if_neg h1]; exact h
      · rw [if_neg h2] at k
        have k3 := cmpM_neg.1 k
        have h4 : cmpM x z < 0 := cmpM_neg.2 (by omega)
        rw [if_neg (by omega)]; exact h4
theorem cmpSS_trans {a b c : List Int} (h : cmpSS a b < 0) (k : cmpSS b c < 0) : cmpSS a c < 0 := by
  unfold cmpSS at *
  by_cases h1 : a.length = b.length
  · rw [if_pos h1] at h
    by_cases h2 : b.length = c.length
    · rw [if_pos h2] at k; rw [if_pos (by omega)]; exact cmpL_trans h k
    · rw [if_neg h2] at k
      have := cmpM_neg.1 k
      rw [if_neg (by omega)]; exact cmpM_neg.2 (by omega)
  · rw [if_neg h1] at h
    have h3 := cmpM_neg.1 h
    by_cases h2 : b.length = c.length
    · rw [if_neg (by omega)]; exact cmpM_neg.2 (by omega)
    · rw [if_neg h2] at k
      have := cmpM_neg.1 k
      rw [if_neg (by omega)]; exact cmpM_neg.2 (by omega)

/-- the first string, of some entries, whose bits have all of n -/
structure FirstIs (M : Tally) (on : Nat → Prop) (n : Nat) (k : List Int) (f : Bool) : Prop where
  no : f = false → k = [] ∧ ∀ i (hi : i < M.length), on i → (M[i]).2 &&& n ≠ n
  yes : f = true → (∃ i, ∃ hi : i < M.length, (M[i]).1 = k ∧ (M[i]).2 &&& n = n) ∧ ∀ i (hi : i < M.length), on i → (M[i]).2 &&& n = n → ¬ cmpSS (M[i]).1 k < 0
theorem FirstIs.start (M : Tally) (n : Nat) : FirstIs M (fun i => (#[] : Array Nat).contains i = true) n [] false :=
  ⟨fun _ => ⟨rfl, fun i _ h => by simp at h⟩, fun h => by cases h⟩
theorem FirstIs.skip {M : Tally} {seen : Array Nat} {n : Nat} {k : List Int} {f : Bool} (h : FirstIs M (fun i => seen.contains i = true) n k f) {j : Nat} (hj : j < M.length)
    (hs : (M[j]).2 &&& n ≠ n ∨ (f = true ∧ ¬ cmpSS (M[j]).1 k < 0)) : FirstIs M (fun i => (seen.push j).contains i = true) n k f := by
  refine ⟨fun hf => ⟨(h.no hf).1, fun i hi ho => ?_⟩, fun hf => ⟨(h.yes hf).1, fun i hi ho hb => ?_⟩⟩
  · rw [Array.contains_push, Bool.or_eq_true] at ho
    rcases ho with ho | ho
    · exact (h.no hf).2 i hi ho
    · obtain rfl : i = j := by simpa using ho
      rcases hs with hs | ⟨h1, -⟩
      · exact hs
      · rw [hf] at h1; cases h1
  · rw [Array.contains_push, Bool.or_eq_true] at ho
    rcases ho with ho | ho
    · exact (h.yes hf).2 i hi ho hb
    · obtain rfl : i = j := by simpa using ho
      rcases hs with hs | ⟨-, h1⟩
      · exact absurd hb hs
      · exact h1
theorem cmpSS_self (k : List Int) : cmpSS k k = 0 := by unfold cmpSS; rw [if_pos rfl, cmpL_self]
theorem FirstIs.take {M : Tally} {seen : Array Nat} {n : Nat} {k : List Int} {f : Bool} (h : FirstIs M (fun i => seen.contains i = true) n k f) {j : Nat} (hj : j < M.length)
    (hb : (M[j]).2 &&& n = n) (hs : f = false ∨ cmpSS (M[j]).1 k < 0) : FirstIs M (fun i => (seen.push j).contains i = true) n (M[j]).1 true := by
  refine ⟨fun hf => (by cases hf), fun _ => ⟨⟨j, hj, rfl, hb⟩, fun i hi ho hbi => ?_⟩⟩
  rw [Array.contains_push, Bool.or_eq_true] at ho
  rcases ho with ho | ho
  · cases f with
    | false => exact absurd hbi ((h.no rfl).2 i hi ho)
    | true =>
      have hs := hs.resolve_left (by simp)
      intro hlt
      exact (h.yes rfl).2 i hi ho hbi (cmpSS_trans hlt hs)
  · obtain rfl : i = j := by simpa using ho
    rw [cmpSS_self]; omega
/-- a sound string's six cells -/
structure SixAt (W : World) (u : Nat) (x : List Int) : Prop where
  c0 : W.cell? ⟨u, 0, none⟩ = some (.int .i64 x.length)
  c1 : W.cell? ⟨u, 1, none⟩ = some (.int .i64 (x.getD 0 0))
  c2 : W.cell? ⟨u, 2, none⟩ = some (.int .i64 (x.getD 1 0))
  c3 : W.cell? ⟨u, 3, none⟩ = some (.int .i64 (x.getD 2 0))
  c4 : W.cell? ⟨u, 4, none⟩ = some (.int .i64 (x.getD 3 0))
  c5 : W.cell? ⟨u, 5, none⟩ = some (.int .i64 (x.getD 4 0))
theorem SixAt.ck {W W' : World} {u : Nat} {x : List Int} (h : SixAt W u x) (hx : CK W W') : SixAt W' u x :=
  ⟨hx.cell h.c0, hx.cell h.c1, hx.cell h.c2, hx.cell h.c3, hx.cell h.c4, hx.cell h.c5⟩
theorem SixAt.new (W : World) (x : List Int) (t : TypeId) : SixAt (W.alloc (.cells #[.int .i64 x.length, .int .i64 (x.getD 0 0), .int .i64 (x.getD 1 0), .int .i64 (x.getD 2 0), .int .i64 (x.getD 3 0), .int .i64 (x.getD 4 0)] t)) W.heap.size x :=
  ⟨by simp [go_sem], by simp [go_sem], by simp [go_sem], by simp [go_sem], by simp [go_sem], by simp [go_sem]⟩

theorem six_set {w : World} {B : Nat} {x0 x1 x2 x3 x4 x5 : Value} (h0 : w.cell? ⟨B, 0, none⟩ = some x0) (h1 : w.cell? ⟨B, 1, none⟩ = some x1) (h2 : w.cell? ⟨B, 2, none⟩ = some x2) (h3 : w.cell? ⟨B, 3, none⟩ = some x3) (h4 : w.cell? ⟨B, 4, none⟩ = some x4) (h5 : w.cell? ⟨B, 5, none⟩ = some x5) (a b c d e f : Value) :
    (w.setCell ⟨B, 0, none⟩ a).cell? ⟨B, 0, none⟩ = some a ∧
    ((w.setCell ⟨B, 0, none⟩ a).setCell ⟨B, 1, none⟩ b).cell? ⟨B, 1, none⟩ = some b ∧
    (((w.setCell ⟨B, 0, none⟩ a).setCell ⟨B, 1, none⟩ b).setCell ⟨B, 2, none⟩ c).cell? ⟨B, 2, none⟩ = some c ∧
    ((((w.setCell ⟨B, 0, none⟩ a).setCell ⟨B, 1, none⟩ b).setCell ⟨B, 2, none⟩ c).setCell ⟨B, 3, none⟩ d).cell? ⟨B, 3, none⟩ = some d ∧
    (((((w.setCell ⟨B, 0, none⟩ a).setCell ⟨B, 1, none⟩ b).setCell ⟨B, 2, none⟩ c).setCell ⟨B, 3, none⟩ d).setCell ⟨B, 4, none⟩ e).cell? ⟨B, 4, none⟩ = some e ∧
    ((((((w.setCell ⟨B, 0, none⟩ a).setCell ⟨B, 1, none⟩ b).setCell ⟨B, 2, none⟩ c).setCell ⟨B, 3, none⟩ d).setCell ⟨B, 4, none⟩ e).setCell ⟨B, 5, none⟩ f).cell? ⟨B, 5, none⟩ = some f := by
  have o : ∀ {w : World} {i j : Nat} {x : Value} (v : Value), i ≠ j → w.cell? ⟨B, j, none⟩ = some x → (w.setCell ⟨B, i, none⟩ v).cell? ⟨B, j, none⟩ = some x := fun v hne h => set_other h (.inr hne) v
  refine ⟨set_cell h0 a, set_cell (o a (by decide) h1) b, set_cell (o b (by decide) (o a (by decide) h2)) c, set_cell (o c (by decide) (o b (by decide) (o a (by decide) h3))) d,
    set_cell (o d (by decide) (o c (by decide) (o b (by decide) (o a (by decide) h4)))) e, set_cell (o e (by decide) (o d (by decide) (o c (by decide) (o b (by decide) (o a (by decide) h5))))) f⟩
/-- the six cells behind six stores -/
theorem six_all {w : World} {B : Nat} {x0 x1 x2 x3 x4 x5 : Value} (h0 : w.cell? ⟨B, 0, none⟩ = some x0) (h1 : w.cell? ⟨B, 1, none⟩ = some x1) (h2 : w.cell? ⟨B, 2, none⟩ = some x2) (h3 : w.cell? ⟨B, 3, none⟩ = some x3) (h4 : w.cell? ⟨B, 4, none⟩ = some x4) (h5 : w.cell? ⟨B, 5, none⟩ = some x5) (k : List Int) :
    SixAt ((((((w.setCell ⟨B, 0, none⟩ (.int .i64 k.length)).setCell ⟨B, 1, none⟩ (.int .i64 (k.getD 0 0))).setCell ⟨B, 2, none⟩ (.int .i64 (k.getD 1 0))).setCell ⟨B, 3, none⟩ (.int .i64 (k.getD 2 0))).setCell ⟨B, 4, none⟩ (.int .i64 (k.getD 3 0))).setCell ⟨B, 5, none⟩ (.int .i64 (k.getD 4 0))) B k := by
  obtain ⟨t0, t1, t2, t3, t4, t5⟩ := six_set h0 h1 h2 h3 h4 h5 (.int .i64 k.length) (.int .i64 (k.getD 0 0)) (.int .i64 (k.getD 1 0)) (.int .i64 (k.getD 2 0)) (.int .i64 (k.getD 3 0)) (.int .i64 (k.getD 4 0))
  have o : ∀ {w : World} {i j : Nat} {x : Value} (v : Value), i ≠ j → w.cell? ⟨B, j, none⟩ = some x → (w.setCell ⟨B, i, none⟩ v).cell? ⟨B, j, none⟩ = some x := fun v hne h => set_other h (.inr hne) v
  exact ⟨o _ (by decide) (o _ (by decide) (o _ (by decide) (o _ (by decide) (o _ (by decide) t0)))), o _ (by decide) (o _ (by decide) (o _ (by decide) (o _ (by decide) t1))), o _ (by decide) (o _ (by decide) (o _ (by decide) t2)), o _ (by decide) (o _ (by decide) t3), o _ (by decide) t4, t5⟩
theorem six_grown (w : World) (B : Nat) (a b c d e f : Value) : w.grownBy ((((((w.setCell ⟨B, 0, none⟩ a).setCell ⟨B, 1, none⟩ b).setCell ⟨B, 2, none⟩ c).setCell ⟨B, 3, none⟩ d).setCell ⟨B, 4, none⟩ e).setCell ⟨B, 5, none⟩ f) (some B) := by
  have g : ∀ (w : World) (i : Nat) (v : Value), w.grownBy (w.setCell ⟨B, i, none⟩ v) (some B) := fun w i v =>
    ⟨rfl, rfl, rfl, (KeepsWalks.setCell w _ v).size, fun k _ hk => Below.heap_setCell _ _ _ k (fun e => hk (by rw [e]))⟩
  exact (((((g _ _ _).trans (g _ _ _)).trans (g _ _ _)).trans (g _ _ _)).trans (g _ _ _)).trans (g _ _ _)
/-- what the loop keeps -/
structure Range (w0 : World) (r B m a c : Nat) (seen : Array Nat) (M : Tally) (k : List Int) (W : World) : Prop where
  it : IterAt W r B m seen
  map : MapIs W B M
  six : SixAt W a k
  fr : ∀ o, W.frozen? ⟨a, o, none⟩ = false
  res : SixAt W c []
  frr : ∀ o, W.frozen? ⟨c, o, none⟩ = false
  ext : Ext w0 W
theorem Range.later {w0 : World} {r B m a c : Nat} {seen : Array Nat} {M : Tally} {k : List Int} {W W' : World} (h : Range w0 r B m a c seen M k W) (hx : Ext W W') : Range w0 r B m a c seen M k W' :=
  ⟨(Below.block hx r (Array.getElem?_eq_some_iff.1 h.it).1).trans h.it, h.map.kept (Below.block hx B h.map.lt), h.six.ck hx.ck, fun o => by rw [hx.frozen (p := ⟨a, o, none⟩) (cell_lt h.six.c0 : a < _)]; exact h.fr o, h.res.ck hx.ck, fun o => by rw [hx.frozen (p := ⟨c, o, none⟩) (cell_lt h.res.c0 : c < _)]; exact h.frr o, h.ext.trans hx⟩
theorem Range.next {w0 : World} {r B m a c : Nat} {seen : Array Nat} {M : Tally} {k : List Int} {W W' : World} (h : Range w0 r B m a c seen M k W) (hg : W.grownBy W' (some r)) {i : Nat} (hi : IterAt W' r B m (seen.push i)) (hra : r ≠ a) (hBr : B ≠ r) (hcr : c ≠ r) (h0 : w0.heap.size ≤ r) : Range w0 r B m a c (seen.push i) M k W' := by
  have hne : ∀ o, some (⟨c, o, none⟩ : Addr).block ≠ some r := fun o e => hcr (by cases e; rfl)
  have hna : ∀ o, some (⟨a, o, none⟩ : Addr).block ≠ some r := fun o e => hra (by cases e; rfl)
  exact ⟨hi, h.map.kept (hg.block B h.map.lt (fun e => hBr (by cases e; rfl))),
    ⟨hg.cell h.six.c0 (hna _), hg.cell h.six.c1 (hna _), hg.cell h.six.c2 (hna _), hg.cell h.six.c3 (hna _), hg.cell h.six.c4 (hna _), hg.cell h.six.c5 (hna _)⟩,
    fun o => (World.frozen?_of_block (hg.block a (cell_lt h.six.c0) (hna o))).trans (h.fr o),
    ⟨hg.cell h.res.c0 (hne _), hg.cell h.res.c1 (hne _), hg.cell h.res.c2 (hne _), hg.cell h.res.c3 (hne _), hg.cell h.res.c4 (hne _), hg.cell h.res.c5 (hne _)⟩,
    fun o => (World.frozen?_of_block (hg.block c (cell_lt h.res.c0) (hne o))).trans (h.frr o), h.ext.grown hg (fun _ e => by cases e; exact h0)⟩
theorem Range.took {w0 : World} {r B m a c : Nat} {seen : Array Nat} {M : Tally} {k : List Int} {W : World} (h : Range w0 r B m a c seen M k W) (hra : r ≠ a) (hBa : B ≠ a) (hca : c ≠ a) (h0 : w0.heap.size ≤ a) (q : List Int) :
    Range w0 r B m a c seen M q ((((((W.setCell ⟨a, 0, none⟩ (.int .i64 q.length)).setCell ⟨a, 1, none⟩ (.int .i64 (q.getD 0 0))).setCell ⟨a, 2, none⟩ (.int .i64 (q.getD 1 0))).setCell ⟨a, 3, none⟩ (.int .i64 (q.getD 2 0))).setCell ⟨a, 4, none⟩ (.int .i64 (q.getD 3 0))).setCell ⟨a, 5, none⟩ (.int .i64 (q.getD 4 0))) := by
  have g := six_grown W a (.int .i64 q.length) (.int .i64 (q.getD 0 0)) (.int .i64 (q.getD 1 0)) (.int .i64 (q.getD 2 0)) (.int .i64 (q.getD 3 0)) (.int .i64 (q.getD 4 0))
  have hc := cell_lt h.res.c0
  refine ⟨(g.block r (Array.getElem?_eq_some_iff.1 h.it).1 (fun e => hra (by cases e; rfl))).trans h.it, h.map.kept (g.block B h.map.lt (fun e => hBa (by cases e; rfl))), six_all h.six.c0 h.six.c1 h.six.c2 h.six.c3 h.six.c4 h.six.c5 q, fun o => ?_, ?_, fun o => ?_, h.ext.grown g (fun _ e => by cases e; exact h0)⟩
  · have := h.fr o
    simpa [go_sem] using this
  · have hne : ∀ o, some (⟨c, o, none⟩ : Addr).block ≠ some a := fun o e => hca (by cases e; rfl)
    exact ⟨g.cell h.res.c0 (hne _), g.cell h.res.c1 (hne _), g.cell h.res.c2 (hne _), g.cell h.res.c3 (hne _), g.cell h.res.c4 (hne _), g.cell h.res.c5 (hne _)⟩
  · have := h.frr o
    simpa [go_sem] using this
theorem and_small : ∀ (a b : Fin 32), bits BinOp.and IntKind.i64 ((a.1 : Nat) : Int) ((b.1 : Nat) : Int) = ((a.1 &&& b.1 : Nat) : Int) := by decide +kernel
end Go.Proofs.YtnfbhicoknpojaaGreat

namespace Go.Proofs.YtnfbhicoknpojaaGreat
set_option linter.unusedSimpArgs false
set_option linter.unusedVariables false
open Go.RowKit
set_option linter.unusedVariables false

set_option maxRecDepth 100000 in
set_option maxHeartbeats 4000000 in
theorem firstOf_any (B : Nat) (M : Tally) (K : Nat) (hM : FineT K M) (hK : (K : Int) ≤ 5) (n : Nat) (hn : n < 32) (w : World) (hmap : MapIs w B M) :
    Calls Tryz.prog 69 #[.map (some B), .int .i64 n] w fun e w' => ∃ k f, e = .returned (.tuple #[ssV k, .bool f]) ∧ FirstIs M (fun _ => True) n k f ∧ Ext w w' := by
  go_enter Tryz.func69, Tryz.ntmps69
  go_wp2_with (at_range; refine wpList_range_ss _ rfl _ rfl B M rfl ((hmap.kept (Below.block (ext_alloc _ _) _ hmap.lt)).kept (Below.block (ext_alloc _ _) _ (by have := hmap.lt; simp; omega))) (w.heap.size + 1 + 1) (by simp) ?_; intro w0 hit0 hx0 hs0)
  go_frame
  have hm0 : MapIs w0 B M := ((hmap.kept (Below.block (ext_alloc _ _) _ hmap.lt)).kept (Below.block (ext_alloc _ _) _ (by have := hmap.lt; simp; omega))).kept (Below.block hx0 _ (by have := hmap.lt; simp; omega))
  have hBlt := hmap.lt
  have xw : Ext w w0 := ((ext_alloc _ _).alloc _).trans hx0
  have hz0 : SixAt w0 (w.heap.size + 1) [] := ⟨hx0.cell (by simp [go_sem]), hx0.cell (by simp [go_sem]), hx0.cell (by simp [go_sem]), hx0.cell (by simp [go_sem]), hx0.cell (by simp [go_sem]), hx0.cell (by simp [go_sem])⟩
  have hr0 : SixAt w0 w.heap.size [] := ⟨hx0.cell (by simp [go_sem]), hx0.cell (by simp [go_sem]), hx0.cell (by simp [go_sem]), hx0.cell (by simp [go_sem]), hx0.cell (by simp [go_sem]), hx0.cell (by simp [go_sem])⟩
  have hf0 : ∀ o, w0.frozen? ⟨w.heap.size + 1, o, none⟩ = false := fun o => by rw [hx0.frozen (by first | (simp; done) | (simp; omega))]; simp [go_sem]
  have hg0 : ∀ o, w0.frozen? ⟨w.heap.size, o, none⟩ = false := fun o => by rw [hx0.frozen (by first | (simp; done) | (simp; omega))]; simp [go_sem]
  go_loopw [7] (fun fv wr => ∃ (seen : Array Nat) (k : List Int) (f : Bool), fv = .bool f ∧ FirstIs M (fun i => seen.contains i = true) n k f ∧ Range w (w.heap.size + 1 + 1) B M.length (w.heap.size + 1) w.heap.size seen M k wr ∧ k.length ≤ 5 ∧ (∀ x ∈ k, I64 x)) (fun _ wr => leftW M.length (w.heap.size + 1 + 1) wr)
  case atStart => exact ⟨#[], [], false, rfl, FirstIs.start M n, ⟨hit0, hm0, hz0, hf0, hr0, hg0, xw⟩, by simp, by simp⟩
  case round =>
    obtain ⟨seen, k, f, rfl, hF, hR, hk5, hkI⟩ := hrel
    have hR0 := hR
    obtain ⟨hit, hm, hz, hf, hr, hg, hx⟩ := hR0
    obtain ⟨r0, r1, r2, r3, r4, r5⟩ := hr
    simp only [List.length_nil, List.getD_nil] at r0 r1 r2 r3 r4 r5
    obtain ⟨sn, s0, s1, s2, s3, s4, hsv, hsn, hs0, hs1, hs2, hs3, hs4⟩ : ∃ sn s0 s1 s2 s3 s4, ssV k = .agg #[.int .i64 sn, .int .i64 s0, .int .i64 s1, .int .i64 s2, .int .i64 s3, .int .i64 s4] ∧ (k.length : Int) = sn ∧ k.getD 0 0 = s0 ∧ k.getD 1 0 = s1 ∧ k.getD 2 0 = s2 ∧ k.getD 3 0 = s3 ∧ k.getD 4 0 = s4 :=
      ⟨_, _, _, _, _, _, rfl, rfl, rfl, rfl, rfl, rfl, rfl⟩
    obtain ⟨z0, z1, z2, z3, z4, z5⟩ := hz
    rw [hsn] at z0; rw [hs0] at z1; rw [hs1] at z2; rw [hs2] at z3; rw [hs3] at z4; rw [hs4] at z5
    clear hsn hs0 hs1 hs2 hs3 hs4
    have y0 : w.heap.size + 1 < wr.heap.size := cell_lt z0
    go_wp2_with (at_next; refine wpList_next_ss _ rfl _ rfl B (w.heap.size + 1 + 1) M seen rfl hit hm ?_ ?_)
    · intro hall
      have Hall := Lib.hid hall
      clear hall
      obtain ⟨t0, t1, t2, t3, t4, t5⟩ := six_set r0 r1 r2 r3 r4 r5 (.int .i64 sn) (.int .i64 s0) (.int .i64 s1) (.int .i64 s2) (.int .i64 s3) (.int .i64 s4)
      go_wp2
      refine bodyPost_ret (v := .tuple #[.agg #[.int .i64 sn, .int .i64 s0, .int .i64 s1, .int .i64 s2, .int .i64 s3, .int .i64 s4], .bool f]) (by simp [results, Tryz.results69, go_sem, t0, t1, t2, t3, t4, t5]) rfl ?_
      refine ⟨k, f, by rw [hsv], ⟨fun h => ⟨(hF.no h).1, fun i hi _ => (hF.no h).2 i hi (by simpa using Hall.out i hi)⟩, fun h => ⟨(hF.yes h).1, fun i hi _ => (hF.yes h).2 i hi (by simpa using Hall.out i hi)⟩⟩, ?_⟩
      exact (((((hx.setCell (by simp) _).setCell (by simp) _).setCell (by simp) _).setCell (by simp) _).setCell (by simp) _).setCell (by simp) _
    · intro i hi w' hse hit' hgr hsz hent
      have hse' : seen.contains i = false := by simpa using hse
      have hR' := hR.next hgr hit' (by omega) (by omega) (by omega) (by omega)
      have hlN : leftN M.length (seen.push i) < leftN M.length seen := leftN_push hi hse'
      have hlR := leftW_eq hit
      have kp := hM.keys _ (List.getElem_mem hi)
      have vl := hM.vals _ (List.getElem_mem hi)
      have hand := and_small ⟨(M[i]).2, vl⟩ ⟨n, hn⟩
      simp only at hand
      have hskip := fun hs => hF.skip hi hs
      have htake := fun hb hs => hF.take hi hb hs
      have hkI' : ∀ x ∈ (M[i]).1, I64 x := fun x hx => by have := kp.2 x hx; unfold I64; omega
      have hcmp := fun w => compare_any (M[i]).1 k kp.1 hkI' hkI w
      have htook := fun W (h : Range w (w.heap.size + 1 + 1) B M.length (w.heap.size + 1) w.heap.size (seen.push i) M k W) => h.took (by omega) (by omega) (by omega) (by omega) (M[i]).1
      generalize hq : (M[i]).1 = q at *
      obtain ⟨p0, p1, p2, p3, p4, p5, hpv, hpn, hp0, hp1, hp2, hp3, hp4⟩ : ∃ p0 p1 p2 p3 p4 p5, ssV q = .agg #[.int .i64 p0, .int .i64 p1, .int .i64 p2, .int .i64 p3, .int .i64 p4, .int .i64 p5] ∧ (q.length : Int) = p0 ∧ q.getD 0 0 = p1 ∧ q.getD 1 0 = p2 ∧ q.getD 2 0 = p3 ∧ q.getD 3 0 = p4 ∧ q.getD 4 0 = p5 :=
        ⟨_, _, _, _, _, _, rfl, rfl, rfl, rfl, rfl, rfl, rfl⟩
      rw [hpv] at hent hcmp ⊢
      rw [hsv] at hcmp
      rw [hpn, hp0, hp1, hp2, hp3, hp4] at htook
      clear hpn hp0 hp1 hp2 hp3 hp4
      obtain ⟨z0', z1', z2', z3', z4', z5'⟩ : w'.cell? ⟨w.heap.size + 1, 0, none⟩ = some (.int .i64 sn) ∧ w'.cell? ⟨w.heap.size + 1, 1, none⟩ = some (.int .i64 s0) ∧ w'.cell? ⟨w.heap.size + 1, 2, none⟩ = some (.int .i64 s1) ∧ w'.cell? ⟨w.heap.size + 1, 3, none⟩ = some (.int .i64 s2) ∧ w'.cell? ⟨w.heap.size + 1, 4, none⟩ = some (.int .i64 s3) ∧ w'.cell? ⟨w.heap.size + 1, 5, none⟩ = some (.int .i64 s4) :=
        ⟨hgr.cell z0 (by simp), hgr.cell z1 (by simp), hgr.cell z2 (by simp), hgr.cell z3 (by simp), hgr.cell z4 (by simp), hgr.cell z5 (by simp)⟩
      have y0' : w.heap.size + 1 < w'.heap.size := cell_lt z0'
      have hfr' := hR'.fr
      clear z0 z1 z2 z3 z4 z5 r0 r1 r2 r3 r4 r5 hf hg hit hm hx hz0 hf0 hr0 hg0 hit0 hm0 hx0 hgr
      generalize (M[i]).2 = v at *
      by_cases hb : v &&& n = n
      · rw [hb] at hand
        have Hb := Lib.hid hb
        cases f
        · have hres := (htook _ hR').later (ext_alloc _ (.cells #[.int .i64 p0, .int .i64 p1, .int .i64 p2, .int .i64 p3, .int .i64 p4, .int .i64 p5] 129))
          have Hres := Lib.hid hres
          clear hres htook
          go_wp2
          go_roundw
          case rel => exact ⟨_, q, true, rfl, htake Hb.out (.inl rfl), Hres.out, kp.1, hkI'⟩
          case measure => rw [leftW_eq Hres.out.it, hlR]; exact hlN
        · go_wp2_with fail
          refine (hcmp _).mono ?_
          rintro e w2 ⟨rfl, hx2⟩
          have g2 := (hR'.later (ext_alloc _ _)).later hx2
          have o0 : w2.cell? ⟨w'.heap.size, 0, none⟩ = some (.int .i64 p0) := hx2.cell (by simp [go_sem])
          have o1 : w2.cell? ⟨w'.heap.size, 1, none⟩ = some (.int .i64 p1) := hx2.cell (by simp [go_sem])
          have o2 : w2.cell? ⟨w'.heap.size, 2, none⟩ = some (.int .i64 p2) := hx2.cell (by simp [go_sem])
          have o3 : w2.cell? ⟨w'.heap.size, 3, none⟩ = some (.int .i64 p3) := hx2.cell (by simp [go_sem])
          have o4 : w2.cell? ⟨w'.heap.size, 4, none⟩ = some (.int .i64 p4) := hx2.cell (by simp [go_sem])
          have o5 : w2.cell? ⟨w'.heap.size, 5, none⟩ = some (.int .i64 p5) := hx2.cell (by simp [go_sem])
          rw [hsz] at o0 o1 o2 o3 o4 o5
          have hfq := g2.fr
          obtain ⟨b0, b1, b2, b3, b4, b5⟩ := g2.six
          clear hcmp hx2
          by_cases hlt : cmpSS q k < 0
          · have Hlt := Lib.hid hlt
            have hres := htook _ g2
            have Hres := Lib.hid hres
            clear hres htook
            generalize cmpSS q k = cc at *
            go_wp2
            go_roundw
            case rel => exact ⟨_, q, true, rfl, htake Hb.out (.inr Hlt.out), Hres.out, kp.1, hkI'⟩
            case measure => rw [leftW_eq Hres.out.it, hlR]; exact hlN
          · have Hlt := Lib.hid hlt
            generalize cmpSS q k = cc at *
            go_wp2
            go_roundw
            case rel => exact ⟨_, k, true, rfl, hskip (.inr (by have := Hlt.out; simp; omega)), g2, hk5, hkI⟩
            case measure => rw [leftW_eq g2.it, hlR]; exact hlN
      · have hne : (((v &&& n : Nat) : Int) == (n : Int)) = false := by
          rw [beq_eq_false_iff_ne]; exact fun e => hb (by exact_mod_cast e)
        have Hb := Lib.hid hb
        clear hb
        generalize v &&& n = x at *
        go_wp2
        go_roundw
        case rel => exact ⟨_, k, f, rfl, hskip (.inl Hb.out), hR'.later (ext_alloc _ _), hk5, hkI⟩
        case measure => rw [leftW_eq (hR'.later (ext_alloc _ _)).it, hlR]; exact hlN
end Go.Proofs.YtnfbhicoknpojaaGreat

namespace Go.Proofs.YtnfbhicoknpojaaGreat
set_option linter.unusedSimpArgs false
set_option linter.unusedVariables false
open Go.RowKit
set_option linter.unusedSimpArgs false

def spellM (b : Book) (a : Int) (heard : List Int) : ByteArray × Int :=
  if errM b ≠ 0 then (⟨#[]⟩, errM b) else match b.alphabets[a.toNat]? with
    | none => (⟨#[]⟩, 4)
    | some x => if a < 0 then (⟨#[]⟩, 4) else if heardErrM b.sounds heard ≠ 0 then (⟨#[]⟩, heardErrM b.sounds heard) else (strOf (shortS x.letters (wantedM heard)), shortE x.letters (wantedM heard))
theorem openM_nil (b : Book) : openM b [] = errM b := by
  unfold openM
  split
  · rfl
  · rename_i h
    rw [if_neg (by simp [withinM])]
    have : errM b = 0 := by simpa using h
    exact this.symm

set_option maxRecDepth 100000 in
set_option maxHeartbeats 1000000 in
theorem spell_any (bv hv : Value) (b : Book) (a : Int) (ha : I64 a) (heard : List Int) (w : World) (hb : BookAt w bv b) (hh : IntsAt w hv heard) :
    Calls Tryz.prog 5 #[bv, .int .i64 a, hv] w fun e w' => e = .returned (.tuple #[.string (spellM b a heard).1, .int .i64 (spellM b a heard).2]) ∧ Ext w w' := by
  obtain ⟨ba, bc, bs, bd, rfl, -⟩ := hb.open
  go_enter Tryz.func5, Tryz.ntmps5
  go_wp2_with fail
  refine (open_any _ _ b [] _ (hb.ext (by first | (with_reducible exact Ext.refl _) | (with_reducible assumption) | (show Below _ _ _; go_grown; done))) SliceAt.nil).mono ?_
  rintro e w1 ⟨u, rfl, ⟨uv, rfl, hok, hbad⟩, hx1⟩
  have x1 : Ext w w1 := Ext.trans (by first | (with_reducible exact Ext.refl _) | (with_reducible assumption) | (show Below _ _ _; go_grown; done)) hx1
  rw [openM_nil] at hok hbad ⊢
  generalize herr : errM b = er at *
  have Herr := Lib.hid herr
  clear herr
  by_cases h0 : er = 0
  rotate_left
  · have h0' : (er != 0) = true := by simpa using h0
    have hu := hbad h0
    subst hu
    have H0 := Lib.hid h0
    clear h0 hok hbad
    unfold emptyBook
    go_wp2_with fail
    go_ret2
    exact ⟨ret_strInt (by rw [spellM, Herr.out, if_pos H0.out]) (by rw [spellM, Herr.out, if_pos H0.out]), x1.alloc _⟩
  have hub := hok h0
  clear hbad hok
  subst h0
  have hval := valid_of Herr.out
  obtain ⟨ca, cc, cs, cd, rfl, -, hcl, hcc, -, -, hub', -, -⟩ := hub.open
  have hns := hval.a
  have hSS := hval.s
  have Hval := Lib.hid hval
  clear hval hub
  go_wp2_with fail
  refine (within_any _ _ _ [a] _ (IntsAt.oneAt (by simp) ha)).mono ?_
  rintro e w' ⟨rfl, rfl⟩
  rw [withinM_one]
  cases h1 : inM a 0 (b.alphabets.length - 1)
  · have hn : ¬ (0 ≤ a ∧ a ≤ b.alphabets.length - 1) := fun h => by rw [(inM_iff _ _ _).2 h] at h1; cases h1
    have hsp : spellM b a heard = (⟨#[]⟩, 4) := by
      rw [spellM, Herr.out, if_neg (by decide)]
      by_cases hneg : a < 0
      · cases b.alphabets[a.toNat]? <;> simp [hneg]
      · rw [List.getElem?_eq_none (by omega)]
    have Hsp := Lib.hid hsp
    clear hsp h1 hn
    go_wp2_with fail
    go_ret2
    exact ⟨ret_strInt (by rw [Hsp.out]) (by rw [Hsp.out]), (x1.alloc _).alloc _⟩
  have hin := (inM_iff _ _ _).1 h1
  have H1 := Lib.hid h1
  clear h1
  go_wp2_with fail
  have x2 : Ext w ((w1.alloc (.cells #[.int .i64 b.sounds, .slice ca b.alphabets.length cc, .slice cs b.spellings.length cd] 70)).alloc (.cells #[.int .i64 a] 3)) := (x1.alloc _).alloc _
  refine (heardError_any _ _ b hSS heard _ (hub'.ext ((ext_alloc _ _).alloc _)) (hh.ext x2)).mono ?_
  rintro e w3 ⟨rfl, hx3⟩
  have x3 := x2.trans hx3
  have q0 : w3.cell? ⟨w1.heap.size, 0, none⟩ = some (.int .i64 b.sounds) := hx3.cell (by simp [go_sem])
  have q1 : w3.cell? ⟨w1.heap.size, 1, none⟩ = some (.slice ca b.alphabets.length cc) := hx3.cell (by simp [go_sem])
  have q2 : w3.cell? ⟨w1.heap.size, 2, none⟩ = some (.slice cs b.spellings.length cd) := hx3.cell (by simp [go_sem])
  have hlt : a.toNat < b.alphabets.length := by omega
  have hsp : spellM b a heard = if heardErrM b.sounds heard ≠ 0 then (⟨#[]⟩, heardErrM b.sounds heard) else (strOf (shortS (b.alphabets[a.toNat]).letters (wantedM heard)), shortE (b.alphabets[a.toNat]).letters (wantedM heard)) := by
    rw [spellM, Herr.out, if_neg (by decide), List.getElem?_eq_getElem hlt]
    simp only
    rw [if_neg (by omega)]
  have Hsp := Lib.hid hsp
  clear hsp
  generalize hhe : heardErrM b.sounds heard = he at *
  have Hhe := Lib.hid hhe
  clear hhe
  by_cases h2 : he = 0
  rotate_left
  · have h2' : (he != 0) = true := by simpa using h2
    have H2 := Lib.hid h2
    clear h2
    go_wp2_with fail
    go_ret2
    exact ⟨ret_strInt (by rw [Hsp.out, if_pos H2.out]) (by rw [Hsp.out, if_pos H2.out]), x3⟩
  subst h2
  have hlen : heard.length ≤ 5 ∧ withinM 0 (b.sounds - 1) heard = true := by
    have := Hhe.out
    unfold heardErrM at this
    split at this
    · cases this
    split at this
    · cases this
    rename_i g1 g2
    exact ⟨by omega, by simpa using g2⟩
  have hrange : ∀ s ∈ heard, 0 ≤ s ∧ s ≤ 3 := fun s hs => by
    have := withinM_spec hlen.2 s hs
    omega
  have Hr := Lib.hid hrange
  clear hrange
  obtain ⟨n, hn⟩ : ∃ n : Nat, a = n := ⟨a.toNat, by omega⟩
  have hsub : a.toNat = n := by omega
  go_wp2_with fail
  subst hn
  have hnl : n < b.alphabets.length := by omega
  refine (shortest_any _ _ b n hnl heard Hr.out hlen.1 (Hval.out.fine n hnl) w3 (hub'.ext (Ext.trans ((ext_alloc _ _).alloc _) hx3)) (hh.ext x3)).mono ?_
  rintro e w4 ⟨rfl, hx4⟩
  have Hfin : Hid (spellM b n heard = (strOf (shortS (b.alphabets[n]).letters (wantedM heard)), shortE (b.alphabets[n]).letters (wantedM heard))) := Lib.hid (by
    have := Hsp.out
    rw [if_neg (by decide)] at this
    simpa using this)
  go_wp2
  go_ret2
  exact ⟨ret_strInt (by rw [Hfin.out]) (by rw [Hfin.out]), x3.trans hx4⟩
end Go.Proofs.YtnfbhicoknpojaaGreat

namespace Go.Proofs.YtnfbhicoknpojaaGreat
set_option linter.unusedSimpArgs false
set_option linter.unusedVariables false
open Go.RowKit
set_option linter.unusedVariables false

theorem run_len_ss {w : World} {B : Nat} {M : Tally} (h : MapIs w B M) (ty : TypeId) : (Builtin.len_ #[125] ty #[.map (some B)]).run Tryz.prog w = .ok (.int .i64 (M.length : Nat)) w := by
  obtain ⟨es, hb, hE⟩ := h
  have hu : Tryz.prog.underlying 125 = some (.map 129 3) := Tryz.underlying125
  simp [Builtin.len_, run_underlying hu, MapKept.run_getObj_map hb, hE.size, Result.andThen, goInt]
theorem openM_ok {b : Book} (h : errM b = 0) {l : List Int} (hl : ∀ x ∈ l, 0 ≤ x ∧ x < b.spellings.length) : openM b l = 0 := by
  unfold openM
  rw [if_neg (by rw [h]; exact fun e => e rfl), if_neg]
  rw [Bool.not_eq_false, withinM, List.all_eq_true]
  intro x hx
  have := hl x hx
  simp [inM]; omega

set_option maxRecDepth 100000 in
set_option maxHeartbeats 2000000 in
theorem count_ok (bv : Value) (b : Book) (he : errM b = 0) (n : Nat) (hn : n < b.spellings.length) (w : World) (hb : BookAt w bv b) :
    Calls Tryz.prog 27 #[bv, .int .i64 n] w fun e w' => e = .returned (.tuple #[.int .i64 ((canM b [n]).length : Nat), .int .i64 0]) ∧ Ext w w' := by
  have hv := valid_of he
  have hn5 : n < 5 := by have := hv.n; omega
  obtain ⟨ba, bc, bs, bd, rfl, -⟩ := hb.open
  have hop := openM_ok he (l := [(n : Int)]) (by simp; omega)
  go_enter Tryz.func27, Tryz.ntmps27
  go_wp2_with fail
  refine (open_any _ _ b [(n : Int)] _ (hb.ext (by first | (with_reducible exact Ext.refl _) | (with_reducible assumption) | (show Below _ _ _; go_grown; done))) (IntsAt.oneAt (by simp) (by omega))).mono ?_
  rintro e w1 ⟨u, rfl, ⟨uv, rfl, hok, -⟩, hx1⟩
  rw [hop] at hok ⊢
  have x1 : Ext w w1 := Ext.trans (by first | (with_reducible exact Ext.refl _) | (with_reducible assumption) | (show Below _ _ _; go_grown; done)) hx1
  have hub := hok rfl
  clear hok hop
  obtain ⟨ca, cc, cs, cd, rfl, -⟩ := hub.open
  go_wp2_with fail
  refine (canBe_any _ _ b hv [n] (by simpa using hn) _ (hub.ext (by first | (with_reducible exact Ext.refl _) | (with_reducible assumption) | (show Below _ _ _; go_grown; done))) (IntsAt.oneAt (n := (n : Int)) (by simp) (by omega))).mono ?_
  rintro e w2 ⟨B, rfl, -, hm, hx2⟩
  have hlen := run_len_ss hm
  have x2 : Ext w w2 := x1.trans (Ext.trans (by first | (with_reducible exact Ext.refl _) | (with_reducible assumption) | (show Below _ _ _; go_grown; done)) hx2)
  go_wp2
  go_ret2
  exact ⟨rfl, x2⟩

set_option maxRecDepth 100000 in
set_option maxHeartbeats 2000000 in
theorem reads_ok (bv hv : Value) (b : Book) (he : errM b = 0) (n : Nat) (hn : n < b.spellings.length) (heard : List Int) (hh : heardErrM b.sounds heard = 0) (w : World) (hb : BookAt w bv b) (hhv : IntsAt w hv heard) :
    Calls Tryz.prog 17 #[bv, .int .i64 n, hv] w fun e w' => e = .returned (.tuple #[.bool (getT heard (canM b [n])).isSome, .int .i64 0]) ∧ Ext w w' := by
  have hv := valid_of he
  have hn5 : n < 5 := by have := hv.n; omega
  have hS := hv.s
  have h5 : heard.length ≤ 5 := by unfold heardErrM at hh; split at hh; cases hh; omega
  have hfin : FineT (b.sounds.toNat + 1) (canM b [n]) := canM_fine hv [n] [] (by simpa using hn) (FineT.nil _)
  obtain ⟨ba, bc, bs, bd, rfl, -⟩ := hb.open
  obtain ⟨ha, hc, rfl, -⟩ := hhv.shape
  have hop := openM_ok he (l := [(n : Int)]) (by simp; omega)
  go_enter Tryz.func17, Tryz.ntmps17
  go_wp2_with fail
  refine (open_any _ _ b [(n : Int)] _ (hb.ext (by first | (with_reducible exact Ext.refl _) | (with_reducible assumption) | (show Below _ _ _; go_grown; done))) (IntsAt.oneAt (by simp) (by omega))).mono ?_
  rintro e w1 ⟨u, rfl, ⟨uv, rfl, hok, -⟩, hx1⟩
  rw [hop] at hok ⊢
  have x1 : Ext w w1 := Ext.trans (by first | (with_reducible exact Ext.refl _) | (with_reducible assumption) | (show Below _ _ _; go_grown; done)) hx1
  have hub := hok rfl
  clear hok hop hx1
  obtain ⟨ca, cc, cs, cd, rfl, -⟩ := hub.open
  go_wp2_with fail
  refine (heardError_any _ _ b hS heard _ (hub.ext (by first | (with_reducible exact Ext.refl _) | (with_reducible assumption) | (show Below _ _ _; go_grown; done))) (hhv.ext (x1.alloc _))).mono ?_
  rintro e w2 ⟨rfl, hx2⟩
  rw [hh]
  have x2 : Ext w1 w2 := hx2.of_alloc
  have q0 : w2.cell? ⟨w1.heap.size, 0, none⟩ = some (.int .i64 b.sounds) := hx2.cell (by simp [go_sem])
  have q1 : w2.cell? ⟨w1.heap.size, 1, none⟩ = some (.slice ca b.alphabets.length cc) := hx2.cell (by simp [go_sem])
  have q2 : w2.cell? ⟨w1.heap.size, 2, none⟩ = some (.slice cs b.spellings.length cd) := hx2.cell (by simp [go_sem])
  have z0 : w1.heap.size < w2.heap.size := cell_lt q0
  clear hx2
  go_wp2_with fail
  refine (canBe_any _ _ b hv [n] (by simpa using hn) _ (hub.ext (x2.alloc _)) (IntsAt.oneAt (n := (n : Int)) (by simp) (by omega))).mono ?_
  rintro e w3 ⟨B, rfl, -, hm, hx3⟩
  have x3 : Ext w w3 := x1.trans (x2.trans hx3.of_alloc)
  clear hx3
  go_wp2_with fail
  refine (heardAs_any heard h5 _ w3 (hhv.ext x3)).mono ?_
  rintro e w4 ⟨rfl, hx4⟩
  have hm4 := hm.kept (Below.block hx4 _ hm.lt)
  have hlook := run_lookup_ss heard h5 (fun p hp => (hfin.keys p hp).1) hm4 true
  simp only [if_true] at hlook
  go_wp2
  go_ret2
  exact ⟨rfl, x3.trans hx4⟩
end Go.Proofs.YtnfbhicoknpojaaGreat

namespace Go.Proofs.YtnfbhicoknpojaaGreat
set_option linter.unusedSimpArgs false
set_option linter.unusedVariables false
open Go.RowKit
set_option linter.unusedVariables false

set_option maxRecDepth 100000 in
set_option maxHeartbeats 2000000 in
theorem common_ok (bv v : Value) (b : Book) (he : errM b = 0) (l : List Nat) (hl : ∀ n ∈ l, n < b.spellings.length) (hne : l ≠ []) (hasc : ascM (ints l) = true) (w : World) (hb : BookAt w bv b) (hlv : IntsAt w v (ints l)) :
    Calls Tryz.prog 30 #[bv, v] w fun e w' => ∃ k f u, FirstIs (canM b l) (fun _ => True) (bitsM l) k f ∧ e = .returned (.tuple #[u, .int .i64 (if f then 0 else 9)]) ∧ IntsAt w' u k ∧ Ext w w' := by
  have hv := valid_of he
  have hn := hv.n
  have hS := hv.s
  have hfin : FineT (b.sounds.toNat + 1) (canM b l) := canM_fine hv l [] hl (FineT.nil _)
  have hl5 : ∀ x ∈ l, x < 5 := fun x hx => by have := hl x hx; omega
  have hb32 := bitsM_lt l hl5
  obtain ⟨ba, bc, bs, bd, rfl, -⟩ := hb.open
  obtain ⟨la, lc, rfl, -⟩ := hlv.shape
  have hlen : (ints l).length = l.length := by simp [ints]
  have hpos : ((ints l).length : Int) ≠ 0 := by
    rw [hlen]
    intro h
    exact hne (List.eq_nil_of_length_eq_zero (by omega))
  have hpos' : (((ints l).length : Int) == 0) = false := by rw [beq_eq_false_iff_ne]; exact hpos
  have hop := openM_ok he (l := ints l) (by intro x hx; simp only [ints, List.mem_map] at hx; obtain ⟨m, hm, rfl⟩ := hx; have := hl m hm; omega)
  clear hlen
  go_enter Tryz.func30, Tryz.ntmps30
  go_wp2_with fail
  refine (open_any _ _ b (ints l) _ (hb.ext (by first | (with_reducible exact Ext.refl _) | (with_reducible assumption) | (show Below _ _ _; go_grown; done))) (hlv.ext (by first | (with_reducible exact Ext.refl _) | (with_reducible assumption) | (show Below _ _ _; go_grown; done)))).mono ?_
  rintro e w1 ⟨u, rfl, ⟨uv, rfl, hok, -⟩, hx1⟩
  rw [hop] at hok ⊢
  have x1 : Ext w w1 := Ext.trans (by first | (with_reducible exact Ext.refl _) | (with_reducible assumption) | (show Below _ _ _; go_grown; done)) hx1
  have hub := hok rfl
  clear hok hop hx1
  obtain ⟨ca, cc, cs, cd, rfl, -⟩ := hub.open
  have Hpos := Lib.hid hpos
  clear hpos
  go_wp2_with fail
  refine (ascending_any _ (ints l) _ (hlv.ext (x1.alloc _))).mono ?_
  rintro e w2 ⟨rfl, hx2⟩
  rw [hasc]
  have x2 : Ext w1 w2 := hx2.of_alloc
  have q0 : w2.cell? ⟨w1.heap.size, 0, none⟩ = some (.int .i64 b.sounds) := hx2.cell (by simp [go_sem])
  have q1 : w2.cell? ⟨w1.heap.size, 1, none⟩ = some (.slice ca b.alphabets.length cc) := hx2.cell (by simp [go_sem])
  have q2 : w2.cell? ⟨w1.heap.size, 2, none⟩ = some (.slice cs b.spellings.length cd) := hx2.cell (by simp [go_sem])
  clear hx2
  go_wp2_with fail
  refine (canBe_any _ _ b hv l hl _ (hub.ext x2) (hlv.ext (x1.trans x2))).mono ?_
  rintro e w3 ⟨B, rfl, -, hm, hx3⟩
  have x3 : Ext w w3 := x1.trans (x2.trans hx3)
  clear hx3
  go_wp2_with fail
  refine (bits_any _ l hl5 w3 (hlv.ext x3)).mono ?_
  rintro e w4 ⟨rfl, rfl⟩
  go_wp2_with fail
  refine (firstOf_any B (canM b l) (b.sounds.toNat + 1) hfin (by omega) (bitsM l) hb32 w3 hm).mono ?_
  rintro e w5 ⟨k, f, rfl, hF, hx5⟩
  have x5 := x3.trans hx5
  cases f
  · have hk := (hF.no rfl).1
    subst hk
    unfold ssV ssRaw
    go_wp2
    go_ret2
    exact ⟨_, false, _, hF, rfl, SliceAt.nil, x5.alloc _⟩
  · have hk : k.length ≤ 5 ∧ ∀ x ∈ k, I64 x := by
      obtain ⟨i, hi, e1, -⟩ := (hF.yes rfl).1
      have := hfin.keys _ (List.getElem_mem hi)
      rw [← e1]
      exact ⟨this.1, fun x hx => by have := this.2 x hx; unfold I64; omega⟩
    obtain ⟨p0, p1, p2, p3, p4, p5, hpv⟩ : ∃ p0 p1 p2 p3 p4 p5, ssV k = .agg #[.int .i64 p0, .int .i64 p1, .int .i64 p2, .int .i64 p3, .int .i64 p4, .int .i64 p5] := ⟨_, _, _, _, _, _, rfl⟩
    have hlist := fun w => list_any k hk.1 hk.2 w
    rw [hpv] at hlist ⊢
    go_wp2_with fail
    refine (hlist _).mono ?_
    rintro e w6 ⟨u, rfl, hu, hx6⟩
    obtain ⟨ua, uc, rfl, -⟩ := hu.shape
    go_wp2
    go_ret2
    exact ⟨k, true, _, hF, rfl, hu, x5.trans hx6.of_alloc⟩
end Go.Proofs.YtnfbhicoknpojaaGreat

namespace Go.Proofs.YtnfbhicoknpojaaGreat
set_option linter.unusedSimpArgs false
set_option linter.unusedVariables false
open Go.RowKit
set_option linter.unusedVariables false

set_option maxRecDepth 100000 in
set_option maxHeartbeats 2000000 in
theorem first_ok (bv : Value) (b : Book) (he : errM b = 0) (n : Nat) (hn : n < b.spellings.length) (w : World) (hb : BookAt w bv b) :
    Calls Tryz.prog 28 #[bv, .int .i64 n] w fun e w' => ∃ k f u, FirstIs (canM b [n]) (fun _ => True) (bitsM [n]) k f ∧ e = .returned (.tuple #[u, .int .i64 (if f then 0 else 9)]) ∧ IntsAt w' u k ∧ Ext w w' := by
  have hv := valid_of he
  have hn5 : n < 5 := by have := hv.n; omega
  have hb0 := hb
  obtain ⟨ba, bc, bs, bd, rfl, -⟩ := hb.open
  go_enter Tryz.func28, Tryz.ntmps28
  go_wp2_with fail
  refine (common_ok _ _ b he [n] (by simpa using hn) (by simp) (by simp [ascM, ints]) _ (hb0.ext (by first | (with_reducible exact Ext.refl _) | (with_reducible assumption) | (show Below _ _ _; go_grown; done))) (IntsAt.oneAt (n := (n : Int)) (by simp) (by omega))).mono ?_
  rintro e w1 ⟨k, f, u, hF, rfl, hu, hx1⟩
  obtain ⟨ua, uc, rfl, -⟩ := hu.shape
  have x1 : Ext w w1 := Ext.trans (by first | (with_reducible exact Ext.refl _) | (with_reducible assumption) | (show Below _ _ _; go_grown; done)) hx1
  clear hx1
  generalize hcc : (if f = true then (0 : Int) else 9) = cc
  go_wp2
  go_ret2
  exact ⟨k, f, _, hF, by rw [hcc]; rfl, hu, x1⟩

theorem IntsAt.twoAt {w : World} {m n : Int} {t : TypeId} {B : Nat} (hB : w.heap.size = B) (h : -9223372036854775808 ≤ n ∧ n ≤ 9223372036854775807) (h' : -9223372036854775808 ≤ m ∧ m ≤ 9223372036854775807) : IntsAt (w.alloc (.cells #[.int .i64 n, .int .i64 m] t)) (.slice (some ⟨B, 0, none⟩) 2 2) [n, m] := by
  subst hB; exact IntsAt.two h h'
/-- whether the first string is common, and whether there is but one -/
def alikeV (M : Tally) (f : Bool) : Int := if f = false then 2 else if M.length = 1 then 1 else 0
set_option maxRecDepth 100000 in
set_option maxHeartbeats 2000000 in
theorem alike_ok (bv : Value) (b : Book) (he : errM b = 0) (i j : Nat) (hi : i < b.spellings.length) (hj : j < b.spellings.length) (hij : i ≠ j) (w : World) (hb : BookAt w bv b) :
    Calls Tryz.prog 29 #[bv, .int .i64 i, .int .i64 j] w fun e w' => ∃ k f, FirstIs (canM b [i, j]) (fun _ => True) (bitsM [i, j]) k f ∧ e = .returned (.tuple #[.int .i64 (alikeV (canM b [i, j]) f), .int .i64 0]) ∧ Ext w w' := by
  have hv := valid_of he
  have hi5 : i < 5 := by have := hv.n; omega
  have hj5 : j < 5 := by have := hv.n; omega
  have hS := hv.s
  have hl : ∀ n ∈ [i, j], n < b.spellings.length := by simp [hi, hj]
  have hl5 : ∀ n ∈ [i, j], n < 5 := by simp [hi5, hj5]
  have hfin : FineT (b.sounds.toNat + 1) (canM b [i, j]) := canM_fine hv [i, j] [] hl (FineT.nil _)
  have hb32 := bitsM_lt [i, j] hl5
  obtain ⟨ba, bc, bs, bd, rfl, -⟩ := hb.open
  have hop := openM_ok he (l := [(i : Int), (j : Int)]) (by simp; omega)
  have hne : ((i : Int) == (j : Int)) = false := by rw [beq_eq_false_iff_ne]; omega
  have Hij := Lib.hid hij
  clear hij
  go_enter Tryz.func29, Tryz.ntmps29
  go_wp2_with fail
  refine (open_any _ _ b [(i : Int), (j : Int)] _ (hb.ext (by first | (with_reducible exact Ext.refl _) | (with_reducible assumption) | (show Below _ _ _; go_grown; done))) (IntsAt.twoAt (m := (j : Int)) (n := (i : Int)) (by simp) (by omega) (by omega))).mono ?_
  rintro e w1 ⟨u, rfl, ⟨uv, rfl, hok, -⟩, hx1⟩
  rw [hop] at hok ⊢
  have x1 : Ext w w1 := Ext.trans (by first | (with_reducible exact Ext.refl _) | (with_reducible assumption) | (show Below _ _ _; go_grown; done)) hx1
  have hub := hok rfl
  clear hok hop hx1
  obtain ⟨ca, cc, cs, cd, rfl, -⟩ := hub.open
  go_wp2_with fail
  refine (canBe_any _ _ b hv [i, j] hl _ (hub.ext (by first | (with_reducible exact Ext.refl _) | (with_reducible assumption) | (show Below _ _ _; go_grown; done))) (IntsAt.twoAt (m := (j : Int)) (n := (i : Int)) (by simp) (by omega) (by omega))).mono ?_
  rintro e w2 ⟨B, rfl, -, hm, hx2⟩
  have x2 : Ext w w2 := x1.trans (Ext.trans (by first | (with_reducible exact Ext.refl _) | (with_reducible assumption) | (show Below _ _ _; go_grown; done)) hx2)
  clear hx2
  go_wp2_with fail
  refine (bits_any _ [i, j] hl5 _ (IntsAt.twoAt (m := (j : Int)) (n := (i : Int)) (by simp) (by omega) (by omega))).mono ?_
  rintro e w3 ⟨rfl, rfl⟩
  have hm3 := hm.kept (Below.block (ext_alloc w2 (.cells #[.int .i64 i, .int .i64 j] 3)) _ hm.lt)
  go_wp2_with fail
  refine (firstOf_any B (canM b [i, j]) (b.sounds.toNat + 1) hfin (by omega) (bitsM [i, j]) hb32 _ hm3).mono ?_
  rintro e w4 ⟨k, f, rfl, hF, hx4⟩
  have x4 : Ext w w4 := x2.trans hx4.of_alloc
  have hm4 := hm3.kept (Below.block hx4 _ hm3.lt)
  have hm5 := hm4.kept (Below.block (ext_alloc w4 (.cells #[.int .i64 (k.length : Nat), .int .i64 (k.getD 0 0), .int .i64 (k.getD 1 0), .int .i64 (k.getD 2 0), .int .i64 (k.getD 3 0), .int .i64 (k.getD 4 0)] 129)) _ hm4.lt)
  have hlen := run_len_ss hm5
  clear hm hm3 hm4 hm5 hfin
  unfold ssV ssRaw
  generalize (k.length : Int) = pn at *
  generalize k.getD 0 0 = p0 at *
  generalize k.getD 1 0 = p1 at *
  generalize k.getD 2 0 = p2 at *
  generalize k.getD 3 0 = p3 at *
  generalize k.getD 4 0 = p4 at *
  obtain ⟨M, hM⟩ : ∃ M, M = canM b [i, j] := ⟨_, rfl⟩
  rw [← hM] at hF hlen
  cases f
  · have Hv : Hid (alikeV (canM b [i, j]) false = 2) := Lib.hid rfl
    go_wp2
    go_ret2
    exact ⟨k, false, by rw [← hM]; exact hF, by rw [Hv.out]; rfl, x4.alloc _⟩
  · by_cases h1 : M.length = 1
    · have Hv : Hid (alikeV (canM b [i, j]) true = 1) := Lib.hid (by rw [alikeV, if_neg (by decide), ← hM, if_pos h1])
      rw [h1] at hlen
      go_wp2
      go_ret2
      exact ⟨k, true, by rw [← hM]; exact hF, by rw [Hv.out]; rfl, x4.alloc _⟩
    · have Hv : Hid (alikeV (canM b [i, j]) true = 0) := Lib.hid (by rw [alikeV, if_neg (by decide), ← hM, if_neg h1])
      have hne1 : ((M.length : Int) == 1) = false := by rw [beq_eq_false_iff_ne]; omega
      clear h1
      generalize M.length = len at *
      go_wp2
      go_ret2
      exact ⟨k, true, by rw [← hM]; exact hF, by rw [Hv.out]; rfl, x4.alloc _⟩
end Go.Proofs.YtnfbhicoknpojaaGreat

namespace Go.Proofs.YtnfbhicoknpojaaGreat
set_option linter.unusedSimpArgs false
set_option linter.unusedVariables false
open Go.RowKit
set_option linter.unusedVariables false

/-- whether some string has all of these bits -/
def sharedB (M : Tally) (n : Nat) : Bool := M.any fun p => p.2 &&& n == n
theorem FirstIs.shared {M : Tally} {n : Nat} {k : List Int} {f : Bool} (h : FirstIs M (fun _ => True) n k f) : f = sharedB M n := by
  unfold sharedB
  cases f
  · symm
    rw [List.any_eq_false]
    intro p hp
    obtain ⟨i, hi, rfl⟩ := List.getElem_of_mem hp
    simpa using (h.no rfl).2 i hi trivial
  · symm
    obtain ⟨i, hi, -, e⟩ := (h.yes rfl).1
    rw [List.any_eq_true]
    exact ⟨M[i], List.getElem_mem hi, by simpa using e⟩
/-- which of two lists is told first: that with fewer numbers, of as long ones that which comes first -/
def cmpFew (l m : List Nat) : Int := cmpSS (ints l) (ints m)
theorem cmpL_zero : ∀ {a b : List Int}, cmpL a b = 0 → a = b
  | [], [], _ => rfl
  | [], _ :: _, h => by simp [cmpL] at h
  | _ :: _, [], h => by simp [cmpL] at h
  | x :: a, y :: b, h => by
    unfold cmpL at h
    by_cases h1 : cmpM x y = 0
    · rw [if_pos h1] at h
      rw [cmpM_zero.1 h1, cmpL_zero h]
    · rw [if_neg h1] at h; exact absurd h h1
theorem cmpSS_zero {a b : List Int} (h : cmpSS a b = 0) : a = b := by
  unfold cmpSS at h
  split at h
  · exact cmpL_zero h
  · rename_i h1
    have := cmpM_zero.1 h
    exact absurd (by omega) h1
theorem cmpSS_le {a b c : List Int} (h : cmpSS a b < 0) (k : ¬ 0 < cmpSS b c) : cmpSS a c < 0 := by
  by_cases h0 : cmpSS b c = 0
  · rw [← cmpSS_zero h0]; exact h
  · exact cmpSS_trans h (by omega)
def fewStep (P : Nat → Bool) (r : Option (List Nat)) (s : Nat) : Option (List Nat) := match r with
  | none => if P s = true then some (membersM s) else none
  | some f => if 0 < cmpFew (membersM s) f then some f else if P s = true then some (membersM s) else some f
/-- the first of the fewest, of the sets below a number -/
def fewTo (P : Nat → Bool) (k : Nat) : Option (List Nat) := (List.range k).foldl (fewStep P) none
theorem fewTo_succ (P : Nat → Bool) (k : Nat) : fewTo P (k + 1) = fewStep P (fewTo P k) k := by simp [fewTo, List.range_succ]
def FewIs (P : Nat → Bool) (k : Nat) : Option (List Nat) → Prop
  | none => ∀ s, s < k → P s = false
  | some f => (∃ s, s < k ∧ P s = true ∧ membersM s = f) ∧ ∀ s, s < k → P s = true → ¬ cmpFew (membersM s) f < 0
theorem fewTo_is (P : Nat → Bool) : ∀ k, FewIs P k (fewTo P k)
  | 0 => fun s h => by omega
  | k + 1 => by
    have ih := fewTo_is P k
    rw [fewTo_succ]
    have self : ∀ l : List Nat, cmpFew l l = 0 := fun l => cmpSS_self _
    cases hr : fewTo P k with
    | none =>
      rw [hr] at ih
      simp only [fewStep]
      by_cases hp : P k = true
      · rw [if_pos hp]
        refine ⟨⟨k, by omega, hp, rfl⟩, fun s hs hps => ?_⟩
        rcases Nat.lt_or_ge s k with h | h
        · rw [ih s h] at hps; cases hps
        · obtain rfl : s = k := by omega
          rw [self]; omega
      · rw [if_neg hp]
        intro s hs
        rcases Nat.lt_or_ge s k with h | h
        · exact ih s h
        · obtain rfl : s = k := by omega
          simpa using hp
    | some f =>
      rw [hr] at ih
      obtain ⟨⟨s0, h0, hp0, e0⟩, hmin⟩ := ih
      simp only [fewStep]
      by_cases hc : 0 < cmpFew (membersM k) f
      · rw [if_pos hc]
        refine ⟨⟨s0, by omega, hp0, e0⟩, fun s hs hps => ?_⟩
        rcases Nat.lt_or_ge s k with h | h
        · exact hmin s h hps
        · obtain rfl : s = k := by omega
          omega
      · rw [if_neg hc]
        by_cases hp : P k = true
        · rw [if_pos hp]
          refine ⟨⟨k, by omega, hp, rfl⟩, fun s hs hps hlt => ?_⟩
          rcases Nat.lt_or_ge s k with h | h
          · exact hmin s h hps (cmpSS_le hlt hc)
          · obtain rfl : s = k := by omega
            rw [self] at hlt; omega
        · rw [if_neg hp]
          refine ⟨⟨s0, by omega, hp0, e0⟩, fun s hs hps => ?_⟩
          rcases Nat.lt_or_ge s k with h | h
          · exact hmin s h hps
          · obtain rfl : s = k := by omega
            exact absurd hps hp
def allOf (b : Book) : Nat := 2 ^ b.spellings.length - 1
theorem andNot_small : ∀ (a b : Fin 32), bits BinOp.andNot IntKind.i64 ((a.1 : Nat) : Int) ((b.1 : Nat) : Int) = ((a.1 ^^^ (a.1 &&& b.1) : Nat) : Int) := by decide +kernel
theorem xor_lt : ∀ (a b : Fin 32), a.1 ^^^ (a.1 &&& b.1) < 32 := by decide +kernel
theorem allOf_lt {b : Book} (h : b.spellings.length ≤ 5) : allOf b < 32 := by
  unfold allOf
  have : 2 ^ b.spellings.length ≤ 2 ^ 5 := Nat.pow_le_pow_right (by decide) h
  have h0 : 0 < 2 ^ b.spellings.length := Nat.two_pow_pos _
  omega
theorem membersM_mem {n m : Nat} (h : m ∈ membersM n) : n.testBit m = true ∧ m < 5 := by
  simp only [membersM, membersTo, List.mem_filter, List.mem_range] at h
  exact ⟨h.2, h.1⟩
theorem members_all {b : Book} {n : Nat} (h : n ∈ membersM (allOf b)) : n < b.spellings.length := by
  have := (membersM_mem h).1
  unfold allOf at this
  rw [Nat.testBit_two_pow_sub_one] at this
  simpa using this

theorem shl_all : ∀ n : Fin 6, wrap64 (wrap64 (2 ^ n.1) - 1) = ((2 ^ n.1 - 1 : Nat) : Int) := by decide +kernel
def oddP (M : Tally) (all odd : Nat) : Bool := sharedB M (all ^^^ (all &&& odd)) || odd == all
/-- the fewest spellings without which all others are alike -/
def oddL (b : Book) : List Nat := (fewTo (oddP (canM b (membersM (allOf b))) (allOf b)) (2 ^ b.spellings.length)).getD []
def MapV (M : Tally) (u : Value) (w : World) : Prop := ∃ B, u = .map (some B) ∧ MapIs w B M
theorem MapV.ext {M : Tally} {u : Value} {w w' : World} (hx : Ext w w') (h : MapV M u w) : MapV M u w' := by
  obtain ⟨B, e, hm⟩ := h; exact ⟨B, e, hm.kept (Below.block hx _ hm.lt)⟩
def ListV (l : List Int) (u : Value) (w : World) : Prop := IntsAt w u l

def orM : List Int → Int
  | [] => 0
  | x :: l => if x = 0 then orM l else x
end Go.Proofs.YtnfbhicoknpojaaGreat

namespace Go.Proofs.YtnfbhicoknpojaaGreat
set_option linter.unusedSimpArgs false
set_option linter.unusedVariables false
open Go.RowKit
set_option linter.unusedVariables false

theorem orM_step (l : List Int) (k : Nat) (h : k < l.length) : orM (l.drop k) = if l[k] = 0 then orM (l.drop (k + 1)) else l[k] := by
  rw [List.drop_eq_getElem_cons h, orM]
theorem or_any (v : Value) (l : List Int) (w : World) (h : IntsAt w v l) :
    Calls Tryz.prog 158 #[v] w fun e w' => e = .returned (.int .i64 (orM l)) ∧ w = w' := by
  obtain ⟨a, cap, rfl, hlc, hcm, hc⟩ := h
  go_enter Tryz.func158, Tryz.ntmps158
  go_wp2
  go_loop [8] (fun i => ∃ k : Nat, k ≤ l.length ∧ i = .int .i64 k ∧ orM (l.drop k) = orM l) (fun i => l.length - (intOf i).toNat)
  case atStart => exact ⟨0, Nat.zero_le _, rfl, by simp⟩
  case round =>
    obtain ⟨k, hk, rfl, hw⟩ := hrel
    have Hw := Lib.hid hw; clear hw
    by_cases hlt : k < l.length
    · obtain ⟨b, off, rfl, hck, -⟩ := hc k hlt
      clear hc
      have hst := orM_step l k hlt
      generalize hx : l[k] = x at *
      have Hst := Lib.hid hst
      clear hx hst
      simp only [Nat.mul_one] at hck
      by_cases h1 : x = 0
      · subst h1
        go_wp2
        go_round
        case rel => exact ⟨k + 1, by omega, by go_num, by rw [← Hw.out, Hst.out, if_pos rfl]⟩
        case measure => simp [intOf]; omega
      · have h2 : (x != 0) = true := by simpa using h1
        have H1 := Lib.hid h1
        clear h1
        go_wp2
        go_ret
        exact ⟨ret_int (by rw [← Hw.out, Hst.out, if_neg H1.out]), rfl⟩
    · go_wp2
      go_ret
      exact ⟨ret_int (by rw [← Hw.out, List.drop_eq_nil_of_le (by omega)]; rfl), rfl⟩
theorem orM_cmp (l m : List Int) : orM [cmpM l.length m.length, cmpL l m] = cmpSS l m := by
  unfold orM orM orM cmpSS
  by_cases h : l.length = m.length
  · rw [if_pos h, h, if_pos (cmpM_self _)]
    split
    · rename_i h0; exact h0.symm
    · rfl
  · rw [if_neg h, if_neg]
    intro h0
    have := cmpM_zero.1 h0
    omega
theorem cmpM_I64 (x y : Int) : I64 (cmpM x y) := by unfold cmpM I64; split <;> (try split) <;> omega
theorem cmpL_I64 : ∀ l m : List Int, I64 (cmpL l m)
  | [], [] => by unfold cmpL I64; omega
  | [], _ :: _ => by unfold cmpL I64; omega
  | _ :: _, [] => by unfold cmpL I64; omega
  | x :: l, y :: m => by
    unfold cmpL
    split
    · exact cmpL_I64 l m
    · exact cmpM_I64 x y
set_option maxHeartbeats 1000000 in
theorem setsCompare_any (v u : Value) (l m : List Int) (w : World) (hl : IntsAt w v l) (hm : IntsAt w u m) :
    Calls Tryz.prog 141 #[v, u] w fun e w' => e = .returned (.int .i64 (cmpSS l m)) ∧ Ext w w' := by
  obtain ⟨a, cap, rfl, hlc, hcm⟩ := hl.shape
  obtain ⟨a', cap', rfl, hlc', hcm'⟩ := hm.shape
  have hcl := compareL_any _ _ l m w hl hm
  have hI := cmpL_I64 l m
  have hI2 := cmpM_I64 l.length m.length
  have hor := orM_cmp l m
  generalize cmpL l m = c2 at *
  generalize hc1 : cmpM l.length m.length = c1 at *
  have Hc1 := Lib.hid hc1
  have Hor := Lib.hid hor
  clear hc1 hor
  go_enter Tryz.func141, Tryz.ntmps141
  go_wp2_with fail
  refine (cmp_any _ _ _).mono ?_
  rintro e w' ⟨rfl, rfl⟩
  rw [Hc1.out]
  go_wp2_with fail
  refine hcl.mono ?_
  rintro e w' ⟨rfl, rfl⟩
  go_wp2_with fail
  refine (or_any _ [c1, c2] _ (IntsAt.two hI2 hI)).mono ?_
  rintro e w' ⟨rfl, rfl⟩
  go_wp2
  go_ret
  exact ⟨ret_int Hor.out, ext_alloc _ _⟩
end Go.Proofs.YtnfbhicoknpojaaGreat

namespace Go.Proofs.YtnfbhicoknpojaaGreat
set_option linter.unusedSimpArgs false
set_option linter.unusedVariables false
open Go.RowKit
set_option linter.unusedVariables false

set_option maxHeartbeats 1000000 in
theorem fewestOdd1_any (B : Nat) (M : Tally) (K : Nat) (hM : FineT K M) (hK : (K : Int) ≤ 5) (all odd : Nat) (hall : all < 32) (hodd : odd < 32) (pw pa : Addr) (w : World) (hw : w.cell? pw = some (.map (some B))) (ha : w.cell? pa = some (.int .i64 all)) (hmap : MapIs w B M) :
    Calls Tryz.prog 109 #[.int .i64 odd, .pointer (some pw), .pointer (some pa)] w fun e w' => e = .returned (.bool (oddP M all odd)) ∧ Ext w w' := by
  have hand := andNot_small ⟨all, hall⟩ ⟨odd, hodd⟩
  have hxor := xor_lt ⟨all, hall⟩ ⟨odd, hodd⟩
  simp only at hand hxor
  have hfo := fun w h => firstOf_any B M K hM hK (all ^^^ (all &&& odd)) hxor w h
  have hp : ∀ f, f = sharedB M (all ^^^ (all &&& odd)) → oddP M all odd = (f || odd == all) := fun f h => by rw [h]; rfl
  generalize all ^^^ (all &&& odd) = sub at *
  have Hp := Lib.hid hp
  clear hp
  go_enter Tryz.func109, Tryz.ntmps109
  go_wp2_with fail
  refine (hfo _ hmap).mono ?_
  rintro e w4 ⟨q, f, rfl, hF, hx4⟩
  have hpf := Hp.out f hF.shared
  have ha4 := hx4.cell ha
  have za := cell_lt ha4
  have x4 := hx4.alloc (.cells #[.int .i64 q.length, .int .i64 (q.getD 0 0), .int .i64 (q.getD 1 0), .int .i64 (q.getD 2 0), .int .i64 (q.getD 3 0), .int .i64 (q.getD 4 0)] 129)
  clear hF hfo Hp
  have Hpf := Lib.hid hpf
  clear hpf
  unfold ssV ssRaw
  generalize (q.length : Int) = qn at *
  generalize q.getD 0 0 = q0 at *
  generalize q.getD 1 0 = q1 at *
  generalize q.getD 2 0 = q2 at *
  generalize q.getD 3 0 = q3 at *
  generalize q.getD 4 0 = q4 at *
  cases f
  · by_cases h : odd = all
    · have h1 : ((odd : Int) == (all : Int)) = true := by rw [beq_iff_eq]; omega
      have h2 : (odd == all) = true := by simpa using h
      have Hq : Hid (oddP M all odd = true) := Lib.hid (by rw [Hpf.out, h2]; rfl)
      clear h h2
      go_wp2
      go_ret
      exact ⟨ret_bool Hq.out.symm, x4⟩
    · have h1 : ((odd : Int) == (all : Int)) = false := by rw [beq_eq_false_iff_ne]; omega
      have h2 : (odd == all) = false := by simpa using h
      have Hq : Hid (oddP M all odd = false) := Lib.hid (by rw [Hpf.out, h2]; rfl)
      clear h h2
      go_wp2
      go_ret
      exact ⟨ret_bool Hq.out.symm, x4⟩
  · have Hq : Hid (oddP M all odd = true) := Lib.hid (by rw [Hpf.out]; rfl)
    go_wp2
    go_ret
    exact ⟨ret_bool Hq.out.symm, x4⟩

theorem shl_six : ∀ n : Fin 6, IntKind.i64.wrap (2 ^ n.1) = ((2 ^ n.1 : Nat) : Int) := by decide +kernel
set_option maxRecDepth 100000 in
set_option maxHeartbeats 2000000 in
theorem fewest_odd (B : Nat) (M : Tally) (K : Nat) (hM : FineT K M) (hK : (K : Int) ≤ 5) (all n : Nat) (hall : all < 32) (hn : n ≤ 5) (pw pa : Addr) (w : World) (hw : w.cell? pw = some (.map (some B))) (ha : w.cell? pa = some (.int .i64 all)) (hmap : MapIs w B M) :
    Calls Tryz.prog 108 #[.int .i64 n, .func (.func 109) #[] #[.pointer (some pw), .pointer (some pa)]] w
      fun e w' => ∃ u f, e = .returned (.tuple #[u, .bool f]) ∧ IntsAt w' u (ints ((fewTo (oddP M all) (2 ^ n)).getD [])) ∧ Ext w w' := by
  have hsh := shl_six ⟨n, by omega⟩
  simp only at hsh
  have hlim : 2 ^ n ≤ 32 := Nat.pow_le_pow_right (n := 2) (by decide) hn
  have hclo := fun odd (h : odd < 32) w hw ha hm => fewestOdd1_any B M K hM hK all odd hall h pw pa w hw ha hm
  have hstep := fewTo_succ (oddP M all)
  generalize oddP M all = P at *
  obtain ⟨lim, hL⟩ : ∃ lim, lim = 2 ^ n := ⟨_, rfl⟩
  rw [← hL] at hsh hlim ⊢
  have HL := Lib.hid hL
  have Hst := Lib.hid hstep
  clear hL hstep
  go_enter Tryz.func108, Tryz.ntmps108
  go_wp2
  go_loopw [6, 7, 12] (fun v f i wr => ∃ (k : Nat) (r : Option (List Nat)) (fb : Bool), k ≤ lim ∧ i = .int .i64 k ∧ fewTo P k = r ∧ f = .bool fb ∧ fb = r.isSome ∧ IntsAt wr v (ints (r.getD [])) ∧ Ext w wr) (fun _ _ i _ => lim - (intOf i).toNat)
  case atStart => exact ⟨0, none, false, Nat.zero_le _, rfl, rfl, rfl, rfl, SliceAt.nil, Ext.refl _⟩
  case round =>
    obtain ⟨k, r, fb, hk, rfl, hr, rfl, hfb, hv, hx⟩ := hrel
    by_cases hlt : k < lim
    · have hst := Hst.out k
      rw [hr] at hst
      have hk32 : k < 32 := by omega
      have hmk := fun w => members_any k hk32 w
      have kk : (k : Int) < (lim : Int) := by omega
      have hcl := fun w h1 h2 h3 => hclo k hk32 w h1 h2 h3
      have Hr := Lib.hid hr
      clear hr hclo
      generalize hlk : membersM k = l at *
      generalize hpk : P k = pk at *
      go_wp2_with fail
      refine (hmk _).mono ?_
      rintro e w3 ⟨u, rfl, hu, hx3⟩
      have x3 := hx.trans hx3
      replace hv := hv.ext hx3
      obtain ⟨ua, uc, rfl, -⟩ := hu.shape
      clear hx3 hmk
      cases r with
      | none =>
        have hfb' : fb = false := by simpa using hfb
        subst hfb'
        have hst1 : fewTo P (k + 1) = if pk = true then some l else none := by rw [hst]; simp only [fewStep, hpk, hlk]
        obtain ⟨va, vc, rfl, -⟩ := hv.shape
        have Hst1 := Lib.hid hst1
        clear hst hst1 hfb hpk hlk
        go_wp2_with fail
        refine (hcl _ (x3.cell hw) (x3.cell ha) (hmap.kept (Below.block x3 _ hmap.lt))).mono ?_
        rintro e w4 ⟨rfl, hx4⟩
        replace hu := hu.ext hx4
        replace hv := hv.ext hx4
        have x4 := x3.trans hx4
        clear hx4 hcl
        cases pk
        · go_wp2
          go_roundw
          case rel => exact ⟨k + 1, none, false, by omega, by go_num, Hst1.out, rfl, rfl, hv, x4⟩
          case measure => simp [intOf]; omega
        · go_wp2
          go_roundw
          case rel => exact ⟨k + 1, some l, true, by omega, by go_num, Hst1.out, rfl, rfl, hu, x4⟩
          case measure => simp [intOf]; omega
      | some best =>
        have hfb' : fb = true := by simpa using hfb
        subst hfb'
        have hst1 : fewTo P (k + 1) = if 0 < cmpFew l best then some best else if pk = true then some l else some best := by rw [hst]; simp only [fewStep, hpk, hlk]
        simp only [Option.getD_some] at hv
        obtain ⟨va, vc, rfl, -⟩ := hv.shape
        have Hst1 := Lib.hid hst1
        clear hst hst1 hfb hpk hlk
        have hcmp := setsCompare_any _ _ (ints l) (ints best) w3 hu hv
        have hcf : cmpSS (ints l) (ints best) = cmpFew l best := rfl
        rw [hcf] at hcmp
        clear hcf
        generalize cmpFew l best = cv at *
        go_wp2_with fail
        refine hcmp.mono ?_
        rintro e w4 ⟨rfl, hx4⟩
        replace hu := hu.ext hx4
        replace hv := hv.ext hx4
        have x4 := x3.trans hx4
        clear hx4 hcmp
        by_cases h0 : 0 < cv
        · have Hst2 : Hid (fewTo P (k + 1) = some best) := Lib.hid (by rw [Hst1.out, if_pos h0])
          go_wp2
          go_roundw
          case rel => exact ⟨k + 1, some best, true, by omega, by go_num, Hst2.out, rfl, rfl, hv, x4⟩
          case measure => simp [intOf]; omega
        · have Hst2 : Hid (fewTo P (k + 1) = if pk = true then some l else some best) := Lib.hid (by rw [Hst1.out, if_neg h0])
          go_wp2_with fail
          refine (hcl _ (x4.cell hw) (x4.cell ha) (hmap.kept (Below.block x4 _ hmap.lt))).mono ?_
          rintro e w5 ⟨rfl, hx5⟩
          replace hu := hu.ext hx5
          replace hv := hv.ext hx5
          have x5 := x4.trans hx5
          clear hx5 hcl
          cases pk
          · go_wp2
            go_roundw
            case rel => exact ⟨k + 1, some best, true, by omega, by go_num, Hst2.out, rfl, rfl, hv, x5⟩
            case measure => simp [intOf]; omega
          · go_wp2
            go_roundw
            case rel => exact ⟨k + 1, some l, true, by omega, by go_num, Hst2.out, rfl, rfl, hu, x5⟩
            case measure => simp [intOf]; omega
    · have hke : k = lim := by omega
      subst hke
      obtain ⟨va, vc, rfl, -⟩ := hv.shape
      have Hfin := Lib.hid hr
      clear hr hclo hfb
      go_wp2
      go_ret2
      exact ⟨_, fb, rfl, by rw [Hfin.out]; exact hv, hx⟩
end Go.Proofs.YtnfbhicoknpojaaGreat
