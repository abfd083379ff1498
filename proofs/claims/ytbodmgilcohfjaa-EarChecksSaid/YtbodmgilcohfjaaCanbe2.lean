/-
  WHAT canBe RETURNS, in a book without an error.
-/
import Derived.Test.YtbodmgilcohfjaaCanbe
namespace Go.Proofs.Ytbodmgilcohfjaa
open Go.RowKit
open Go.ChangeMaps (setBlock)
set_option linter.unusedVariables false
attribute [local go_sem] Oper.semAt_some

def marksOf (Ds : List Nat) : List Deferred := Ds.map fun D => { target := .collected D, args := #[] }

/-- a sound string's six cells -/
structure SSAt (W : World) (u : Nat) (x : List Int) : Prop where
  c0 : W.cell? ⟨u, 0, none⟩ = some (.int .i64 x.length)
  c1 : W.cell? ⟨u, 1, none⟩ = some (.int .i64 (x.getD 0 0))
  c2 : W.cell? ⟨u, 2, none⟩ = some (.int .i64 (x.getD 1 0))
  c3 : W.cell? ⟨u, 3, none⟩ = some (.int .i64 (x.getD 2 0))
  c4 : W.cell? ⟨u, 4, none⟩ = some (.int .i64 (x.getD 3 0))
  c5 : W.cell? ⟨u, 5, none⟩ = some (.int .i64 (x.getD 4 0))
theorem SSAt.ck {W W' : World} {u : Nat} {x : List Int} (h : SSAt W u x) (hx : CK W W') : SSAt W' u x :=
  ⟨hx.cell h.c0, hx.cell h.c1, hx.cell h.c2, hx.cell h.c3, hx.cell h.c4, hx.cell h.c5⟩
theorem SSAt.new (W : World) (x : List Int) (t : TypeId) : SSAt (W.alloc (.cells #[.int .i64 x.length, .int .i64 (x.getD 0 0), .int .i64 (x.getD 1 0), .int .i64 (x.getD 2 0), .int .i64 (x.getD 3 0), .int .i64 (x.getD 4 0)] t)) W.heap.size x :=
  ⟨by simp [go_sem], by simp [go_sem], by simp [go_sem], by simp [go_sem], by simp [go_sem], by simp [go_sem]⟩

theorem shl_small : ∀ n : Fin 5, IntKind.i64.wrap (2 ^ n.1) = ((2 ^ n.1 : Nat) : Int) := by decide +kernel
theorem stringsOf_fine {b : Book} (hv : Valid b) (n : Nat) (hn : n < b.spellings.length) : ∀ k ∈ stringsOf b n, k.length ≤ 5 ∧ ∀ x ∈ k, 0 ≤ x ∧ x < ((b.sounds.toNat + 1 : Nat) : Int) - 1 := by
  intro k hk
  have hc := mem_yields.1 hk
  have hf := (lettersAt_fine hv n hn).1
  refine ⟨by have := hc.len; simp at this; omega, hc.fine (by simp)⟩
theorem canM_fine {b : Book} (hv : Valid b) : ∀ (l : List Nat) (M : Tally), (∀ n ∈ l, n < b.spellings.length) → FineT (b.sounds.toNat + 1) M → FineT (b.sounds.toNat + 1) (canFrom b M l)
  | [], _, _, h => h
  | n :: l, M, hl, h => by
    have hn := hl n List.mem_cons_self
    have e : canFrom b M (n :: l) = canFrom b ((stringsOf b n).foldl (markT (2 ^ n)) M) l := by simp [canFrom]
    rw [e]
    exact canM_fine hv l _ (fun m hm => hl m (List.mem_cons_of_mem _ hm)) (fine_foldl (by have := hv.n; omega) _ _ h (stringsOf_fine hv n hn))
set_option maxRecDepth 100000 in
set_option maxHeartbeats 8000000 in
theorem canBe_any (bv v : Value) (b : Book) (hv : Valid b) (l : List Nat) (hl : ∀ n ∈ l, n < b.spellings.length) (w : World) (hb : BookAt w bv b) (hlv : IntsAt w v (ints l)) :
    Calls Try.prog 56 #[bv, v] w fun e w' => ∃ B, e = .returned (.map (some B)) ∧ w.heap.size ≤ B ∧ MapIs w' B (canM b l) ∧ Ext w w' := by
  have hb0 := hb
  obtain ⟨a, c, s, d, rfl, -⟩ := hb.open
  have hlen : (ints l).length = l.length := by simp [ints]
  obtain ⟨la, lc, rfl, hlc, hlm, hcl⟩ : ∃ la lc, v = .slice la l.length lc ∧ l.length ≤ lc ∧ lc ≤ 9223372036854775807 ∧ ∀ i (hi : i < l.length), ∃ bb off, la = some ⟨bb, off, none⟩ ∧ w.cell? ⟨bb, off + i, none⟩ = some (.int .i64 ((l[i] : Nat) : Int)) := by
    obtain ⟨la, lc, e, h1, h2, hh⟩ := hlv
    rw [hlen] at h1 e
    refine ⟨la, lc, e, h1, h2, fun i hi => ?_⟩
    obtain ⟨bb, off, e2, r, -⟩ := hh i (by rw [hlen]; exact hi)
    refine ⟨bb, off, e2, ?_⟩
    rw [Nat.mul_one] at r
    rw [r]; simp [ints]
  refine (callsIn_wide (n := 4)).1 (callsIn_of_wp_marks Try.func56 rfl trivial ?_ rfl)
  simp only [Try.ntmps56, List.size_toArray, List.length_cons, List.length_nil, Nat.reduceAdd, Nat.reduceSub, Array.replicate_succ, Array.replicate_zero, List.push_toArray, List.append_toArray, List.nil_append, List.cons_append]
  refine wpIn_wide.2 ?_
  have hmm := @run_makeMap Try.prog
  go_wp2
  obtain ⟨W2, hW2⟩ : ∃ W2, W2 = (((w.alloc (.cells #[.int .i64 b.sounds, .slice a b.alphabets.length c, .slice s b.spellings.length d] 75)).alloc (.map #[] 0)).alloc (.cells #[.map (some (w.heap.size + 1))] 89)) := ⟨_, rfl⟩
  have x2 : Ext w W2 := by rw [hW2]; exact ((ext_alloc _ _).alloc _).alloc _
  have m2 : MapIs W2 (w.heap.size + 1) [] := by
    have h1 := MapIs.nil (w.alloc (.cells #[.int .i64 b.sounds, .slice a b.alphabets.length c, .slice s b.spellings.length d] 75))
    have h2 := h1.kept (Below.block (ext_alloc _ (.cells #[.map (some (w.heap.size + 1))] 89)) _ h1.lt)
    rw [World.size_alloc] at h2
    rw [hW2]; exact h2
  have r0 : W2.cell? ⟨w.heap.size, 0, none⟩ = some (.int .i64 b.sounds) := by rw [hW2]; simp [go_sem]
  have r1 : W2.cell? ⟨w.heap.size, 1, none⟩ = some (.slice a b.alphabets.length c) := by rw [hW2]; simp [go_sem]
  have r2 : W2.cell? ⟨w.heap.size, 2, none⟩ = some (.slice s b.spellings.length d) := by rw [hW2]; simp [go_sem]
  have r3 : W2.cell? ⟨w.heap.size + 1 + 1, 0, none⟩ = some (.map (some (w.heap.size + 1))) := by rw [hW2]; simp [go_sem]
  rw [← hW2]
  clear hW2
  refine wp_loop (fun a' W => ∃ (k : Nat) (Ds : List Nat) (u6 u7 u8 u13 u14 u15 u16 u17 u18 u19 u20 u21 u22 u23 u24 u25 u26 u27 u28 u29 : Value), k ≤ l.length ∧
      a' = { tmps := #[.agg #[.int .i64 b.sounds, .slice a b.alphabets.length c, .slice s b.spellings.length d], .slice la l.length lc, .pointer (some ⟨w.heap.size, 0, none⟩), undef, .map none, .pointer (some ⟨w.heap.size + 1 + 1, 0, none⟩), u6, u7, u8, .map (some (w.heap.size + 1)), .slice la l.length lc, .int .i64 l.length, .int .i64 k, u13, u14, u15, u16, u17, u18, u19, u20, u21, u22, u23, u24, u25, u26, u27, u28, u29], defers := marksOf Ds } ∧
      CK W2 W ∧ Ext w W ∧ MapIs W (w.heap.size + 1) (canM b (l.take k)) ∧ Ds.Nodup ∧ (∀ D ∈ Ds, w.heap.size ≤ D ∧ W.heap[D]? = some (.deferred (some [])))) (fun a' _ => l.length - (intOf (a'.tmps.getD 12 undef)).toNat) ?start ?round
  case start => exact ⟨0, [], undef, undef, undef, undef, undef, undef, undef, undef, undef, undef, undef, undef, undef, undef, undef, undef, undef, undef, undef, undef, Nat.zero_le _, rfl, CK.refl _, x2, m2, List.nodup_nil, by simp⟩
  case round =>
    rintro a' W ⟨k, Ds, u6, u7, u8, u13, u14, u15, u16, u17, u18, u19, u20, u21, u22, u23, u24, u25, u26, u27, u28, u29, hk, rfl, hck, hx, hmap, hnd, hmk⟩
    have q0 := hck.cell r0
    have q1 := hck.cell r1
    have q2 := hck.cell r2
    have q3 := hck.cell r3
    have z0 : w.heap.size < W.heap.size := cell_lt q0
    have z3 : w.heap.size + 1 + 1 < W.heap.size := cell_lt q3
    by_cases hlt : k < l.length
    · obtain ⟨lb, lo, rfl, ck⟩ := hcl k hlt
      have ck := hx.cell ck
      have zk : lb < W.heap.size := cell_lt ck
      have hn := hl l[k] (List.getElem_mem hlt)
      have htake : l.take (k + 1) = l.take k ++ [l[k]] := List.take_succ_eq_append_getElem hlt
      generalize l[k] = n at *
      have kk : (k : Int) < (l.length : Int) := by omega
      have hfine := lettersAt_fine hv n hn
      go_wp2_with fail
      refine (soundStrings_any _ b hv n hn _ (hb0.ext (hx.alloc _))).mono ?_
      rintro e W5 ⟨bl, bk, lv, rfl, h1, h2, h3, hx5⟩
      have q7 : W5.cell? ⟨W.heap.size, 0, none⟩ = some (.int .i64 n) := hx5.cell (by simp [go_sem])
      have x5 : Ext W W5 := hx5.of_alloc
      have z5 : W.heap.size < W5.heap.size := cell_lt q7
      clear hx5
      go_wp2
      refine (wpIn_wide (n := 4)).1 ?_
      refine wpIn_rangeFunc_ownH rfl (by omega) (gf := 102) (lb := #[.pointer (some ⟨bl, 0, none⟩), .pointer (some ⟨bk, 0, none⟩)]) rfl trivial (enters_of Try.func102 (by kernel_rfl) rfl)
        (iter_any 3 bl bk lv (lettersAt b n) b.sounds hv.s hfine.1 hfine.2 W5 h1 h2 h3) (fun h k => CK.trans h k) ?kb (Below.refl _ _) (fun _ => rfl)
        (fun pre W' => Told w.heap.size w W5 (w.heap.size + 1) ((pre.map (·.1)).foldl (markT (2 ^ n)) (canM b (l.take k))) Ds W') (fun _ _ _ => False) ?own (fun _ _ _ _ _ h _ _ => h) ?first
        (fun x a' W' => ∃ u, a' = { tmps := #[.agg #[.int .i64 b.sounds, .slice a b.alphabets.length c, .slice s b.spellings.length d], .slice (some ⟨lb, lo, none⟩) l.length lc, .pointer (some ⟨w.heap.size, 0, none⟩), undef, .map none, .pointer (some ⟨w.heap.size + 1 + 1, 0, none⟩), u6, .pointer (some ⟨W.heap.size, 0, none⟩), .pointer (some ⟨u, 0, none⟩), .map (some (w.heap.size + 1)), .slice (some ⟨lb, lo, none⟩) l.length lc, .int .i64 l.length, .int .i64 k, .bool true, .pointer (some ⟨lb, lo + k, none⟩), .int .i64 n, .agg #[.int .i64 b.sounds, .slice a b.alphabets.length c, .slice s b.spellings.length d], .int .i64 n, .func (.func 102) #[] #[.pointer (some ⟨bl, 0, none⟩), .pointer (some ⟨bk, 0, none⟩)], ssV x.1, u20, u21, u22, u23, u24, u25, u26, u27, u28, u29], defers := [] } ∧ SSAt W' u x.1) ?ownA ?assign ?body ?done (fun _ _ _ _ _ _ h _ => h.elim)
      case kb => exact fun W l o o' _ h hc _ => (CK.refl W).grownBy (grownBy_putObj' W l o') (fun r e => by cases e; exact ⟨o, h, hc⟩)
      case own => exact fun pre A B row h hg hr => h.kept (by omega) (by omega) hg hr
      case first => exact ⟨CK.refl _, hx.trans x5, hmap.kept (Below.block x5 _ hmap.lt), fun D hD => ⟨(hmk D hD).1, by have := (Array.getElem?_eq_some_iff.1 (hmk D hD).2).1; omega, (Below.block x5 _ (Array.getElem?_eq_some_iff.1 (hmk D hD).2).1).trans (hmk D hD).2⟩⟩
      case ownA => exact fun x a' _ A B row h hg hr => by obtain ⟨u, e, hs⟩ := h; exact ⟨u, e, hs.ck ((CK.refl A).grownBy hg (fun r e => (hr r e).2))⟩
      case assign =>
        intro l0 pre x W' K hI hK
        have hnew := SSAt.new W' x.1 100
        unfold ssV ssRaw at *
        generalize ((x.1).length : Int) = sn at *
        generalize (x.1).getD 0 0 = s0 at *
        generalize (x.1).getD 1 0 = s1 at *
        generalize (x.1).getD 2 0 = s2 at *
        generalize (x.1).getD 3 0 = s3 at *
        generalize (x.1).getD 4 0 = s4 at *
        gi_wp2
        refine hK _ _ ((KeepsOthers.alloc _ _).from _) (ext_alloc _ _).ck (hI.kept (by omega) (by omega) (World.grownBy_alloc _ _ none) (fun r e => by cases e)) ⟨_, rfl, hnew⟩
      case body =>
        rintro l0 pre x a' W' - - hI ⟨u, rfl, hs⟩ hlen
        have hft : FineT (b.sounds.toNat + 1) ((pre.map (·.1)).foldl (markT (2 ^ n)) (canM b (l.take k))) := by
          refine fine_foldl (by have := hv.n; omega) _ _ (canM_fine hv _ _ (fun m hm => hl m (List.mem_of_mem_take hm)) (FineT.nil _)) fun q hq => ?_
          obtain ⟨y, -, rfl⟩ := List.mem_map.1 hq
          exact ⟨y.2.1, fun z hz => by have := y.2.2 z hz; have := hv.s; omega⟩
        have hnext : ((pre ++ [x]).map (·.1)).foldl (markT (2 ^ n)) (canM b (l.take k)) = markT (2 ^ n) ((pre.map (·.1)).foldl (markT (2 ^ n)) (canM b (l.take k))) x.1 := by simp
        have hpost : ∀ (a3 : Act) (W3 : World), W'.grownBy W3 (some (w.heap.size + 1)) → W3.heap.size = W'.heap.size → MapIs W3 (w.heap.size + 1) (markT (2 ^ n) ((pre.map (·.1)).foldl (markT (2 ^ n)) (canM b (l.take k))) x.1) →
            ownPostG W5.heap.size CK (fun pre W' => Told w.heap.size w W5 (w.heap.size + 1) ((pre.map (·.1)).foldl (markT (2 ^ n)) (canM b (l.take k))) Ds W') (fun _ _ _ => False) (pre ++ [x]) W' .normal a3 W3 := by
          intro a3 W3 hg hsz hm
          have hckk : CK W' W3 := (CK.refl W').grownBy hg (fun r e => by cases e; obtain ⟨es, hes, -⟩ := hI.map; exact ⟨_, hes, rfl⟩)
          refine ⟨KeepsFrom.of_grownBy hg (fun j e => by cases e; omega), hckk, hI.ck.trans hckk, hI.ext.grown hg (fun r e => by cases e; omega), by rw [hnext]; exact hm, fun D hD => ?_⟩
          obtain ⟨d1, d2, d3⟩ := hI.marks D hD
          refine ⟨d1, d2, (hg.block D (Array.getElem?_eq_some_iff.1 d3).1 (fun e => ?_)).trans d3⟩
          obtain ⟨es, hes, -⟩ := hI.map
          cases e
          rw [hes] at d3; cases d3
        have p7 := hI.ck.cell q7
        have p3 := hI.ck.cell (x5.cell q3)
        obtain ⟨es, hes, hE⟩ := hI.map
        generalize (pre.map (·.1)).foldl (markT (2 ^ n)) (canM b (l.take k)) = M at *
        have hM : ∀ p ∈ M, p.1.length ≤ 5 := fun p hp => (hft.keys p hp).1
        have hg32 := hft.get_lt x.1
        have hlook := fun w1 h => lookup_two (w1 := w1) (B := w.heap.size + 1) x.2.1 hM hE h
        have hentry := fun w1 h => entry_two (w1 := w1) (B := w.heap.size + 1) x.2.1 hM hE h
        have hstore := fun w1 h => store_two (w1 := w1) (B := w.heap.size + 1) (k := x.1) hE ((getT x.1 M).getD 0 ||| 2 ^ n) h
        obtain ⟨p0, p1, p2, p3', p4, p5⟩ := hs
        obtain ⟨sn, s0, s1, s2, s3, s4, hsv, hsn, hs0, hs1, hs2, hs3, hs4⟩ : ∃ sn s0 s1 s2 s3 s4, ssV x.1 = .agg #[.int .i64 sn, .int .i64 s0, .int .i64 s1, .int .i64 s2, .int .i64 s3, .int .i64 s4] ∧ ((x.1).length : Int) = sn ∧ (x.1).getD 0 0 = s0 ∧ (x.1).getD 1 0 = s1 ∧ (x.1).getD 2 0 = s2 ∧ (x.1).getD 3 0 = s3 ∧ (x.1).getD 4 0 = s4 :=
          ⟨_, _, _, _, _, _, rfl, rfl, rfl, rfl, rfl, rfl, rfl⟩
        rw [hsn] at p0; rw [hs0] at p1; rw [hs1] at p2; rw [hs2] at p3'; rw [hs3] at p4; rw [hs4] at p5
        clear hsn hs0 hs1 hs2 hs3 hs4
        rw [hsv] at hlook hentry
        rw [hsv]
        clear hsv
        unfold markT at hpost
        generalize (getT x.1 M).getD 0 = g at *
        have hn5 : n < 5 := by have := hv.n; omega
        clear h1 h2 h3 hb hb0 hcl hlv hck r0 r1 r2 r3 q0 q1 q2 q3 hmm hmk
        have hsh := shl_small ⟨n, hn5⟩
        have hor0 := or_small ⟨g, hg32⟩ ⟨n, hn5⟩
        simp only at hsh hor0
        obtain ⟨p, hp⟩ : ∃ p : Nat, p = 2 ^ n := ⟨_, rfl⟩
        rw [← hp] at hsh hor0 hstore
        have hpost2 := fun a3 W3 h1 h2 (h3 : MapIs W3 (w.heap.size + 1) (putT x.1 (g ||| p) M)) => hpost a3 W3 h1 h2 (by rw [← hp]; exact h3)
        have hor : bits BinOp.or IntKind.i64 (g : Int) (p : Int) = ((g ||| p : Nat) : Int) := hor0
        clear hor0 hp hpost
        gi_wp2_with fail
        apply Facts.Piv.wpIn_region (two_turn2 (w.heap.size + 1) (obj0 es M) (obj1 x.1 es M) (obj2 x.1 (g ||| p) es M) obj_last) 8 [.val _, .val _, .val _, .val _, .val (.int .i64 (p : Nat)), .val (.int .i64 ((g ||| p : Nat) : Int)), .fact (Taken (w.heap.size + 1) (obj1 x.1 es M) (obj2 x.1 (g ||| p) es M) (.tuple #[.int .i64 (g : Nat), .int .i64 (posT x.1 M : Nat)])),
          .fact (IsVal (.int .i64 (posT x.1 M : Nat))), .fact (Written (w.heap.size + 1) (obj2 x.1 (g ||| p) es M) W')] (by kernel_rfl) (by kernel_rfl) (by kernel_rfl) (by kernel_rfl) ?keep ?main
        case keep => exact ⟨fun _ _ _ h ht => Taken.e h ht, fun _ _ _ _ h ht => Taken.c h ht, fun _ _ _ _ h => h, fun _ _ _ _ _ h => h, fun _ _ _ h ht => Written.e h ht, fun h => absurd h (Bool.eq_false_iff.1 (by kernel_rfl)), trivial⟩
        case main =>
          iterate 1 (refine ⟨fun w1 hE hx hh => ?_, ?_⟩; focus (clear hh hx; replace hE := hE (by kernel_rfl); (have e1 := (hE.ck hes).cell p3); clear hE; go_simp; first | exact ⟨Turn.refl _ _ _ _, rfl⟩ | exact Turn.refl _ _ _ _))
          iterate 1 (refine ⟨fun w1 hE hx hh => ?_, ?_⟩; focus (clear hh hx; replace hE := hE (by kernel_rfl); (have e0 := (hE.ck hes).cell p0; have e1 := (hE.ck hes).cell p1; have e2 := (hE.ck hes).cell p2; have e3 := (hE.ck hes).cell p3'; have e4 := (hE.ck hes).cell p4; have e5 := (hE.ck hes).cell p5); clear hE; go_simp; first | exact ⟨Turn.refl _ _ _ _, rfl⟩ | exact Turn.refl _ _ _ _))
          iterate 1 (refine ⟨fun w1 hE hx hh => ?_, ?_⟩; focus (clear hh hx; replace hE := hE (by kernel_rfl); (have e1 := hlook w1 (hE.either hes)); clear hE; go_simp; first | exact ⟨Turn.refl _ _ _ _, rfl⟩ | exact Turn.refl _ _ _ _))
          iterate 1 (refine ⟨fun w1 hE hx hh => ?_, ?_⟩; focus (clear hh hx; replace hE := hE (by kernel_rfl); (have e1 := (hE.ck hes).cell p7); clear hE; go_simp; first | exact ⟨Turn.refl _ _ _ _, rfl⟩ | exact Turn.refl _ _ _ _))
          iterate 2 (refine ⟨fun w1 hE hx hh => ?_, ?_⟩; focus (clear hh hx; replace hE := hE (by kernel_rfl); skip; clear hE; go_simp; first | exact ⟨Turn.refl _ _ _ _, rfl⟩ | exact Turn.refl _ _ _ _))
          refine ⟨fun w1 hE hx hh => ?_, ?_⟩
          · clear hh hx
            replace hE := hE (by kernel_rfl)
            obtain ⟨w2, hr, hrest⟩ := hentry w1 (hE.either hes)
            have Hrest := Lib.hid hrest
            clear hrest
            go_simp
            exact ⟨Hrest.out.1, rfl, .inl Hrest.out.2⟩
          intro u6
          refine ⟨fun w1 hE hx hh => ?_, ?_⟩
          · have h6 : Taken (w.heap.size + 1) (obj1 x.1 es M) (obj2 x.1 (g ||| p) es M) (.tuple #[.int .i64 (g : Nat), .int .i64 (posT x.1 M : Nat)]) u6 w1 := hh 6 _ List.mem_cons_self (by kernel_rfl)
            clear hh hx hE
            rw [h6.1]
            go_simp
            exact ⟨Turn.refl _ _ _ _, rfl⟩
          intro u7
          refine ⟨fun w1 hE hx hh => ?_, ?_⟩
          · have h7 : IsVal (.int .i64 (posT x.1 M : Nat)) u7 w1 := hh 7 _ List.mem_cons_self (by kernel_rfl)
            have h6 : Taken (w.heap.size + 1) (obj1 x.1 es M) (obj2 x.1 (g ||| p) es M) (.tuple #[.int .i64 (g : Nat), .int .i64 (posT x.1 M : Nat)]) u6 w1 := hh 6 _ (List.mem_cons_of_mem _ List.mem_cons_self) (by kernel_rfl)
            clear hh hx
            replace hE := hE (by kernel_rfl)
            have hs := hstore w1 (Taken.now hE hes h6)
            have hr := hs.1
            have Hrest := Lib.hid hs.2
            have HE := Lib.hid hE
            rw [show u7 = _ from h7]
            clear hE h6 h7 hs
            go_simp
            exact ⟨⟨Hrest.out.1, Hrest.out.2.1, .inr (.inr Hrest.out.2.2)⟩, HE.out.g.trans Hrest.out.1, Hrest.out.2.1.trans HE.out.s, Hrest.out.2.2⟩
          intro u9 w1 hx hh
          have h8 : Written (w.heap.size + 1) (obj2 x.1 (g ||| p) es M) W' u9 w1 := hh 8 _ List.mem_cons_self
          clear hh hx
          exact hpost2 { tmps := #[], defers := [] } _ h8.1 h8.2.1 ⟨_, h8.2.2, hE.sto _ _⟩
      case done =>
        rintro D xs W' hD hxs hI hDm
        go_wp2
        refine ⟨⟨k + 1, D :: Ds, _, _, _, _, _, _, _, _, _, _, _, _, _, _, _, _, _, _, _, _, by omega, by simp only [marksOf, List.map_cons, Int.natCast_add, Int.natCast_one]; rfl, hck.trans (x5.ck.trans hI.ck), hI.ext, ?_, ?_, ?_⟩, ?_⟩
        · rw [htake, canM, canFrom_snoc, stringsOf, ← hxs]; exact hI.map
        · rw [List.nodup_cons]; exact ⟨fun h => by have := (hI.marks D h).2.1; omega, hnd⟩
        · intro E hE
          rcases List.mem_cons.1 hE with rfl | hE
          · exact ⟨by omega, hDm⟩
          · exact ⟨(hI.marks E hE).1, (hI.marks E hE).2.2⟩
        · simp [intOf]; omega
    · have hke : k = l.length := by omega
      subst hke
      rw [List.take_length] at hmap
      go_wp2
      refine leaves_marks w.heap.size (fun W' => MapIs W' (w.heap.size + 1) (canM b l) ∧ Ext w W') (fun A D hD h hd => ⟨h.1.kept (World.putObj_heap_other (fun e => ?_)), h.2.grown (grownBy_putObj' A D _) (fun r e => by cases e; exact hD)⟩) (fun A h => ?_) Ds W hnd hmk ⟨hmap, hx⟩
      · obtain ⟨⟨es, hb, -⟩, -⟩ := h
        first | (rw [← e, hd] at hb; cases hb) | (rw [e, hd] at hb; cases hb)
      · exact ⟨_, results_tmp rfl _ _ _, _, rfl, by omega, h.1, h.2⟩
end Go.Proofs.Ytbodmgilcohfjaa
