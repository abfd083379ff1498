/-
  WHAT fewestOdd RETURNS where there is no error.
  WHAT Odd RETURNS where there is no error.
  WHAT indices, one AND hears OF THE REFERENCE RETURN: the errors of arguments; how many are marked, and the first one.
  WHAT Many, Least AND Code OF THE REFERENCE RETURN.
  WHAT letter AND Book OF THE STATEMENTS RETURN: the book of the examples.
  THE BOOK OF THE EXAMPLES: what is so of it, by computation.
  WHAT Awake RETURNS: true.
  WHAT Count, Reads, Common, First, Alike AND Odd RETURN where the book or an index has an error.
  WHAT First RETURNS where there is an error; what Common and Alike return where the spellings are no ascending list, or the same.
  WHAT Heard AND Others OF THE REFERENCE RETURN: the sound string of a number; the spellings that are none of some.
  WHAT Others OF THE REFERENCE RETURNS: the spellings that are none of some.
  WHAT IS COMMON TO SPELLINGS, said of sets of strings: plain facts.
  WHAT A SPELLING WITHOUT AN ERROR CAN BE: at least one string; no more strings than ways. Plain facts.
  WHAT further OF THE REFERENCE RETURNS: how many of the first sounds are done behind one more letter.
  LISTS OF BOOLS THAT A CALL HAS MADE ITSELF: what make gives, what a read gives, what a write leaves.
  WHAT valid AND turn OF THE STATEMENTS RETURN.
  WHAT THE WALKS OF THE LAWS HAVE IN COMMON: a book in a box of its own; what Alike returns of indices of a book without an error.
  WHAT EarCommon RETURNS: true.
-/
import Derived.Test.YtnfbhicoknpojaaGreatBunAO
import Derived.Test.YtnfbhicoknpojaaGreatBunAM
import Derived.Laws.OwnMore
namespace Go.Proofs.YtnfbhicoknpojaaGreat
set_option linter.unusedSimpArgs false
set_option linter.unusedVariables false
open Go.RowKit
set_option linter.unusedVariables false

/-- a later world in which but the boxes of one kind of values may hold other values of that kind -/
def OnlyK (K : Value → Prop) (a b : World) : Prop :=
  a.heap.size ≤ b.heap.size ∧ (∀ (k : Nat) (o : Obj), a.heap[k]? = some o → (∀ c e f, o ≠ Obj.cells c e f) → b.heap[k]? = some o) ∧
  ∀ (p : Addr) (x : Value), a.cell? p = some x → b.frozen? p = a.frozen? p ∧ (¬ K x → b.cell? p = some x) ∧ (K x → ∃ y, K y ∧ b.cell? p = some y)
theorem OnlyK.of_ext {K : Value → Prop} {a b : World} (h : Ext a b) : OnlyK K a b :=
  ⟨h.size, fun k o ho _ => by rw [Below.block h k (Array.getElem?_eq_some_iff.1 ho).1]; exact ho, fun p x hx => ⟨h.frozen (cell_lt hx), fun _ => h.cell hx, fun hk => ⟨x, hk, h.cell hx⟩⟩⟩
theorem OnlyK.trans {K : Value → Prop} {a b c : World} (h : OnlyK K a b) (k : OnlyK K b c) : OnlyK K a c := by
  refine ⟨Nat.le_trans h.1 k.1, fun i o ho hn => k.2.1 i o (h.2.1 i o ho hn) hn, fun p x hx => ?_⟩
  obtain ⟨h1, h2, h3⟩ := h.2.2 p x hx
  by_cases hk : K x
  · obtain ⟨y, hy, hc⟩ := h3 hk
    obtain ⟨k1, -, k3⟩ := k.2.2 p y hc
    exact ⟨k1.trans h1, fun n => absurd hk n, fun _ => k3 hy⟩
  · obtain ⟨k1, k2, -⟩ := k.2.2 p x (h2 hk)
    exact ⟨k1.trans h1, fun n => k2 n, fun n => absurd n hk⟩
theorem two_only (K : Value → Prop) : Facts.Piv.Two Ext (OnlyK K) := ⟨fun _ _ h => .of_ext h, fun _ _ _ h k => h.trans k, fun _ _ _ h k => h.trans k, Ext.refl, fun a => ext_drew a⟩
theorem OnlyK.set {K : Value → Prop} {w : World} {p : Addr} {x y : Value} (hc : w.cell? p = some x) (hx : K x) (hy : K y) : OnlyK K w (w.setCell p y) := by
  refine ⟨by simp, fun k o ho hn => ?_, fun q z hq => ?_⟩
  · by_cases hk : k = p.block
    · exfalso
      subst hk
      unfold World.cell? at hc
      rw [ho] at hc
      cases o <;> simp only at hc <;> first | cases hc | exact hn _ _ _ rfl
    · simp only [World.setCell, Array.getElem?_modify]
      rw [if_neg (fun e => hk e.symm)]; exact ho
  · refine ⟨by simp, fun hz => ?_, fun hz => ?_⟩
    · refine set_other hq ?_ y
      by_cases h : p.block = q.block ∧ p.off = q.off
      · exfalso
        have e : p = q := by
          obtain ⟨b, o, s⟩ := p; obtain ⟨b', o', s'⟩ := q
          have hs := World.cell?_spot hc
          have hs' := World.cell?_spot hq
          simp only at h hs hs'
          rw [h.1, h.2, hs, hs']
        subst e
        rw [hc] at hq; cases hq; exact hz hx
      · rcases Nat.lt_or_ge 0 0 with h0 | h0
        · omega
        · by_cases h1 : p.block = q.block
          · exact .inr fun h2 => h ⟨h1, h2⟩
          · exact .inl h1
    · by_cases h : p.block = q.block ∧ p.off = q.off
      · have e : p = q := by
          obtain ⟨b, o, s⟩ := p; obtain ⟨b', o', s'⟩ := q
          have hs := World.cell?_spot hc
          have hs' := World.cell?_spot hq
          simp only at h hs hs'
          rw [h.1, h.2, hs, hs']
        subst e
        exact ⟨y, hy, set_cell hc y⟩
      · exact ⟨z, hz, set_other hq (by
          by_cases h1 : p.block = q.block
          · exact .inr fun h2 => h ⟨h1, h2⟩
          · exact .inl h1) y⟩
theorem OnlyK.ints {K : Value → Prop} (hK : ∀ n, ¬ K (.int .i64 n)) {w w' : World} {v : Value} {l : List Int} (h : OnlyK K w w') (hl : IntsAt w v l) : IntsAt w' v l := by
  obtain ⟨a, cap, h1, h2, h3, h4⟩ := hl
  exact ⟨a, cap, h1, h2, h3, fun i hi => by obtain ⟨b, off, e, r⟩ := h4 i hi; exact ⟨b, off, e, (h.2.2 _ _ r.1).2.1 (hK _), r.2⟩⟩
/-- a box of one's own, of one kind of values -/
def FreshK (K : Value → Prop) (n0 : Nat) (u : Value) (w : World) : Prop := ∃ B x, u = .pointer (some ⟨B, 0, none⟩) ∧ n0 ≤ B ∧ w.cell? ⟨B, 0, none⟩ = some x ∧ K x ∧ w.frozen? ⟨B, 0, none⟩ = false
theorem FreshK.ext {K : Value → Prop} {n0 : Nat} {u : Value} {w w' : World} (h : FreshK K n0 u w) (hx : Ext w w') : FreshK K n0 u w' := by
  obtain ⟨B, x, h1, h2, h3, h4, h5⟩ := h
  exact ⟨B, x, h1, h2, hx.cell h3, h4, by rw [hx.frozen (cell_lt h3)]; exact h5⟩
theorem FreshK.only {K : Value → Prop} {n0 : Nat} {u : Value} {w w' : World} (h : FreshK K n0 u w) (hx : OnlyK K w w') : FreshK K n0 u w' := by
  obtain ⟨B, x, h1, h2, h3, h4, h5⟩ := h
  obtain ⟨g1, -, g3⟩ := hx.2.2 _ _ h3
  obtain ⟨y, hy, hc⟩ := g3 h4
  exact ⟨B, y, h1, h2, hc, hy, by rw [g1]; exact h5⟩
/-- its parts, told without taking it apart -/
noncomputable def FreshK.B {K : Value → Prop} {n0 : Nat} {u : Value} {w : World} (h : FreshK K n0 u w) : Nat := h.choose
theorem FreshK.spec {K : Value → Prop} {n0 : Nat} {u : Value} {w : World} (h : FreshK K n0 u w) : u = .pointer (some ⟨h.B, 0, none⟩) ∧ n0 ≤ h.B ∧ (∃ x, w.cell? ⟨h.B, 0, none⟩ = some x ∧ K x) ∧ w.frozen? ⟨h.B, 0, none⟩ = false := by
  obtain ⟨x, h1, h2, h3, h4, h5⟩ := h.choose_spec
  exact ⟨h1, h2, ⟨x, h3, h4⟩, h5⟩
noncomputable def MapV.B {M : Tally} {u : Value} {w : World} (h : MapV M u w) : Nat := Exists.choose h
theorem MapV.spec {M : Tally} {u : Value} {w : World} (h : MapV M u w) : u = .map (some h.B) ∧ MapIs w h.B M := Exists.choose_spec h
def IsMap (x : Value) : Prop := ∃ o, x = .map o
theorem MapV.only {M : Tally} {u : Value} {w w' : World} (h : MapV M u w) (hx : OnlyK IsMap w w') : MapV M u w' := by
  obtain ⟨B, e, es, hb, h1⟩ := h
  exact ⟨B, e, es, hx.2.1 _ _ hb (fun _ _ _ e => by cases e), h1⟩
theorem store_map {W w1 : World} {M : Tally} {B Bm : Nat} (hx : Ext W w1) (hB : W.heap.size ≤ B) (hc : ∃ x, w1.cell? ⟨B, 0, none⟩ = some x ∧ IsMap x) (hm : MapIs w1 Bm M) :
    OnlyK IsMap w1 (w1.setCell ⟨B, 0, none⟩ (.map (some Bm))) ∧ (w1.setCell ⟨B, 0, none⟩ (.map (some Bm))).cell? ⟨B, 0, none⟩ = some (.map (some Bm)) ∧ MapIs (w1.setCell ⟨B, 0, none⟩ (.map (some Bm))) Bm M ∧ Ext W (w1.setCell ⟨B, 0, none⟩ (.map (some Bm))) := by
  obtain ⟨x, hc, hk⟩ := hc
  refine ⟨OnlyK.set hc hk ⟨_, rfl⟩, set_cell hc _, ?_, hx.setCell hB _⟩
  obtain ⟨es, hb, h1⟩ := hm
  exact ⟨es, (OnlyK.set hc hk ⟨_, rfl⟩).2.1 _ _ hb (fun _ _ _ e => by cases e), h1⟩
/-- the box's value has been stored -/
def Stored (W0 : World) (M : Tally) (l : List Value) (_ : Value) (w : World) : Prop := ∃ B Bm, l = [.pointer (some ⟨B, 0, none⟩), .map (some Bm)] ∧ W0.heap.size ≤ B ∧ w.cell? ⟨B, 0, none⟩ = some (.map (some Bm)) ∧ MapIs w Bm M ∧ Ext W0 w
theorem Stored.ext {W0 : World} {M : Tally} {l : List Value} {u : Value} {w w' : World} (h : Stored W0 M l u w) (hx : Ext w w') : Stored W0 M l u w' := by
  obtain ⟨B, Bm, h1, h2, h3, h4, h5⟩ := h
  exact ⟨B, Bm, h1, h2, hx.cell h3, h4.kept (Below.block hx _ h4.lt), h5.trans hx⟩
noncomputable def Stored.B {W0 : World} {M : Tally} {l : List Value} {u : Value} {w : World} (h : Stored W0 M l u w) : Nat := Exists.choose h
noncomputable def Stored.Bm {W0 : World} {M : Tally} {l : List Value} {u : Value} {w : World} (h : Stored W0 M l u w) : Nat := (Exists.choose_spec h).choose
theorem Stored.spec {W0 : World} {M : Tally} {a c : Value} {u : Value} {w : World} (h : Stored W0 M [a, c] u w) : a = .pointer (some ⟨h.B, 0, none⟩) ∧ c = .map (some h.Bm) ∧ W0.heap.size ≤ h.B ∧ w.cell? ⟨h.B, 0, none⟩ = some (.map (some h.Bm)) ∧ MapIs w h.Bm M ∧ Ext W0 w := by
  have hh := (Exists.choose_spec h).choose_spec
  have h1 := List.cons.inj hh.1
  exact ⟨h1.1, (List.cons.inj h1.2).1, hh.2.1, hh.2.2.1, hh.2.2.2.1, hh.2.2.2.2⟩
set_option maxRecDepth 100000 in
set_option maxHeartbeats 4000000 in
theorem fewestOdd_ok (bv : Value) (b : Book) (hv : Valid b) (w : World) (hb : BookAt w bv b) :
    Calls Tryz.prog 73 #[bv] w fun e w' => ∃ u, e = .returned u ∧ IntsAt w' u (ints (oddL b)) ∧ Ext w w' := by
  have hn := hv.n
  have hS := hv.s
  have hb0 := hb
  obtain ⟨ba, bc, bs, bd, rfl, -⟩ := hb.open
  have hall := allOf_lt hn
  go_enter Tryz.func73, Tryz.ntmps73
  obtain ⟨all, hA⟩ : ∃ all, all = allOf b := ⟨_, rfl⟩
  have hsh : wrap64 (wrap64 (2 ^ b.spellings.length) - 1) = ((all : Nat) : Int) := by rw [hA]; exact shl_all ⟨b.spellings.length, by omega⟩
  go_wp2_with fail
  rw [hsh]
  try rw [← hA]
  have hml : ∀ n ∈ membersM (allOf b), n < b.spellings.length := fun n h => members_all h
  have hfin : FineT (b.sounds.toNat + 1) (canM b (membersM (allOf b))) := canM_fine hv _ [] hml (FineT.nil _)
  have hmem := fun w => members_any (allOf b) hall w
  have hcan := fun v w (hb : BookAt w (.agg #[.int .i64 b.sounds, .slice ba b.alphabets.length bc, .slice bs b.spellings.length bd]) b) hl => canBe_any _ v b hv (membersM (allOf b)) hml w hb hl
  have HF : Hid (oddL b = (fewTo (oddP (canM b (membersM (allOf b))) (allOf b)) (2 ^ b.spellings.length)).getD []) := Lib.hid rfl
  obtain ⟨M, hM⟩ : ∃ M, M = canM b (membersM (allOf b)) := ⟨_, rfl⟩
  obtain ⟨lm, hlm⟩ : ∃ lm, lm = membersM (allOf b) := ⟨_, rfl⟩
  rw [← hM, ← hA] at HF
  simp only [← hM] at hfin hcan
  simp only [← hlm] at hmem hcan hml
  rw [← hA] at hmem hall
  clear hM hlm hA
  obtain ⟨W, hW⟩ : ∃ W, W = ((w.alloc (.cells #[.int .i64 b.sounds, .slice ba b.alphabets.length bc, .slice bs b.spellings.length bd] 70)).alloc (.cells #[.int .i64 all] 3)) := ⟨_, rfl⟩
  have c0 : W.cell? ⟨w.heap.size, 0, none⟩ = some (.int .i64 b.sounds) := by rw [hW]; simp [go_sem]
  have c1 : W.cell? ⟨w.heap.size, 1, none⟩ = some (.slice ba b.alphabets.length bc) := by rw [hW]; simp [go_sem]
  have c2 : W.cell? ⟨w.heap.size, 2, none⟩ = some (.slice bs b.spellings.length bd) := by rw [hW]; simp [go_sem]
  have c3 : W.cell? ⟨w.heap.size + 1, 0, none⟩ = some (.int .i64 all) := by rw [hW]; simp [go_sem]
  have xW : Ext w W := by rw [hW]; exact (ext_alloc _ _).alloc _
  rw [← hW]
  clear hW
  apply Facts.Dep.wp_region (two_only IsMap) 5 [.val _, .val _, .fact (ListV (ints lm)), .fact (MapV M), .fact (FreshK IsMap W.heap.size), .on [4, 3] (Stored W M)] (by kernel_rfl) (by kernel_rfl) (.inl (by kernel_rfl)) (by kernel_rfl) ?keep ?main
  case keep => exact ⟨fun u a c hx h => IntsAt.ext h hx, fun _ u a c hx h => hx.ints (fun n ⟨o, e⟩ => by cases e) h, fun u a c hx h => MapV.ext hx h, fun _ u a c hx h => h.only hx, fun u a c hx h => h.ext hx, fun _ u a c hx h => h.only hx, fun l u a c hx h => h.ext hx, fun h => absurd h (Bool.eq_false_iff.1 (by kernel_rfl)), trivial⟩
  case main =>
    refine ⟨fun w1 hE hC hh => ?_, ?_⟩
    · clear hh hC
      have hx := hE (by kernel_rfl)
      have e0 := hx.cell c0
      have e1 := hx.cell c1
      have e2 := hx.cell c2
      go_simp
      exact ⟨Ext.refl _, rfl⟩
    refine ⟨fun w1 hE hC hh => ?_, ?_⟩
    · clear hh hC
      have hx := hE (by kernel_rfl)
      have e0 := hx.cell c3
      go_simp
      exact ⟨Ext.refl _, rfl⟩
    refine ⟨fun w1 hE hC hh => ?_, ?_⟩
    · clear hh hE hC
      go_simp
      refine (hmem _).mono ?_
      rintro e w' ⟨v, rfl, h1, hx2⟩
      exact ⟨_, rfl, hx2, h1⟩
    intro u2
    refine ⟨fun w1 hE hC hh => ?_, ?_⟩
    · have h2 : ListV (ints lm) u2 w1 := hh 2 _ List.mem_cons_self (by kernel_rfl)
      have hx := hE (by kernel_rfl)
      clear hh hC hE
      go_simp
      refine (hcan _ _ (hb0.ext (xW.trans hx)) h2).mono ?_
      rintro e w' ⟨B, rfl, -, h1, hx2⟩
      exact ⟨_, rfl, hx2, ⟨B, rfl, h1⟩⟩
    intro u3
    refine ⟨fun w1 hE hC hh => ?_, ?_⟩
    · have hx := hE (by kernel_rfl)
      clear hh hC hE
      have hsz := hx.size
      go_simp
      exact ⟨ext_alloc _ _, ⟨w1.heap.size, .map none, rfl, hsz, by simp [go_sem], ⟨none, rfl⟩, by simp [go_sem]⟩⟩
    intro u4
    refine ⟨fun w1 hE hC hh => ?_, ?_⟩
    · have hx := hE (by kernel_rfl)
      have h4 : FreshK IsMap W.heap.size u4 w1 := hh 4 _ List.mem_cons_self (by kernel_rfl)
      have h3 : MapV M u3 w1 := hh 3 _ (List.mem_cons_of_mem _ List.mem_cons_self) (by kernel_rfl)
      clear hh hC hE
      have s4 := h4.spec
      have s3 := h3.spec
      have hst := store_map hx s4.2.1 s4.2.2.1 s3.2
      have hc1 := s4.2.2.1.choose_spec.1
      generalize s4.2.2.1.choose = xx at *
      have hlt : h4.B < w1.heap.size := cell_lt hc1
      have hf := s4.2.2.2
      generalize h4.B = B at *
      generalize h3.B = Bm at *
      have e4 := s4.1
      have e3 := s3.1
      have hB := s4.2.1
      clear s4 s3 h4 h3
      subst e4
      subst e3
      go_simp
      exact ⟨B, Bm, rfl, hB, hst.2.1, hst.2.2.1, hst.2.2.2⟩
    intro u5 w1 hC hh
    have h5 : Stored W M [u4, u3] u5 w1 := hh 5 _ List.mem_cons_self
    clear hh hC
    have s5 := h5.spec
    generalize h5.B = B at *
    generalize h5.Bm = Bm at *
    have e4 := s5.1
    have e3 := s5.2.1
    have hcB := s5.2.2.2.1
    have hm := s5.2.2.2.2.1
    have hx := s5.2.2.2.2.2
    clear s5 h5
    subst e4
    subst e3
    have x1 := xW.trans hx
    replace c0 := hx.cell c0
    replace c1 := hx.cell c1
    replace c2 := hx.cell c2
    replace c3 := hx.cell c3
    have z0 := cell_lt c3
    clear hx hcan hmem
    go_simp
    go_wp2_with fail
    refine (fewest_odd Bm M (b.sounds.toNat + 1) hfin (by omega) all b.spellings.length hall hn _ _ w1 hcB c3 hm).mono ?_
    rintro e w2 ⟨u, f, rfl, hu, hx2⟩
    rw [← HF.out] at hu
    obtain ⟨ua, uc, rfl, -⟩ := hu.shape
    go_wp2
    go_ret
    exact ⟨_, rfl, hu, x1.trans hx2⟩
end Go.Proofs.YtnfbhicoknpojaaGreat

namespace Go.Proofs.YtnfbhicoknpojaaGreat
set_option linter.unusedSimpArgs false
set_option linter.unusedVariables false
open Go.RowKit
set_option linter.unusedVariables false

set_option maxRecDepth 100000 in
set_option maxHeartbeats 2000000 in
theorem odd_ok (bv : Value) (b : Book) (he : errM b = 0) (w : World) (hb : BookAt w bv b) :
    Calls Tryz.prog 31 #[bv] w fun e w' => ∃ u, e = .returned (.tuple #[u, .int .i64 0]) ∧ IntsAt w' u (ints (oddL b)) ∧ Ext w w' := by
  have hv := valid_of he
  obtain ⟨ba, bc, bs, bd, rfl, -⟩ := hb.open
  go_enter Tryz.func31, Tryz.ntmps31
  go_wp2_with fail
  refine (open_any _ _ b [] _ (hb.ext (by first | (with_reducible exact Ext.refl _) | (with_reducible assumption) | (show Below _ _ _; go_grown; done))) SliceAt.nil).mono ?_
  rintro e w1 ⟨u, rfl, ⟨uv, rfl, hok, -⟩, hx1⟩
  rw [openM_nil, he] at hok ⊢
  have x1 : Ext w w1 := Ext.trans (by first | (with_reducible exact Ext.refl _) | (with_reducible assumption) | (show Below _ _ _; go_grown; done)) hx1
  have hub := hok rfl
  clear hok hx1
  obtain ⟨ca, cc, cs, cd, rfl, -⟩ := hub.open
  go_wp2_with fail
  refine (fewestOdd_ok _ b hv _ (hub.ext (by first | (with_reducible exact Ext.refl _) | (with_reducible assumption) | (show Below _ _ _; go_grown; done)))).mono ?_
  rintro e w2 ⟨u, rfl, hu, hx2⟩
  obtain ⟨ua, uc, rfl, -⟩ := hu.shape
  have x2 : Ext w w2 := x1.trans (Ext.trans (by first | (with_reducible exact Ext.refl _) | (with_reducible assumption) | (show Below _ _ _; go_grown; done)) hx2)
  clear hx2
  go_wp2
  go_ret2
  exact ⟨_, rfl, hu, x2⟩
end Go.Proofs.YtnfbhicoknpojaaGreat

namespace Go.Proofs.YtnfbhicoknpojaaGreat
set_option linter.unusedSimpArgs false
set_option linter.unusedVariables false
open Go.RowKit

theorem withinM_no' (lo hi : Int) (l : List Int) (k : Nat) (h : k < l.length) (x : Int) (hx : l[k] = x) (h1 : inM x lo hi = false) : withinM lo hi l = false := by
  rw [withinM, List.all_eq_false]
  exact ⟨x, hx ▸ List.getElem_mem h, by simp [h1]⟩
theorem withinM_step' (lo hi : Int) (l : List Int) (k : Nat) (h : k < l.length) (x : Int) (hx : l[k] = x) (h0 : withinM lo hi (l.take k) = true) (h1 : inM x lo hi = true) : withinM lo hi (l.take (k + 1)) = true := by
  simp only [inM, Bool.and_eq_true, decide_eq_true_eq] at h1
  exact withinM_step lo hi l k h x hx h0 h1.1 h1.2
def indicesM (b : Book) (l : List Int) (below : Int) : Int := if errM b ≠ 0 then errM b else if withinM 0 (below - 1) l = false then 4 else 0
def hearsM (S : Int) (l : List Int) (e : Int) : Int := if e ≠ 0 then e else heardErrM S l
end Go.Proofs.YtnfbhicoknpojaaGreat

namespace Go.Proofs.YtnfbhicoknpojaaGreat
set_option linter.unusedSimpArgs false
set_option linter.unusedVariables false
open Go.RowKit

def boolR (w : World) (b o : Nat) (x : Bool) : Prop := w.cell? ⟨b, o, none⟩ = some (.bool x)
theorem boolR.keeps : Keeps boolR := fun _ _ _ _ _ hx h => hx.cell h
abbrev BoolsAt : World → Value → List Bool → Prop := SliceAt 1 boolR
theorem BoolsAt.ext {w w' : World} {v : Value} {l : List Bool} (h : BoolsAt w v l) (hx : Ext w w') : BoolsAt w' v l := SliceAt.ext boolR.keeps h hx

def manyM (l : List Bool) : Nat := l.count true
theorem manyM_step (l : List Bool) (k : Nat) (h : k < l.length) : manyM (l.take (k + 1)) = manyM (l.take k) + (if l[k] = true then 1 else 0) := by
  rw [List.take_succ_eq_append_getElem h, manyM, List.count_append, manyM]
  cases l[k] <;> simp
def codeM (l : List Int) : Int := l.foldl (fun n x => n * 5 + x + 1) 0
theorem codeM_step (l : List Int) (k : Nat) (h : k < l.length) : codeM (l.take (k + 1)) = codeM (l.take k) * 5 + l[k] + 1 := by
  rw [List.take_succ_eq_append_getElem h, codeM, List.foldl_append, codeM]; rfl
end Go.Proofs.YtnfbhicoknpojaaGreat

namespace Go.Proofs.YtnfbhicoknpojaaGreat
set_option linter.unusedSimpArgs false
set_option linter.unusedVariables false
open Go.RowKit

theorem lawLetter_any (c n : Int) (s : Bool) (w : World) : Calls Tryz.prog 68 #[.int .u8 c, .int .i64 n, .bool s] w fun e w' => e = .returned (.agg #[.int .u8 c, .int .i64 n, .bool s]) ∧ Ext w w' := by
  go_enter Tryz.func68, Tryz.ntmps68
  go_wp2
  refine bodyPost_ret (v := .agg #[.int .u8 c, .int .i64 n, .bool s]) (by simp [results, Tryz.results68, go_sem]) rfl ⟨rfl, ?_⟩
  exact (by first | (with_reducible exact Ext.refl _) | (with_reducible assumption) | (show Below _ _ _; go_grown; done))

def romanL : List Letter := [⟨97, 1, false⟩, ⟨101, 3, false⟩, ⟨107, 4, false⟩, ⟨104, 0, true⟩]
def abjadL : List Letter := [⟨107, 4, false⟩, ⟨121, 2, true⟩, ⟨110, 1, false⟩]
def bookB : Book := ⟨3, [⟨{ data := #[114, 111, 109, 97, 110] }, romanL⟩, ⟨{ data := #[97, 98, 106, 97, 100] }, abjadL⟩],
  [⟨0, { data := #[107, 101] }⟩, ⟨1, { data := #[107, 121] }⟩, ⟨0, { data := #[104, 107, 97] }⟩, ⟨1, { data := #[107, 110] }⟩]⟩

theorem set3 {W : World} {B : Nat} (a b c : Value) (q : Addr) (x : Value) (hne : q.block ≠ B) (h : W.cell? q = some x) : (((W.setCell ⟨B, 0, none⟩ a).setCell ⟨B, 1, none⟩ b).setCell ⟨B, 2, none⟩ c).cell? q = some x :=
  set_other (set_other (set_other h (.inl hne.symm) a) (.inl hne.symm) b) (.inl hne.symm) c
theorem LettersAt.keep {W W9 : World} {D : Nat} (K : ∀ q x, q.block ≠ D → W.cell? q = some x → W9.cell? q = some x) {B o n c : Nat} {l : List Letter} (h : LettersAt W (.slice (some ⟨B, o, none⟩) n c) l) (hne : B ≠ D) : LettersAt W9 (.slice (some ⟨B, o, none⟩) n c) l := by
  obtain ⟨a, cap, e, h1, h2, h3⟩ := h
  cases e
  refine ⟨_, _, rfl, h1, h2, fun i hi => ?_⟩
  obtain ⟨b, off, e, c0, c1, c2, r⟩ := h3 i hi
  cases e
  exact ⟨_, _, rfl, K _ _ hne c0, K _ _ hne c1, K _ _ hne c2, r⟩
theorem romanFine : ∀ x ∈ romanL, U8 x.c ∧ I64 x.sounds := by
  intro x hx
  simp only [romanL, List.mem_cons, List.not_mem_nil, or_false] at hx
  rcases hx with rfl | rfl | rfl | rfl <;> simp [U8, I64]
theorem abjadFine : ∀ x ∈ abjadL, U8 x.c ∧ I64 x.sounds := by
  intro x hx
  simp only [abjadL, List.mem_cons, List.not_mem_nil, or_false] at hx
  rcases hx with rfl | rfl | rfl <;> simp [U8, I64]
theorem nameFine : ∀ x ∈ bookB.alphabets, x.name.size ≤ 9223372036854775807 := by
  intro x hx
  simp only [bookB, List.mem_cons, List.not_mem_nil, or_false] at hx
  rcases hx with rfl | rfl <;> decide
theorem textFine : ∀ x ∈ bookB.spellings, x.text.size ≤ 9223372036854775807 := by
  intro x hx
  simp only [bookB, List.mem_cons, List.not_mem_nil, or_false] at hx
  rcases hx with rfl | rfl | rfl | rfl <;> decide
set_option maxHeartbeats 2000000 in
set_option maxRecDepth 100000 in
theorem book_any (w : World) : Calls Tryz.prog 26 #[] w fun e w' => ∃ v, e = .returned v ∧ BookAt w' v bookB ∧ Ext w w' := by
  go_enter Tryz.func26, Tryz.ntmps26
  go_wp2_with fail
  refine (lawLetter_any _ _ _ _).mono ?_
  rintro e w1 ⟨rfl, hx1⟩
  go_wp2_with fail
  refine (lawLetter_any _ _ _ _).mono ?_
  rintro e w2 ⟨rfl, hx2⟩
  go_wp2_with fail
  refine (lawLetter_any _ _ _ _).mono ?_
  rintro e w3 ⟨rfl, hx3⟩
  go_wp2_with fail
  refine (lawLetter_any _ _ _ _).mono ?_
  rintro e w4 ⟨rfl, hx4⟩
  have x4 := ((hx1.trans hx2).trans hx3).trans hx4
  clear hx1 hx2 hx3 hx4
  have q0 : w4.cell? ⟨w.heap.size, 0, none⟩ = some (.int .i64 0) := x4.cell (by simp [go_sem])
  have q1 : w4.cell? ⟨w.heap.size, 1, none⟩ = some (.slice none 0 0) := x4.cell (by simp [go_sem])
  have q2 : w4.cell? ⟨w.heap.size, 2, none⟩ = some (.slice none 0 0) := x4.cell (by simp [go_sem])
  have z4 := cell_lt q0
  have fz4 : ∀ o, w4.frozen? ⟨w.heap.size, o, none⟩ = false := fun o => by rw [x4.frozen (by simp)]; simp [go_sem]
  have y4 : Ext w w4 := x4.of_alloc
  clear x4
  go_wp2_with fail
  refine (lawLetter_any _ _ _ _).mono ?_
  rintro e w5 ⟨rfl, hx5⟩
  have hr : LettersAt w5 (.slice (some ⟨w4.heap.size, 0, none⟩) 4 4) romanL := ⟨_, _, rfl, by decide, by decide, fun i hi => by
    have : i = 0 ∨ i = 1 ∨ i = 2 ∨ i = 3 := by simp [romanL] at hi; omega
    refine ⟨_, _, rfl, ?_⟩
    rcases this with rfl | rfl | rfl | rfl
    all_goals exact ⟨hx5.cell (by simp [go_sem, romanL]), hx5.cell (by simp [go_sem, romanL]), hx5.cell (by simp [go_sem, romanL]), romanFine _ (List.getElem_mem hi)⟩⟩
  have p0 : w5.cell? ⟨w4.heap.size + 1, 0, none⟩ = some (.string { data := #[114, 111, 109, 97, 110] }) := hx5.cell (by simp [go_sem])
  have p1 : w5.cell? ⟨w4.heap.size + 1, 1, none⟩ = some (.slice (some ⟨w4.heap.size, 0, none⟩) 4 4) := hx5.cell (by simp [go_sem])
  replace q0 : w5.cell? ⟨w.heap.size, 0, none⟩ = some (.int .i64 0) := hx5.cell (by simpa [go_sem, z4] using q0)
  replace q1 : w5.cell? ⟨w.heap.size, 1, none⟩ = some (.slice none 0 0) := hx5.cell (by simpa [go_sem, z4] using q1)
  replace q2 : w5.cell? ⟨w.heap.size, 2, none⟩ = some (.slice none 0 0) := hx5.cell (by simpa [go_sem, z4] using q2)
  have fz5 : ∀ o, w5.frozen? ⟨w.heap.size, o, none⟩ = false := fun o => by rw [hx5.frozen (by simp; omega)]; simpa [go_sem, z4] using fz4 o
  clear fz4
  have y5 : Ext w w5 := y4.trans hx5.of_alloc.of_alloc
  clear hx5
  go_wp2_with fail
  refine (lawLetter_any _ _ _ _).mono ?_
  rintro e w6 ⟨rfl, hx6⟩
  go_wp2_with fail
  refine (lawLetter_any _ _ _ _).mono ?_
  rintro e w7 ⟨rfl, hx7⟩
  have x7 := hx6.trans hx7
  have s0 := q0
  clear hx6 hx7
  replace p0 := x7.cell p0
  replace p1 := x7.cell p1
  replace q0 := x7.cell q0
  replace q1 := x7.cell q1
  replace q2 := x7.cell q2
  replace hr := hr.ext x7
  have y7 := y5.trans x7
  have fz7 : ∀ o, w7.frozen? ⟨w.heap.size, o, none⟩ = false := fun o => by rw [x7.frozen (p := ⟨w.heap.size, o, none⟩) (show w.heap.size < w5.heap.size from cell_lt s0)]; exact fz5 o
  have f0 := fz7 0
  have f1 := fz7 1
  have f2 := fz7 2
  clear fz5 fz7 s0
  clear y5 x7 y4
  have z5 := cell_lt p0
  have z6 := cell_lt q0
  generalize w4.heap.size + 1 = C at *
  generalize w4.heap.size = B at *
  have gz : ∀ k o1 o2 o3 o4, w7.frozen? ⟨w.heap.size, k, none⟩ = false → ((((w7.alloc o1).alloc o2).alloc o3).alloc o4).frozen? ⟨w.heap.size, k, none⟩ = false := fun k o1 o2 o3 o4 hf => by
    rw [((((ext_alloc w7 o1).alloc o2).alloc o3).alloc o4).frozen (p := ⟨w.heap.size, k, none⟩) z6]; exact hf
  have g0 := fun o1 o2 o3 o4 => gz 0 o1 o2 o3 o4 f0
  have g1 := fun o1 o2 o3 o4 => gz 1 o1 o2 o3 o4 f1
  have g2 := fun o1 o2 o3 o4 => gz 2 o1 o2 o3 o4 f2
  have h0 := fun o1 o2 o3 o4 => ((((ext_alloc w7 o1).alloc o2).alloc o3).alloc o4).cell q0
  have h1 := fun o1 o2 o3 o4 => ((((ext_alloc w7 o1).alloc o2).alloc o3).alloc o4).cell q1
  have h2 := fun o1 o2 o3 o4 => ((((ext_alloc w7 o1).alloc o2).alloc o3).alloc o4).cell q2
  clear gz f0 f1 f2
  go_wp2_with fail
  clear g0 g1 g2
  generalize hW : ((((w7.alloc (.cells #[.int .u8 107, .int .i64 4, .bool false, .int .u8 121, .int .i64 2, .bool true, .int .u8 110, .int .i64 1, .bool false] 133)).alloc (.cells #[.string { data := #[97, 98, 106, 97, 100] }, .slice (some ⟨w7.heap.size, 0, none⟩) 3 3] 66)).alloc (.cells #[.string { data := #[114, 111, 109, 97, 110] }, .slice (some ⟨B, 0, none⟩) 4 4, .string { data := #[97, 98, 106, 97, 100] }, .slice (some ⟨w7.heap.size, 0, none⟩) 3 3] 66)).alloc (.cells #[.int .i64 0, .string { data := #[107, 101] }, .int .i64 1, .string { data := #[107, 121] }, .int .i64 0, .string { data := #[104, 107, 97] }, .int .i64 1, .string { data := #[107, 110] }] 58)) = W8
  have x8 : Ext w7 W8 := by rw [← hW]; exact (((ext_alloc w7 _).alloc _).alloc _).alloc _
  have r0 := x8.cell q0
  have r1 := x8.cell q1
  have r2 := x8.cell q2
  have hne : w.heap.size ≠ w7.heap.size := by omega
  have ha : LettersAt W8 (.slice (some ⟨w7.heap.size, 0, none⟩) 3 3) abjadL := ⟨_, _, rfl, by decide, by decide, fun i hi => by
    have : i = 0 ∨ i = 1 ∨ i = 2 := by simp [abjadL] at hi; omega
    refine ⟨_, _, rfl, ?_⟩
    rcases this with rfl | rfl | rfl
    all_goals exact ⟨by rw [← hW]; simp [go_sem, abjadL], by rw [← hW]; simp [go_sem, abjadL], by rw [← hW]; simp [go_sem, abjadL], abjadFine _ (List.getElem_mem hi)⟩⟩
  have a0 : W8.cell? ⟨w7.heap.size + 2, 0, none⟩ = some (.string { data := #[114, 111, 109, 97, 110] }) := by rw [← hW]; simp [go_sem]
  have a1 : W8.cell? ⟨w7.heap.size + 2, 1, none⟩ = some (.slice (some ⟨B, 0, none⟩) 4 4) := by rw [← hW]; simp [go_sem]
  have a2 : W8.cell? ⟨w7.heap.size + 2, 2, none⟩ = some (.string { data := #[97, 98, 106, 97, 100] }) := by rw [← hW]; simp [go_sem]
  have a3 : W8.cell? ⟨w7.heap.size + 2, 3, none⟩ = some (.slice (some ⟨w7.heap.size, 0, none⟩) 3 3) := by rw [← hW]; simp [go_sem]
  have s0 : W8.cell? ⟨w7.heap.size + 3, 0, none⟩ = some (.int .i64 0) := by rw [← hW]; simp [go_sem]
  have s1 : W8.cell? ⟨w7.heap.size + 3, 1, none⟩ = some (.string { data := #[107, 101] }) := by rw [← hW]; simp [go_sem]
  have s2 : W8.cell? ⟨w7.heap.size + 3, 2, none⟩ = some (.int .i64 1) := by rw [← hW]; simp [go_sem]
  have s3 : W8.cell? ⟨w7.heap.size + 3, 3, none⟩ = some (.string { data := #[107, 121] }) := by rw [← hW]; simp [go_sem]
  have s4 : W8.cell? ⟨w7.heap.size + 3, 4, none⟩ = some (.int .i64 0) := by rw [← hW]; simp [go_sem]
  have s5 : W8.cell? ⟨w7.heap.size + 3, 5, none⟩ = some (.string { data := #[104, 107, 97] }) := by rw [← hW]; simp [go_sem]
  have s6 : W8.cell? ⟨w7.heap.size + 3, 6, none⟩ = some (.int .i64 1) := by rw [← hW]; simp [go_sem]
  have s7 : W8.cell? ⟨w7.heap.size + 3, 7, none⟩ = some (.string { data := #[107, 110] }) := by rw [← hW]; simp [go_sem]
  replace hr := hr.ext x8
  have y8 := y7.trans x8
  clear hW h0 h1 h2 q0 q1 q2 x8 y7
  have K := fun q x => set3 (W := W8) (B := w.heap.size) (.int .i64 3) (.slice (some ⟨w7.heap.size + 2, 0, none⟩) 2 2) (.slice (some ⟨w7.heap.size + 3, 0, none⟩) 4 4) q x
  have r := three_cells r0 r1 r2 (.int .i64 3) (.slice (some ⟨w7.heap.size + 2, 0, none⟩) 2 2) (.slice (some ⟨w7.heap.size + 3, 0, none⟩) 4 4)
  refine bodyPost_ret (v := .agg #[.int .i64 3, .slice (some ⟨w7.heap.size + 2, 0, none⟩) 2 2, .slice (some ⟨w7.heap.size + 3, 0, none⟩) 4 4]) (by simp [results, Tryz.results26, go_sem, r.1, r.2.1, r.2.2]) rfl ⟨_, rfl, ⟨_, _, rfl, by simp [bookB, I64], ⟨_, _, rfl, by decide, by decide, fun i hi => ?_⟩, ⟨_, _, rfl, by decide, by decide, fun i hi => ?_⟩⟩, ?_⟩
  · have : i = 0 ∨ i = 1 := by simp [bookB] at hi; omega
    refine ⟨_, _, rfl, ?_⟩
    rcases this with rfl | rfl
    · exact ⟨K _ _ (by simp; omega) a0, nameFine _ (List.getElem_mem hi), _, K _ _ (by simp; omega) a1, hr.keep K (by omega)⟩
    · exact ⟨K _ _ (by simp; omega) a2, nameFine _ (List.getElem_mem hi), _, K _ _ (by simp; omega) a3, ha.keep K (by omega)⟩
  · have : i = 0 ∨ i = 1 ∨ i = 2 ∨ i = 3 := by simp [bookB] at hi; omega
    refine ⟨_, _, rfl, ?_⟩
    rcases this with rfl | rfl | rfl | rfl
    · exact ⟨K _ _ (by simp; omega) s0, K _ _ (by simp; omega) s1, by simp [bookB, I64], textFine _ (List.getElem_mem hi)⟩
    · exact ⟨K _ _ (by simp; omega) s2, K _ _ (by simp; omega) s3, by simp [bookB, I64], textFine _ (List.getElem_mem hi)⟩
    · exact ⟨K _ _ (by simp; omega) s4, K _ _ (by simp; omega) s5, by simp [bookB, I64], textFine _ (List.getElem_mem hi)⟩
    · exact ⟨K _ _ (by simp; omega) s6, K _ _ (by simp; omega) s7, by simp [bookB, I64], textFine _ (List.getElem_mem hi)⟩
  · exact ((y8.setCell (by simp) _).setCell (by simp) _).setCell (by simp) _
end Go.Proofs.YtnfbhicoknpojaaGreat

namespace Go.Proofs.YtnfbhicoknpojaaGreat
set_option linter.unusedSimpArgs false
set_option linter.unusedVariables false
set_option maxRecDepth 100000

/-- the one string that comes first, and that there is one -/
def onlyB (M : Tally) (n : Nat) (k0 : List Int) : Bool :=
  sharedB M n && M.all fun p => !(p.2 &&& n == n) || (M.any fun q => (q.2 &&& n == n) && decide (cmpSS q.1 p.1 < 0)) || decide (p.1 = k0)
theorem FirstIs.only {M : Tally} {n : Nat} {k k0 : List Int} {f : Bool} (h : FirstIs M (fun _ => True) n k f) (ho : onlyB M n k0 = true) : f = true ∧ k = k0 := by
  simp only [onlyB, Bool.and_eq_true] at ho
  have hf := h.shared
  rw [ho.1] at hf
  refine ⟨hf, ?_⟩
  obtain ⟨⟨i, hi, hk, hb⟩, hmin⟩ := h.yes hf
  have h2 := List.all_eq_true.1 ho.2 M[i] (List.getElem_mem hi)
  simp only [Bool.or_eq_true, Bool.not_eq_true', beq_eq_false_iff_ne, ne_eq, decide_eq_true_eq] at h2
  rcases h2 with (h2 | h2) | h2
  · exact absurd hb h2
  · exfalso
    rw [List.any_eq_true] at h2
    obtain ⟨q, hq, hq2⟩ := h2
    obtain ⟨j, hj, rfl⟩ := List.getElem_of_mem hq
    simp only [Bool.and_eq_true, beq_iff_eq, decide_eq_true_eq] at hq2
    rw [hk] at hq2
    exact hmin j hj trivial hq2.1 hq2.2
  · rw [← hk]; exact h2
theorem FirstIs.none {M : Tally} {n : Nat} {k : List Int} {f : Bool} (h : FirstIs M (fun _ => True) n k f) (ho : sharedB M n = false) : f = false ∧ k = [] := by
  have hf := h.shared
  rw [ho] at hf
  exact ⟨hf, (h.no hf).1⟩
theorem b_err : errM bookB = 0 := by decide +kernel
theorem b_count0 : (canM bookB [0]).length = 2 := by decide +kernel
theorem b_first1 : onlyB (canM bookB [1]) (bitsM [1]) [2] = true := by decide +kernel
theorem b_heard1 : heardErrM bookB.sounds [2, 1] = 0 := by decide +kernel
theorem b_heard2 : heardErrM bookB.sounds [2, 0] = 0 := by decide +kernel
theorem b_reads1 : (getT [2, 1] (canM bookB [1])).isSome = true := by decide +kernel
theorem b_reads2 : (getT [2, 0] (canM bookB [1])).isSome = false := by decide +kernel
theorem b_must : alikeV (canM bookB [2, 3]) (sharedB (canM bookB [2, 3]) (bitsM [2, 3])) = 1 := by decide +kernel
theorem b_may : alikeV (canM bookB [0, 1]) (sharedB (canM bookB [0, 1]) (bitsM [0, 1])) = 0 := by decide +kernel
theorem b_never : alikeV (canM bookB [1, 2]) (sharedB (canM bookB [1, 2]) (bitsM [1, 2])) = 2 := by decide +kernel
theorem b_common : onlyB (canM bookB [0, 2, 3]) (bitsM [0, 2, 3]) [2, 0] = true := by decide +kernel
theorem b_down : sharedB (canM bookB [1, 2]) (bitsM [1, 2]) = false := by decide +kernel
theorem b_odd : ints (oddL bookB) = [1] := by decide +kernel
theorem b_spell1 : spellM bookB 0 [2, 1] = ({ data := #[107, 101] }, 0) := by kernel_rfl
theorem b_spell2 : spellM bookB 1 [0, 0] = ({ data := #[110, 110] }, 0) := by kernel_rfl
theorem b_name1 : nameM { data := #[97, 46, 57] } = true := by kernel_rfl
theorem b_name2 : nameM { data := #[46, 97] } = false := by kernel_rfl
theorem b_len : bookB.spellings.length = 4 := rfl
end Go.Proofs.YtnfbhicoknpojaaGreat

namespace Go.Proofs.YtnfbhicoknpojaaGreat
set_option linter.unusedSimpArgs false
set_option linter.unusedVariables false
open Go.RowKit
set_option linter.unusedVariables false

theorem IntsAt.threeAt {w : World} {m n o : Int} {t : TypeId} {B : Nat} (hB : w.heap.size = B) (h : I64 n ∧ I64 m ∧ I64 o) : IntsAt (w.alloc (.cells #[.int .i64 n, .int .i64 m, .int .i64 o] t)) (.slice (some ⟨B, 0, none⟩) 3 3) [n, m, o] := by
  subst hB
  obtain ⟨h1, h2, h3⟩ := h
  refine ⟨_, _, rfl, Nat.le_refl _, by omega, fun i hi => ?_⟩
  have : i = 0 ∨ i = 1 ∨ i = 2 := by simp at hi; omega
  rcases this with rfl | rfl | rfl
  · exact ⟨_, _, rfl, by simp [go_sem], h1⟩
  · exact ⟨_, _, rfl, by simp [go_sem], h2⟩
  · exact ⟨_, _, rfl, by simp [go_sem], h3⟩

set_option maxRecDepth 100000 in
set_option maxHeartbeats 20000000 in
theorem awake_any (w : World) : Calls Tryz.prog 6 #[] w fun e w' => e = .returned (.bool true) ∧ Ext w w' := by
  obtain ⟨b, hbb⟩ : ∃ b, b = bookB := ⟨_, rfl⟩
  have hbook := fun w => book_any w
  have he := b_err
  have hl := b_len
  have f1 := b_count0
  have f2 := b_first1
  have f3 := b_heard1
  have f4 := b_heard2
  have f5 := b_reads1
  have f6 := b_reads2
  have f7 := b_must
  have f8 := b_may
  have f9 := b_never
  have f10 := b_common
  have f11 := b_down
  have f12 := b_odd
  have f13 := b_spell1
  have f14 := b_spell2
  rw [← hbb] at he hl f1 f2 f3 f4 f5 f6 f7 f8 f9 f10 f11 f12 f13 f14
  simp only [← hbb] at hbook
  clear hbb
  have F1 := Lib.hid f1
  have F2 := Lib.hid f2
  have F3 := Lib.hid f3
  have F4 := Lib.hid f4
  have F5 := Lib.hid f5
  have F6 := Lib.hid f6
  have F7 := Lib.hid f7
  have F8 := Lib.hid f8
  have F9 := Lib.hid f9
  have F10 := Lib.hid f10
  have F11 := Lib.hid f11
  have F12 := Lib.hid f12
  have F13 := Lib.hid f13
  have F14 := Lib.hid f14
  have HE := Lib.hid he
  have HL := Lib.hid hl
  clear f1 f2 f3 f4 f5 f6 f7 f8 f9 f10 f11 f12 f13 f14 he hl
  go_enter Tryz.func6, Tryz.ntmps6
  go_wp2_with fail
  refine (hbook _).mono ?_
  rintro e w1 ⟨v, rfl, hb, x1⟩
  clear hbook
  obtain ⟨ba, bc, bs, bd, rfl, -⟩ := hb.open
  obtain ⟨q0, q1, q2⟩ : (w1.alloc (.cells #[.int .i64 b.sounds, .slice ba b.alphabets.length bc, .slice bs b.spellings.length bd] 25)).cell? ⟨w1.heap.size, 0, none⟩ = some (.int .i64 b.sounds) ∧ (w1.alloc (.cells #[.int .i64 b.sounds, .slice ba b.alphabets.length bc, .slice bs b.spellings.length bd] 25)).cell? ⟨w1.heap.size, 1, none⟩ = some (.slice ba b.alphabets.length bc) ∧ (w1.alloc (.cells #[.int .i64 b.sounds, .slice ba b.alphabets.length bc, .slice bs b.spellings.length bd] 25)).cell? ⟨w1.heap.size, 2, none⟩ = some (.slice bs b.spellings.length bd) := ⟨by simp [go_sem], by simp [go_sem], by simp [go_sem]⟩
  go_wp2_with fail
  obtain ⟨W, hW⟩ : ∃ W, W = w1.alloc (.cells #[.int .i64 b.sounds, .slice ba b.alphabets.length bc, .slice bs b.spellings.length bd] 25) := ⟨_, rfl⟩
  replace hb := hb.ext (ext_alloc w1 (.cells #[.int .i64 b.sounds, .slice ba b.alphabets.length bc, .slice bs b.spellings.length bd] 25))
  replace x1 : Ext w W := by rw [hW]; exact x1.alloc _
  have z0 : w1.heap.size < W.heap.size := by rw [hW]; simp
  rw [← hW] at hb q0 q1 q2 ⊢
  clear hW
  -- Count
  refine (count_ok _ b HE.out 0 (by rw [HL.out]; decide) _ hb).mono ?_
  rintro e w2 ⟨rfl, hx⟩
  rw [F1.out]
  replace hb := hb.ext hx
  replace q0 := hx.cell q0
  replace q1 := hx.cell q1
  replace q2 := hx.cell q2
  replace z0 : w1.heap.size < w2.heap.size := cell_lt q0
  replace x1 := x1.trans hx
  clear hx
  go_wp2_with fail
  -- First
  refine (first_ok _ b HE.out 1 (by rw [HL.out]; decide) _ hb).mono ?_
  rintro e w3 ⟨k, f, u1, hF, rfl, hu1, hx⟩
  obtain ⟨rfl, rfl⟩ := hF.only F2.out
  clear hF
  obtain ⟨ua, uc, rfl, -⟩ := hu1.shape
  replace hb := hb.ext hx
  replace q0 := hx.cell q0
  replace q1 := hx.cell q1
  replace q2 := hx.cell q2
  replace z0 : w1.heap.size < w3.heap.size := cell_lt q0
  replace x1 := x1.trans hx
  clear hx
  go_wp2_with fail
  -- Reads
  refine (reads_ok _ _ b HE.out 1 (by rw [HL.out]; decide) [2, 1] F3.out _ (hb.ext (ext_alloc _ _)) (IntsAt.twoAt (m := 1) (n := 2) (by simp) (by decide) (by decide))).mono ?_
  rintro e w4 ⟨rfl, hx'⟩
  rw [F5.out]
  have hx := hx'.of_alloc
  clear hx'
  replace hu1 := hu1.ext hx
  replace hb := hb.ext hx
  replace q0 := hx.cell q0
  replace q1 := hx.cell q1
  replace q2 := hx.cell q2
  replace z0 : w1.heap.size < w4.heap.size := cell_lt q0
  replace x1 := x1.trans hx
  clear hx
  go_wp2_with fail
  refine (reads_ok _ _ b HE.out 1 (by rw [HL.out]; decide) [2, 0] F4.out _ (hb.ext (ext_alloc _ _)) (IntsAt.twoAt (m := 0) (n := 2) (by simp) (by decide) (by decide))).mono ?_
  rintro e w5 ⟨rfl, hx'⟩
  rw [F6.out]
  have hx := hx'.of_alloc
  clear hx'
  replace hu1 := hu1.ext hx
  replace hb := hb.ext hx
  replace q0 := hx.cell q0
  replace q1 := hx.cell q1
  replace q2 := hx.cell q2
  replace z0 : w1.heap.size < w5.heap.size := cell_lt q0
  replace x1 := x1.trans hx
  clear hx
  go_wp2_with fail
  -- Alike
  refine (alike_ok _ b HE.out 2 3 (by rw [HL.out]; decide) (by rw [HL.out]; decide) (by decide) _ hb).mono ?_
  rintro e w6 ⟨k, f, hF, rfl, hx⟩
  rw [hF.shared, F7.out]
  clear hF
  replace hu1 := hu1.ext hx
  replace hb := hb.ext hx
  replace q0 := hx.cell q0
  replace q1 := hx.cell q1
  replace q2 := hx.cell q2
  replace z0 : w1.heap.size < w6.heap.size := cell_lt q0
  replace x1 := x1.trans hx
  clear hx
  go_wp2_with fail
  refine (alike_ok _ b HE.out 0 1 (by rw [HL.out]; decide) (by rw [HL.out]; decide) (by decide) _ hb).mono ?_
  rintro e w7 ⟨k, f, hF, rfl, hx⟩
  rw [hF.shared, F8.out]
  clear hF
  replace hu1 := hu1.ext hx
  replace hb := hb.ext hx
  replace q0 := hx.cell q0
  replace q1 := hx.cell q1
  replace q2 := hx.cell q2
  replace z0 : w1.heap.size < w7.heap.size := cell_lt q0
  replace x1 := x1.trans hx
  clear hx
  go_wp2_with fail
  refine (alike_ok _ b HE.out 1 2 (by rw [HL.out]; decide) (by rw [HL.out]; decide) (by decide) _ hb).mono ?_
  rintro e w8 ⟨k, f, hF, rfl, hx⟩
  rw [hF.shared, F9.out]
  clear hF
  replace hu1 := hu1.ext hx
  replace hb := hb.ext hx
  replace q0 := hx.cell q0
  replace q1 := hx.cell q1
  replace q2 := hx.cell q2
  replace z0 : w1.heap.size < w8.heap.size := cell_lt q0
  replace x1 := x1.trans hx
  clear hx
  go_wp2_with fail
  -- Common
  refine (common_ok _ _ b HE.out [0, 2, 3] (by rw [HL.out]; decide) (by decide) (by decide) _ (hb.ext (ext_alloc _ _)) (IntsAt.threeAt (m := 2) (n := 0) (o := 3) (by simp) (by unfold I64; decide))).mono ?_
  rintro e w9 ⟨k, f, u2, hF, rfl, hu2, hx'⟩
  obtain ⟨rfl, rfl⟩ := hF.only F10.out
  clear hF
  obtain ⟨va, vc, rfl, -⟩ := hu2.shape
  have hx := hx'.of_alloc
  clear hx'
  replace hu1 := hu1.ext hx
  replace hb := hb.ext hx
  replace q0 := hx.cell q0
  replace q1 := hx.cell q1
  replace q2 := hx.cell q2
  replace z0 : w1.heap.size < w9.heap.size := cell_lt q0
  replace x1 := x1.trans hx
  clear hx
  go_wp2_with fail
  refine (common_ok _ _ b HE.out [1, 2] (by rw [HL.out]; decide) (by decide) (by decide) _ (hb.ext (ext_alloc _ _)) (IntsAt.twoAt (m := 2) (n := 1) (by simp) (by decide) (by decide))).mono ?_
  rintro e w10 ⟨k, f, u3, hF, rfl, hu3, hx'⟩
  obtain ⟨rfl, rfl⟩ := hF.none F11.out
  clear hF
  obtain ⟨ca, cc, rfl, -⟩ := hu3.shape
  have hx := hx'.of_alloc
  clear hx' hu3
  replace hu1 := hu1.ext hx
  replace hu2 := hu2.ext hx
  replace hb := hb.ext hx
  replace q0 := hx.cell q0
  replace q1 := hx.cell q1
  replace q2 := hx.cell q2
  replace z0 : w1.heap.size < w10.heap.size := cell_lt q0
  replace x1 := x1.trans hx
  clear hx
  go_wp2_with fail
  -- Odd
  refine (odd_ok _ b HE.out _ hb).mono ?_
  rintro e w11 ⟨u4, rfl, hu4, hx⟩
  rw [F12.out] at hu4
  obtain ⟨oa, oc, rfl, -⟩ := hu4.shape
  replace hu1 := hu1.ext hx
  replace hu2 := hu2.ext hx
  replace hb := hb.ext hx
  replace q0 := hx.cell q0
  replace q1 := hx.cell q1
  replace q2 := hx.cell q2
  replace z0 : w1.heap.size < w11.heap.size := cell_lt q0
  replace x1 := x1.trans hx
  clear hx
  go_wp2_with fail
  -- Spell
  refine (spell_any _ _ b 0 (by unfold I64; decide) [2, 1] _ (hb.ext (ext_alloc _ _)) (IntsAt.twoAt (m := 1) (n := 2) (by simp) (by decide) (by decide))).mono ?_
  rintro e w12 ⟨rfl, hx'⟩
  rw [F13.out]
  have hx := hx'.of_alloc
  clear hx'
  replace hu1 := hu1.ext hx
  replace hu2 := hu2.ext hx
  replace hu4 := hu4.ext hx
  replace hb := hb.ext hx
  replace q0 := hx.cell q0
  replace q1 := hx.cell q1
  replace q2 := hx.cell q2
  replace z0 : w1.heap.size < w12.heap.size := cell_lt q0
  replace x1 := x1.trans hx
  clear hx
  go_wp2_with fail
  refine (spell_any _ _ b 1 (by unfold I64; decide) [0, 0] _ (hb.ext (ext_alloc _ _)) (IntsAt.twoAt (m := 0) (n := 0) (by simp) (by decide) (by decide))).mono ?_
  rintro e w13 ⟨rfl, hx'⟩
  rw [F14.out]
  have hx := hx'.of_alloc
  clear hx'
  replace hu1 := hu1.ext hx
  replace hu2 := hu2.ext hx
  replace hu4 := hu4.ext hx
  replace x1 := x1.trans hx
  clear hx hb q0 q1 q2 z0
  go_wp2_with fail
  refine (ints_any _ _ [2] [2] _ (hu1.ext (ext_alloc _ _)) (IntsAt.oneAt (n := 2) (by simp) (by decide))).mono ?_
  rintro e w14 ⟨rfl, hx'⟩
  rw [show decide (([2] : List Int) = [2]) = true from rfl]
  have hx := hx'.of_alloc
  clear hx'
  replace hu2 := hu2.ext hx
  replace hu4 := hu4.ext hx
  replace x1 := x1.trans hx
  clear hx hu1
  go_wp2_with fail
  refine (ints_any _ _ [2, 0] [2, 0] _ (hu2.ext (ext_alloc _ _)) (IntsAt.twoAt (m := 0) (n := 2) (by simp) (by decide) (by decide))).mono ?_
  rintro e w15 ⟨rfl, hx'⟩
  rw [show decide (([2, 0] : List Int) = [2, 0]) = true from rfl]
  have hx := hx'.of_alloc
  clear hx'
  replace hu4 := hu4.ext hx
  replace x1 := x1.trans hx
  clear hx hu2
  go_wp2_with fail
  refine (ints_any _ _ [1] [1] _ (hu4.ext (ext_alloc _ _)) (IntsAt.oneAt (n := 1) (by simp) (by decide))).mono ?_
  rintro e w16 ⟨rfl, hx'⟩
  rw [show decide (([1] : List Int) = [1]) = true from rfl]
  have hx := hx'.of_alloc
  clear hx'
  replace x1 := x1.trans hx
  clear hx hu4
  go_wp2_with fail
  refine (name_any _ _ (by decide)).mono ?_
  rintro e w17 ⟨rfl, hx⟩
  rw [b_name1]
  replace x1 := x1.trans hx
  clear hx
  go_wp2_with fail
  refine (name_any _ _ (by decide)).mono ?_
  rintro e w18 ⟨rfl, hx⟩
  rw [b_name2]
  replace x1 := x1.trans hx
  clear hx
  go_wp2
  go_ret
  exact ⟨rfl, x1⟩
end Go.Proofs.YtnfbhicoknpojaaGreat

namespace Go.Proofs.YtnfbhicoknpojaaGreat
set_option linter.unusedSimpArgs false
set_option linter.unusedVariables false
open Go.RowKit
set_option linter.unusedVariables false

theorem openM_zero {b : Book} {l : List Int} (h : openM b l = 0) : errM b = 0 ∧ ∀ x ∈ l, 0 ≤ x ∧ x < b.spellings.length := by
  unfold openM at h
  split at h
  · rename_i h1; exact absurd h h1
  · rename_i h1
    split at h
    · cases h
    · rename_i h2
      refine ⟨by simpa using h1, fun x hx => ?_⟩
      have := withinM_spec (by simpa using h2) x hx
      omega

set_option maxRecDepth 100000 in
set_option maxHeartbeats 2000000 in
theorem count_err (bv : Value) (b : Book) (n : Int) (hn : I64 n) (he : openM b [n] ≠ 0) (w : World) (hb : BookAt w bv b) :
    Calls Tryz.prog 27 #[bv, .int .i64 n] w fun e w' => e = .returned (.tuple #[.int .i64 0, .int .i64 (openM b [n])]) ∧ Ext w w' := by
  obtain ⟨ba, bc, bs, bd, rfl, -⟩ := hb.open
  go_enter Tryz.func27, Tryz.ntmps27
  go_wp2_with fail
  refine (open_any _ _ b [n] _ (hb.ext (by first | (with_reducible exact Ext.refl _) | (with_reducible assumption) | (show Below _ _ _; go_grown; done))) (IntsAt.oneAt (by simp) hn)).mono ?_
  rintro e w1 ⟨u, rfl, ⟨uv, rfl, -, hbad⟩, hx1⟩
  have x1 : Ext w w1 := Ext.trans (by first | (with_reducible exact Ext.refl _) | (with_reducible assumption) | (show Below _ _ _; go_grown; done)) hx1
  obtain rfl := hbad he
  clear hbad hx1
  have he' : (openM b [n] != 0) = true := by simpa using he
  generalize hq : openM b [n] = er at *
  have Hq := Lib.hid hq
  clear hq
  have He := Lib.hid he
  clear he
  unfold emptyBook
  go_wp2
  go_ret2
  exact ⟨by rw [Hq.out]; rfl, x1.alloc _⟩
set_option maxRecDepth 100000 in
set_option maxHeartbeats 2000000 in
theorem reads_err (bv hv : Value) (b : Book) (n : Int) (hn : I64 n) (heard : List Int) (he : openM b [n] ≠ 0) (w : World) (hb : BookAt w bv b) (hh : IntsAt w hv heard) :
    Calls Tryz.prog 17 #[bv, .int .i64 n, hv] w fun e w' => e = .returned (.tuple #[.bool false, .int .i64 (openM b [n])]) ∧ Ext w w' := by
  obtain ⟨ba, bc, bs, bd, rfl, -⟩ := hb.open
  obtain ⟨ha, hc, rfl, -⟩ := hh.shape
  go_enter Tryz.func17, Tryz.ntmps17
  go_wp2_with fail
  refine (open_any _ _ b [n] _ (hb.ext (by first | (with_reducible exact Ext.refl _) | (with_reducible assumption) | (show Below _ _ _; go_grown; done))) (IntsAt.oneAt (by simp) hn)).mono ?_
  rintro e w1 ⟨u, rfl, ⟨uv, rfl, -, hbad⟩, hx1⟩
  have x1 : Ext w w1 := Ext.trans (by first | (with_reducible exact Ext.refl _) | (with_reducible assumption) | (show Below _ _ _; go_grown; done)) hx1
  obtain rfl := hbad he
  clear hbad hx1
  have he' : (openM b [n] != 0) = true := by simpa using he
  generalize hq : openM b [n] = er at *
  have Hq := Lib.hid hq
  clear hq
  have He := Lib.hid he
  clear he
  unfold emptyBook
  go_wp2
  go_ret2
  exact ⟨by rw [Hq.out]; rfl, x1.alloc _⟩
set_option maxRecDepth 100000 in
set_option maxHeartbeats 2000000 in
theorem reads_bad (bv hv : Value) (b : Book) (he : errM b = 0) (n : Nat) (hn : n < b.spellings.length) (heard : List Int) (hh : heardErrM b.sounds heard ≠ 0) (w : World) (hb : BookAt w bv b) (hhv : IntsAt w hv heard) :
    Calls Tryz.prog 17 #[bv, .int .i64 n, hv] w fun e w' => e = .returned (.tuple #[.bool false, .int .i64 (heardErrM b.sounds heard)]) ∧ Ext w w' := by
  have hv := valid_of he
  have hn5 : n < 5 := by have := hv.n; omega
  have hS := hv.s
  obtain ⟨ba, bc, bs, bd, rfl, -⟩ := hb.open
  obtain ⟨ha, hc, rfl, -⟩ := hhv.shape
  have hop := openM_ok he (l := [(n : Int)]) (by simp; omega)
  go_enter Tryz.func17, Tryz.ntmps17
  go_wp2_with fail
  refine (open_any _ _ b [(n : Int)] _ (hb.ext (by first | (with_reducible exact Ext.refl _) | (with_reducible assumption) | (show Below _ _ _; go_grown; done))) (IntsAt.oneAt (by simp) (by omega))).mono ?_
  rintro e w1 ⟨u, rfl, ⟨uv, rfl, hok, -⟩, hx1⟩
  rw [hop] at hok ⊢
  have x1 : Ext w w1 := Ext.trans (by first | (with_reducible exact Ext.refl _) | (with_reducible assumption) | (show Below _ _ _; go_grown; done)) hx1
  have hub := hok rfl
  clear hok hop hx1
  obtain ⟨ca, cc, cs, cd, rfl, -⟩ := hub.open
  go_wp2_with fail
  refine (heardError_any _ _ b hS heard _ (hub.ext (by first | (with_reducible exact Ext.refl _) | (with_reducible assumption) | (show Below _ _ _; go_grown; done))) (hhv.ext (x1.alloc _))).mono ?_
  rintro e w2 ⟨rfl, hx2⟩
  have x2 : Ext w1 w2 := hx2.of_alloc
  have hh' : (heardErrM b.sounds heard != 0) = true := by simpa using hh
  generalize hq : heardErrM b.sounds heard = er at *
  have Hq := Lib.hid hq
  clear hq
  have He := Lib.hid hh
  clear hh hx2
  go_wp2
  go_ret2
  exact ⟨by rw [Hq.out]; rfl, x1.trans x2⟩
set_option maxRecDepth 100000 in
set_option maxHeartbeats 2000000 in
theorem common_err (bv v : Value) (b : Book) (l : List Int) (he : openM b l ≠ 0) (w : World) (hb : BookAt w bv b) (hl : IntsAt w v l) :
    Calls Tryz.prog 30 #[bv, v] w fun e w' => e = .returned (.tuple #[.slice none 0 0, .int .i64 (openM b l)]) ∧ Ext w w' := by
  obtain ⟨ba, bc, bs, bd, rfl, -⟩ := hb.open
  obtain ⟨la, lc, rfl, -⟩ := hl.shape
  go_enter Tryz.func30, Tryz.ntmps30
  go_wp2_with fail
  refine (open_any _ _ b l _ (hb.ext (by first | (with_reducible exact Ext.refl _) | (with_reducible assumption) | (show Below _ _ _; go_grown; done))) (hl.ext (by first | (with_reducible exact Ext.refl _) | (with_reducible assumption) | (show Below _ _ _; go_grown; done)))).mono ?_
  rintro e w1 ⟨u, rfl, ⟨uv, rfl, -, hbad⟩, hx1⟩
  have x1 : Ext w w1 := Ext.trans (by first | (with_reducible exact Ext.refl _) | (with_reducible assumption) | (show Below _ _ _; go_grown; done)) hx1
  obtain rfl := hbad he
  clear hbad hx1
  have he' : (openM b l != 0) = true := by simpa using he
  generalize hq : openM b l = er at *
  have Hq := Lib.hid hq
  clear hq
  have He := Lib.hid he
  clear he
  unfold emptyBook
  go_wp2
  go_ret2
  exact ⟨by rw [Hq.out]; rfl, x1.alloc _⟩
set_option maxRecDepth 100000 in
set_option maxHeartbeats 2000000 in
theorem alike_err (bv : Value) (b : Book) (i j : Int) (hi : I64 i) (hj : I64 j) (he : openM b [i, j] ≠ 0) (w : World) (hb : BookAt w bv b) :
    Calls Tryz.prog 29 #[bv, .int .i64 i, .int .i64 j] w fun e w' => e = .returned (.tuple #[.int .i64 0, .int .i64 (openM b [i, j])]) ∧ Ext w w' := by
  obtain ⟨ba, bc, bs, bd, rfl, -⟩ := hb.open
  go_enter Tryz.func29, Tryz.ntmps29
  go_wp2_with fail
  refine (open_any _ _ b [i, j] _ (hb.ext (by first | (with_reducible exact Ext.refl _) | (with_reducible assumption) | (show Below _ _ _; go_grown; done))) (IntsAt.twoAt (by simp) hi hj)).mono ?_
  rintro e w1 ⟨u, rfl, ⟨uv, rfl, -, hbad⟩, hx1⟩
  have x1 : Ext w w1 := Ext.trans (by first | (with_reducible exact Ext.refl _) | (with_reducible assumption) | (show Below _ _ _; go_grown; done)) hx1
  obtain rfl := hbad he
  clear hbad hx1
  have he' : (openM b [i, j] != 0) = true := by simpa using he
  generalize hq : openM b [i, j] = er at *
  have Hq := Lib.hid hq
  clear hq
  have He := Lib.hid he
  clear he
  unfold emptyBook
  go_wp2
  go_ret2
  exact ⟨by rw [Hq.out]; rfl, x1.alloc _⟩
set_option maxRecDepth 100000 in
set_option maxHeartbeats 2000000 in
theorem odd_err (bv : Value) (b : Book) (he : errM b ≠ 0) (w : World) (hb : BookAt w bv b) :
    Calls Tryz.prog 31 #[bv] w fun e w' => e = .returned (.tuple #[.slice none 0 0, .int .i64 (errM b)]) ∧ Ext w w' := by
  obtain ⟨ba, bc, bs, bd, rfl, -⟩ := hb.open
  go_enter Tryz.func31, Tryz.ntmps31
  go_wp2_with fail
  refine (open_any _ _ b [] _ (hb.ext (by first | (with_reducible exact Ext.refl _) | (with_reducible assumption) | (show Below _ _ _; go_grown; done))) SliceAt.nil).mono ?_
  rintro e w1 ⟨u, rfl, ⟨uv, rfl, -, hbad⟩, hx1⟩
  rw [openM_nil] at hbad ⊢
  have x1 : Ext w w1 := Ext.trans (by first | (with_reducible exact Ext.refl _) | (with_reducible assumption) | (show Below _ _ _; go_grown; done)) hx1
  obtain rfl := hbad he
  clear hbad hx1
  have he' : (errM b != 0) = true := by simpa using he
  generalize hq : errM b = er at *
  have Hq := Lib.hid hq
  clear hq
  have He := Lib.hid he
  clear he
  unfold emptyBook
  go_wp2
  go_ret2
  exact ⟨by rw [Hq.out]; rfl, x1.alloc _⟩
end Go.Proofs.YtnfbhicoknpojaaGreat

namespace Go.Proofs.YtnfbhicoknpojaaGreat
set_option linter.unusedSimpArgs false
set_option linter.unusedVariables false
open Go.RowKit
set_option linter.unusedVariables false

set_option maxRecDepth 100000 in
set_option maxHeartbeats 2000000 in
theorem first_err (bv : Value) (b : Book) (n : Int) (hn : I64 n) (he : openM b [n] ≠ 0) (w : World) (hb : BookAt w bv b) :
    Calls Tryz.prog 28 #[bv, .int .i64 n] w fun e w' => e = .returned (.tuple #[.slice none 0 0, .int .i64 (openM b [n])]) ∧ Ext w w' := by
  have hb0 := hb
  obtain ⟨ba, bc, bs, bd, rfl, -⟩ := hb.open
  go_enter Tryz.func28, Tryz.ntmps28
  go_wp2_with fail
  refine (common_err _ _ b [n] he _ (hb0.ext (by first | (with_reducible exact Ext.refl _) | (with_reducible assumption) | (show Below _ _ _; go_grown; done))) (IntsAt.oneAt (by simp) hn)).mono ?_
  rintro e w1 ⟨rfl, hx1⟩
  have x1 : Ext w w1 := Ext.trans (by first | (with_reducible exact Ext.refl _) | (with_reducible assumption) | (show Below _ _ _; go_grown; done)) hx1
  clear hx1
  generalize hq : openM b [n] = er at *
  have Hq := Lib.hid hq
  clear hq
  go_wp2
  go_ret2
  exact ⟨by rw [Hq.out]; rfl, x1⟩
set_option maxRecDepth 100000 in
set_option maxHeartbeats 2000000 in
theorem alike_same (bv : Value) (b : Book) (he : errM b = 0) (i : Nat) (hi : i < b.spellings.length) (w : World) (hb : BookAt w bv b) :
    Calls Tryz.prog 29 #[bv, .int .i64 i, .int .i64 i] w fun e w' => e = .returned (.tuple #[.int .i64 0, .int .i64 2]) ∧ Ext w w' := by
  have hv := valid_of he
  have hi5 : i < 5 := by have := hv.n; omega
  obtain ⟨ba, bc, bs, bd, rfl, -⟩ := hb.open
  have hop := openM_ok he (l := [(i : Int), (i : Int)]) (by simp; omega)
  go_enter Tryz.func29, Tryz.ntmps29
  go_wp2_with fail
  refine (open_any _ _ b [(i : Int), (i : Int)] _ (hb.ext (by first | (with_reducible exact Ext.refl _) | (with_reducible assumption) | (show Below _ _ _; go_grown; done))) (IntsAt.twoAt (m := (i : Int)) (n := (i : Int)) (by simp) (by omega) (by omega))).mono ?_
  rintro e w1 ⟨u, rfl, ⟨uv, rfl, hok, -⟩, hx1⟩
  rw [hop] at hok ⊢
  have x1 : Ext w w1 := Ext.trans (by first | (with_reducible exact Ext.refl _) | (with_reducible assumption) | (show Below _ _ _; go_grown; done)) hx1
  have hub := hok rfl
  clear hok hop hx1
  obtain ⟨ca, cc, cs, cd, rfl, -⟩ := hub.open
  go_wp2
  go_ret2
  exact ⟨rfl, x1.alloc _⟩
set_option maxRecDepth 100000 in
set_option maxHeartbeats 2000000 in
theorem common_none (bv v : Value) (b : Book) (he : errM b = 0) (w : World) (hb : BookAt w bv b) (hlv : IntsAt w v []) :
    Calls Tryz.prog 30 #[bv, v] w fun e w' => e = .returned (.tuple #[.slice none 0 0, .int .i64 2]) ∧ Ext w w' := by
  obtain ⟨ba, bc, bs, bd, rfl, -⟩ := hb.open
  obtain ⟨la, lc, rfl, -⟩ := hlv.shape
  have hop := openM_ok he (l := []) (by simp)
  go_enter Tryz.func30, Tryz.ntmps30
  go_wp2_with fail
  refine (open_any _ _ b [] _ (hb.ext (by first | (with_reducible exact Ext.refl _) | (with_reducible assumption) | (show Below _ _ _; go_grown; done))) (hlv.ext (by first | (with_reducible exact Ext.refl _) | (with_reducible assumption) | (show Below _ _ _; go_grown; done)))).mono ?_
  rintro e w1 ⟨u, rfl, ⟨uv, rfl, hok, -⟩, hx1⟩
  rw [hop] at hok ⊢
  have x1 : Ext w w1 := Ext.trans (by first | (with_reducible exact Ext.refl _) | (with_reducible assumption) | (show Below _ _ _; go_grown; done)) hx1
  have hub := hok rfl
  clear hok hop hx1
  obtain ⟨ca, cc, cs, cd, rfl, -⟩ := hub.open
  go_wp2
  go_ret2
  exact ⟨rfl, x1.alloc _⟩
set_option maxRecDepth 100000 in
set_option maxHeartbeats 2000000 in
theorem common_arg (bv v : Value) (b : Book) (he : errM b = 0) (l : List Int) (hl : ∀ n ∈ l, 0 ≤ n ∧ n < b.spellings.length) (hne : l ≠ []) (hasc : ascM l = false) (w : World) (hb : BookAt w bv b) (hlv : IntsAt w v l) :
    Calls Tryz.prog 30 #[bv, v] w fun e w' => e = .returned (.tuple #[.slice none 0 0, .int .i64 2]) ∧ Ext w w' := by
  obtain ⟨ba, bc, bs, bd, rfl, -⟩ := hb.open
  obtain ⟨la, lc, rfl, -⟩ := hlv.shape
  have hpos' : ((l.length : Int) == 0) = false := by
    rw [beq_eq_false_iff_ne]
    intro h
    exact hne (List.eq_nil_of_length_eq_zero (by omega))
  have hop := openM_ok he (l := l) hl
  go_enter Tryz.func30, Tryz.ntmps30
  go_wp2_with fail
  refine (open_any _ _ b l _ (hb.ext (by first | (with_reducible exact Ext.refl _) | (with_reducible assumption) | (show Below _ _ _; go_grown; done))) (hlv.ext (by first | (with_reducible exact Ext.refl _) | (with_reducible assumption) | (show Below _ _ _; go_grown; done)))).mono ?_
  rintro e w1 ⟨u, rfl, ⟨uv, rfl, hok, -⟩, hx1⟩
  rw [hop] at hok ⊢
  have x1 : Ext w w1 := Ext.trans (by first | (with_reducible exact Ext.refl _) | (with_reducible assumption) | (show Below _ _ _; go_grown; done)) hx1
  have hub := hok rfl
  clear hok hop hx1
  obtain ⟨ca, cc, cs, cd, rfl, -⟩ := hub.open
  have Hne := Lib.hid hne
  clear hne
  go_wp2_with fail
  refine (ascending_any _ l _ (hlv.ext (x1.alloc _))).mono ?_
  rintro e w2 ⟨rfl, hx2⟩
  rw [hasc]
  have x2 : Ext w1 w2 := hx2.of_alloc
  clear hx2
  go_wp2
  go_ret2
  exact ⟨rfl, x1.trans x2⟩
end Go.Proofs.YtnfbhicoknpojaaGreat

namespace Go.Proofs.YtnfbhicoknpojaaGreat
set_option linter.unusedSimpArgs false
set_option linter.unusedVariables false
open Go.RowKit

def heardM (n : Nat) : List Int := if _h : n = 0 then [] else heardM (n / 5) ++ [(n : Int) % 5 - 1]
termination_by n
decreasing_by omega
theorem heardM_zero : heardM 0 = [] := by rw [heardM]; rfl
theorem heardM_pos {n : Nat} (h : n ≠ 0) : heardM n = heardM (n / 5) ++ [(n : Int) % 5 - 1] := by rw [heardM, dif_neg h]
theorem heardM_len (n : Nat) : (heardM n).length ≤ n := by
  induction n using Nat.strongRecOn with
  | _ n ih =>
    by_cases h : n = 0
    · subst h; rw [heardM_zero]; exact Nat.le_refl _
    · rw [heardM_pos h, List.length_append]
      have := ih (n / 5) (by omega)
      simp only [List.length_cons, List.length_nil]; omega
theorem heardM_I64 (n : Nat) : ∀ x ∈ heardM n, I64 x := by
  induction n using Nat.strongRecOn with
  | _ n ih =>
    by_cases h : n = 0
    · subst h; rw [heardM_zero]; simp
    · rw [heardM_pos h]
      intro x hx
      rcases List.mem_append.1 hx with hx | hx
      · exact ih (n / 5) (by omega) x hx
      · obtain rfl : x = _ := by simpa using hx
        unfold I64; omega

end Go.Proofs.YtnfbhicoknpojaaGreat

namespace Go.Proofs.YtnfbhicoknpojaaGreat
set_option linter.unusedSimpArgs false
set_option linter.unusedVariables false
open Go.RowKit

def othersTo (l : List Int) (k : Nat) : List Int := ints ((List.range k).filter fun i => !decide ((i : Int) ∈ l))
theorem othersTo_yes (l : List Int) (k : Nat) (h : decide ((k : Int) ∈ l) = false) : othersTo l (k + 1) = othersTo l k ++ [(k : Int)] := by
  unfold othersTo
  rw [List.range_succ, List.filter_append]
  simp [ints, h]
theorem othersTo_no (l : List Int) (k : Nat) (h : decide ((k : Int) ∈ l) = true) : othersTo l (k + 1) = othersTo l k := by
  unfold othersTo
  rw [List.range_succ, List.filter_append]
  simp [h]
theorem othersTo_len (l : List Int) (k : Nat) : (othersTo l k).length ≤ k := by
  have := List.length_filter_le (fun i : Nat => !decide ((i : Int) ∈ l)) (List.range k)
  simpa [othersTo, ints] using this
theorem othersTo_I64 (l : List Int) (k : Nat) (hk : k ≤ 9223372036854775807) : ∀ x ∈ othersTo l k, I64 x := by
  intro x hx
  simp only [othersTo, ints, List.mem_map, List.mem_filter, List.mem_range] at hx
  obtain ⟨y, ⟨hy, -⟩, rfl⟩ := hx
  unfold I64; omega

end Go.Proofs.YtnfbhicoknpojaaGreat

namespace Go.Proofs.YtnfbhicoknpojaaGreat
set_option linter.unusedSimpArgs false
set_option linter.unusedVariables false
set_option linter.unusedVariables false

theorem canM_keys {b : Book} {l : List Nat} {k : List Int} : k ∈ (canM b l).map (·.1) ↔ ∃ n ∈ l, k ∈ stringsOf b n := by
  rw [← getT_keys, canM, get_canFrom]
  by_cases h : ∃ n ∈ l, k ∈ stringsOf b n
  · rw [if_pos h]; exact ⟨fun _ => h, fun _ => rfl⟩
  · rw [if_neg h]; exact ⟨fun e => by simp [getT] at e, fun e => absurd e h⟩
theorem canM_bit {b : Book} {l : List Nat} {k : List Int} {v : Nat} (hn : ((canM b l).map (·.1)).Nodup) (h : (k, v) ∈ canM b l) (i : Nat) : v.testBit i = true ↔ i ∈ l ∧ k ∈ stringsOf b i := by
  have hg := mem_getT hn h
  have hk : ∃ n ∈ l, k ∈ stringsOf b n := canM_keys.1 (List.mem_map.2 ⟨_, h, rfl⟩)
  rw [canM, get_canFrom, if_pos hk] at hg
  have e : (l.foldl (fun s n => if k ∈ stringsOf b n then s ||| 2 ^ n else s) 0) = l.foldl (fun s n => if (fun n => decide (k ∈ stringsOf b n)) n = true then s ||| 2 ^ n else s) 0 := by simp
  simp only [getT, Option.getD_none, Option.some.injEq] at hg
  rw [← hg, e, testBit_marks]
  simp
  exact ⟨fun ⟨x, h1, h2, h3⟩ => by subst h2; exact ⟨h1, h3⟩, fun ⟨h1, h2⟩ => ⟨i, h1, rfl, h2⟩⟩
theorem bitsM_bit (l : List Nat) (i : Nat) : (bitsM l).testBit i = true ↔ i ∈ l := by
  have e : bitsM l = l.foldl (fun s n => if (fun _ => true) n = true then s ||| 2 ^ n else s) 0 := by simp [bitsM]
  rw [e, testBit_marks]; simp
theorem and_eq_iff (v n : Nat) : v &&& n = n ↔ ∀ i, n.testBit i = true → v.testBit i = true := by
  constructor
  · intro h i hi
    have := congrArg (fun x => x.testBit i) h
    simp only [Nat.testBit_and, hi, Bool.and_true] at this; exact this
  · intro h
    apply Nat.eq_of_testBit_eq
    intro i
    rw [Nat.testBit_and]
    cases hi : n.testBit i
    · simp
    · simp [h i hi]

/-- a string that each of some spellings can be -/
def All (b : Book) (l : List Nat) (k : List Int) : Prop := ∀ n ∈ l, k ∈ stringsOf b n
/-- an entry has all bits of a number whose bits are of spellings that were asked -/
theorem entry_sub {b : Book} {l : List Nat} {k : List Int} {v n : Nat} (hn : ((canM b l).map (·.1)).Nodup) (h : (k, v) ∈ canM b l) (hs : ∀ i, n.testBit i = true → i ∈ l) : v &&& n = n ↔ ∀ i, n.testBit i = true → k ∈ stringsOf b i := by
  rw [and_eq_iff]
  exact ⟨fun hh i hi => ((canM_bit hn h i).1 (hh i hi)).2, fun hh i hi => (canM_bit hn h i).2 ⟨hs i hi, hh i hi⟩⟩
theorem entry_all {b : Book} {l : List Nat} {k : List Int} {v : Nat} (hn : ((canM b l).map (·.1)).Nodup) (h : (k, v) ∈ canM b l) : v &&& bitsM l = bitsM l ↔ All b l k := by
  rw [entry_sub hn h fun i hi => (bitsM_bit l i).1 hi]
  exact ⟨fun hh i hi => hh i ((bitsM_bit l i).2 hi), fun hh i hi => hh i ((bitsM_bit l i).1 hi)⟩
theorem first_all {b : Book} {l : List Nat} {k : List Int} (hn : ((canM b l).map (·.1)).Nodup) (hne : l ≠ []) (h : FirstIs (canM b l) (fun _ => True) (bitsM l) k true) : All b l k ∧ ∀ k', All b l k' → ¬ cmpSS k' k < 0 := by
  obtain ⟨⟨i, hi, rfl, hb⟩, hmin⟩ := h.yes rfl
  refine ⟨(entry_all hn (List.getElem_mem hi)).1 hb, fun k' hk' => ?_⟩
  obtain ⟨m, hm⟩ := List.exists_mem_of_ne_nil l hne
  obtain ⟨p, hp, rfl⟩ := List.mem_map.1 (canM_keys.2 ⟨m, hm, hk' m hm⟩)
  obtain ⟨j, hj, rfl⟩ := List.getElem_of_mem hp
  exact hmin j hj trivial ((entry_all hn (List.getElem_mem hj)).2 hk')
theorem first_none {b : Book} {l : List Nat} {k : List Int} (hn : ((canM b l).map (·.1)).Nodup) (hne : l ≠ []) (h : FirstIs (canM b l) (fun _ => True) (bitsM l) k false) : k = [] ∧ ¬ ∃ k, All b l k := by
  obtain ⟨hk, hno⟩ := h.no rfl
  refine ⟨hk, fun ⟨k', hk'⟩ => ?_⟩
  obtain ⟨m, hm⟩ := List.exists_mem_of_ne_nil l hne
  obtain ⟨p, hp, rfl⟩ := List.mem_map.1 (canM_keys.2 ⟨m, hm, hk' m hm⟩)
  obtain ⟨j, hj, rfl⟩ := List.getElem_of_mem hp
  exact hno j hj trivial ((entry_all hn (List.getElem_mem hj)).2 hk')
theorem canM_nodup {b : Book} (hv : Valid b) {l : List Nat} (hl : ∀ n ∈ l, n < b.spellings.length) : ((canM b l).map (·.1)).Nodup := (canM_fine hv l [] hl (FineT.nil _)).nodup

/-- what is told of two spellings -/
structure AlikeIs (b : Book) (i j : Nat) (m : Int) : Prop where
  dom : m = 0 ∨ m = 1 ∨ m = 2
  never : m = 2 ↔ ¬ ∃ k, k ∈ stringsOf b i ∧ k ∈ stringsOf b j
  must : m = 1 ↔ ∃ k, (∀ x, x ∈ stringsOf b i ↔ x = k) ∧ ∀ x, x ∈ stringsOf b j ↔ x = k
theorem one_key {M : Tally} (h : M.length = 1) : ∃ k, ∀ x, x ∈ M.map (·.1) ↔ x = k := by
  match M, h with
  | [p], _ => exact ⟨p.1, fun x => by simp⟩
theorem len_one {M : Tally} (hn : (M.map (·.1)).Nodup) {k : List Int} (h : ∀ x, x ∈ M.map (·.1) ↔ x = k) : M.length = 1 := by
  match M, hn, h with
  | [], _, h => have := (h k).2 rfl; simp at this
  | [p], _, _ => rfl
  | p :: q :: M, hn, h =>
    have e1 := (h p.1).1 (by simp)
    have e2 := (h q.1).1 (by simp)
    simp only [List.map_cons, List.nodup_cons, List.mem_cons, not_or] at hn
    exact absurd (e1.trans e2.symm) hn.1.1
theorem alike_is {b : Book} (hv : Valid b) {i j : Nat} (hi : i < b.spellings.length) (hj : j < b.spellings.length) {k : List Int} {f : Bool} (h : FirstIs (canM b [i, j]) (fun _ => True) (bitsM [i, j]) k f) : AlikeIs b i j (alikeV (canM b [i, j]) f) := by
  have hn := canM_nodup hv (l := [i, j]) (by simp [hi, hj])
  have hall : ∀ x, All b [i, j] x ↔ x ∈ stringsOf b i ∧ x ∈ stringsOf b j := fun x => by simp [All]
  cases f with
  | false =>
    have h2 : alikeV (canM b [i, j]) false = 2 := rfl
    obtain ⟨-, hno⟩ := first_none hn (by simp) h
    simp only [hall] at hno
    rw [h2]
    refine ⟨.inr (.inr rfl), ⟨fun _ => hno, fun _ => rfl⟩, ⟨fun e => by omega, fun ⟨k, e1, e2⟩ => absurd ⟨k, (e1 k).2 rfl, (e2 k).2 rfl⟩ hno⟩⟩
  | true =>
    obtain ⟨hk, -⟩ := first_all hn (by simp) h
    rw [hall] at hk
    have hkey : ∀ x, x ∈ (canM b [i, j]).map (·.1) ↔ x ∈ stringsOf b i ∨ x ∈ stringsOf b j := fun x => by rw [canM_keys]; simp
    by_cases h1 : (canM b [i, j]).length = 1
    · have h2 : alikeV (canM b [i, j]) true = 1 := by rw [alikeV, if_neg (by decide), if_pos h1]
      rw [h2]
      refine ⟨.inr (.inl rfl), ⟨fun e => by omega, fun e => absurd ⟨k, hk⟩ e⟩, ⟨fun _ => ?_, fun _ => rfl⟩⟩
      obtain ⟨c, hc⟩ := one_key h1
      have ek : k = c := (hc k).1 ((hkey k).2 (.inl hk.1))
      subst ek
      exact ⟨k, fun x => ⟨fun hx => (hc x).1 ((hkey x).2 (.inl hx)), fun e => by rw [e]; exact hk.1⟩, fun x => ⟨fun hx => (hc x).1 ((hkey x).2 (.inr hx)), fun e => by rw [e]; exact hk.2⟩⟩
    · have h2 : alikeV (canM b [i, j]) true = 0 := by rw [alikeV, if_neg (by decide), if_neg h1]
      rw [h2]
      refine ⟨.inl rfl, ⟨fun e => by omega, fun e => absurd ⟨k, hk⟩ e⟩, ⟨fun e => by omega, fun ⟨c, e1, e2⟩ => absurd (len_one hn (k := c) fun x => by rw [hkey, e1, e2]; simp) h1⟩⟩
theorem AlikeIs.unique {b : Book} {i j i' j' : Nat} {m n : Int} (h : AlikeIs b i j m) (h' : AlikeIs b i' j' n)
    (hn : (∃ k, k ∈ stringsOf b i ∧ k ∈ stringsOf b j) ↔ ∃ k, k ∈ stringsOf b i' ∧ k ∈ stringsOf b j')
    (hm : (∃ k, (∀ x, x ∈ stringsOf b i ↔ x = k) ∧ ∀ x, x ∈ stringsOf b j ↔ x = k) ↔ ∃ k, (∀ x, x ∈ stringsOf b i' ↔ x = k) ∧ ∀ x, x ∈ stringsOf b j' ↔ x = k) : m = n := by
  have a1 : m = 2 ↔ n = 2 := by rw [h.never, h'.never, hn]
  have a2 : m = 1 ↔ n = 1 := by rw [h.must, h'.must, hm]
  rcases h.dom with rfl | rfl | rfl <;> rcases h'.dom with rfl | rfl | rfl <;> simp at a1 a2 <;> rfl
theorem AlikeIs.comm {b : Book} {i j : Nat} {m n : Int} (h : AlikeIs b i j m) (h' : AlikeIs b j i n) : m = n :=
  h.unique h' ⟨fun ⟨k, a, c⟩ => ⟨k, c, a⟩, fun ⟨k, a, c⟩ => ⟨k, c, a⟩⟩ ⟨fun ⟨k, a, c⟩ => ⟨k, c, a⟩, fun ⟨k, a, c⟩ => ⟨k, c, a⟩⟩
/-- two that surely are alike are alike to each third one -/
theorem AlikeIs.join {b : Book} {i j k : Nat} {o p : Int} (h : AlikeIs b i j 1) (h1 : AlikeIs b j k o) (h2 : AlikeIs b i k p) : o = p := by
  obtain ⟨c, e1, e2⟩ := h.must.1 rfl
  have e : ∀ x, x ∈ stringsOf b j ↔ x ∈ stringsOf b i := fun x => by rw [e1, e2]
  exact h1.unique h2 (by simp only [e]) (by simp only [e])
/-- a list comes before another one just if it has fewer numbers than the other, or as many and comes before -/
theorem lessM_cmp : ∀ (l m : List Int), l.length = m.length → (lessM l m = true ↔ cmpL l m < 0)
  | [], [], _ => by simp [lessM, cmpL]
  | x :: l, y :: m, h => by
    have ih := lessM_cmp l m (by simpa using h)
    unfold lessM cmpL
    by_cases e : x = y
    · subst e; rw [if_pos rfl, if_pos (cmpM_self x)]; exact ih
    · have e2 : ¬ cmpM x y = 0 := fun h0 => e (cmpM_zero.1 h0)
      rw [if_neg e, if_neg e2, cmpM_neg]; simp
theorem fewerM_cmp (l m : List Int) : fewerM l m = true ↔ cmpSS l m < 0 := by
  unfold fewerM cmpSS
  by_cases h : l.length = m.length
  · rw [if_pos h, if_pos h]; exact lessM_cmp l m h
  · rw [if_neg h, if_neg h, cmpM_neg]; simp
end Go.Proofs.YtnfbhicoknpojaaGreat

namespace Go.Proofs.YtnfbhicoknpojaaGreat
set_option linter.unusedSimpArgs false
set_option linter.unusedVariables false
set_option linter.unusedVariables false

theorem can_some {K : Nat} : ∀ (ls : List Letter) (s : List Int), (∀ y ∈ ls, ∃ n ∈ soundsTo K, givesM y n = true) → ∃ t, Can K ls s t
  | [], s, _ => ⟨s, .nil s⟩
  | y :: ys, s, h => by
    obtain ⟨n, hn, hg⟩ := h y (by simp)
    obtain ⟨t, ht⟩ := can_some ys (withS s n) fun z hz => h z (by simp [hz])
    exact ⟨t, .cons y ys s t n hn hg ht⟩
theorem valid_gives {S : Int} (hS : 1 ≤ S ∧ S ≤ 4) {x : Letter} (h : ValidLetter S x) : ∃ n ∈ soundsTo (S.toNat + 1), givesM x n = true := by
  rcases h.g with hg | hg
  · have h0 : x.sounds.toNat ≠ 0 := by have := h.s; omega
    obtain ⟨i, hi⟩ := Nat.exists_testBit_of_ne_zero h0
    have hlt : i < S.toNat := by
      rcases Nat.lt_or_ge i S.toNat with h1 | h1
      · exact h1
      · exfalso
        have hs := h.s
        unfold maskM at hs
        have h2 : x.sounds.toNat < 2 ^ S.toNat := by
          have h3 : ((2 ^ S.toNat : Nat) : Int) = (2 : Int) ^ S.toNat := by simp
          omega
        have h4 : x.sounds.toNat < 2 ^ i := Nat.lt_of_lt_of_le h2 (Nat.pow_le_pow_right (by decide) h1)
        rw [Nat.testBit_lt_two_pow h4] at hi; cases hi
    refine ⟨(i : Int), mem_soundsTo.2 ⟨by omega, by omega⟩, ?_⟩
    rw [givesM, if_neg (by omega)]
    simpa using hi
  · exact ⟨-1, mem_soundsTo.2 ⟨by omega, by omega⟩, by rw [givesM, if_pos rfl]; exact hg⟩
theorem lettersAt_gives {b : Book} (hv : Valid b) (n : Nat) (hn : n < b.spellings.length) : ∀ y ∈ lettersAt b n, ∃ m ∈ soundsTo (b.sounds.toNat + 1), givesM y m = true := by
  rw [lettersAt_eq b n hn]
  have ha := (hv.sp n hn).a
  have hl : lettersOf b.alphabets (b.spellings[n]).alphabet = (b.alphabets[(b.spellings[n]).alphabet.toNat]'(by omega)).letters := by
    unfold lettersOf; rw [List.getElem?_eq_getElem (by omega)]
  rw [hl]
  refine lettersTo_all _ _ _ _ (fun x hx => ?_) ⟨-1, mem_soundsTo.2 ⟨by omega, by have := hv.s; omega⟩, rfl⟩
  obtain ⟨j, hj, rfl⟩ := List.getElem_of_mem hx
  exact valid_gives hv.s ((hv.al _ (by omega)).1.fine j hj).1
theorem stringsOf_some {b : Book} (hv : Valid b) (n : Nat) (hn : n < b.spellings.length) : ∃ t, t ∈ stringsOf b n := by
  obtain ⟨t, ht⟩ := can_some (K := b.sounds.toNat + 1) (lettersAt b n) [] (lettersAt_gives hv n hn)
  exact ⟨t, mem_yields.2 ht⟩
theorem canM_pos {b : Book} (hv : Valid b) (n : Nat) (hn : n < b.spellings.length) : 1 ≤ (canM b [n]).length := by
  obtain ⟨t, ht⟩ := stringsOf_some hv n hn
  have := (canM_keys (b := b) (l := [n]) (k := t)).2 ⟨n, by simp, ht⟩
  have h2 := List.length_pos_of_mem this
  rw [List.length_map] at h2; exact h2
theorem foldl_mark_len (bit : Nat) : ∀ (l : List (List Int)) (M : Tally), (l.foldl (markT bit) M).length ≤ M.length + l.length
  | [], M => by simp
  | k :: l, M => by
    have h1 := foldl_mark_len bit l (markT bit M k)
    have h2 : (markT bit M k).length ≤ M.length + 1 := putT_len k ((getT k M).getD 0 ||| bit) M
    rw [List.foldl_cons, List.length_cons]
    omega
theorem canM_one (b : Book) (n : Nat) : canM b [n] = (stringsOf b n).foldl (markT (2 ^ n)) [] := by simp [canM, canFrom]
theorem canM_le (b : Book) (n : Nat) : (canM b [n]).length ≤ (stringsOf b n).length := by
  rw [canM_one]
  have := foldl_mark_len (2 ^ n) (stringsOf b n) []
  simpa using this
/-- how many things a letter can give -/
def waysM (K : Nat) (y : Letter) : Nat := ((soundsTo K).filter fun n => givesM y n).length
theorem flatMap_len {α β : Type} (f : α → List β) (p : α → Bool) (c : Nat) : ∀ l : List α, (∀ x ∈ l, (f x).length = if p x then c else 0) → (l.flatMap f).length = (l.filter p).length * c
  | [], _ => by simp
  | x :: l, h => by
    have ih := flatMap_len f p c l fun y hy => h y (by simp [hy])
    have hx := h x (by simp)
    rw [List.flatMap_cons, List.length_append, ih, hx]
    cases hp : p x
    · simp [hp]
    · simp [hp, Nat.succ_mul, Nat.add_comm]
theorem yields_len (K : Nat) : ∀ (ls : List Letter) (s : List Int), (yields K ls s).length = (ls.map (waysM K)).foldr (· * ·) 1
  | [], s => by simp [yields]
  | y :: ys, s => by
    have e : (yields K (y :: ys) s).length = waysM K y * (ys.map (waysM K)).foldr (· * ·) 1 := by
      rw [yields]
      refine flatMap_len _ (fun n => givesM y n) _ _ fun n _ => ?_
      by_cases h : givesM y n = true
      · rw [if_pos h, if_pos h, yields_len K ys]
      · rw [if_neg h, if_neg h]; rfl
    rw [e]; rfl
theorem putT_new (k : List Int) (v : Nat) : ∀ M : Tally, k ∉ M.map (·.1) → (putT k v M).length = M.length + 1
  | [], _ => rfl
  | p :: M, h => by
    simp only [List.map_cons, List.mem_cons, not_or] at h
    simp only [putT]
    rw [if_neg (fun e => h.1 e.symm)]
    simp [putT_new k v M h.2]
theorem foldl_mark_new (bit : Nat) : ∀ (l : List (List Int)) (M : Tally), l.Nodup → (∀ k ∈ l, k ∉ M.map (·.1)) → (l.foldl (markT bit) M).length = M.length + l.length
  | [], M, _, _ => by simp
  | k :: l, M, hn, h => by
    simp only [List.nodup_cons] at hn
    have h1 : (markT bit M k).length = M.length + 1 := putT_new k ((getT k M).getD 0 ||| bit) M (h k (by simp))
    have h2 := foldl_mark_new bit l (markT bit M k) hn.2 fun x hx hm => by
      rcases (keys_putT _ _ _ _).1 hm with e | e
      · subst e; exact hn.1 hx
      · exact h x (by simp [hx]) e
    rw [List.foldl_cons, List.length_cons]
    omega
theorem withS_inj {a c : Int} (h : withS [] a = withS [] c) : a = c := by
  unfold withS at h
  split at h <;> split at h <;> simp_all
theorem yields_one_nodup (K : Nat) (y : Letter) : (yields K [y] []).Nodup := by
  have e : yields K [y] [] = ((soundsTo K).filter fun n => givesM y n).map (withS []) := by
    rw [yields]
    induction soundsTo K with
    | nil => rfl
    | cons n l ih =>
      rw [List.flatMap_cons, ih]
      by_cases h : givesM y n = true
      · simp [h, yields]
      · simp [h]
  rw [e]
  have hn : (soundsTo K).Nodup := by
    unfold soundsTo
    rw [List.nodup_iff_pairwise_ne, List.pairwise_map]
    exact (List.nodup_iff_pairwise_ne.1 List.nodup_range).imp fun h1 h2 => h1 (by omega)
  have hf := hn.filter (fun n => givesM y n)
  rw [List.nodup_iff_pairwise_ne, List.pairwise_map]
  exact (List.nodup_iff_pairwise_ne.1 hf).imp fun h1 h2 => h1 (withS_inj h2)
theorem yields_one_len (K : Nat) (y : Letter) : (yields K [y] []).length = waysM K y := by rw [yields_len]; simp
theorem waysM_le (K : Nat) (y : Letter) : waysM K y ≤ K := by
  have := List.length_filter_le (fun n => givesM y n) (soundsTo K)
  simpa [waysM, soundsTo] using this
end Go.Proofs.YtnfbhicoknpojaaGreat

namespace Go.Proofs.YtnfbhicoknpojaaGreat
set_option linter.unusedSimpArgs false
set_option linter.unusedVariables false
open Go.RowKit

def furA (x : Letter) (out : List Int) (n : Int) : List Int := if x.silent = true ∧ decide (n ∈ out) = false then out ++ [n] else out
def furB (x : Letter) (heard out : List Int) (n : Int) : List Int := if n < heard.length ∧ bitM (heard.getD n.toNat 0).toNat x.sounds = true ∧ decide (n + 1 ∈ out) = false then out ++ [n + 1] else out
def furTo (x : Letter) (done heard : List Int) (k : Nat) : List Int := (done.take k).foldl (fun o n => furB x heard (furA x o n) n) []
theorem furTo_step (x : Letter) (done heard : List Int) (k : Nat) (h : k < done.length) (n : Int) (hn : done[k] = n) : furTo x done heard (k + 1) = furB x heard (furA x (furTo x done heard k) n) n := by
  rw [furTo, List.take_succ_eq_append_getElem h, hn, List.foldl_append]; rfl
theorem snoc_I64 {l : List Int} {n : Int} (h : ∀ x ∈ l, I64 x) (hn : I64 n) : ∀ x ∈ l ++ [n], I64 x := fun x hx => by
  rcases List.mem_append.1 hx with hx | hx
  · exact h x hx
  · obtain rfl : x = n := by simpa using hx
    exact hn

end Go.Proofs.YtnfbhicoknpojaaGreat

namespace Go.Proofs.YtnfbhicoknpojaaGreat
set_option linter.unusedSimpArgs false
set_option linter.unusedVariables false
open Go.RowKit

/-- a row of bools of one's own, in block g -/
def BoolsOwn (w : World) (base g : Nat) (l : List Bool) : Prop := w.ownsRow base 4 1 (.slice (some ⟨g, 0, none⟩) l.length l.length) l.length (l.map Value.bool)
theorem BoolsOwn.cell {w : World} {base g : Nat} {l : List Bool} (h : BoolsOwn w base g l) (j : Nat) (hj : j < l.length) : w.cell? ⟨g, j, none⟩ = some (.bool l[j]) := by
  have := World.ownsRow.cellAt h j (by omega)
  rw [this]; simp [hj]
theorem BoolsOwn.frozen {w : World} {base g : Nat} {l : List Bool} (h : BoolsOwn w base g l) (j : Nat) : w.frozen? ⟨g, j, none⟩ = false := World.ownsRow.frozenAt h j
theorem BoolsOwn.set {w : World} {base g : Nat} {l : List Bool} (h : BoolsOwn w base g l) (j : Nat) (u : Bool) : BoolsOwn (w.setCell ⟨g, j, none⟩ (.bool u)) base g (l.set j u) := by
  have := (World.ownsRow.stored h j (.bool u)).1
  unfold BoolsOwn
  rw [List.length_set]
  simpa using this
theorem BoolsOwn.lt {w : World} {base g : Nat} {l : List Bool} (h : BoolsOwn w base g l) : base ≤ g ∧ g < w.heap.size := World.ownsRow.lt h g rfl
theorem BoolsOwn.ext {w w' : World} {base g : Nat} {l : List Bool} (h : BoolsOwn w base g l) (hx : Ext w w') : BoolsOwn w' base g l := Ext.owns h hx
theorem BoolsOwn.at {w : World} {base g : Nat} {l : List Bool} (h : BoolsOwn w base g l) (hl : l.length ≤ 9223372036854775807) : BoolsAt w (.slice (some ⟨g, 0, none⟩) l.length l.length) l :=
  ⟨_, _, rfl, Nat.le_refl _, hl, fun i hi => ⟨_, _, rfl, by
    have := h.cell i hi
    simpa [boolR] using this⟩⟩
theorem infoBool : (Tryz.prog.info? 4).map (fun i => (i.zero, i.size, i.bytes)) = some (some (.bool false), 1, 1) := by kernel_rfl
end Go.Proofs.YtnfbhicoknpojaaGreat

namespace Go.Proofs.YtnfbhicoknpojaaGreat
set_option linter.unusedSimpArgs false
set_option linter.unusedVariables false
open Go.RowKit

end Go.Proofs.YtnfbhicoknpojaaGreat

namespace Go.Proofs.YtnfbhicoknpojaaGreat
set_option linter.unusedSimpArgs false
set_option linter.unusedVariables false
open Go.RowKit
set_option linter.unusedVariables false

theorem mod_small (x n : Nat) : Int.tmod (x : Int) (n : Int) = ((x % n : Nat) : Int) := by
  rw [Int.tmod_eq_emod_of_nonneg (by omega)]; simp
/-- what Alike returns of indices of a book without an error -/
theorem alike_two (bv : Value) (b : Book) (he : errM b = 0) (i j : Nat) (hi : i < b.spellings.length) (hj : j < b.spellings.length) (w : World) (hb : BookAt w bv b) :
    Calls Tryz.prog 29 #[bv, .int .i64 i, .int .i64 j] w fun e w' => ∃ m er : Int, e = .returned (.tuple #[.int .i64 m, .int .i64 er]) ∧ (i = j → m = 0 ∧ er = 2) ∧ (i ≠ j → er = 0 ∧ AlikeIs b i j m) ∧ Ext w w' := by
  by_cases h : i = j
  · subst h
    refine (alike_same bv b he i hi w hb).mono ?_
    rintro e w' ⟨rfl, hx⟩
    exact ⟨0, 2, rfl, fun _ => ⟨rfl, rfl⟩, fun h => absurd rfl h, hx⟩
  · refine (alike_ok bv b he i j hi hj h w hb).mono ?_
    rintro e w' ⟨k, f, hF, rfl, hx⟩
    exact ⟨_, 0, rfl, fun e => absurd e h, fun _ => ⟨rfl, alike_is (valid_of he) hi hj hF⟩, hx⟩

/-- a book in a box of its own -/
structure Boxed (w : World) (B : Nat) (b : Book) (ba : Option Addr) (bc : Nat) (bs : Option Addr) (bd : Nat) : Prop where
  c0 : w.cell? ⟨B, 0, none⟩ = some (.int .i64 b.sounds)
  c1 : w.cell? ⟨B, 1, none⟩ = some (.slice ba b.alphabets.length bc)
  c2 : w.cell? ⟨B, 2, none⟩ = some (.slice bs b.spellings.length bd)
  at_ : BookAt w (.agg #[.int .i64 b.sounds, .slice ba b.alphabets.length bc, .slice bs b.spellings.length bd]) b
theorem Boxed.ext {w w' : World} {B : Nat} {b : Book} {ba bs : Option Addr} {bc bd : Nat} (h : Boxed w B b ba bc bs bd) (hx : Ext w w') : Boxed w' B b ba bc bs bd :=
  ⟨hx.cell h.c0, hx.cell h.c1, hx.cell h.c2, h.at_.ext hx⟩
theorem Boxed.lt {w : World} {B : Nat} {b : Book} {ba bs : Option Addr} {bc bd : Nat} (h : Boxed w B b ba bc bs bd) : B < w.heap.size := cell_lt h.c0
end Go.Proofs.YtnfbhicoknpojaaGreat

namespace Go.Proofs.YtnfbhicoknpojaaGreat
set_option linter.unusedSimpArgs false
set_option linter.unusedVariables false
open Go.RowKit
set_option linter.unusedVariables false

/-- the indices of bits, of those below a number -/
def pickTo (bits : Int) (k : Nat) : List Nat := (List.range k).filter fun i => bitM i bits
theorem pickTo_yes (bits : Int) (k : Nat) (h : bitM k bits = true) : pickTo bits (k + 1) = pickTo bits k ++ [k] := by
  unfold pickTo; rw [List.range_succ, List.filter_append]; simp [h]
theorem pickTo_no (bits : Int) (k : Nat) (h : bitM k bits = false) : pickTo bits (k + 1) = pickTo bits k := by
  unfold pickTo; rw [List.range_succ, List.filter_append]; simp [h]
theorem pickTo_len (bits : Int) (k : Nat) : (pickTo bits k).length ≤ k := by
  have := List.length_filter_le (fun i => bitM i bits) (List.range k)
  simpa [pickTo] using this
theorem pickTo_lt {bits : Int} {k n : Nat} (h : n ∈ pickTo bits k) : n < k := by
  simp only [pickTo, List.mem_filter, List.mem_range] at h; exact h.1
theorem pickTo_sorted (bits : Int) (k : Nat) : (pickTo bits k).Pairwise (· < ·) := List.Pairwise.filter _ (List.pairwise_lt_range)
theorem ints_I64 {l : List Nat} (h : ∀ x ∈ l, x ≤ 9223372036854775807) : ∀ x ∈ ints l, I64 x := by
  intro x hx
  simp only [ints, List.mem_map] at hx
  obtain ⟨y, hy, rfl⟩ := hx
  have := h y hy
  unfold I64; omega
theorem asc_of_sorted {l : List Nat} (h : l.Pairwise (· < ·)) : ascM (ints l) = true := by
  refine ascM_yes _ fun k h0 hk => ?_
  have hl : (ints l).length = l.length := by simp [ints]
  have := List.pairwise_iff_getElem.1 h (k - 1) k (by omega) (by omega) (by omega)
  simp only [ints, List.getElem_map]
  omega
/-- all but the one at a place -/
def dropTo (l : List Nat) (q k : Nat) : List Nat := ((List.range k).filter fun i => i != q).map fun i => l.getD i 0
theorem getD_at (l : List Nat) (k : Nat) (hk : k < l.length) : l.getD k 0 = l[k] := by rw [List.getD_eq_getElem?_getD, List.getElem?_eq_getElem hk]; rfl
theorem dropTo_yes (l : List Nat) (q k : Nat) (hk : k < l.length) (h : k ≠ q) : dropTo l q (k + 1) = dropTo l q k ++ [l[k]] := by
  unfold dropTo
  have h' : (k != q) = true := by simpa using h
  rw [List.range_succ, List.filter_append, List.map_append, ← getD_at l k hk]
  simp [h']
theorem dropTo_no (l : List Nat) (q : Nat) : dropTo l q (q + 1) = dropTo l q q := by
  unfold dropTo
  rw [List.range_succ, List.filter_append]; simp
theorem dropTo_len (l : List Nat) (q k : Nat) : (dropTo l q k).length ≤ k := by
  have := List.length_filter_le (fun i => i != q) (List.range k)
  simpa [dropTo] using this
theorem dropTo_sub {l : List Nat} {q k n : Nat} (hk : k ≤ l.length) (h : n ∈ dropTo l q k) : n ∈ l := by
  simp only [dropTo, List.mem_map, List.mem_filter, List.mem_range] at h
  obtain ⟨i, ⟨hi, -⟩, rfl⟩ := h
  rw [getD_at l i (by omega)]; exact List.getElem_mem _
theorem dropTo_sorted {l : List Nat} (h : l.Pairwise (· < ·)) (q k : Nat) (hk : k ≤ l.length) : (dropTo l q k).Pairwise (· < ·) := by
  unfold dropTo
  rw [List.pairwise_map]
  refine List.Pairwise.imp_of_mem (R := (· < ·)) (fun {x y} hx hy hxy => ?_) (List.Pairwise.filter _ List.pairwise_lt_range)
  simp only [List.mem_filter, List.mem_range] at hx hy
  rw [getD_at l x (by omega), getD_at l y (by omega)]
  exact List.pairwise_iff_getElem.1 h x y (by omega) (by omega) hxy

/-- what Common returns of ascending indices of a book without an error -/
theorem common_all (v : Value) (b : Book) (bv : Value) (he : errM b = 0) (l : List Nat) (hl : ∀ n ∈ l, n < b.spellings.length) (hs : l.Pairwise (· < ·)) (w : World) (hb : BookAt w bv b) (hlv : IntsAt w v (ints l)) :
    Calls Tryz.prog 30 #[bv, v] w fun e w' => ∃ (u : Value) (er : Int) (k : List Int), e = .returned (.tuple #[u, .int .i64 er]) ∧ IntsAt w' u k ∧ Ext w w' ∧
      (l = [] ∧ er = 2 ∧ k = [] ∨ l ≠ [] ∧ er = 9 ∧ k = [] ∧ (¬ ∃ k, All b l k) ∨ l ≠ [] ∧ er = 0 ∧ All b l k ∧ ∀ k', All b l k' → ¬ cmpSS k' k < 0) := by
  by_cases h0 : l = []
  · subst h0
    refine (common_none bv v b he w hb hlv).mono ?_
    rintro e w' ⟨rfl, hx⟩
    exact ⟨_, 2, [], rfl, SliceAt.nil, hx, .inl ⟨rfl, rfl, rfl⟩⟩
  · refine (common_ok bv v b he l hl h0 (asc_of_sorted hs) w hb hlv).mono ?_
    rintro e w' ⟨k, f, u, hF, rfl, hu, hx⟩
    have hn := canM_nodup (valid_of he) hl
    cases f
    · obtain ⟨rfl, hno⟩ := first_none hn h0 hF
      exact ⟨u, _, [], rfl, hu, hx, .inr (.inl ⟨h0, rfl, rfl, hno⟩)⟩
    · obtain ⟨h1, h2⟩ := first_all hn h0 hF
      exact ⟨u, _, k, rfl, hu, hx, .inr (.inr ⟨h0, rfl, h1, h2⟩)⟩
end Go.Proofs.YtnfbhicoknpojaaGreat
