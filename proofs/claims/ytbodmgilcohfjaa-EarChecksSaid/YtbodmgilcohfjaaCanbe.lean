/-
  WHAT canBe RETURNS: a new map of all sound strings that some spellings can be, each with the bits of those that can be it.
-/
import Derived.Test.YtbodmgilcohfjaaIter
import Derived.Test.YtbodmgilcohfjaaMap
import Derived.RangeFuncNested
import Derived.Shelf.Abstract
import Derived.Maps.AppendAt
namespace Go.Proofs.Ytbodmgilcohfjaa
set_option linter.unusedVariables false
open Go.RowKit
open Go.ChangeMaps (setBlock)

theorem leaves_marks {F : Fence} {n : Nat} {P : Program} {fn : Func} {tmps : Array Value} {R : Ending → World → Prop} (n0 : Nat) (Pw : World → Prop) (hP : ∀ W D, n0 ≤ D → Pw W → W.heap[D]? = some (.deferred (some [])) → Pw (W.putObj D (.deferred none)))
    (hend : ∀ W, Pw W → LeavesInM F n P fn tmps R [] .returning W) : ∀ (Ds : List Nat) (W : World), Ds.Nodup → (∀ D ∈ Ds, n0 ≤ D ∧ W.heap[D]? = some (.deferred (some []))) → Pw W →
      LeavesInM F n P fn tmps R (Ds.map fun D => { target := .collected D, args := #[] }) .returning W
  | [], W, _, _, h => hend W h
  | D :: Ds, W, hn, hd, h => by
    obtain ⟨h1, h2⟩ := hd D List.mem_cons_self
    rw [List.nodup_cons] at hn
    refine ⟨by simp, .inl ⟨D, _, rfl, run_takeDeferred h2, ?_⟩⟩
    refine leaves_marks n0 Pw hP hend Ds _ hn.2 (fun E hE => ?_) (hP _ _ h1 h h2)
    obtain ⟨h3, h4⟩ := hd E (List.mem_cons_of_mem _ hE)
    exact ⟨h3, (World.putObj_heap_other (fun e => hn.1 (by first | (rw [e]; exact hE) | (rw [← e]; exact hE)))).trans h4⟩

/-- what is so of the world behind some rounds: the cells that were there when it began, the map, the marks -/
structure Told (n0 : Nat) (w0 W5 : World) (B : Nat) (M : Tally) (Ds : List Nat) (W : World) : Prop where
  ck : CK W5 W
  ext : Ext w0 W
  map : MapIs W B M
  marks : ∀ D ∈ Ds, n0 ≤ D ∧ D < W5.heap.size ∧ W.heap[D]? = some (.deferred (some []))
theorem CK.grownBy {a w w' : World} {row : Option Nat} (h : CK a w) (hg : w.grownBy w' row) (hr : ∀ r, row = some r → ∃ o : Obj, w.heap[r]? = some o ∧ o.isCells = false) : CK a w' :=
  h.trans ⟨hg.size, fun p v hp => ⟨cell_kept hp hg hr, frozen_kept hp hg hr⟩⟩
theorem Told.kept {n0 : Nat} {w0 W5 : World} {B : Nat} {M : Tally} {Ds : List Nat} {W W' : World} (h : Told n0 w0 W5 B M Ds W) (hB : B < W5.heap.size) (hw : w0.heap.size ≤ W5.heap.size) {row : Option Nat} (hg : W.grownBy W' row) (hr : ∀ r, row = some r → W5.heap.size ≤ r ∧ ∃ o : Obj, W.heap[r]? = some o ∧ o.isCells = false) : Told n0 w0 W5 B M Ds W' := by
  have hs := h.ck.1
  refine ⟨h.ck.grownBy hg (fun r e => (hr r e).2), h.ext.grown hg (fun r e => Nat.le_trans hw (hr r e).1), h.map.kept (hg.block B (by omega) (fun e => by have := (hr B e.symm).1; omega)), fun D hD => ?_⟩
  obtain ⟨h1, h2, h3⟩ := h.marks D hD
  exact ⟨h1, h2, (hg.block D (by omega) (fun e => by have := (hr D e.symm).1; omega)).trans h3⟩

/-- the map's block is as it was, or the entry has been taken; nothing else has turned -/
structure Turn (B : Nat) (O0 O1 : Obj) (a b : World) : Prop where
  g : a.grownBy b (some B)
  s : b.heap.size = a.heap.size
  o : b.heap[B]? = a.heap[B]? ∨ (a.heap[B]? = some O0 ∧ b.heap[B]? = some O1)
theorem two_turn (B : Nat) (O0 O1 : Obj) : Facts.Piv.Two (Turn B O0 O1) (fun _ _ => True) :=
  ⟨fun _ _ _ => trivial, fun a b c h k => ⟨h.g.trans k.g, k.s.trans h.s, by
    rcases k.o with k1 | ⟨k1, k2⟩
    · rcases h.o with h1 | ⟨h1, h2⟩
      · exact .inl (k1.trans h1)
      · exact .inr ⟨h1, k1.trans h2⟩
    · rcases h.o with h1 | ⟨h1, h2⟩
      · exact .inr ⟨h1.symm.trans k1, k2⟩
      · exact .inr ⟨h1, k2⟩⟩, fun _ _ _ _ _ => trivial, fun _ => ⟨⟨rfl, rfl, rfl, Nat.le_refl _, fun _ _ _ => rfl⟩, rfl, .inl rfl⟩, fun _ => ⟨⟨rfl, rfl, rfl, Nat.le_refl _, fun _ _ _ => rfl⟩, rfl, .inl rfl⟩⟩
theorem Turn.refl (B : Nat) (O0 O1 : Obj) (a : World) : Turn B O0 O1 a a := (two_turn B O0 O1).r a
theorem Turn.either {B : Nat} {O0 O1 : Obj} {a b : World} (h : Turn B O0 O1 a b) (ha : a.heap[B]? = some O0) : b.heap[B]? = some O0 ∨ b.heap[B]? = some O1 := by
  rcases h.o with h1 | ⟨h1, h2⟩
  · exact .inl (h1.trans ha)
  · exact .inr h2
theorem Turn.one {B : Nat} {O0 O1 : Obj} {a b : World} (h : Turn B O0 O1 a b) (ha : a.heap[B]? = some O1) : b.heap[B]? = some O1 := by
  rcases h.o with h1 | ⟨h1, h2⟩
  · exact h1.trans ha
  · exact h2
theorem ent_same {k : List Int} {M : Tally} {es : Array MapEntry} (h : (findT k M 0).isSome = true) : entM k M = M ∧ entE k M es = es := by
  unfold entM entE
  cases hq : findT k M 0 with
  | none => rw [hq] at h; cases h
  | some q => exact ⟨rfl, rfl⟩
def obj0 (es : Array MapEntry) (M : Tally) : Obj := .map es M.length
def obj1 (k : List Int) (es : Array MapEntry) (M : Tally) : Obj := .map (entE k M es) (entM k M).length
def obj2 (k : List Int) (v : Nat) (es : Array MapEntry) (M : Tally) : Obj := .map (stoE k M v es) (putT k v M).length
theorem Turn.two {B : Nat} {k : List Int} {v : Nat} {es : Array MapEntry} {M : Tally} {a b : World} (h : Turn B (obj0 es M) (obj1 k es M) a b) (ha : a.heap[B]? = some (obj2 k v es M)) : b.heap[B]? = some (obj2 k v es M) := by
  rcases h.o with h1 | ⟨h1, h2⟩
  · exact h1.trans ha
  · rw [ha] at h1
    have e := Option.some.inj h1
    have hl : (putT k v M).length = M.length := by unfold obj0 obj2 at e; exact (Obj.map.inj e).2
    have hs : (findT k M 0).isSome = true := by
      rw [putT_entM, List.length_set, entM_len] at hl
      by_cases hf : (findT k M 0).isSome = true
      · exact hf
      · rw [if_neg hf] at hl; omega
    obtain ⟨e1, e2⟩ := ent_same (es := es) hs
    have e3 : obj1 k es M = obj0 es M := by unfold obj1 obj0; rw [e1, e2]
    rw [h2, e3, ← e]
theorem obj_last {k : List Int} {v : Nat} {es : Array MapEntry} {M : Tally} (h : obj0 es M = obj2 k v es M) : obj1 k es M = obj2 k v es M := by
  have hl : (putT k v M).length = M.length := by unfold obj0 obj2 at h; exact (Obj.map.inj h).2.symm
  have hs : (findT k M 0).isSome = true := by
    rw [putT_entM, List.length_set, entM_len] at hl
    by_cases hf : (findT k M 0).isSome = true
    · exact hf
    · rw [if_neg hf] at hl; omega
  obtain ⟨e1, e2⟩ := ent_same (es := es) hs
  have e3 : obj1 k es M = obj0 es M := by unfold obj1 obj0; rw [e1, e2]
  rw [e3, h]
/-- .. or the entry has been written -/
structure Turn2 (B : Nat) (O0 O1 O2 : Obj) (a b : World) : Prop where
  g : a.grownBy b (some B)
  s : b.heap.size = a.heap.size
  o : b.heap[B]? = a.heap[B]? ∨ (a.heap[B]? = some O0 ∧ b.heap[B]? = some O1) ∨ b.heap[B]? = some O2
theorem two_turn2 (B : Nat) (O0 O1 O2 : Obj) (hO : O0 = O2 → O1 = O2) : Facts.Piv.Two (Turn B O0 O1) (Turn2 B O0 O1 O2) :=
  ⟨fun _ _ h => ⟨h.g, h.s, by rcases h.o with h1 | h1; exact .inl h1; exact .inr (.inl h1)⟩, (two_turn B O0 O1).te, fun a b c h k => ⟨h.g.trans k.g, k.s.trans h.s, by
    rcases k.o with k1 | ⟨k1, k2⟩ | k1
    · rcases h.o with h1 | ⟨h1, h2⟩ | h1
      · exact .inl (k1.trans h1)
      · exact .inr (.inl ⟨h1, k1.trans h2⟩)
      · exact .inr (.inr (k1.trans h1))
    · rcases h.o with h1 | ⟨h1, h2⟩ | h1
      · exact .inr (.inl ⟨h1.symm.trans k1, k2⟩)
      · exact .inr (.inl ⟨h1, k2⟩)
      · refine .inr (.inr ?_)
        rw [h1] at k1
        rw [k2, hO (Option.some.inj k1).symm]
    · exact .inr (.inr k1)⟩, (two_turn B O0 O1).r, (two_turn B O0 O1).d⟩
/-- the entry that has been taken, and the written one -/
def Taken (B : Nat) (O1 O2 : Obj) (x : Value) (u : Value) (w : World) : Prop := u = x ∧ (w.heap[B]? = some O1 ∨ w.heap[B]? = some O2)
def Written (B : Nat) (O2 : Obj) (W : World) (_ : Value) (w : World) : Prop := W.grownBy w (some B) ∧ w.heap.size = W.heap.size ∧ w.heap[B]? = some O2
def IsVal (x : Value) (u : Value) (_ : World) : Prop := u = x
theorem Taken.e {B : Nat} {k : List Int} {v : Nat} {es : Array MapEntry} {M : Tally} {x u : Value} {a b : World} (h : Turn B (obj0 es M) (obj1 k es M) a b) (ht : Taken B (obj1 k es M) (obj2 k v es M) x u a) : Taken B (obj1 k es M) (obj2 k v es M) x u b := by
  obtain ⟨e, h1 | h1⟩ := ht
  · exact ⟨e, .inl (h.one h1)⟩
  · exact ⟨e, .inr (h.two h1)⟩
theorem Taken.c {B : Nat} {O0 O1 O2 : Obj} {x u : Value} {a b : World} (h : Turn2 B O0 O1 O2 a b) (ht : Taken B O1 O2 x u a) : Taken B O1 O2 x u b := by
  obtain ⟨e, ht⟩ := ht
  refine ⟨e, ?_⟩
  rcases h.o with h1 | ⟨-, h1⟩ | h1
  · rw [h1]; exact ht
  · exact .inl h1
  · exact .inr h1
theorem Taken.now {B : Nat} {k : List Int} {v : Nat} {es : Array MapEntry} {M : Tally} {x u : Value} {a b : World} (h : Turn B (obj0 es M) (obj1 k es M) a b) (ha : a.heap[B]? = some (obj0 es M)) (ht : Taken B (obj1 k es M) (obj2 k v es M) x u b) : b.heap[B]? = some (obj1 k es M) := by
  obtain ⟨-, h1 | h1⟩ := ht
  · exact h1
  · rcases h.either ha with h2 | h2
    · rw [h1] at h2
      rw [h1, obj_last (Option.some.inj h2).symm]
    · exact h2
theorem Written.e {B : Nat} {k : List Int} {v : Nat} {es : Array MapEntry} {M : Tally} {W : World} {u : Value} {a b : World} (h : Turn B (obj0 es M) (obj1 k es M) a b) (ht : Written B (obj2 k v es M) W u a) : Written B (obj2 k v es M) W u b :=
  ⟨ht.1.trans h.g, h.s.trans ht.2.1, h.two ht.2.2⟩
theorem Turn.ck {B : Nat} {O0 O1 : Obj} {a b : World} {es : Array MapEntry} {c : Nat} (h : Turn B O0 O1 a b) (ha : a.heap[B]? = some (.map es c)) : CK a b :=
  (CK.refl a).grownBy h.g (fun r e => by cases e; exact ⟨_, ha, rfl⟩)
section
variable {w1 : World} {B : Nat} {M : Tally} {es : Array MapEntry} {k : List Int}
theorem ent_keys (hk : k.length ≤ 5) (hM : ∀ p ∈ M, p.1.length ≤ 5) : ∀ p ∈ entM k M, p.1.length ≤ 5 := by
  intro p hp
  unfold entM at hp
  cases hq : findT k M 0 with
  | none =>
    rw [hq] at hp
    rcases List.mem_append.1 hp with h | h
    · exact hM p h
    · simp at h; subst h; exact hk
  | some q => rw [hq] at hp; exact hM p hp
theorem lookup_two (hk : k.length ≤ 5) (hM : ∀ p ∈ M, p.1.length ≤ 5) (hE : EntriesAre es M) (h : w1.heap[B]? = some (obj0 es M) ∨ w1.heap[B]? = some (obj1 k es M)) :
    (Instr.lookup 89 (.map (some B)) (ssV k) false).run Try.prog w1 = .ok (.int .i64 ((getT k M).getD 0 : Nat)) w1 := by
  rcases h with h | h
  · have := run_lookup_ss k hk hM ⟨es, h, hE⟩ false
    simpa using this
  · have := run_lookup_ss k hk (ent_keys hk hM) ⟨_, h, hE.ent k⟩ false
    rw [(entM_twice k M).2.2] at this
    simpa using this
theorem entry_two (hk : k.length ≤ 5) (hM : ∀ p ∈ M, p.1.length ≤ 5) (hE : EntriesAre es M) (h : w1.heap[B]? = some (obj0 es M) ∨ w1.heap[B]? = some (obj1 k es M)) :
    ∃ w2, (Instr.mapEntry 89 (.map (some B)) (ssV k)).run Try.prog w1 = .ok (.tuple #[.int .i64 ((getT k M).getD 0 : Nat), .int .i64 (posT k M : Nat)]) w2 ∧ Turn B (obj0 es M) (obj1 k es M) w1 w2 ∧ w2.heap[B]? = some (obj1 k es M) := by
  have hlt : B < w1.heap.size := by rcases h with h | h <;> exact (Array.getElem?_eq_some_iff.1 h).1
  have hnew : ∀ o : Obj, (setBlock w1 B o).heap[B]? = some o := fun o => by simp [setBlock, hlt]
  rcases h with h | h
  · exact ⟨_, run_entry_ss k hk hM h hE, ⟨grownBy_putObj' w1 B _, by simp [setBlock], .inr ⟨h, hnew _⟩⟩, hnew _⟩
  · have := run_entry_ss k hk (ent_keys hk hM) h (hE.ent k)
    obtain ⟨t1, t2, t3⟩ := entM_twice k M
    obtain ⟨e1, e2⟩ := ent_same (es := entE k M es) t1
    rw [t3, t2, e1, e2] at this
    refine ⟨_, this, ⟨grownBy_putObj' w1 B _, by simp [setBlock], .inl ?_⟩, hnew _⟩
    rw [hnew, h]; rfl
theorem store_two (hE : EntriesAre es M) (v : Nat) (h : w1.heap[B]? = some (obj1 k es M)) :
    (Instr.entryStore 89 (.map (some B)) (.int .i64 (posT k M : Nat)) (.int .i64 (v : Nat))).run Try.prog w1 = .ok () (setBlock w1 B (obj2 k v es M)) ∧ w1.grownBy (setBlock w1 B (obj2 k v es M)) (some B) ∧ (setBlock w1 B (obj2 k v es M)).heap.size = w1.heap.size ∧ (setBlock w1 B (obj2 k v es M)).heap[B]? = some (obj2 k v es M) := by
  have hlt : B < w1.heap.size := (Array.getElem?_eq_some_iff.1 h).1
  exact ⟨run_store_ss k v h hE, grownBy_putObj' w1 B _, by simp [setBlock], by simp [setBlock, hlt]⟩
end
end Go.Proofs.Ytbodmgilcohfjaa
